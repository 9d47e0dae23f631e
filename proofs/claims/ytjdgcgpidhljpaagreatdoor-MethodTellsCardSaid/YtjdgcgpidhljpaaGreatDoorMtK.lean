/- Stage 9: Check. -/
import Derived.Test.YtjdgcgpidhljpaaGreatDoorMtJ
namespace Go.Proofs.YtjdgcgpidhljpaaGreatDoor
open Go.RowKit

def ckVal (b : Bool) : Value := if b then .nilIface else .iface 66 (.int .i64 8)
theorem mv_cells {w w' : World} {v : MV} {g : Nat} (h : Blk w g 37 (mvCells v)) (hg : Grew w w') : w'.cell? ⟨g, 0, none⟩ = some (.string v.sel) ∧ w'.cell? ⟨g, 1, none⟩ = some (.slice v.A1 v.lits.length v.c1) ∧ w'.cell? ⟨g, 2, none⟩ = some (.slice v.A2 v.vs.length v.c2) :=
  ⟨(h.grew hg).cell 0, (h.grew hg).cell 1, (h.grew hg).cell 2⟩
theorem sc_cells {w w' : World} {A1 A2 : Option Addr} {n1 n2 c1 c2 : Nat} {vars classes : Int} {g : Nat} (h : Blk w g 68 (scCells A1 n1 c1 A2 n2 c2 vars classes)) (hg : Grew w w') : w'.cell? ⟨g, 0, none⟩ = some (.slice A1 n1 c1) ∧ w'.cell? ⟨g, 1, none⟩ = some (.slice A2 n2 c2) ∧ w'.cell? ⟨g, 2, none⟩ = some (.int .i64 vars) ∧ w'.cell? ⟨g, 3, none⟩ = some (.int .i64 classes) :=
  ⟨(h.grew hg).cell 0, (h.grew hg).cell 1, (h.grew hg).cell 2, (h.grew hg).cell 3⟩
/-- The code of the first parts is as it should be. -/
def CodesTo (m : Mt.Meth) (l : List PV) (i : Nat) (vars classes : Int) : Prop := ∀ j v, j < i → l[j]? = some v → Mt.CodeOk m j v.p.code vars classes
theorem all_lits {l : List Mt.Lit} : l.all litB = true ↔ ∀ x ∈ l, Mt.LitOk x := by
  rw [List.all_eq_true]
  exact ⟨fun h x hx => (litB_iff x).1 (h x hx), fun h x hx => (litB_iff x).2 (h x hx)⟩
set_option maxRecDepth 100000 in
set_option maxHeartbeats 4000000 in
theorem check9_c (v : MV) (vars classes : Int) (b : Bool) (hb : b = true ↔ Mt.May v.m vars classes) (w : World) (h : MethAt w v) (hE : Env w) :
    Calls Tryz.prog 9 #[.agg (mvCells v), .int .i64 vars, .int .i64 classes] w fun e w' => e = .returned (ckVal b) ∧ Grew w w' := by
  obtain ⟨W, hW⟩ : ∃ W, W = w.alloc (.cells (mvCells v) 37) := ⟨_, rfl⟩
  have hg1 : Grew w W := by rw [hW]; exact (Grew.refl w).alloc _
  have hbk : Blk W w.heap.size 37 (mvCells v) := by rw [hW]; exact Blk.new w _ _
  have HG1 := hid hg1
  have HBk := hid hbk
  have HM := hid (h.grew hg1)
  have HE := hid (hE.grew hg1)
  have HA := hid (arity_c v.sel W (hE.grew hg1).mx)
  have HL := hid (fun (w' : World) (hg : Grew W w') => areLits_c v.A1 v.c1 v.lits w' (HM.out.lits.grew hg) (by have := h.l1; omega) (HE.out.grew hg).mx)
  have HP := hid (fun (w' : World) (hg : Grew W w') => areParts_c v.A2 v.c2 v.vs (tru (Mt.PartsOk (v.vs.map (·.p)))) (tru_iff _) w' (HM.out.parts.grew hg) h.l2)
  have HMay : Hid (Mt.May v.m vars classes → (Mt.arity (Lg.bytes v.sel)).isSome = true ∧ (decide (v.lits.length ≤ 64) && v.lits.all litB) = true ∧ tru (Mt.PartsOk (v.vs.map (·.p))) = true) := hid (fun hm => by
    refine ⟨hm.sel, ?_, (tru_iff _).2 hm.parts⟩
    rw [Bool.and_eq_true, decide_eq_true_iff]
    exact ⟨hm.few, all_lits.2 hm.lits⟩)
  have HMk : Hid (∀ n, Mt.arity (Lg.bytes v.sel) = some n → (decide (v.lits.length ≤ 64) && v.lits.all litB) = true → tru (Mt.PartsOk (v.vs.map (·.p))) = true → (v.vs[0]?).map (·.p.args) = some ((n : Nat) : Int) → CodesTo v.m v.vs v.vs.length vars classes → Mt.May v.m vars classes) := hid (fun n h1 h2 h3 h4 h5 => by
    rw [Bool.and_eq_true, decide_eq_true_iff] at h2
    refine ⟨?_, h2.1, all_lits.1 h2.2, (tru_iff _).1 h3, ?_, ?_⟩
    · show (Mt.arity (Lg.bytes v.sel)).isSome = true
      rw [h1]; rfl
    · show ((v.vs.map (·.p))[0]?).map (·.args) = (Mt.arity (Lg.bytes v.sel)).map (fun n => (n : Int))
      rw [h1, List.getElem?_map, Option.map_map]
      exact h4
    · intro i p hp
      have hp' : (v.vs.map (·.p))[i]? = some p := hp
      rw [List.getElem?_map] at hp'
      obtain ⟨x, hx, rfl⟩ := Option.map_eq_some_iff.1 hp'
      exact h5 i x (List.getElem?_eq_some_iff.1 hx).1 hx)
  have HArg : Hid (∀ n, Mt.arity (Lg.bytes v.sel) = some n → Mt.May v.m vars classes → (v.vs[0]?).map (·.p.args) = some ((n : Nat) : Int)) := hid (fun n hn hm => by
    have h1 : ((v.vs.map (·.p))[0]?).map (·.args) = (Mt.arity (Lg.bytes v.sel)).map (fun n => (n : Int)) := hm.args
    rw [hn, List.getElem?_map, Option.map_map] at h1
    exact h1)
  have HCd : Hid (Mt.May v.m vars classes → CodesTo v.m v.vs v.vs.length vars classes) := hid (fun hm j x hj hx => hm.code j x.p (by
    show (v.vs.map (·.p))[j]? = some x.p
    rw [List.getElem?_map, hx]; rfl))
  have HB := hid hb
  clear hb hE h
  generalize Mt.arity (Lg.bytes v.sel) = r at *
  generalize (decide (v.lits.length ≤ 64) && v.lits.all litB) = bl at *
  obtain ⟨bp, hbp⟩ : ∃ bp, bp = tru (Mt.PartsOk (v.vs.map (·.p))) := ⟨_, rfl⟩
  rw [← hbp] at HP HMay HMk
  have HBp := hid hbp
  clear hbp hbk hg1
  cases r with
  | none =>
    have hbf : b = false := by
      cases hbb : b
      · rfl
      · have := (HMay.out (HB.out.1 hbb)).1; cases this
    subst hbf
    unfold mvCells at hW ⊢
    clear HL HP
    subst hW
    go_enter Tryz.func9, Tryz.ntmps9
    go_wp2_with fail
    refine HA.out.mono ?_
    rintro e w2 ⟨rfl, hg2⟩
    have HG2 := hid (HG1.out.trans hg2)
    clear hg2
    go_wp2_with fail
    go_ret
    exact ⟨rfl, HG2.out⟩
  | some na =>
    have HNa := hid (HArg.out na rfl)
    replace HMk := hid (HMk.out na rfl)
    clear HArg
    cases bl
    · have hbf : b = false := by
        cases hbb : b
        · rfl
        · have := (HMay.out (HB.out.1 hbb)).2.1; cases this
      subst hbf
      unfold mvCells at hW ⊢
      subst hW
      go_enter Tryz.func9, Tryz.ntmps9
      go_wp2_with fail
      refine HA.out.mono ?_
      rintro e w2 ⟨rfl, hg2⟩
      have HG2 := hid hg2
      obtain ⟨_, c1, c2⟩ := mv_cells HBk.out hg2
      clear hg2
      go_wp2_with fail
      refine (HL.out _ HG2.out).mono ?_
      rintro e w3 ⟨rfl, hg3⟩
      have HG3 := hid (HG2.out.trans hg3)
      obtain ⟨_, d1, d2⟩ := mv_cells HBk.out HG3.out
      clear hg3 c1 c2
      go_wp2_with fail
      go_ret
      exact ⟨rfl, HG1.out.trans HG3.out⟩
    · cases bp
      · have hbf : b = false := by
          cases hbb : b
          · rfl
          · have := (HMay.out (HB.out.1 hbb)).2.2; cases this
        subst hbf
        unfold mvCells at hW ⊢
        subst hW
        go_enter Tryz.func9, Tryz.ntmps9
        go_wp2_with fail
        refine HA.out.mono ?_
        rintro e w2 ⟨rfl, hg2⟩
        have HG2 := hid hg2
        obtain ⟨_, c1, c2⟩ := mv_cells HBk.out hg2
        clear hg2
        go_wp2_with fail
        refine (HL.out _ HG2.out).mono ?_
        rintro e w3 ⟨rfl, hg3⟩
        have HG3 := hid (HG2.out.trans hg3)
        obtain ⟨_, d1, d2⟩ := mv_cells HBk.out HG3.out
        clear hg3 c1 c2
        go_wp2_with fail
        refine (HP.out _ HG3.out).mono ?_
        rintro e w4 ⟨rfl, hg4⟩
        have HG4 := hid (HG3.out.trans hg4)
        obtain ⟨_, e1, e2⟩ := mv_cells HBk.out HG4.out
        clear hg4 d1 d2
        go_wp2_with fail
        go_ret
        exact ⟨rfl, HG1.out.trans HG4.out⟩
      · have hpok := (tru_iff _).1 HBp.out.symm
        obtain ⟨hp1, hp2, hp3⟩ := hpok
        rw [List.length_map] at hp1 hp2
        obtain ⟨v0, hv0⟩ : ∃ v0, v.vs[0]? = some v0 := ⟨_, List.getElem?_eq_getElem (show 0 < v.vs.length by omega)⟩
        have HV0 := hid hv0
        have HP3 := hid hp3
        have HP1 := hid hp1
        have f0 : (0 : Int) < (v.vs.length : Int) := by omega
        rw [hv0] at HNa HMk
        by_cases hna : v0.p.args = ((na : Nat) : Int)
        · have HMk2 := hid (HMk.out rfl rfl (by rw [← hna]; rfl))
          have HN := hid hna
          have fne : (v0.p.args != ((na : Nat) : Int)) = false := by rw [hna]; simp
          clear hv0 hp3 hp1 hna HMk HNa HMay
          unfold mvCells at hW ⊢
          subst hW
          go_enter Tryz.func9, Tryz.ntmps9
          go_wp2_with fail
          refine HA.out.mono ?_
          rintro e w2 ⟨rfl, hg2⟩
          have HG2 := hid hg2
          obtain ⟨_, c1, c2⟩ := mv_cells HBk.out hg2
          clear hg2
          go_wp2_with fail
          refine (HL.out _ HG2.out).mono ?_
          rintro e w3 ⟨rfl, hg3⟩
          have HG3 := hid (HG2.out.trans hg3)
          obtain ⟨_, d1, d2⟩ := mv_cells HBk.out HG3.out
          clear hg3 c1 c2
          go_wp2_with fail
          refine (HP.out _ HG3.out).mono ?_
          rintro e w4 ⟨rfl, hg4⟩
          have HG4 := hid (HG3.out.trans hg4)
          obtain ⟨_, e1, e2⟩ := mv_cells HBk.out HG4.out
          clear hg4 d1 d2
          obtain ⟨ad, x, hA, hx, _, q1, _, _, _⟩ := pv_at HM.out.parts HG4.out (i := 0) HP1.out
          rw [HV0.out] at hx
          obtain rfl := Option.some.inj hx
          rw [hA] at e2
          rw [Nat.zero_mul, add_zero] at q1
          have hs := Blk.new w4 68 (scCells v.A1 v.lits.length v.c1 (some ad) v.vs.length v.c2 vars classes)
          have HS := hid hs
          have HG5 := hid (HG4.out.alloc (.cells (scCells v.A1 v.lits.length v.c1 (some ad) v.vs.length v.c2 vars classes) 68))
          have HLt : Hid (v.vs.length ≤ 100) := hid HM.out.l2
          have HPa := hid (fun (w' : World) (hg : Grew _ w') => show PartsAt w' (some ad) v.vs by have h1 := HM.out.parts.grew hg; rw [hA] at h1; exact h1)
          have HLi := hid HM.out.lits
          clear hx hs
          unfold scCells at HG5
          obtain ⟨_, _, e3⟩ := mv_cells HBk.out HG5.out
          rw [hA] at e3
          go_wp2_with fail
          have HS2 : Hid (Blk (w4.alloc (.cells #[.slice v.A1 v.lits.length v.c1, .slice (some ad) v.vs.length v.c2, .int .i64 vars, .int .i64 classes] 68)) w4.heap.size 68 (scCells v.A1 v.lits.length v.c1 (some ad) v.vs.length v.c2 vars classes)) := HS
          clear q1 e1 e2 e3 HS
          generalize w4.alloc (.cells #[.slice v.A1 v.lits.length v.c1, .slice (some ad) v.vs.length v.c2, .int .i64 vars, .int .i64 classes] 68) = w5 at *
          obtain ⟨n2, en2⟩ : ∃ n2, n2 = v.vs.length := ⟨_, rfl⟩
          have HN2 := hid en2
          rw [← en2] at HS2 ⊢
          have hn2 : n2 ≤ 100 := by rw [en2]; exact HLt.out
          clear en2 f0
          go_loopw [10, 51] (fun _ s51 wr => ∃ i : Nat, s51 = .int .i64 ((i : Nat) : Int) ∧ i ≤ n2 ∧ Grew w5 wr ∧ Hid (CodesTo v.m v.vs i vars classes)) (fun _ s51 _ => n2 - (intOf s51).toNat)
          case atStart => exact ⟨0, rfl, Nat.zero_le _, Grew.refl _, hid (fun j x hj => by omega)⟩
          case round =>
            obtain ⟨i, rfl, hi, hg, HI⟩ := hrel
            have HG := hid hg
            obtain ⟨s0, s1, s2, s3⟩ := sc_cells HS2.out hg
            clear hg
            by_cases hlt : i < n2
            · have f1 : (i : Int) < n2 := by omega
              obtain ⟨x, hx⟩ : ∃ x, v.vs[i]? = some x := ⟨_, List.getElem?_eq_getElem (show i < v.vs.length by rw [← HN2.out]; exact hlt)⟩
              have hgw := HG5.out.trans HG.out
              have HAc := hid (allowsCode_c (sel := v.sel) (vars := vars) (classes := classes) (c1 := v.c1) (c2 := v.c2) (p := i) (⟨HLi.out.grew hgw, HPa.out wr hgw, rfl, HN2.out, hn2, HP3.out, hlt, HE.out.grew hgw⟩ : AcIn wr v.lits v.vs v.A1 (some ad) v.lits.length n2 i) x hx (tru (Mt.CodeOk v.m i x.p.code vars classes)) (tru_iff _))
              have HX : Hid (tru (Mt.CodeOk v.m i x.p.code vars classes) = false → b = false) := hid (fun hf => by
                cases hbb : b
                · rfl
                · have h1 := HCd.out (HB.out.1 hbb) i x (by rw [← HN2.out]; exact hlt) hx
                  rw [(tru_iff _).2 h1] at hf
                  cases hf)
              have HY : Hid (tru (Mt.CodeOk v.m i x.p.code vars classes) = true → CodesTo v.m v.vs (i + 1) vars classes) := hid (fun hf j y hj hy => by
                rcases Nat.lt_or_ge j i with h1 | h1
                · exact HI.out j y h1 hy
                · obtain rfl : j = i := by omega
                  rw [hx] at hy
                  obtain rfl := Option.some.inj hy
                  exact (tru_iff _).1 hf)
              generalize tru (Mt.CodeOk v.m i x.p.code vars classes) = q at *
              clear hx hgw
              cases q
              · have hbf := HX.out rfl
                subst hbf
                go_wp2_with fail
                refine HAc.out.mono ?_
                rintro e w6 ⟨rfl, hg6⟩
                go_wp2_with fail
                go_ret
                exact ⟨rfl, HG1.out.trans (HG5.out.trans (HG.out.trans hg6))⟩
              · replace HY := hid (HY.out rfl)
                go_wp2_with fail
                refine HAc.out.mono ?_
                rintro e w6 ⟨rfl, hg6⟩
                go_wp2_with fail
                go_round
                case rel => exact ⟨i + 1, by go_num, by omega, HG.out.trans hg6, HY⟩
                case measure => simp [intOf]; omega
            · have hin : i = n2 := by omega
              subst hin
              have hbt : b = true := HB.out.2 (HMk2.out (by have := HI.out; rwa [HN2.out] at this))
              subst hbt
              go_wp2_with fail
              go_ret
              exact ⟨rfl, HG1.out.trans (HG5.out.trans HG.out)⟩
        · have hbf : b = false := by
            cases hbb : b
            · rfl
            · exact absurd (Option.some.inj (HNa.out (HB.out.1 hbb))) hna
          subst hbf
          have fne : (v0.p.args != ((na : Nat) : Int)) = true := by rw [bne_iff_ne]; exact hna
          clear hv0 hp3 hp1 hna HMk HNa HMay
          unfold mvCells at hW ⊢
          subst hW
          go_enter Tryz.func9, Tryz.ntmps9
          go_wp2_with fail
          refine HA.out.mono ?_
          rintro e w2 ⟨rfl, hg2⟩
          have HG2 := hid hg2
          obtain ⟨_, c1, c2⟩ := mv_cells HBk.out hg2
          clear hg2
          go_wp2_with fail
          refine (HL.out _ HG2.out).mono ?_
          rintro e w3 ⟨rfl, hg3⟩
          have HG3 := hid (HG2.out.trans hg3)
          obtain ⟨_, d1, d2⟩ := mv_cells HBk.out HG3.out
          clear hg3 c1 c2
          go_wp2_with fail
          refine (HP.out _ HG3.out).mono ?_
          rintro e w4 ⟨rfl, hg4⟩
          have HG4 := hid (HG3.out.trans hg4)
          obtain ⟨_, e1, e2⟩ := mv_cells HBk.out HG4.out
          clear hg4 d1 d2
          obtain ⟨ad, x, hA, hx, _, q1, _, _, _⟩ := pv_at HM.out.parts HG4.out (i := 0) HP1.out
          rw [HV0.out] at hx
          obtain rfl := Option.some.inj hx
          rw [hA] at e2
          rw [Nat.zero_mul, add_zero] at q1
          clear hx
          go_wp2_with fail
          go_ret
          exact ⟨rfl, HG1.out.trans HG4.out⟩
end Go.Proofs.YtjdgcgpidhljpaaGreatDoor
