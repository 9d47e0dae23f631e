/- Stage 10: bigClasses. -/
import Derived.Test.YtjladeiecokpfaaGreatDoorCsU
namespace Go.Proofs.YtjladeiecokpfaaGreatDoor
open Go.RowKit

/-- Methods that came in. -/
structure MethsArg (w : World) (A : Option Addr) (l : List MV) : Prop where
  ok : ∀ u ∈ l, MethArg w u
  cells : 0 < l.length → ∃ ad, A = some ad ∧ ad.block < w.heap.size ∧ ∀ i u, l[i]? = some u → ∀ j x, (mvCells u)[j]? = some x → w.cell? (ad.add (i * 3 + j)) = some x
theorem MethsArg.grew {w w' : World} {A : Option Addr} {l : List MV} (h : MethsArg w A l) (hg : Grew w w') : MethsArg w' A l := ⟨fun v hv => (h.ok v hv).grew hg, fun hl => by
  obtain ⟨ad, h1, h2, h3⟩ := h.cells hl
  exact ⟨ad, h1, Nat.lt_of_lt_of_le h2 hg.below.size, fun i x hi j u hu => (hg.below.cell (by rw [block_add]; exact h2)).trans (h3 i x hi j u hu)⟩⟩
theorem meth_arg {w wr : World} {A : Option Addr} {l : List MV} (h : MethsArg w A l) (hg : Grew w wr) {i : Nat} (hi : i < l.length) : ∃ ad u, A = some ad ∧ l[i]? = some u ∧ wr.cell? (ad.add (i * 3)) = some (.string u.sel) ∧ wr.cell? ⟨ad.block, (ad.add (i * 3)).off + 1, none⟩ = some (.slice u.A1 u.lits.length u.c1) ∧ wr.cell? ⟨ad.block, (ad.add (i * 3)).off + 2, none⟩ = some (.slice u.A2 u.vs.length u.c2) ∧ ad.block < wr.heap.size ∧ MethArg wr u := by
  obtain ⟨ad, e, hb, hc⟩ := h.cells (by omega)
  have hv := List.getElem?_eq_getElem hi
  have hq : ∀ j u, (mvCells l[i])[j]? = some u → wr.cell? (ad.add (i * 3 + j)) = some u := fun j u hu => by
    rw [hg.below.cell (by rw [block_add]; exact hb)]; exact hc i _ hv j u hu
  have hp : ∀ {a : Addr} {j : Nat}, j ≠ 0 → a.add j = ⟨a.block, a.off + j, none⟩ := fun hj => by simp [Addr.add, hj]
  refine ⟨ad, l[i], e, hv, hq 0 _ rfl, ?_, ?_, Nat.lt_of_lt_of_le hb hg.below.size, (h.ok _ (List.getElem_mem hi)).grew hg⟩
  · have := hq 1 _ rfl
    rwa [← add_add, hp (by decide), block_add] at this
  · have := hq 2 _ rfl
    rwa [← add_add, hp (by decide), block_add] at this
def BigX (x : Cs.Cls) : Prop := 100 < x.name.size ∨ 40 < x.vars.length ∨ 40 < x.ms.length ∨ ∃ s ∈ x.vars, 100 < s.size
/-- Too much to be looked at. -/
def BigC (l : List CV) (ms : List MV) : Prop := 70 < l.length ∨ 40 < ms.length ∨ (∃ x ∈ cls l, BigX x) ∨ ∃ u ∈ ms, BigP u
theorem ClsArg.fit {w : World} {A : Option Addr} {l : List CV} {ms : List MV} (h : ClsArg w A l) (hb : ¬ BigC l ms) : ClsAt w A l := by
  have h1 : ∀ x ∈ cls l, ¬ BigX x := fun x hx hc => hb (.inr (.inr (.inl ⟨x, hx, hc⟩)))
  refine ⟨h, ⟨by rw [cls_len]; by_cases hc : 70 < l.length; exact absurd (.inl hc) hb; omega, fun x hx => ?_, fun x hx => ?_, fun x hx s hs => ?_, fun x hx => ?_⟩⟩
  · by_cases hc : 100 < x.name.size
    · exact absurd (.inl hc) (h1 x hx)
    · omega
  · by_cases hc : 40 < x.vars.length
    · exact absurd (.inr (.inl hc)) (h1 x hx)
    · omega
  · by_cases hc : 100 < s.size
    · exact absurd (.inr (.inr (.inr ⟨s, hs, hc⟩))) (h1 x hx)
    · omega
  · by_cases hc : 40 < x.ms.length
    · exact absurd (.inr (.inr (.inl hc))) (h1 x hx)
    · omega
theorem MethsArg.fit {w : World} {A : Option Addr} {l : List CV} {ms : List MV} (h : MethsArg w A ms) (hb : ¬ BigC l ms) : MethsAt w A ms :=
  ⟨fun u hu => (h.ok u hu).fit (fun hc => hb (.inr (.inr (.inr ⟨u, hu, hc⟩)))), by by_cases hc : 40 < ms.length; exact absurd (.inr (.inl hc)) hb; omega, h.cells⟩
set_option maxRecDepth 100000 in
set_option maxHeartbeats 8000000 in
theorem bigClasses_c (A : Option Addr) (cap : Nat) (l : List CV) (A2 : Option Addr) (c2 : Nat) (ms : List MV) (b : Bool) (hb : b = true ↔ BigC l ms) (w : World) (h : ClsArg w A l) (h2 : MethsArg w A2 ms) :
    Calls Tryz.prog 7 #[.slice A l.length cap, .slice A2 ms.length c2] w fun e w' => e = .returned (.bool b) ∧ Grew w w' := by
  obtain ⟨n, en⟩ : ∃ n, n = l.length := ⟨_, rfl⟩
  obtain ⟨m, em⟩ : ∃ m, m = ms.length := ⟨_, rfl⟩
  have HA := hid h
  have HM := hid h2
  have HB := hid hb
  rw [← en, ← em]
  have EN := hid en
  have EM := hid em
  clear h h2 hb en em
  by_cases h70 : 70 < n
  · have f1 : (70 : Int) < ((n : Nat) : Int) := by omega
    have HF := hid (show b = true from HB.out.2 (.inl (by rw [← EN.out]; exact h70)))
    clear h70
    go_enter Tryz.func7, Tryz.ntmps7
    go_wp2_with fail
    go_ret
    exact ⟨by rw [HF.out]; rfl, Grew.refl _⟩
  · have f1 : ¬ (70 : Int) < ((n : Nat) : Int) := by omega
    by_cases h40 : 40 < m
    · have f2 : (40 : Int) < ((m : Nat) : Int) := by omega
      have HF := hid (show b = true from HB.out.2 (.inr (.inl (by rw [← EM.out]; exact h40))))
      clear h70 h40
      go_enter Tryz.func7, Tryz.ntmps7
      go_wp2_with fail
      go_ret
      exact ⟨by rw [HF.out]; rfl, Grew.refl _⟩
    · have f2 : ¬ (40 : Int) < ((m : Nat) : Int) := by omega
      go_enter Tryz.func7, Tryz.ntmps7
      go_wp2_with fail
      clear f1 f2
      go_loopw [5, 6] (fun s5 _ wr => ∃ i : Nat, s5 = .int .i64 ((i : Nat) : Int) ∧ i ≤ n ∧ wr = w ∧ Hid (∀ x ∈ (cls l).take i, ¬ BigX x)) (fun s5 _ _ => n - (intOf s5).toNat)
      case atStart => exact ⟨0, rfl, Nat.zero_le _, rfl, hid (by simp)⟩
      case round =>
        obtain ⟨i, rfl, hi, rfl, HO⟩ := hrel
        by_cases hlt : i < n
        · have g1 : (i : Int) < n := by omega
          obtain ⟨ad, v, rfl, hv, p0, p1, p2, p3, hb1, hok⟩ := cv_arg HA.out (Grew.refl _) (i := i) (by rw [← EN.out]; exact hlt)
          have hx := cls_at hv
          have HMem := hid (show v.c ∈ cls l from List.mem_of_getElem? hx)
          have HX := hid hx
          have HOk := hid hok
          clear hx hv hok
          by_cases c1 : 100 < v.c.name.size
          · have k1 : (100 : Int) < ((v.c.name.size : Nat) : Int) := by omega
            have HF := hid (show b = true from HB.out.2 (.inr (.inr (.inl ⟨v.c, HMem.out, .inl c1⟩))))
            clear c1
            go_wp2_with fail
            go_ret
            exact ⟨by rw [HF.out]; rfl, Grew.refl _⟩
          · have k1 : ¬ (100 : Int) < ((v.c.name.size : Nat) : Int) := by omega
            by_cases d1 : 40 < v.c.vars.length
            · have k2 : (40 : Int) < ((v.c.vars.length : Nat) : Int) := by omega
              have HF := hid (show b = true from HB.out.2 (.inr (.inr (.inl ⟨v.c, HMem.out, .inr (.inl d1)⟩))))
              clear c1 d1
              generalize v.c.vars.length = nv at *
              go_wp2_with fail
              go_ret
              exact ⟨by rw [HF.out]; rfl, Grew.refl _⟩
            · have k2 : ¬ (40 : Int) < ((v.c.vars.length : Nat) : Int) := by omega
              by_cases e1 : 40 < v.c.ms.length
              · have k3 : (40 : Int) < ((v.c.ms.length : Nat) : Int) := by omega
                have HF := hid (show b = true from HB.out.2 (.inr (.inr (.inl ⟨v.c, HMem.out, .inr (.inr (.inl e1))⟩))))
                clear c1 d1 e1
                generalize v.c.vars.length = nv at *
                generalize v.c.ms.length = nms at *
                go_wp2_with fail
                go_ret
                exact ⟨by rw [HF.out]; rfl, Grew.refl _⟩
              · have k3 : ¬ (40 : Int) < ((v.c.ms.length : Nat) : Int) := by omega
                have HNo := hid (show (∀ s ∈ v.c.vars, ¬ 100 < s.size) → ¬ BigX v.c from fun hs hc => by
                  rcases hc with hc | hc | hc | ⟨s, hm, hc⟩
                  · exact c1 hc
                  · exact d1 hc
                  · exact e1 hc
                  · exact hs s hm hc)
                have HVs := hid HOk.out.vars
                obtain ⟨nv, env⟩ : ∃ nv, nv = v.c.vars.length := ⟨_, rfl⟩
                have hnv : nv ≤ 40 := by omega
                rw [← env] at p2 k2
                have ENV := hid env
                clear c1 d1 e1 env
                generalize v.c.ms.length = nms at *
                go_wp2_with fail
                clear k1 k2 k3 p0 p1 p3
                go_loopw [6] (fun s6 wi => ∃ k : Nat, s6 = .int .i64 ((k : Nat) : Int) ∧ k ≤ nv ∧ wi = wr ∧ Hid (∀ s ∈ v.c.vars.take k, ¬ 100 < s.size)) (fun s6 _ => nv - (intOf s6).toNat)
                case atStart => exact ⟨0, rfl, Nat.zero_le _, rfl, hid (by simp)⟩
                case round =>
                  obtain ⟨k, rfl, hk, rfl, HK⟩ := hrel
                  by_cases hkl : k < nv
                  · have g2 : (k : Int) < (nv : Int) := by omega
                    obtain ⟨a2, s, ea, hs, q0, hb2⟩ := str_at HVs.out (Grew.refl _) (i := k) (by rw [← ENV.out]; exact hkl)
                    rw [ea] at p2
                    have HS := hid hs
                    clear hs ea
                    by_cases hz : 100 < s.size
                    · have k1 : (100 : Int) < ((s.size : Nat) : Int) := by omega
                      have HF := hid (show b = true from HB.out.2 (.inr (.inr (.inl ⟨v.c, HMem.out, .inr (.inr (.inr ⟨s, List.mem_of_getElem? HS.out, hz⟩))⟩))))
                      clear hz
                      go_wp2_with fail
                      go_ret
                      exact ⟨by rw [HF.out]; rfl, Grew.refl _⟩
                    · have k1 : ¬ (100 : Int) < ((s.size : Nat) : Int) := by omega
                      have HT := hid (show ∀ t ∈ v.c.vars.take (k + 1), ¬ 100 < t.size by
                        rw [List.take_add_one, HS.out]
                        intro t ht
                        rcases List.mem_append.1 ht with ht | ht
                        · exact HK.out t ht
                        · have e : t = s := by simpa using ht
                          rw [e]; exact hz)
                      clear hz
                      go_wp2_with fail
                      go_round
                      case rel => exact ⟨k + 1, by go_num, by omega, trivial, HT⟩
                      case measure => simp [intOf]; omega
                  · have hkn : k = nv := by omega
                    subst hkn
                    have HT := hid (show ∀ x ∈ (cls l).take (i + 1), ¬ BigX x by
                      rw [List.take_add_one, HX.out]
                      intro x hx
                      rcases List.mem_append.1 hx with hx | hx
                      · exact HO.out x hx
                      · have e : x = v.c := by simpa using hx
                        rw [e]
                        refine HNo.out fun s hs => HK.out s ?_
                        rwa [List.take_of_length_le (by rw [← ENV.out]; exact Nat.le_refl _)])
                    go_wp2_with fail
                    go_round
                    case rel => exact ⟨i + 1, by go_num, by omega, trivial, HT⟩
                    case measure => simp [intOf]; omega
        · have hin : i = n := by omega
          subst hin
          have HCl := hid (show ∀ x ∈ cls l, ¬ BigX x by
            have := HO.out
            rwa [List.take_of_length_le (by rw [cls_len, ← EN.out]; exact Nat.le_refl _)] at this)
          go_wp2_with fail
          go_loopw [7] (fun s7 wr2 => ∃ j : Nat, s7 = .int .i64 ((j : Nat) : Int) ∧ j ≤ m ∧ Grew wr wr2 ∧ Hid (∀ u ∈ ms.take j, ¬ BigP u)) (fun s7 _ => m - (intOf s7).toNat)
          case atStart => exact ⟨0, rfl, Nat.zero_le _, Grew.refl _, hid (by simp)⟩
          case round =>
            obtain ⟨j, rfl, hj, hg, HQ⟩ := hrel
            have HG := hid hg
            clear hg
            by_cases hjl : j < m
            · have g1 : (j : Int) < m := by omega
              obtain ⟨ad, u, rfl, hu, p0, p1, p2, hb1, hma⟩ := meth_arg HM.out HG.out (i := j) (by rw [← EM.out]; exact hjl)
              obtain ⟨d, hd⟩ : ∃ d : Bool, d = true ↔ BigP u := ⟨tru _, tru_iff _⟩
              have HC := hid (bigMethod_c u d hd _ hma)
              have HU := hid hu
              have HD := hid hd
              clear hu hd hma
              unfold mvCells at HC
              cases d
              · have HT := hid (show ∀ y ∈ ms.take (j + 1), ¬ BigP y by
                  rw [List.take_add_one, HU.out]
                  intro y hy
                  rcases List.mem_append.1 hy with hy | hy
                  · exact HQ.out y hy
                  · have e : y = u := by simpa using hy
                    rw [e]
                    intro hc
                    have := HD.out.2 hc
                    cases this)
                clear HD
                go_wp2_with fail
                refine HC.out.mono ?_
                rintro e w3 ⟨rfl, hg3⟩
                have HG3 := hid (HG.out.trans hg3)
                clear hg3
                go_wp2_with fail
                go_round
                case rel => exact ⟨j + 1, by go_num, by omega, HG3.out, HT⟩
                case measure => simp [intOf]; omega
              · have HF := hid (show b = true from HB.out.2 (.inr (.inr (.inr ⟨u, List.mem_of_getElem? HU.out, HD.out.1 rfl⟩))))
                clear HD
                go_wp2_with fail
                refine HC.out.mono ?_
                rintro e w3 ⟨rfl, hg3⟩
                have HG3 := hid (HG.out.trans hg3)
                clear hg3
                go_wp2_with fail
                go_ret
                exact ⟨by rw [HF.out]; rfl, HG3.out⟩
            · have hjm : j = m := by omega
              subst hjm
              have HF := hid (show b = false by
                rw [← Bool.not_eq_true, HB.out]
                rintro (hc | hc | ⟨x, hx, hc⟩ | ⟨u, hu, hc⟩)
                · rw [← EN.out] at hc; exact h70 hc
                · rw [← EM.out] at hc; exact h40 hc
                · exact HCl.out x hx hc
                · refine HQ.out u ?_ hc
                  rwa [List.take_of_length_le (by rw [← EM.out]; exact Nat.le_refl _)])
              clear h70 h40
              go_wp2_with fail
              go_ret
              exact ⟨by rw [HF.out]; rfl, HG.out⟩
end Go.Proofs.YtjladeiecokpfaaGreatDoor
