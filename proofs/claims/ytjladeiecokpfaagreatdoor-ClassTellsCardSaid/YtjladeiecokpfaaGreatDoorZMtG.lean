/- Parts of elder texts that this layer needs, joined: XMtG XMtH XMtI. -/
import Derived.Test.YtjladeiecokpfaaGreatDoorZMtF
namespace Go.Proofs.YtjladeiecokpfaaGreatDoor
open Go.RowKit

/-- Is it so? -/
noncomputable def tru (p : Prop) : Bool := @decide p (Classical.propDecidable p)
theorem tru_iff (p : Prop) : tru p = true ↔ p := by unfold tru; exact @decide_eq_true_iff p (Classical.propDecidable p)
/-- Is a literal valid? -/
noncomputable def litB (x : Mt.Lit) : Bool := tru (Mt.LitOk x)
theorem litB_iff (x : Mt.Lit) : litB x = true ↔ Mt.LitOk x := tru_iff _
set_option maxRecDepth 100000 in
set_option maxHeartbeats 1000000 in
theorem valid_c (x : Mt.Lit) (b : Bool) (hb : b = true ↔ Mt.LitOk x) (w : World) (hx : x.s.size ≤ 2000) (hM : MaxAt w) :
    Calls Tryz.prog 101 #[.agg #[.int .u8 ((x.k : Nat) : Int), .string x.s]] w fun e w' => e = .returned (.bool b) ∧ Grew w w' := by
  obtain ⟨k, s⟩ := x
  simp only at hb hx ⊢
  have HG := hid ((Grew.refl w).alloc (.cells #[.int .u8 ((k : Nat) : Int), .string s] 99))
  by_cases h0 : k = 0
  · subst h0
    have HB : Hid (b = true ↔ Mt.Numeral s) := hid (by
      rw [hb]
      constructor
      · rintro (⟨_, h⟩ | ⟨h, _⟩ | ⟨h, _⟩)
        · exact h
        · cases h
        · cases h
      · exact fun h => .inl ⟨rfl, h⟩)
    have HP := hid (pparse_c s (w.alloc (.cells #[.int .u8 0, .string s] 99)) (by omega))
    rw [show (((0 : Nat) : Nat) : Int) = 0 from rfl] at HG ⊢
    clear hb hx hM
    go_enter Tryz.func101, Tryz.ntmps101
    go_wp2_with fail
    refine HP.out.mono ?_
    rintro e w1 ⟨A', c', ng, L, j, rfl, _, hpo, hg⟩
    have HG1 := hid (HG.out.trans hg)
    by_cases hj : j = 0
    · subst hj
      have hbt : b = true := HB.out.2 ⟨ng, L, hpo⟩
      subst hbt
      rw [show errVal 0 = .nilIface from rfl]
      clear hpo hg
      go_wp2_with fail
      go_ret
      exact ⟨rfl, (HG1.out.alloc _)⟩
    · have hbf : b = false := by
        cases b
        · rfl
        · obtain ⟨ng', L', h'⟩ := HB.out.1 rfl
          exact absurd (hpo.inj h').2.2 hj
      subst hbf
      rw [show errVal j = .iface 75 (.int .i64 j) by unfold errVal; rw [if_neg hj]]
      clear hpo hg
      go_wp2_with fail
      go_ret
      exact ⟨rfl, (HG1.out.alloc _)⟩
  · have e0 : (((k : Nat) : Int) == 0) = false := by rw [beq_eq_false_iff_ne]; omega
    by_cases h1 : k = 1
    · subst h1
      have hb2 : b = decide (s.size ≤ 1024) := by
        rw [Bool.eq_iff_iff, hb, decide_eq_true_iff]
        refine ⟨fun h => ?_, fun h => .inr (.inl ⟨rfl, h⟩)⟩
        rcases h with ⟨h, _⟩ | ⟨_, h⟩ | ⟨h, _⟩
        · cases h
        · exact h
        · cases h
      rw [show (((1 : Nat) : Nat) : Int) = 1 from rfl] at HG ⊢
      clear hb hM hx e0 h0
      by_cases hs : s.size ≤ 1024
      · rw [decide_eq_true hs] at hb2
        subst hb2
        have f1 : (s.size : Int) ≤ 1024 := by omega
        go_enter Tryz.func101, Tryz.ntmps101
        go_wp2_with fail
        go_ret
        exact ⟨rfl, HG.out⟩
      · rw [decide_eq_false hs] at hb2
        subst hb2
        have f1 : ¬ (s.size : Int) ≤ 1024 := by omega
        go_enter Tryz.func101, Tryz.ntmps101
        go_wp2_with fail
        go_ret
        exact ⟨rfl, HG.out⟩
    · have e1 : (((k : Nat) : Int) == 1) = false := by rw [beq_eq_false_iff_ne]; omega
      by_cases h2 : k = 2
      · subst h2
        have hb2 : b = (Mt.arity (Lg.bytes s)).isSome := by
          rw [Bool.eq_iff_iff, hb]
          refine ⟨fun h => ?_, fun h => .inr (.inr ⟨rfl, h⟩)⟩
          rcases h with ⟨h, _⟩ | ⟨h, _⟩ | ⟨_, h⟩
          · cases h
          · cases h
          · exact h
        have HA := hid (arity_c s _ (hM.grew HG.out))
        rw [show (((2 : Nat) : Nat) : Int) = 2 from rfl] at HG HA ⊢
        generalize Mt.arity (Lg.bytes s) = r at *
        clear hb hM hx e0 h0 e1 h1
        subst hb2
        go_enter Tryz.func101, Tryz.ntmps101
        go_wp2_with fail
        refine HA.out.mono ?_
        rintro e w1 ⟨rfl, hg⟩
        go_wp2_with fail
        go_ret
        exact ⟨rfl, HG.out.trans hg⟩
      · have e2 : (((k : Nat) : Int) == 2) = false := by rw [beq_eq_false_iff_ne]; omega
        have hbf : b = false := by
          cases b
          · rfl
          · rcases hb.1 rfl with ⟨h, _⟩ | ⟨h, _⟩ | ⟨h, _⟩
            · exact absurd h h0
            · exact absurd h h1
            · exact absurd h h2
        subst hbf
        clear hb hM hx h0 h1 h2
        go_enter Tryz.func101, Tryz.ntmps101
        go_wp2_with fail
        go_ret
        exact ⟨rfl, HG.out⟩
theorem badLit_c (x : Mt.Lit) (w : World) (hx : x.s.size ≤ 2000) (hM : MaxAt w) :
    Calls Tryz.prog 100 #[.agg #[.int .u8 ((x.k : Nat) : Int), .string x.s]] w fun e w' => e = .returned (.bool (!(litB x))) ∧ Grew w w' := by
  have HG := hid ((Grew.refl w).alloc (.cells #[.int .u8 ((x.k : Nat) : Int), .string x.s] 99))
  have HV := hid (valid_c x (litB x) (litB_iff x) _ hx (hM.grew HG.out))
  generalize litB x = b at *
  clear hx hM
  obtain ⟨k, s⟩ := x
  simp only at HV HG ⊢
  go_enter Tryz.func100, Tryz.ntmps100
  go_wp2_with fail
  refine HV.out.mono ?_
  rintro e w1 ⟨rfl, hg⟩
  go_wp2_with fail
  go_ret
  exact ⟨rfl, HG.out.trans hg⟩
theorem areLits_c (A : Option Addr) (c : Nat) (l : List Mt.Lit) (w : World) (h : LitsAt w A l) (hl : l.length ≤ 1000000) (hM : MaxAt w) :
    Calls Tryz.prog 77 #[.slice A l.length c] w fun e w' => e = .returned (.bool (decide (l.length ≤ 64) && l.all litB)) ∧ Grew w w' := by
  have HC := hid (anyLit_c 100 #[] (enters_of Tryz.func100 (by kernel_rfl) rfl) (fun x => !(litB x)) A c l w h hl (fun x hx W hg => badLit_c x W (h.1 x hx).2 (hM.grew hg)))
  have he : l.all litB = !(l.any fun x => !(litB x)) := by rw [List.not_any_eq_all_not]; simp
  rw [he]
  generalize (l.any fun x => !(litB x)) = b at *
  generalize l.length = n at *
  clear h hM hl he
  by_cases h6 : n ≤ 64
  · have f1 : (n : Int) ≤ 64 := by omega
    rw [decide_eq_true h6]
    clear h6
    go_enter Tryz.func77, Tryz.ntmps77
    go_wp2_with fail
    refine HC.out.mono ?_
    rintro e w1 ⟨rfl, hg⟩
    go_wp2_with fail
    go_ret
    exact ⟨by cases b <;> rfl, hg⟩
  · have f1 : ¬ (n : Int) ≤ 64 := by omega
    rw [decide_eq_false h6]
    clear h6
    go_enter Tryz.func77, Tryz.ntmps77
    go_wp2_with fail
    go_ret
    exact ⟨rfl, Grew.refl _⟩
theorem isOuter_c (o : Int) (i : Nat) (w : World) (hi : i ≤ 1000000) : Calls Tryz.prog 104 #[.int .i64 o, .int .i64 ((i : Nat) : Int)] w fun e w' => e = .returned (.bool (Mt.outerOk o i)) ∧ w' = w := by
  unfold Mt.outerOk
  by_cases h0 : i = 0
  · subst h0
    rw [if_pos rfl]
    by_cases h1 : o = -1
    · subst h1
      go_enter Tryz.func104, Tryz.ntmps104
      go_wp2_with fail
      go_ret
      exact ⟨rfl, rfl⟩
    · have e1 : (o == -1) = false := by rw [beq_eq_false_iff_ne]; exact h1
      rw [decide_eq_false h1]
      clear h1
      go_enter Tryz.func104, Tryz.ntmps104
      go_wp2_with fail
      go_ret
      exact ⟨rfl, rfl⟩
  · rw [if_neg h0]
    have e0 : (((i : Nat) : Int) == 0) = false := by rw [beq_eq_false_iff_ne]; omega
    have HW := hid (within_c o 0 ((i : Int) - 1) w)
    have hw : IntKind.i64.wrap ((i : Int) - 1) = (i : Int) - 1 := by unfold IntKind.wrap; simp [IntKind.bits, IntKind.signed]; omega
    generalize (decide (0 ≤ o) && decide (o ≤ (i : Int) - 1)) = b at *
    clear h0
    go_enter Tryz.func104, Tryz.ntmps104
    go_wp2_with fail
    refine HW.out.mono ?_
    rintro e w1 ⟨rfl, rfl⟩
    go_wp2_with fail
    go_ret
    exact ⟨rfl, rfl⟩
end Go.Proofs.YtjladeiecokpfaaGreatDoor
namespace Go.Proofs.YtjladeiecokpfaaGreatDoor
open Go.RowKit

theorem pv_at {w wr : World} {A : Option Addr} {l : List PV} (h : PartsAt w A l) (hg : Grew w wr) {i : Nat} (hi : i < l.length) : ∃ ad v, A = some ad ∧ l[i]? = some v ∧ wr.cell? (ad.add (i * 4)) = some (.int .i64 v.p.outer) ∧ wr.cell? ⟨ad.block, (ad.add (i * 4)).off + 1, none⟩ = some (.int .i64 v.p.args) ∧ wr.cell? ⟨ad.block, (ad.add (i * 4)).off + 2, none⟩ = some (.int .i64 v.p.temps) ∧ wr.cell? ⟨ad.block, (ad.add (i * 4)).off + 3, none⟩ = some (.slice v.A v.p.code.length v.c) ∧ ad.block < wr.heap.size := by
  obtain ⟨ad, e, hb, hc⟩ := h.2 (by omega)
  have hv := List.getElem?_eq_getElem hi
  obtain ⟨q0, q1, q2, q3⟩ := pv_cell (v := l[i]) (i := i) (ad := ad) (w := wr) (fun j u hu => by
    rw [hg.below.cell (by rw [block_add]; exact hb)]; exact hc i _ hv j u hu)
  exact ⟨ad, l[i], e, hv, q0, q1, q2, q3, Nat.lt_of_lt_of_le hb hg.below.size⟩
theorem lit_at {w wr : World} {A : Option Addr} {l : List Mt.Lit} (h : LitsAt w A l) (hg : Grew w wr) {i : Nat} (hi : i < l.length) : ∃ ad x, A = some ad ∧ l[i]? = some x ∧ wr.cell? (ad.add (i * 2)) = some (.int .u8 ((x.k : Nat) : Int)) ∧ wr.cell? ⟨ad.block, (ad.add (i * 2)).off + 1, none⟩ = some (.string x.s) ∧ ad.block < wr.heap.size := by
  obtain ⟨ad, e, hb, hc⟩ := h.2 (by omega)
  have hv := List.getElem?_eq_getElem hi
  obtain ⟨q0, q1⟩ := lit_cell (x := l[i]) (i := i) (ad := ad) (w := wr) (fun j u hu => by
    rw [hg.below.cell (by rw [block_add]; exact hb)]; exact hc i _ hv j u hu)
  exact ⟨ad, l[i], e, hv, q0, q1, Nat.lt_of_lt_of_le hb hg.below.size⟩
/-- The fields of the first parts. -/
def HeadsTo (l : List PV) (i : Nat) : Prop := ∀ j v, j < i → l[j]? = some v → Mt.headOk v.p j = true
theorem heads_all {l : List PV} (h : HeadsTo l l.length) : Mt.HeadsOk (l.map (·.p)) := by
  intro i p hp
  rw [List.getElem?_map] at hp
  obtain ⟨v, hv, rfl⟩ := Option.map_eq_some_iff.1 hp
  exact h i v (List.getElem?_eq_some_iff.1 hv).1 hv
theorem heads_no {l : List PV} {i : Nat} {v : PV} (hv : l[i]? = some v) (h : Mt.headOk v.p i = false) : ¬ Mt.HeadsOk (l.map (·.p)) := fun hh => by
  have := hh i v.p (by rw [List.getElem?_map, hv]; rfl)
  rw [h] at this
  cases this
set_option maxRecDepth 100000 in
set_option maxHeartbeats 2000000 in
theorem areParts_c (A : Option Addr) (c : Nat) (l : List PV) (b : Bool) (hb : b = true ↔ Mt.PartsOk (l.map (·.p))) (w : World) (h : PartsAt w A l) (hl : l.length ≤ 100) :
    Calls Tryz.prog 78 #[.slice A l.length c] w fun e w' => e = .returned (.bool b) ∧ Grew w w' := by
  obtain ⟨n, en⟩ : ∃ n, n = l.length := ⟨_, rfl⟩
  have HA := hid h
  rw [← en] at hl ⊢
  have EN := hid en
  have HW := hid (within_c (n : Int) 1 64 w)
  have HB : Hid (b = true ↔ (1 ≤ n ∧ n ≤ 64) ∧ Mt.HeadsOk (l.map (·.p))) := hid (by
    rw [hb, Mt.PartsOk, List.length_map, ← en]
    exact and_assoc.symm)
  have hq : (decide ((1 : Int) ≤ (n : Int)) && decide ((n : Int) ≤ 64)) = decide (1 ≤ n ∧ n ≤ 64) := by
    rw [Bool.eq_iff_iff, Bool.and_eq_true, decide_eq_true_iff, decide_eq_true_iff, decide_eq_true_iff]; omega
  rw [hq] at HW
  clear h en hb hq
  by_cases hn : 1 ≤ n ∧ n ≤ 64
  · rw [decide_eq_true hn] at HW
    have HN := hid hn
    clear hn
    go_enter Tryz.func78, Tryz.ntmps78
    go_wp2_with fail
    refine HW.out.mono ?_
    rintro e w1 ⟨rfl, rfl⟩
    go_wp2_with fail
    go_loopw [3, 4, 11] (fun _ _ s11 wr => ∃ i : Nat, s11 = .int .i64 ((i : Nat) : Int) ∧ i ≤ n ∧ Grew w1 wr ∧ Hid (HeadsTo l i)) (fun _ _ s11 _ => n - (intOf s11).toNat)
    case atStart => exact ⟨0, rfl, Nat.zero_le _, Grew.refl _, hid (fun j v hj => by omega)⟩
    case round =>
      obtain ⟨i, rfl, hi, hg, HI⟩ := hrel
      have HG := hid hg
      clear hg
      by_cases hlt : i < n
      · have f1 : (i : Int) < n := by omega
        obtain ⟨ad, v, rfl, hv, q0, q1, q2, q3, _⟩ := pv_at HA.out HG.out (i := i) (by rw [← EN.out]; exact hlt)
        have HG2 := hid ((Grew.refl wr).alloc (.cells (pvCells v) 71))
        have HO := hid (isOuter_c v.p.outer i (wr.alloc (.cells (pvCells v) 71)) (by omega))
        have HAr := hid (within_c v.p.args 0 8 (wr.alloc (.cells (pvCells v) 71)))
        have HT := hid (within_c v.p.temps v.p.args 16 (wr.alloc (.cells (pvCells v) 71)))
        have HH : Hid (Mt.headOk v.p i = (Mt.outerOk v.p.outer i && (decide (0 ≤ v.p.args) && decide (v.p.args ≤ 8)) && (decide (v.p.args ≤ v.p.temps) && decide (v.p.temps ≤ 16)))) := hid rfl
        have HX : Hid (Mt.headOk v.p i = false → b = false) := hid (fun hf => by
          cases hbb : b
          · rfl
          · exact absurd (HB.out.1 hbb).2 (heads_no hv hf))
        have HY : Hid (Mt.headOk v.p i = true → HeadsTo l (i + 1)) := hid (fun hf j v' hj hv' => by
          rcases Nat.lt_or_ge j i with h1 | h1
          · exact HI.out j v' h1 hv'
          · obtain rfl : j = i := by omega
            rw [hv] at hv'
            obtain rfl := Option.some.inj hv'
            exact hf)
        generalize Mt.headOk v.p i = hd at *
        generalize Mt.outerOk v.p.outer i = b1 at *
        generalize (decide (0 ≤ v.p.args) && decide (v.p.args ≤ 8)) = b2 at *
        generalize (decide (v.p.args ≤ v.p.temps) && decide (v.p.temps ≤ 16)) = b3 at *
        unfold pvCells at HO HAr HT HG2
        clear hv
        obtain ⟨⟨po, pa, pt, code⟩, Ac, cc⟩ := v
        simp only at q0 q1 q2 q3 HO HAr HT HG2
        generalize code.length = cl at *
        cases b1
        · have HZ := hid (HX.out (by rw [HH.out]; rfl))
          go_wp2_with fail
          refine HO.out.mono ?_
          rintro e w2 ⟨rfl, rfl⟩
          go_wp2_with fail
          go_ret
          exact ⟨by rw [HZ.out]; rfl, HG.out.trans HG2.out⟩
        · cases b2
          · have HZ := hid (HX.out (by rw [HH.out]; rfl))
            go_wp2_with fail
            refine HO.out.mono ?_
            rintro e w2 ⟨rfl, rfl⟩
            go_wp2_with fail
            refine HAr.out.mono ?_
            rintro e w2 ⟨rfl, rfl⟩
            go_wp2_with fail
            go_ret
            exact ⟨by rw [HZ.out]; rfl, HG.out.trans HG2.out⟩
          · cases b3
            · have HZ := hid (HX.out (by rw [HH.out]; rfl))
              go_wp2_with fail
              refine HO.out.mono ?_
              rintro e w2 ⟨rfl, rfl⟩
              go_wp2_with fail
              refine HAr.out.mono ?_
              rintro e w2 ⟨rfl, rfl⟩
              go_wp2_with fail
              refine HT.out.mono ?_
              rintro e w2 ⟨rfl, rfl⟩
              go_wp2_with fail
              go_ret
              exact ⟨by rw [HZ.out]; rfl, HG.out.trans HG2.out⟩
            · have HZ := hid (HY.out (by rw [HH.out]; rfl))
              go_wp2_with fail
              refine HO.out.mono ?_
              rintro e w2 ⟨rfl, rfl⟩
              go_wp2_with fail
              refine HAr.out.mono ?_
              rintro e w2 ⟨rfl, rfl⟩
              go_wp2_with fail
              refine HT.out.mono ?_
              rintro e w2 ⟨rfl, rfl⟩
              go_wp2_with fail
              go_round
              case rel => exact ⟨i + 1, by go_num, by omega, HG.out.trans HG2.out, HZ⟩
              case measure => simp [intOf]; omega
      · have hin : i = n := by omega
        subst hin
        have hbt : b = true := HB.out.2 ⟨HN.out, heads_all (by rw [← EN.out]; exact HI.out)⟩
        subst hbt
        go_wp2_with fail
        go_ret
        exact ⟨rfl, HG.out⟩
  · rw [decide_eq_false hn] at HW
    have hbf : b = false := by
      cases hbb : b
      · rfl
      · exact absurd (HB.out.1 hbb).1 hn
    subst hbf
    clear hn
    go_enter Tryz.func78, Tryz.ntmps78
    go_wp2_with fail
    refine HW.out.mono ?_
    rintro e w1 ⟨rfl, rfl⟩
    go_wp2_with fail
    go_ret
    exact ⟨rfl, Grew.refl _⟩
/-- Part p is there, or it is -1. -/
def Place (l : List PV) (p : Int) : Prop := p = -1 ∨ 0 ≤ p ∧ p < l.length
theorem place_outer {l : List PV} (hh : Mt.HeadsOk (l.map (·.p))) {i : Nat} {v : PV} (hv : l[i]? = some v) : Place l v.p.outer := by
  have hi := (List.getElem?_eq_some_iff.1 hv).1
  have := hh i v.p (by rw [List.getElem?_map, hv]; rfl)
  simp only [Mt.headOk, Bool.and_eq_true] at this
  have h1 := this.1.1
  unfold Mt.outerOk at h1
  split at h1
  · exact .inl (decide_eq_true_iff.1 h1)
  · simp only [Bool.and_eq_true, decide_eq_true_eq] at h1
    exact .inr ⟨h1.1, by omega⟩
theorem up_none (ps : List Mt.Part) : ∀ k, Mt.up ps k (-1) = -1
  | 0 => rfl
  | k + 1 => by unfold Mt.up; rw [if_pos (by decide)]
theorem up_place {l : List PV} (hh : Mt.HeadsOk (l.map (·.p))) : ∀ (k : Nat) (p : Int), Place l p → Place l (Mt.up (l.map (·.p)) k p)
  | 0, p, h => h
  | k + 1, p, h => by
    unfold Mt.up
    split
    · exact h
    · rename_i hp
      rcases h with h | ⟨h1, h2⟩
      · omega
      · have hi : p.toNat < l.length := by omega
        rw [List.getElem?_map, List.getElem?_eq_getElem hi]
        exact up_place hh k _ (place_outer hh (List.getElem?_eq_getElem hi))
set_option maxRecDepth 100000 in
set_option maxHeartbeats 2000000 in
theorem outward_c (V0 : Value) (V2 V3 : Value) (A : Option Addr) (c : Nat) (l : List PV) (p s : Int) (w : World) (h : PartsAt w A l) (hh : Mt.HeadsOk (l.map (·.p))) (hp : Place l p) (hs : 0 ≤ s) (hs2 : s ≤ 1000000) :
    Calls Tryz.prog 134 #[.agg #[V0, .slice A l.length c, V2, V3], .int .i64 p, .int .i64 s] w fun e w' => e = .returned (.int .i64 (Mt.up (l.map (·.p)) s.toNat p)) ∧ Grew w w' := by
  obtain ⟨n, en⟩ : ∃ n, n = l.length := ⟨_, rfl⟩
  obtain ⟨N, rfl⟩ : ∃ N : Nat, s = N := ⟨s.toNat, by omega⟩
  have HA := hid h
  have HH := hid hh
  have HP := hid hp
  rw [← en]
  have EN := hid en
  obtain ⟨R, hR⟩ : ∃ R, R = Mt.up (l.map (·.p)) N p := ⟨_, rfl⟩
  rw [Int.toNat_natCast, ← hR]
  have HR := hid hR
  have HG := hid ((Grew.refl w).alloc (.cells #[V0, .slice A n c, V2, V3] 141))
  have hN : N ≤ 1000000 := by omega
  clear h hh hp en hR hs hs2
  go_enter Tryz.func134, Tryz.ntmps134
  go_wp2_with fail
  have hb0 := Blk.new w 141 #[V0, .slice A n c, V2, V3]
  generalize w.alloc (.cells #[V0, .slice A n c, V2, V3] 141) = w1 at *
  have c1 := hb0.cell 1
  simp only [List.getElem?_toArray, List.getElem?_cons_zero, List.getElem?_cons_succ] at c1
  clear hb0
  go_loopg [1, 8] N (fun g s1 s8 wr => ∃ (i : Nat) (q : Int), s8 = .int .i64 ((i : Nat) : Int) ∧ s1 = .int .i64 q ∧ i ≤ N ∧ N - i ≤ g ∧ wr = w1 ∧ Hid (Place l q) ∧ Hid (R = Mt.up (l.map (·.p)) (N - i) q))
  case atStart => exact ⟨0, p, rfl, rfl, Nat.zero_le _, by omega, rfl, HP, by rw [Nat.sub_zero]; exact HR⟩
  case round =>
    obtain ⟨i, q, rfl, rfl, hi, hgk, rfl, HQ, HU⟩ := hrel
    by_cases hlt : i < N
    · have f1 : (i : Int) < N := by omega
      by_cases hq : q = -1
      · subst hq
        have hRR : R = -1 := by rw [HU.out, up_none]
        subst hRR
        go_wp2_with fail
        go_ret
        exact ⟨rfl, HG.out⟩
      · have e1 : (q == -1) = false := by rw [beq_eq_false_iff_ne]; exact hq
        obtain ⟨h1, h2⟩ := HQ.out.resolve_left hq
        obtain ⟨k, rfl⟩ : ∃ k : Nat, q = k := ⟨q.toNat, by omega⟩
        rw [← EN.out] at h2
        obtain ⟨ad, v, rfl, hv, q0, _, _, _, _⟩ := pv_at HA.out HG.out (i := k) (by rw [← EN.out]; omega)
        have HQ2 := hid (place_outer HH.out hv)
        have HU2 : Hid (R = Mt.up (l.map (·.p)) (N - (i + 1)) v.p.outer) := hid (by
          rw [HU.out, show N - i = (N - (i + 1)) + 1 by omega]
          rw [Mt.up, if_neg (by omega), Int.toNat_natCast, List.getElem?_map, hv]
          rfl)
        clear hv hq
        go_wp2_with fail
        go_roundg (N - (i + 1))
        case measure => omega
        case rel => exact ⟨i + 1, v.p.outer, by go_num, rfl, by omega, by omega, rfl, HQ2, HU2⟩
    · have hin : i = N := by omega
      subst hin
      have hRR : R = q := by rw [HU.out, Nat.sub_self]; rfl
      subst hRR
      go_wp2_with fail
      go_ret
      exact ⟨rfl, HG.out⟩
/-- Is literal a a selector with b arguments? -/
def takesB (l : List Mt.Lit) (a b : Int) : Bool := (l[a.toNat]?).elim false (fun x => decide (x.k = 2) && decide (Mt.arityS x.s = some b.toNat))
set_option maxRecDepth 100000 in
set_option maxHeartbeats 2000000 in
theorem takes_c (V1 V2 V3 : Value) (A : Option Addr) (c : Nat) (l : List Mt.Lit) (a b : Int) (w : World) (h : LitsAt w A l) (ha : 0 ≤ a) (hb : 0 ≤ b) (hM : MaxAt w) :
    Calls Tryz.prog 133 #[.agg #[.slice A l.length c, V1, V2, V3], .int .i64 a, .int .i64 b] w fun e w' => e = .returned (.bool (takesB l a b)) ∧ Grew w w' := by
  obtain ⟨n, en⟩ : ∃ n, n = l.length := ⟨_, rfl⟩
  obtain ⟨k, rfl⟩ : ∃ k : Nat, a = k := ⟨a.toNat, by omega⟩
  obtain ⟨m, rfl⟩ : ∃ m : Nat, b = m := ⟨b.toNat, by omega⟩
  have HG := hid ((Grew.refl w).alloc (.cells #[.slice A n c, V1, V2, V3] 141))
  by_cases hk : k < l.length
  · obtain ⟨ad, x, rfl, hx, q0, q1, _⟩ := lit_at h HG.out hk
    have hT : takesB l (k : Int) (m : Int) = (decide (x.k = 2) && decide (Mt.arityS x.s = some m)) := by
      unfold takesB
      rw [Int.toNat_natCast, Int.toNat_natCast, hx]
      rfl
    rw [hT]
    have HA := hid (arity_c x.s _ (hM.grew HG.out))
    have HAS : Mt.arityS x.s = Mt.arity (Lg.bytes x.s) := rfl
    rw [HAS]
    rw [← en] at hk ⊢
    have f1 : ¬ (n : Int) ≤ (k : Int) := by omega
    have f2 : (k : Int) < (n : Int) := by omega
    clear h hx en hT hM HAS
    obtain ⟨kk, s⟩ := x
    simp only at q0 q1 HA ⊢
    generalize Mt.arity (Lg.bytes s) = r at *
    by_cases h2 : kk = 2
    · subst h2
      rw [show (((2 : Nat) : Nat) : Int) = 2 from rfl] at q0
      cases r with
      | none =>
        rw [show (decide (2 = 2) && decide ((none : Option Nat) = some m)) = false from rfl]
        go_enter Tryz.func133, Tryz.ntmps133
        go_wp2_with fail
        refine HA.out.mono ?_
        rintro e w1 ⟨rfl, hg⟩
        go_wp2_with fail
        go_ret
        exact ⟨rfl, HG.out.trans hg⟩
      | some j =>
        have hd : (decide (2 = 2) && decide (some j = some m)) = ((((j : Nat) : Int)) == ((m : Nat) : Int)) := by
          rw [Bool.eq_iff_iff]
          simp
          omega
        rw [hd]
        clear hd
        go_enter Tryz.func133, Tryz.ntmps133
        go_wp2_with fail
        refine HA.out.mono ?_
        rintro e w1 ⟨rfl, hg⟩
        go_wp2_with fail
        go_ret
        exact ⟨rfl, HG.out.trans hg⟩
    · have e2 : (((kk : Nat) : Int) == 2) = false := by rw [beq_eq_false_iff_ne]; omega
      rw [decide_eq_false h2, Bool.false_and]
      clear h2
      go_enter Tryz.func133, Tryz.ntmps133
      go_wp2_with fail
      go_ret
      exact ⟨rfl, HG.out⟩
  · have hT : takesB l (k : Int) (m : Int) = false := by
      unfold takesB
      rw [Int.toNat_natCast, List.getElem?_eq_none (by omega)]
      rfl
    rw [hT, ← en]
    rw [← en] at hk
    have f1 : (n : Int) ≤ (k : Int) := by omega
    clear h hk en hT hM
    go_enter Tryz.func133, Tryz.ntmps133
    go_wp2_with fail
    go_ret
    exact ⟨rfl, HG.out⟩
end Go.Proofs.YtjladeiecokpfaaGreatDoor
namespace Go.Proofs.YtjladeiecokpfaaGreatDoor
open Go.RowKit

section
variable {lits : List Mt.Lit} {vs : List PV} {A1 A2 : Option Addr} {n1 n2 c1 c2 : Nat} {vars classes : Int} {p : Nat} {oa ob : Int} {w : World} {sel : ByteArray}
/-- What 'allows' is called in. -/
structure AlIn (w : World) (lits : List Mt.Lit) (vs : List PV) (A1 A2 : Option Addr) (n1 n2 p : Nat) (oa ob : Int) : Prop where
  l : LitsAt w A1 lits
  v : PartsAt w A2 vs
  hn1 : n1 = lits.length
  hn2 : n2 = vs.length
  few : n2 ≤ 100
  heads : Mt.HeadsOk (vs.map (·.p))
  hp : p < n2
  ha : 0 ≤ oa ∧ oa ≤ 1000000
  hb : 0 ≤ ob ∧ ob ≤ 1000000
  mx : MaxAt w
/-- The boxes of the two structs. -/
def alW (w : World) (A1 : Option Addr) (n1 c1 : Nat) (A2 : Option Addr) (n2 c2 : Nat) (vars classes : Int) (cd : Nat) (oa ob : Int) : World :=
  (w.alloc (.cells #[.slice A1 n1 c1, .slice A2 n2 c2, .int .i64 vars, .int .i64 classes] 141)).alloc (.cells #[.int .u8 ((cd : Nat) : Int), .int .i64 oa, .int .i64 ob] 181)
theorem alW_grew {cd : Nat} : Grew w (alW w A1 n1 c1 A2 n2 c2 vars classes cd oa ob) := ((Grew.refl w).alloc _).alloc _
def AlPost (w : World) (b : Bool) (e : Ending) (w' : World) : Prop := e = .returned (.bool b) ∧ Grew w w'
def Al (w : World) (A1 : Option Addr) (n1 c1 : Nat) (A2 : Option Addr) (n2 c2 : Nat) (vars classes : Int) (p cd : Nat) (oa ob : Int) (b : Bool) : Prop :=
  Calls Tryz.prog 108 #[.agg #[.slice A1 n1 c1, .slice A2 n2 c2, .int .i64 vars, .int .i64 classes], .int .i64 ((p : Nat) : Int), .agg #[.int .u8 ((cd : Nat) : Int), .int .i64 oa, .int .i64 ob]] w (AlPost w b)
set_option maxRecDepth 100000 in
set_option maxHeartbeats 1000000 in
theorem al_var7 (_h : AlIn w lits vs A1 A2 n1 n2 p oa ob) : Al w A1 n1 c1 A2 n2 c2 vars classes p 7 oa ob (decide (oa < vars)) := by
  have HG := hid (alW_grew (w := w) (A1 := A1) (n1 := n1) (c1 := c1) (A2 := A2) (n2 := n2) (c2 := c2) (vars := vars) (classes := classes) (cd := 7) (oa := oa) (ob := ob))
  unfold Al
  unfold alW at HG
  rw [show (((7 : Nat) : Nat) : Int) = 7 from rfl] at HG ⊢
  go_enter Tryz.func108, Tryz.ntmps108
  go_wp2_with fail
  go_ret
  exact ⟨rfl, HG.out⟩
set_option maxRecDepth 100000 in
set_option maxHeartbeats 1000000 in
theorem al_var8 (_h : AlIn w lits vs A1 A2 n1 n2 p oa ob) : Al w A1 n1 c1 A2 n2 c2 vars classes p 8 oa ob (decide (oa < vars)) := by
  have HG := hid (alW_grew (w := w) (A1 := A1) (n1 := n1) (c1 := c1) (A2 := A2) (n2 := n2) (c2 := c2) (vars := vars) (classes := classes) (cd := 8) (oa := oa) (ob := ob))
  unfold Al
  unfold alW at HG
  rw [show (((8 : Nat) : Nat) : Int) = 8 from rfl] at HG ⊢
  go_enter Tryz.func108, Tryz.ntmps108
  go_wp2_with fail
  go_ret
  exact ⟨rfl, HG.out⟩
set_option maxRecDepth 100000 in
set_option maxHeartbeats 1000000 in
theorem al_class (_h : AlIn w lits vs A1 A2 n1 n2 p oa ob) : Al w A1 n1 c1 A2 n2 c2 vars classes p 20 oa ob (decide (oa < classes)) := by
  have HG := hid (alW_grew (w := w) (A1 := A1) (n1 := n1) (c1 := c1) (A2 := A2) (n2 := n2) (c2 := c2) (vars := vars) (classes := classes) (cd := 20) (oa := oa) (ob := ob))
  unfold Al
  unfold alW at HG
  rw [show (((20 : Nat) : Nat) : Int) = 20 from rfl] at HG ⊢
  go_enter Tryz.func108, Tryz.ntmps108
  go_wp2_with fail
  go_ret
  exact ⟨rfl, HG.out⟩
set_option maxRecDepth 100000 in
set_option maxHeartbeats 1000000 in
theorem al_home (_h : AlIn w lits vs A1 A2 n1 n2 p oa ob) : Al w A1 n1 c1 A2 n2 c2 vars classes p 19 oa ob (!(decide (p = 0))) := by
  have HG := hid (alW_grew (w := w) (A1 := A1) (n1 := n1) (c1 := c1) (A2 := A2) (n2 := n2) (c2 := c2) (vars := vars) (classes := classes) (cd := 19) (oa := oa) (ob := ob))
  unfold Al
  unfold alW at HG
  rw [show (((19 : Nat) : Nat) : Int) = 19 from rfl] at HG ⊢
  by_cases hc : p = 0
  · subst hc
    go_enter Tryz.func108, Tryz.ntmps108
    go_wp2_with fail
    go_ret
    exact ⟨rfl, HG.out⟩
  · have e1 : (((p : Nat) : Int) == 0) = false := by rw [beq_eq_false_iff_ne]; omega
    rw [decide_eq_false hc]
    have HE := hid e1
    clear hc
    go_enter Tryz.func108, Tryz.ntmps108
    go_wp2_with fail
    go_ret
    exact ⟨congrArg (fun z => Ending.returned (.bool z)) (show ((((p : Nat) : Int)) != 0) = !false by rw [bne, HE.out]), HG.out⟩
set_option maxRecDepth 100000 in
set_option maxHeartbeats 1000000 in
theorem al_me (_h : AlIn w lits vs A1 A2 n1 n2 p oa ob) : Al w A1 n1 c1 A2 n2 c2 vars classes p 18 oa ob (decide (p = 0)) := by
  have HG := hid (alW_grew (w := w) (A1 := A1) (n1 := n1) (c1 := c1) (A2 := A2) (n2 := n2) (c2 := c2) (vars := vars) (classes := classes) (cd := 18) (oa := oa) (ob := ob))
  unfold Al
  unfold alW at HG
  rw [show (((18 : Nat) : Nat) : Int) = 18 from rfl] at HG ⊢
  by_cases hc : p = 0
  · subst hc
    go_enter Tryz.func108, Tryz.ntmps108
    go_wp2_with fail
    go_ret
    exact ⟨rfl, HG.out⟩
  · have e1 : (((p : Nat) : Int) == 0) = false := by rw [beq_eq_false_iff_ne]; omega
    rw [decide_eq_false hc]
    clear hc
    go_enter Tryz.func108, Tryz.ntmps108
    go_wp2_with fail
    go_ret
    exact ⟨rfl, HG.out⟩
set_option maxRecDepth 100000 in
set_option maxHeartbeats 1000000 in
theorem al_other (_h : AlIn w lits vs A1 A2 n1 n2 p oa ob) {cd : Nat} (hc : cd ≠ 4 ∧ cd ≠ 5 ∧ cd ≠ 6 ∧ cd ≠ 7 ∧ cd ≠ 8 ∧ cd ≠ 11 ∧ cd ≠ 12 ∧ cd ≠ 16 ∧ cd ≠ 18 ∧ cd ≠ 19 ∧ cd ≠ 20) : Al w A1 n1 c1 A2 n2 c2 vars classes p cd oa ob true := by
  have HG := hid (alW_grew (w := w) (A1 := A1) (n1 := n1) (c1 := c1) (A2 := A2) (n2 := n2) (c2 := c2) (vars := vars) (classes := classes) (cd := cd) (oa := oa) (ob := ob))
  unfold Al
  unfold alW at HG
  have e4 : (((cd : Nat) : Int) == 4) = false := by rw [beq_eq_false_iff_ne]; omega
  have e5 : (((cd : Nat) : Int) == 5) = false := by rw [beq_eq_false_iff_ne]; omega
  have e6 : (((cd : Nat) : Int) == 6) = false := by rw [beq_eq_false_iff_ne]; omega
  have e7 : (((cd : Nat) : Int) == 7) = false := by rw [beq_eq_false_iff_ne]; omega
  have e8 : (((cd : Nat) : Int) == 8) = false := by rw [beq_eq_false_iff_ne]; omega
  have e11 : (((cd : Nat) : Int) == 11) = false := by rw [beq_eq_false_iff_ne]; omega
  have e12 : (((cd : Nat) : Int) == 12) = false := by rw [beq_eq_false_iff_ne]; omega
  have e16 : (((cd : Nat) : Int) == 16) = false := by rw [beq_eq_false_iff_ne]; omega
  have e18 : (((cd : Nat) : Int) == 18) = false := by rw [beq_eq_false_iff_ne]; omega
  have e19 : (((cd : Nat) : Int) == 19) = false := by rw [beq_eq_false_iff_ne]; omega
  have e20 : (((cd : Nat) : Int) == 20) = false := by rw [beq_eq_false_iff_ne]; omega
  clear hc
  go_enter Tryz.func108, Tryz.ntmps108
  go_wp2_with fail
  go_ret
  exact ⟨rfl, HG.out⟩
set_option maxRecDepth 100000 in
set_option maxHeartbeats 1000000 in
theorem al_lit (h : AlIn w lits vs A1 A2 n1 n2 p oa ob) : Al w A1 n1 c1 A2 n2 c2 vars classes p 4 oa ob ((lits[oa.toNat]?).elim false (fun x => !(decide (x.k = 2)))) := by
  have HG := hid (alW_grew (w := w) (A1 := A1) (n1 := n1) (c1 := c1) (A2 := A2) (n2 := n2) (c2 := c2) (vars := vars) (classes := classes) (cd := 4) (oa := oa) (ob := ob))
  unfold Al
  have h1 := h.hn1
  obtain ⟨k, rfl⟩ : ∃ k : Nat, oa = k := ⟨oa.toNat, by have := h.ha.1; omega⟩
  rw [Int.toNat_natCast]
  by_cases hk : k < n1
  · obtain ⟨ad, x, rfl, hx, q0, q1, _⟩ := lit_at h.l HG.out (i := k) (by omega)
    rw [hx]
    unfold alW at q0 HG
    rw [show (((4 : Nat) : Nat) : Int) = 4 from rfl] at HG q0 ⊢
    have f1 : (k : Int) < (n1 : Int) := by omega
    show Calls _ _ _ _ (AlPost w (!(decide (x.k = 2))))
    obtain ⟨kk, s⟩ := x
    simp only at q0 ⊢
    clear h hx h1 hk q1
    by_cases h2 : kk = 2
    · subst h2
      rw [show (((2 : Nat) : Nat) : Int) = 2 from rfl] at q0
      go_enter Tryz.func108, Tryz.ntmps108
      go_wp2_with fail
      go_ret
      exact ⟨rfl, HG.out⟩
    · have e2 : (((kk : Nat) : Int) == 2) = false := by rw [beq_eq_false_iff_ne]; omega
      rw [decide_eq_false h2]
      clear h2
      go_enter Tryz.func108, Tryz.ntmps108
      go_wp2_with fail
      go_ret
      refine ⟨?_, HG.out⟩
      simp [bne, e2]
  · rw [List.getElem?_eq_none (by omega)]
    have f1 : ¬ (k : Int) < (n1 : Int) := by omega
    unfold alW at HG
    rw [show (((4 : Nat) : Nat) : Int) = 4 from rfl] at HG ⊢
    clear h h1 hk
    go_enter Tryz.func108, Tryz.ntmps108
    go_wp2_with fail
    go_ret
    exact ⟨rfl, HG.out⟩
set_option maxRecDepth 100000 in
set_option maxHeartbeats 1000000 in
theorem al_send11 (h : AlIn w lits vs A1 A2 n1 n2 p oa ob) : Al w A1 n1 c1 A2 n2 c2 vars classes p 11 oa ob (takesB lits oa ob) := by
  have HG := hid (alW_grew (w := w) (A1 := A1) (n1 := n1) (c1 := c1) (A2 := A2) (n2 := n2) (c2 := c2) (vars := vars) (classes := classes) (cd := 11) (oa := oa) (ob := ob))
  unfold Al
  have HT := hid (takes_c (.slice A2 n2 c2) (.int .i64 vars) (.int .i64 classes) A1 c1 lits oa ob _ (h.l.grew HG.out) h.ha.1 h.hb.1 (h.mx.grew HG.out))
  rw [← h.hn1] at HT
  generalize takesB lits oa ob = b at *
  unfold alW at HG HT
  rw [show (((11 : Nat) : Nat) : Int) = 11 from rfl] at HG HT ⊢
  clear h
  go_enter Tryz.func108, Tryz.ntmps108
  go_wp2_with fail
  refine HT.out.mono ?_
  rintro e w1 ⟨rfl, hg⟩
  go_wp2_with fail
  go_ret
  exact ⟨rfl, HG.out.trans hg⟩
set_option maxRecDepth 100000 in
set_option maxHeartbeats 1000000 in
theorem al_send12 (h : AlIn w lits vs A1 A2 n1 n2 p oa ob) : Al w A1 n1 c1 A2 n2 c2 vars classes p 12 oa ob (takesB lits oa ob) := by
  have HG := hid (alW_grew (w := w) (A1 := A1) (n1 := n1) (c1 := c1) (A2 := A2) (n2 := n2) (c2 := c2) (vars := vars) (classes := classes) (cd := 12) (oa := oa) (ob := ob))
  unfold Al
  have HT := hid (takes_c (.slice A2 n2 c2) (.int .i64 vars) (.int .i64 classes) A1 c1 lits oa ob _ (h.l.grew HG.out) h.ha.1 h.hb.1 (h.mx.grew HG.out))
  rw [← h.hn1] at HT
  generalize takesB lits oa ob = b at *
  unfold alW at HG HT
  rw [show (((12 : Nat) : Nat) : Int) = 12 from rfl] at HG HT ⊢
  clear h
  go_enter Tryz.func108, Tryz.ntmps108
  go_wp2_with fail
  refine HT.out.mono ?_
  rintro e w1 ⟨rfl, hg⟩
  go_wp2_with fail
  go_ret
  exact ⟨rfl, HG.out.trans hg⟩
set_option maxRecDepth 100000 in
set_option maxHeartbeats 1000000 in
theorem al_temp5 (h : AlIn w lits vs A1 A2 n1 n2 p oa ob) : Al w A1 n1 c1 A2 n2 c2 vars classes p 5 oa ob (if Mt.up (vs.map (·.p)) oa.toNat p < 0 then false else ((vs.map (·.p))[(Mt.up (vs.map (·.p)) oa.toNat p).toNat]?).elim false (fun x => decide (ob < x.temps))) := by
  have HG := hid (alW_grew (w := w) (A1 := A1) (n1 := n1) (c1 := c1) (A2 := A2) (n2 := n2) (c2 := c2) (vars := vars) (classes := classes) (cd := 5) (oa := oa) (ob := ob))
  unfold Al
  have HO := hid (outward_c (.slice A1 n1 c1) (.int .i64 vars) (.int .i64 classes) A2 c2 vs p oa _ (h.v.grew HG.out) h.heads (.inr ⟨by omega, by have := h.hp; have := h.hn2; omega⟩) h.ha.1 h.ha.2)
  rw [← h.hn2] at HO
  have hpl := up_place h.heads oa.toNat p (.inr ⟨by omega, by have := h.hp; have := h.hn2; omega⟩)
  generalize Mt.up (vs.map (·.p)) oa.toNat p = q at *
  rcases hpl with rfl | ⟨hq1, hq2⟩
  · rw [if_pos (by decide)]
    unfold alW at HG HO
    rw [show (((5 : Nat) : Nat) : Int) = 5 from rfl] at HG HO ⊢
    clear h
    go_enter Tryz.func108, Tryz.ntmps108
    go_wp2_with fail
    refine HO.out.mono ?_
    rintro e w1 ⟨rfl, hg⟩
    have HG1 := hid (HG.out.trans hg)
    clear hg
    go_wp2_with fail
    go_quiet (fail)
    go_wp2_with fail
    go_ret
    exact ⟨rfl, HG1.out.trans (Grew.mk ⟨rfl, rfl, rfl, Nat.le_refl _, fun _ _ => rfl⟩)⟩
  · obtain ⟨k, rfl⟩ : ∃ k : Nat, q = k := ⟨q.toNat, by omega⟩
    rw [if_neg (by omega), Int.toNat_natCast, List.getElem?_map]
    have hk : k < vs.length := by omega
    have HV := hid h.v
    obtain ⟨v0, hv0⟩ : ∃ v0, vs[k]? = some v0 := ⟨_, List.getElem?_eq_getElem hk⟩
    rw [hv0]
    show Calls _ _ _ _ (AlPost w (decide (ob < v0.p.temps)))
    have HV0 := hid hv0
    have f1 : ((((k : Nat) : Int)) == -1) = false := by rw [beq_eq_false_iff_ne]; omega
    have f2 : ((k : Nat) : Int) < (n2 : Int) := by have := h.hn2; omega
    have HK := hid hk
    unfold alW at HG HO
    rw [show (((5 : Nat) : Nat) : Int) = 5 from rfl] at HG HO ⊢
    clear h hv0 hk hq1 hq2
    go_enter Tryz.func108, Tryz.ntmps108
    go_wp2_with fail
    refine HO.out.mono ?_
    rintro e w1 ⟨rfl, y, rfl⟩
    have HG1 := hid (HG.out.trans y.grew)
    obtain ⟨ad, v, rfl, hv, _, _, q2, _, _⟩ := pv_at HV.out HG1.out (i := k) HK.out
    rw [HV0.out] at hv
    obtain rfl := Option.some.inj hv
    clear hv
    generalize v0.p.temps = tv at *
    go_wp2_with fail
    go_quiet (fail)
    go_wp2_with fail
    go_ret
    exact ⟨rfl, HG1.out.trans (Grew.mk ⟨rfl, rfl, rfl, Nat.le_refl _, fun _ _ => rfl⟩)⟩
set_option maxRecDepth 100000 in
set_option maxHeartbeats 1000000 in
theorem al_temp6 (h : AlIn w lits vs A1 A2 n1 n2 p oa ob) : Al w A1 n1 c1 A2 n2 c2 vars classes p 6 oa ob (if Mt.up (vs.map (·.p)) oa.toNat p < 0 then false else ((vs.map (·.p))[(Mt.up (vs.map (·.p)) oa.toNat p).toNat]?).elim false (fun x => decide (ob < x.temps))) := by
  have HG := hid (alW_grew (w := w) (A1 := A1) (n1 := n1) (c1 := c1) (A2 := A2) (n2 := n2) (c2 := c2) (vars := vars) (classes := classes) (cd := 6) (oa := oa) (ob := ob))
  unfold Al
  have HO := hid (outward_c (.slice A1 n1 c1) (.int .i64 vars) (.int .i64 classes) A2 c2 vs p oa _ (h.v.grew HG.out) h.heads (.inr ⟨by omega, by have := h.hp; have := h.hn2; omega⟩) h.ha.1 h.ha.2)
  rw [← h.hn2] at HO
  have hpl := up_place h.heads oa.toNat p (.inr ⟨by omega, by have := h.hp; have := h.hn2; omega⟩)
  generalize Mt.up (vs.map (·.p)) oa.toNat p = q at *
  rcases hpl with rfl | ⟨hq1, hq2⟩
  · rw [if_pos (by decide)]
    unfold alW at HG HO
    rw [show (((6 : Nat) : Nat) : Int) = 6 from rfl] at HG HO ⊢
    clear h
    go_enter Tryz.func108, Tryz.ntmps108
    go_wp2_with fail
    refine HO.out.mono ?_
    rintro e w1 ⟨rfl, hg⟩
    have HG1 := hid (HG.out.trans hg)
    clear hg
    go_wp2_with fail
    go_quiet (fail)
    go_wp2_with fail
    go_ret
    exact ⟨rfl, HG1.out.trans (Grew.mk ⟨rfl, rfl, rfl, Nat.le_refl _, fun _ _ => rfl⟩)⟩
  · obtain ⟨k, rfl⟩ : ∃ k : Nat, q = k := ⟨q.toNat, by omega⟩
    rw [if_neg (by omega), Int.toNat_natCast, List.getElem?_map]
    have hk : k < vs.length := by omega
    have HV := hid h.v
    obtain ⟨v0, hv0⟩ : ∃ v0, vs[k]? = some v0 := ⟨_, List.getElem?_eq_getElem hk⟩
    rw [hv0]
    show Calls _ _ _ _ (AlPost w (decide (ob < v0.p.temps)))
    have HV0 := hid hv0
    have f1 : ((((k : Nat) : Int)) == -1) = false := by rw [beq_eq_false_iff_ne]; omega
    have f2 : ((k : Nat) : Int) < (n2 : Int) := by have := h.hn2; omega
    have HK := hid hk
    unfold alW at HG HO
    rw [show (((6 : Nat) : Nat) : Int) = 6 from rfl] at HG HO ⊢
    clear h hv0 hk hq1 hq2
    go_enter Tryz.func108, Tryz.ntmps108
    go_wp2_with fail
    refine HO.out.mono ?_
    rintro e w1 ⟨rfl, y, rfl⟩
    have HG1 := hid (HG.out.trans y.grew)
    obtain ⟨ad, v, rfl, hv, _, _, q2, _, _⟩ := pv_at HV.out HG1.out (i := k) HK.out
    rw [HV0.out] at hv
    obtain rfl := Option.some.inj hv
    clear hv
    generalize v0.p.temps = tv at *
    go_wp2_with fail
    go_quiet (fail)
    go_wp2_with fail
    go_ret
    exact ⟨rfl, HG1.out.trans (Grew.mk ⟨rfl, rfl, rfl, Nat.le_refl _, fun _ _ => rfl⟩)⟩
set_option maxRecDepth 100000 in
set_option maxHeartbeats 1000000 in
theorem al_block (h : AlIn w lits vs A1 A2 n1 n2 p oa ob) : Al w A1 n1 c1 A2 n2 c2 vars classes p 16 oa ob (((vs.map (·.p))[oa.toNat]?).elim false (fun x => decide (x.outer = ((p : Nat) : Int)))) := by
  have HG := hid (alW_grew (w := w) (A1 := A1) (n1 := n1) (c1 := c1) (A2 := A2) (n2 := n2) (c2 := c2) (vars := vars) (classes := classes) (cd := 16) (oa := oa) (ob := ob))
  unfold Al
  have h1 := h.hn2
  obtain ⟨k, rfl⟩ : ∃ k : Nat, oa = k := ⟨oa.toNat, by have := h.ha.1; omega⟩
  rw [Int.toNat_natCast, List.getElem?_map]
  by_cases hk : k < n2
  · obtain ⟨ad, v, rfl, hv, q0, _, _, _, _⟩ := pv_at h.v HG.out (i := k) (by omega)
    rw [hv]
    show Calls _ _ _ _ (AlPost w (decide (v.p.outer = ((p : Nat) : Int))))
    generalize v.p.outer = ou at *
    unfold alW at q0 HG
    rw [show (((16 : Nat) : Nat) : Int) = 16 from rfl] at HG q0 ⊢
    have f1 : (k : Int) < (n2 : Int) := by omega
    have hd : decide (ou = ((p : Nat) : Int)) = (ou == ((p : Nat) : Int)) := by rw [Bool.eq_iff_iff, decide_eq_true_iff, beq_iff_eq]
    rw [hd]
    clear h hv h1 hk hd
    go_enter Tryz.func108, Tryz.ntmps108
    go_wp2_with fail
    go_ret
    exact ⟨rfl, HG.out⟩
  · rw [List.getElem?_eq_none (by omega)]
    have f1 : ¬ (k : Int) < (n2 : Int) := by omega
    unfold alW at HG
    rw [show (((16 : Nat) : Nat) : Int) = 16 from rfl] at HG ⊢
    clear h h1 hk
    go_enter Tryz.func108, Tryz.ntmps108
    go_wp2_with fail
    go_ret
    exact ⟨rfl, HG.out⟩
/-- All codes. -/
theorem allows_c (h : AlIn w lits vs A1 A2 n1 n2 p oa ob) (cd : Nat) : Al w A1 n1 c1 A2 n2 c2 vars classes p cd oa ob (Mt.fits ⟨sel, lits, vs.map (·.p)⟩ p ⟨cd, oa, ob⟩ vars classes) := by
  by_cases hc : cd ≠ 4 ∧ cd ≠ 5 ∧ cd ≠ 6 ∧ cd ≠ 7 ∧ cd ≠ 8 ∧ cd ≠ 11 ∧ cd ≠ 12 ∧ cd ≠ 16 ∧ cd ≠ 18 ∧ cd ≠ 19 ∧ cd ≠ 20
  · have : Mt.fits ⟨sel, lits, vs.map (·.p)⟩ p ⟨cd, oa, ob⟩ vars classes = true := by
      unfold Mt.fits
      simp only
      rw [if_neg (by omega), if_neg (by omega), if_neg (by omega), if_neg (by omega), if_neg (by omega), if_neg (by omega), if_neg (by omega), if_neg (by omega)]
    rw [this]
    exact al_other h hc
  · rcases (by omega : cd = 4 ∨ cd = 5 ∨ cd = 6 ∨ cd = 7 ∨ cd = 8 ∨ cd = 11 ∨ cd = 12 ∨ cd = 16 ∨ cd = 18 ∨ cd = 19 ∨ cd = 20) with rfl | rfl | rfl | rfl | rfl | rfl | rfl | rfl | rfl | rfl | rfl
    · exact al_lit h
    · exact al_temp5 h
    · exact al_temp6 h
    · exact al_var7 h
    · exact al_var8 h
    · exact al_send11 h
    · exact al_send12 h
    · exact al_block h
    · exact al_me h
    · exact al_home h
    · exact al_class h
end
end Go.Proofs.YtjladeiecokpfaaGreatDoor
