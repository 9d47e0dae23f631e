/- Stage 8: the program's own successors and isJoin. -/
import Derived.Test.YtilikjfjbnabfaaGreatDoorFl2
namespace Go.Proofs.YtilikjfjbnabfaaGreatDoor
open Go.RowKit

/-- The decoded code in memory. -/
structure CodeAt (w : World) (A1 : Option Addr) (A2 : Option Addr) (c2 n : Nat) (l : List Op7.Ins) (os : List Nat) : Prop where
  ops : OpsAt w w.heap.size A1 l
  offs : RowN w 0 A2 c2 os
  l1 : n = l.length
  l2 : n = os.length
  up : os.Pairwise (· < ·)
  few : n ≤ 512
  fit : ∀ o ∈ l, 0 ≤ o.a ∧ 0 ≤ o.b ∧ o.b ≤ 65536
theorem OpsAt.grew {w w' : World} {A : Option Addr} {l : List Op7.Ins} (h : OpsAt w w.heap.size A l) (hg : Grew w w') : OpsAt w' w'.heap.size A l := by
  refine ⟨h.1, fun hn => ?_⟩
  obtain ⟨ad, e, hb, hc⟩ := h.2 hn
  exact ⟨ad, e, Nat.lt_of_lt_of_le hb hg.below.size, fun i o ho j u hu => by rw [hg.below.cell (by rw [block_add]; exact hb)]; exact hc i o ho j u hu⟩
theorem CodeAt.grew {w w' : World} {A1 A2 : Option Addr} {c2 n : Nat} {l : List Op7.Ins} {os : List Nat} (h : CodeAt w A1 A2 c2 n l os) (hg : Grew w w') : CodeAt w' A1 A2 c2 n l os :=
  ⟨h.ops.grew hg, h.offs.grew hg, h.l1, h.l2, h.up, h.few, h.fit⟩
theorem code_at {w : World} {A1 A2 : Option Addr} {c2 n : Nat} {l : List Op7.Ins} {os : List Nat} (h : CodeAt w A1 A2 c2 n l os) (x : Int) (n1 c1 : Nat) : Calls Tryz.prog 42 #[.agg #[.slice A1 n1 c1, .slice A2 n c2], .int .i64 x] w (AtPost w (Fl.place os x)) :=
  at_c _ A2 c2 n os h.l2 x 0 w h.offs h.up (by rw [← h.l2]; have := h.few; omega) ⟨A1, n1, c1, rfl⟩

/-- What 'successors' answers. -/
def SuccPost (w : World) (r : Option (List Nat)) (e : Ending) (w' : World) : Prop := ∃ (A : Option Addr) (c : Nat) (b : Bool) (s : List Nat), e = .returned (.tuple #[.slice A (List.length s) c, .bool b]) ∧ r = (if b then some s else none) ∧ RowN w' w.heap.size A c s ∧ Grew w w'
theorem SuccPost.no {w w' : World} {r : Option (List Nat)} (hr : r = none) (hg : Grew w w') : SuccPost w r (.returned (.tuple #[.slice none 0 0, .bool false])) w' := ⟨none, 0, false, [], rfl, hr, RowN.nil _ _, hg⟩
theorem wpList_pushN0 {ops : Array Oper} {rest : List Oper} {o : Oper} {a : Act} {Q : Exit → Act → World → Prop} (w : World) (hgd : o.guard = none) (s x : Operand)
    (ho : o.op = .call { callee := .builtin .append, args := #[s, x], argTypes := #[24, 24] })
    (B : Nat) (hB : B ≤ w.heap.size) (hs : a.eval s = .slice none 0 0) (v H : Nat) (hH : w.heap.size = H) (hxv : a.eval x = .slice (some ⟨H, 0, none⟩) 1 1) (u : Value) (hu : u = .int .i64 ((v : Nat) : Int))
    (h : ∀ A' c' w', RowN w' B A' c' [v] → Grew w w' → wpList Tryz.prog ops Q rest (a.put o.dst (.slice A' 1 c')) w') : wpList Tryz.prog ops Q (o :: rest) a (w.alloc (.cells #[u] 3)) :=
  wpList_pushN w hgd s x ho B hB none 0 [] 0 rfl hs (RowN.nil _ _) v H hH hxv u hu (by decide) fun A' c' w' r1 r2 _ => h A' c' w' r1 (r2.grew (Grew.refl w) (by rintro k ⟨_, h, _⟩; cases h))
/-- Sorted and compacted, the two calls. -/
theorem norm_calls (A : Option Addr) (c : Nat) (xs : List Nat) (w0 w : World) (hg : Grew w0 w) (h : RowN w w0.heap.size A c xs) (hl : xs.length ≤ 2) :
    Calls Tryz.prog 43 #[.slice A xs.length c] w fun e w' => e = .returned (.tuple #[]) ∧ Grew w0 w' ∧
      Calls Tryz.prog 44 #[.slice A xs.length c] w' fun e w'' => ∃ s, e = .returned (.slice A (List.length s) c) ∧ s = Fl.norm xs ∧ RowN w'' w0.heap.size A c s ∧ Grew w0 w'' := by
  refine (sort_c A c xs _ w h hl).mono ?_
  rintro e w' ⟨rfl, r1, r2⟩
  have hg1 := r2.grew hg (Row.at_base h)
  refine ⟨rfl, hg1, ?_⟩
  have := compact_c A c (sort2 xs) _ w' r1 (by rw [sort2_len]; exact hl)
  rw [sort2_len] at this
  refine this.mono ?_
  rintro e w'' ⟨rfl, r3, r4⟩
  exact ⟨_, rfl, (norm_eq xs).symm, r3, r4.grew hg1 (Row.at_base r1)⟩
set_option maxRecDepth 100000 in
set_option maxHeartbeats 2000000 in
theorem succ_c (A1 : Option Addr) (c1 : Nat) (A2 : Option Addr) (c2 n : Nat) (l : List Op7.Ins) (os : List Nat) (i : Nat) (w : World) (h : CodeAt w A1 A2 c2 n l os) (hi : i < n) :
    Calls Tryz.prog 21 #[.agg #[.slice A1 n c1, .slice A2 n c2], .int .i64 (i : Nat)] w (SuccPost w (Fl.succ l os i)) := by
  have H := hid h
  have hn := h.few
  obtain ⟨o, ho⟩ : ∃ o, l[i]? = some o := ⟨_, List.getElem?_eq_getElem (show i < l.length by rw [← h.l1]; exact hi)⟩
  obtain ⟨ad, rfl, hb, hc⟩ := h.ops.2 (by rw [← h.l1]; omega)
  obtain ⟨q0, q1, q2⟩ := op_cell (o := o) (i := i) (ad := ad) (w := w) (hc i o ho)
  have HS : Hid (Fl.succ l os i = Fl.succO os n i o) := hid (by unfold Fl.succ; rw [ho, ← h.l1]; rfl)
  have HC := hid (fun w' => continues_c o w')
  clear hc ho h
  have f1 : (i : Int) < n := by omega
  unfold opCells at HC
  obtain ⟨cd, oa, ob⟩ := o
  simp only at HC q0 q1 q2
  have HL : Hid (∀ p, Fl.nextOf n i ⟨cd, oa, ob⟩ = some p → Fl.succO os n i ⟨cd, oa, ob⟩ = if Fl.jumps cd then (Fl.place os oa).map fun t => Fl.norm (p ++ [t]) else some (Fl.norm p)) := hid (by
    intro p hp
    unfold Fl.succO
    rw [hp, Option.bind_some])
  have HN : Hid (Fl.nextOf n i ⟨cd, oa, ob⟩ = if Fl.cont cd then (if i + 1 = n then none else some [i + 1]) else some []) := hid rfl
  have HJ : Hid (Fl.jumps cd = (cd == 13 || cd == 14)) := hid rfl
  have HZ : Hid (Fl.nextOf n i ⟨cd, oa, ob⟩ = none → Fl.succ l os i = none) := hid (by
    intro hp
    rw [HS.out]
    unfold Fl.succO
    rw [hp]; rfl)
  have HK1 : cd = 13 → Fl.cont cd = false := fun h => by rw [h]; rfl
  have HK2 : cd = 14 → Fl.cont cd = true := fun h => by rw [h]; rfl
  have hgA := hid (((Grew.refl w).alloc (.cells #[.slice (some ad) n c1, .slice A2 n c2] 54)).alloc (.cells #[.int .u8 ((cd : Nat) : Int), .int .i64 oa, .int .i64 ob] 51))
  generalize Fl.cont cd = ct at *
  by_cases h13 : cd = 13
  · have e13 : (((cd : Nat) : Int) == 13) = true := by rw [beq_iff_eq]; omega
    obtain rfl : ct = false := HK1 h13
    have HX := hid (HL.out [] (by rw [HN.out]; rfl))
    rw [show Fl.jumps cd = true by rw [HJ.out, h13]; rfl, if_pos rfl, ← HS.out] at HX
    clear HL HN HS HZ HJ HK1 HK2 h13
    go_enter Tryz.func21, Tryz.ntmps21
    go_wp2_with fail
    refine (Calls.after (Grew.refl _) (HC.out _)).mono ?_
    rintro e w1 ⟨rfl, y1, rfl⟩
    have G1 := hid (hgA.out.trans y1.grew)
    go_wp2_with fail
    refine (code_at (H.out.grew G1.out) oa n c1).mono ?_
    rintro e w2 ⟨k, b, rfl, hr, hg2⟩
    have HR := hid hr
    have G2 := hid (G1.out.trans hg2)
    clear hr
    cases b
    · go_wp2_with fail
      go_ret2
      exact SuccPost.no (by rw [HX.out, HR.out]; rfl) G2.out
    · go_wp2_with (at_builtin; refine wpList_pushN0 w2 rfl _ _ rfl w.heap.size G2.out.below.size rfl k _ rfl rfl _ rfl ?_; rintro A3 c3 W3 hO3 hg3; have HO3 := hid hO3; have G3 := hid (G2.out.trans hg3); clear hO3 hg3)
      refine (norm_calls A3 c3 [k] w _ G3.out HO3.out (by simp)).mono ?_
      rintro e wa ⟨rfl, hga, hca⟩
      have HCA := hid hca
      clear hca
      go_wp2_with fail
      refine HCA.out.mono ?_
      rintro e wb ⟨s, rfl, hs, hO, hgb⟩
      replace hs := hid hs
      have HO := hid hO
      clear hO HCA
      go_wp2_with fail
      go_ret2
      exact ⟨_, _, true, s, rfl, by rw [hs.out]; exact show Fl.succ l os i = some _ by rw [HX.out, HR.out]; rfl, HO.out, hgb⟩
  by_cases hct : ct = false
  · subst hct
    have h14 : cd ≠ 14 := fun h => by have := HK2 h; cases this
    have e13 : (((cd : Nat) : Int) == 13) = false := by rw [beq_eq_false_iff_ne]; omega
    have e14 : (((cd : Nat) : Int) == 14) = false := by rw [beq_eq_false_iff_ne]; omega
    have HX := hid (HL.out [] (by rw [HN.out]; rfl))
    rw [show Fl.jumps cd = false by rw [HJ.out]; simp [h13, h14], if_neg (by decide), ← HS.out] at HX
    clear HL HN HS HZ HJ HK1 HK2 h13
    go_enter Tryz.func21, Tryz.ntmps21
    go_wp2_with fail
    refine (Calls.after (Grew.refl _) (HC.out _)).mono ?_
    rintro e w1 ⟨rfl, y1, rfl⟩
    have G1 := hid (hgA.out.trans y1.grew)
    go_wp2_with fail
    refine (norm_calls none 0 [] w _ G1.out (RowN.nil _ _) (by decide)).mono ?_
    rintro e wa ⟨rfl, hga, hca⟩
    have HCA := hid hca
    clear hca
    go_wp2_with fail
    refine HCA.out.mono ?_
    rintro e wb ⟨s, rfl, hs, hO, hgb⟩
    replace hs := hid hs
    have HO := hid hO
    clear hO HCA
    go_wp2_with fail
    go_ret2
    exact ⟨_, _, true, s, rfl, by rw [hs.out]; exact HX.out, HO.out, hgb⟩
  obtain rfl : ct = true := by cases ct <;> simp_all
  by_cases hin : i + 1 = n
  · have f2 : (i : Int) + 1 = n := by omega
    have HX := hid (HZ.out (by rw [HN.out, if_pos rfl, if_pos hin]))
    clear HL HN HS HZ HJ HK1 HK2 h13
    go_enter Tryz.func21, Tryz.ntmps21
    go_wp2_with fail
    refine (Calls.after (Grew.refl _) (HC.out _)).mono ?_
    rintro e w1 ⟨rfl, y1, rfl⟩
    have G1 := hid (hgA.out.trans y1.grew)
    go_wp2_with fail
    go_ret2
    exact SuccPost.no HX.out G1.out
  have f2 : ¬ ((i : Int) + 1 = n) := by omega
  have e13 : (((cd : Nat) : Int) == 13) = false := by rw [beq_eq_false_iff_ne]; omega
  by_cases h14 : cd = 14
  · have e14 : (((cd : Nat) : Int) == 14) = true := by rw [beq_iff_eq]; omega
    have HX := hid (HL.out [i + 1] (by rw [HN.out, if_pos rfl, if_neg hin]))
    rw [show Fl.jumps cd = true by rw [HJ.out, h14]; rfl, if_pos rfl, ← HS.out] at HX
    clear HL HN HS HZ HJ HK1 HK2 h13 hin h14
    go_enter Tryz.func21, Tryz.ntmps21
    go_wp2_with fail
    refine (Calls.after (Grew.refl _) (HC.out _)).mono ?_
    rintro e w1 ⟨rfl, y1, rfl⟩
    have G1 := hid (hgA.out.trans y1.grew)
    go_wp2_with (at_builtin; refine wpList_pushN0 y1.w rfl _ _ rfl w.heap.size G1.out.below.size rfl (i + 1) _ rfl rfl _ (by congr 1) ?_; rintro A3 c3 W3 hO3 hg3; obtain ⟨y3, rfl⟩ := y1.grew.trans hg3; have HO3 := hid hO3; have G3 := hid (G1.out.trans hg3); clear hO3 hg3)
    refine (code_at (H.out.grew G3.out) oa n c1).mono ?_
    rintro e w2 ⟨k, b, rfl, hr, hg2⟩
    have HR := hid hr
    have G2 := hid (G3.out.trans hg2)
    have HO4 := hid (HO3.out.grew hg2)
    clear hr
    cases b
    · go_wp2_with fail
      go_ret2
      exact SuccPost.no (by rw [HX.out, HR.out]; rfl) G2.out
    · go_wp2_with (at_builtin; refine wpList_pushN w2 rfl _ _ rfl w.heap.size G2.out.below.size A3 c3 [i + 1] 1 rfl rfl HO4.out k _ rfl rfl _ rfl (by decide) ?_; rintro A5 c5 W5 hO5 hK5 hT5; have HO5 := hid hO5; have G5 := hid (hK5.grew G2.out (Row.at_base HO4.out)); clear hO5 hK5 hT5)
      refine (norm_calls A5 c5 [i + 1, k] w _ G5.out HO5.out (by simp)).mono ?_
      rintro e wa ⟨rfl, hga, hca⟩
      have HCA := hid hca
      clear hca
      go_wp2_with fail
      refine HCA.out.mono ?_
      rintro e wb ⟨s, rfl, hs, hO, hgb⟩
      replace hs := hid hs
      have HO := hid hO
      clear hO HCA
      go_wp2_with fail
      go_ret2
      exact ⟨_, _, true, s, rfl, by rw [hs.out]; exact show Fl.succ l os i = some _ by rw [HX.out, HR.out]; rfl, HO.out, hgb⟩
  · have e14 : (((cd : Nat) : Int) == 14) = false := by rw [beq_eq_false_iff_ne]; omega
    have HX := hid (HL.out [i + 1] (by rw [HN.out, if_pos rfl, if_neg hin]))
    rw [show Fl.jumps cd = false by rw [HJ.out]; simp [h13, h14], if_neg (by decide), ← HS.out] at HX
    clear HL HN HS HZ HJ HK1 HK2 h13 hin
    go_enter Tryz.func21, Tryz.ntmps21
    go_wp2_with fail
    refine (Calls.after (Grew.refl _) (HC.out _)).mono ?_
    rintro e w1 ⟨rfl, y1, rfl⟩
    have G1 := hid (hgA.out.trans y1.grew)
    go_wp2_with (at_builtin; refine wpList_pushN0 y1.w rfl _ _ rfl w.heap.size G1.out.below.size rfl (i + 1) _ rfl rfl _ (by congr 1) ?_; rintro A3 c3 W3 hO3 hg3; obtain ⟨y3, rfl⟩ := y1.grew.trans hg3; have HO3 := hid hO3; have G3 := hid (G1.out.trans hg3); clear hO3 hg3)
    refine (norm_calls A3 c3 [i + 1] w _ G3.out HO3.out (by simp)).mono ?_
    rintro e wa ⟨rfl, hga, hca⟩
    have HCA := hid hca
    clear hca
    go_wp2_with fail
    refine HCA.out.mono ?_
    rintro e wb ⟨s, rfl, hs, hO, hgb⟩
    replace hs := hid hs
    have HO := hid hO
    clear hO HCA
    go_wp2_with fail
    go_ret2
    exact ⟨_, _, true, s, rfl, by rw [hs.out]; exact HX.out, HO.out, hgb⟩
end Go.Proofs.YtilikjfjbnabfaaGreatDoor
