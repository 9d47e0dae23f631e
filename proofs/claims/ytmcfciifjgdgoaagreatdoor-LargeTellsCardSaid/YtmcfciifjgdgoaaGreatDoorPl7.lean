/- The developers' large numbers, part 7: the words limited, the sum of two. -/
import Derived.Test.YtmcfciifjgdgoaaGreatDoorPl3
import Derived.Test.YtmcfciifjgdgoaaGreatDoorPl5
import Derived.Test.YtmcfciifjgdgoaaGreatDoorPl6
import Derived.Test.YtmcfciifjgdgoaaGreatDoorLgA
import Derived.Deep.RegionHeld3
namespace Go.Proofs.YtmcfciifjgdgoaaGreatDoor
open Go.RowKit

theorem cut_rep (neg : Bool) {xs : List Nat} (ll : Dg.Low 4294967296 xs) : Lg.Rep (neg && decide (0 < (Dg.cut xs).length)) (Dg.cut xs) (Lg.sgn neg (Dg.val 4294967296 xs)) := by
  have ht := Dg.cut_top xs
  have hl := Dg.cut_low ll
  have hv := Dg.cut_val 4294967296 xs
  refine ⟨hl, ht, by rw [Lg.sgn_abs, hv], ?_⟩
  rw [← Lg.sgn_neg]
  congr 1
  rw [decide_eq_decide, ← hv]
  constructor
  · intro h
    have := Dg.val_pos (B := 4294967296) (by decide) ht (by intro e; rw [e] at h; simp at h)
    omega
  · intro h
    rcases Nat.eq_zero_or_pos (Dg.cut xs).length with h0 | h0
    · exact absurd (by rw [List.eq_nil_of_length_eq_zero h0]; rfl) h
    · exact h0

set_option maxHeartbeats 2000000 in
/-- The words are kept, or the error comes with nothing. -/
theorem plimited_c (neg : Bool) (A : Option Addr) (c : Nat) (xs : List Nat) (w0 w : World) (h : OwnNums .u32 w0 w 55 A c xs) (hl : Dg.Low 4294967296 xs) (hn : xs.length ≤ 1000000) :
    Calls Tryz.prog 32 #[.bool neg, .slice A xs.length c] w fun e w' => ∃ A' c' ng L k, e = .returned (.tuple #[.agg #[.bool ng, .slice A' L.length c'], errVal k]) ∧ OwnNums .u32 w0 w' 55 A' c' L ∧ Lg.Out (Lg.sgn neg (Dg.val 4294967296 xs)) ng L k ∧ Grew w w' := by
  have HO := hid h
  have HR := hid (cut_rep neg hl)
  have HC := hid (show OwnNums .u32 w0 w 55 A c (Dg.cut xs) by rw [Dg.cut_take]; exact h.take _)
  have CS := hid (psigned_c neg A c xs w0 (w.alloc (.cells #[.bool false, .slice none 0 0] 27)) (h.alloc _) hn)
  generalize (neg && decide (0 < (Dg.cut xs).length)) = ng at *
  generalize Dg.cut xs = L at *
  clear h
  go_enter Tryz.func32, Tryz.ntmps32
  go_wp2_with fail
  refine CS.out.mono ?_
  rintro e w1 ⟨rfl, y, rfl⟩
  have b0 : y.w.cell? ⟨w.heap.size, 0, none⟩ = some (.bool false) := by rw [y.cell _ (by simp)]; simp
  have b1 : y.w.cell? ⟨w.heap.size, 1, none⟩ = some (.slice none 0 0) := by rw [y.cell _ (by simp)]; simp
  have fr : ∀ i, y.w.frozen? ⟨w.heap.size, i, none⟩ = false := fun i => by rw [y.frozen _ (by simp)]; simp
  have hlt : w.heap.size < y.w.heap.size := by have := y.b.size; simp at this; omega
  have hG := hid (show Grew w y.w from ((Grew.refl w).alloc _).trans y.grew)
  have HC2 := hid (HC.out.grew hG.out)
  by_cases hb : 64 < L.length
  · have hb' : (64 : Int) < (L.length : Int) := by omega
    go_wp2_with fail
    refine bodyPost_ret (v := .tuple #[.agg #[.bool false, .slice none 0 0], .iface 56 (.int .i64 4)]) (by simp [results, Tryz.results32, go_sem, *]) rfl ?_
    exact ⟨none, 0, false, [], 4, rfl, OwnNums.nil _ _ _ _, Lg.Out.of_long HR.out hb, ((hG.out.setCell (Nat.le_refl _) _).setCell (Nat.le_refl _) _).alloc _⟩
  · have hb' : ¬ (64 : Int) < (L.length : Int) := by omega
    go_wp2_with fail
    have HF := hid (show ∀ g, A = some ⟨g, 0, none⟩ → g ≠ w.heap.size from fun g hA => by
      have := (World.ownsRow.lt HC.out) g (by rw [hA]; rfl)
      omega)
    refine bodyPost_ret (v := .tuple #[.agg #[.bool ng, .slice A L.length c], .nilIface]) (by simp [results, Tryz.results32, go_sem, *]) rfl ?_
    exact ⟨A, c, ng, L, 0, rfl, ((HC2.out.far (fun g hA => HF.out g hA) _).far (fun g hA => HF.out g hA) _).alloc _, Lg.Out.of_rep HR.out (by omega), ((hG.out.setCell (Nat.le_refl _) _).setCell (Nat.le_refl _) _).alloc _⟩

theorem cell_far2 {W : World} {b : Nat} {q : Addr} {u v : Value} (h : q.block ≠ b) : ((W.setCell ⟨b, 0, none⟩ u).setCell ⟨b, 1, none⟩ v).cell? q = W.cell? q :=
  (World.cell?_of_block (Below.heap_setCell _ ⟨b, 1, none⟩ v q.block h)).trans (World.cell?_of_block (Below.heap_setCell _ ⟨b, 0, none⟩ u q.block h))
theorem ne_two (n : Nat) : n ≠ n + 1 + 1 ∧ n + 1 ≠ n + 1 + 1 := by omega
theorem box_free (w : World) (t1 t2 t3 : TypeId) (c1 c2 c3 : Array Value) (i : Nat) : (((w.alloc (.cells c1 t1)).alloc (.cells c2 t2)).alloc (.cells c3 t3)).frozen? ⟨w.heap.size, i, none⟩ = false ∧ (((w.alloc (.cells c1 t1)).alloc (.cells c2 t2)).alloc (.cells c3 t3)).frozen? ⟨w.heap.size + 1, i, none⟩ = false :=
  ⟨((Blk.new w t1 c1).grew (((Grew.refl _).alloc _).alloc _)).frozen i, by
    have := ((Blk.new (w.alloc (.cells c1 t1)) t2 c2).grew ((Grew.refl _).alloc (.cells c3 t3))).frozen i
    rwa [World.size_alloc] at this⟩
theorem swap4 {W : World} {H : Nat} {a0 a1 b1 u0 u1 v0 v1 : Value} (ha0 : W.cell? ⟨H, 0, none⟩ = some a0) (ha1 : W.cell? ⟨H, 1, none⟩ = some a1) (hb1 : W.cell? ⟨H + 1, 1, none⟩ = some b1) :
    let ws := (((W.setCell ⟨H, 0, none⟩ u0).setCell ⟨H, 1, none⟩ u1).setCell ⟨H + 1, 0, none⟩ v0).setCell ⟨H + 1, 1, none⟩ v1
    ws.cell? ⟨H, 0, none⟩ = some u0 ∧ ws.cell? ⟨H, 1, none⟩ = some u1 ∧ ws.cell? ⟨H + 1, 1, none⟩ = some v1 ∧ (∀ i, ws.cell? ⟨H + 1 + 1, i, none⟩ = W.cell? ⟨H + 1 + 1, i, none⟩) ∧ (∀ a, ws.frozen? a = W.frozen? a) ∧ ws.heap.size = W.heap.size := by
  intro ws
  have e1 : (W.setCell ⟨H, 0, none⟩ u0).cell? ⟨H, 0, none⟩ = some u0 := World.cell?_setCell_same' _ _ _ (by rw [ha0]; rfl)
  have n1 : H ≠ H + 1 := by omega
  refine ⟨?_, ?_, ?_, ?_, ?_, ?_⟩
  · exact (cell_far2 n1).trans ((World.cell?_setCell_other _ _ _ _ (by simp)).trans e1)
  · exact (cell_far2 n1).trans (World.cell?_setCell_same' _ _ _ (by rw [World.cell?_setCell_other _ _ _ _ (by simp), ha1]; rfl))
  · exact World.cell?_setCell_same' _ _ _ (by rw [World.cell?_setCell_other _ _ _ _ (by simp), cell_far2 n1.symm, hb1]; rfl)
  · intro i
    exact (cell_far2 (ne_two H).2.symm).trans (cell_far2 (ne_two H).1.symm)
  · intro a
    simp [ws]
  · simp [ws]
theorem sgn_same (na : Bool) (x y : Nat) : Lg.sgn na (x + y) = Lg.sgn na x + Lg.sgn na y := by cases na <;> simp [Lg.sgn] <;> omega
theorem sgn_less (na : Bool) {x y z : Nat} (h : z + y = x) : Lg.sgn na z = Lg.sgn na x + Lg.sgn (!na) y := by cases na <;> simp [Lg.sgn] <;> omega

set_option maxRecDepth 100000 in
set_option maxHeartbeats 4000000 in
/-- Two numbers of the same sign, or of two. -/
theorem psum_c (na : Bool) (A : Option Addr) (c : Nat) (xs : List Nat) (nb : Bool) (B : Option Addr) (d : Nat) (ys : List Nat) (w : World) (ha : NumsAt .u32 w w.heap.size A xs) (hb : NumsAt .u32 w w.heap.size B ys) (lx : Dg.Low 4294967296 xs) (ly : Dg.Low 4294967296 ys) (tx : Dg.Top xs) (ty : Dg.Top ys) (hn : xs.length ≤ 1000) (hm : ys.length ≤ 1000) :
    Calls Tryz.prog 26 #[.agg #[.bool na, .slice A xs.length c], .agg #[.bool nb, .slice B ys.length d]] w fun e w' => ∃ A' c' ng L k, e = .returned (.tuple #[.agg #[.bool ng, .slice A' L.length c'], errVal k]) ∧ OwnNums .u32 w w' 55 A' c' L ∧ Lg.Out (Lg.num na xs + Lg.num nb ys) ng L k ∧ Grew w w' := by
  have HA := hid ha
  have HB := hid hb
  clear ha hb
  have hbox := Box3.mk' w 27 27 27 na A xs.length c nb B ys.length d
  obtain ⟨z, hz⟩ : ∃ z, z = Lg.num na xs + Lg.num nb ys := ⟨_, rfl⟩
  have HZ := hid hz
  rw [← hz]
  clear hz
  by_cases hs : na = nb
  · subst hs
    go_enter Tryz.func26, Tryz.ntmps26
    go_wp2_with fail
    generalize ((w.alloc (.cells #[.bool na, .slice A xs.length c] 27)).alloc (.cells #[.bool na, .slice B ys.length d] 27)).alloc (.cells #[.bool false, .slice none 0 0] 27) = wb at *
    obtain ⟨hg, l0, l1, l2, a0, a1, b0, b1, r0, r1, fr⟩ := hbox
    have HG := hid hg
    clear hg
    go_region_held3 (fun w' => w'.cell? ⟨w.heap.size, 0, none⟩ = some (.bool na) ∧ w'.cell? ⟨w.heap.size, 1, none⟩ = some (.slice A xs.length c) ∧ w'.cell? ⟨w.heap.size + 1, 1, none⟩ = some (.slice B ys.length d))
      (first
        | exact ⟨(y4.cell _ l0).trans a0, (y4.cell _ l0).trans a1, (y4.cell _ l1).trans b1⟩
        | exact ⟨(cell_far2 (ne_two _).1).trans ((y4.cell _ l0).trans a0), (cell_far2 (ne_two _).1).trans ((y4.cell _ l0).trans a1), (cell_far2 (ne_two _).2).trans ((y4.cell _ l1).trans b1)⟩
        | exact ⟨(y3.cell _ l0).trans a0, (y3.cell _ l0).trans a1, (y3.cell _ l1).trans b1⟩
        | go_keep)
      (first
        | (go_at_call 36; ((with_reducible refine (paddMags_c A c xs B d ys _ (HA.out.grew (HG.out.trans (Grew.refl _).drew)) (HB.out.grew (HG.out.trans (Grew.refl _).drew)) lx ly (by omega) (by omega)).mono ?_); rintro e w3 ⟨A3, c3, L3, rfl, hO3, hL3, hv3, hl3, hG3⟩; obtain ⟨y3, rfl⟩ := Grew.trans (show Grew wb wb.drew from (Grew.refl _).drew) hG3; replace hl3 : L3.length ≤ 2001 := (by omega); replace hv3 := hid hv3))
        | (go_at_call 32; ((with_reducible refine (plimited_c na A3 c3 L3 wb.drew _ hO3 hL3 (by omega)).mono ?_); rintro e w4 ⟨A4, c4, n4, L4, k4, rfl, hO4, hU4, hG4⟩; obtain ⟨y4, rfl⟩ := Grew.trans y3.grew hG4)))
    go_wp2_with fail
    have q0 := (y4.cell _ l2).trans r0
    have q1 := (y4.cell _ l2).trans r1
    have qf : ∀ i, y4.w.frozen? ⟨w.heap.size + 1 + 1, i, none⟩ = false := fun i => (y4.frozen _ l2).trans (fr i)
    refine bodyPost_ret (v := .tuple #[.agg #[.bool n4, .slice A4 L4.length c4], errVal k4]) (by simp [results, Tryz.results26, go_sem, *]) rfl ?_
    obtain ⟨h1, h2⟩ := own_back2 HG.out (show OwnNums .u32 wb y4.w 55 A4 c4 L4 from hO4) y4.grew (w.heap.size + 1 + 1) (by omega) l2 (.bool n4) (.slice A4 L4.length c4)
    refine ⟨A4, c4, n4, L4, k4, rfl, h1, ?_, h2⟩
    rw [HZ.out, Lg.num, Lg.num, ← sgn_same, ← hv3.out]
    exact hU4
  · have hnb : nb = !na := by cases na <;> cases nb <;> simp_all
    subst hnb
    have t1 : (na == !na) = false := by cases na <;> rfl
    have hfree := fun i => box_free w 27 27 27 #[.bool na, .slice A xs.length c] #[.bool (!na), .slice B ys.length d] #[.bool false, .slice none 0 0] i
    have CM := hid (pcmpMags_c A c xs B d ys)
    obtain ⟨cv, hcv⟩ : ∃ cv, cv = cmpN (Dg.val 4294967296 xs) (Dg.val 4294967296 ys) := ⟨_, rfl⟩
    have HCV := hid hcv
    rw [← hcv] at CM
    clear hcv hs
    go_enter Tryz.func26, Tryz.ntmps26
    go_wp2_with fail
    generalize ((w.alloc (.cells #[.bool na, .slice A xs.length c] 27)).alloc (.cells #[.bool (!na), .slice B ys.length d] 27)).alloc (.cells #[.bool false, .slice none 0 0] 27) = wb at *
    obtain ⟨hg, l0, l1, l2, a0, a1, b0, b1, r0, r1, fr⟩ := hbox
    have HG := hid hg
    clear hg
    refine (CM.out wb (HA.out.grew HG.out) (HB.out.grew HG.out) lx ly tx ty (by omega)).mono ?_
    rintro e w1 ⟨rfl, y, rfl⟩
    replace a0 := (y.cell _ l0).trans a0
    replace a1 := (y.cell _ l0).trans a1
    replace b0 := (y.cell _ l1).trans b0
    replace b1 := (y.cell _ l1).trans b1
    replace r0 := (y.cell _ l2).trans r0
    replace r1 := (y.cell _ l2).trans r1
    replace fr : ∀ i, y.w.frozen? ⟨w.heap.size + 1 + 1, i, none⟩ = false := fun i => (y.frozen _ l2).trans (fr i)
    have fa : ∀ i, y.w.frozen? ⟨w.heap.size, i, none⟩ = false := fun i => (y.frozen _ l0).trans (hfree i).1
    have fb : ∀ i, y.w.frozen? ⟨w.heap.size + 1, i, none⟩ = false := fun i => (y.frozen _ l1).trans (hfree i).2
    clear hfree
    replace l0 := Nat.lt_of_lt_of_le l0 y.b.size
    replace l1 := Nat.lt_of_lt_of_le l1 y.b.size
    replace l2 := Nat.lt_of_lt_of_le l2 y.b.size
    have HGy := hid (HG.out.trans y.grew)
    clear HG CM
    generalize y.w = wz at *
    by_cases hlt : Dg.val 4294967296 xs < Dg.val 4294967296 ys
    · have hc0 : cv = -1 := by rw [HCV.out, cmpN_lt hlt]
      subst hc0
      have HS := hid (show xs.length ≤ ys.length ∧ Dg.val 4294967296 xs ≤ Dg.val 4294967296 ys from ⟨Dg.len_le (by decide) ly tx (Nat.le_of_lt hlt), Nat.le_of_lt hlt⟩)
      clear hlt HCV
      go_wp2_with fail
      obtain ⟨s0, s1, s2, s3, s4, s5⟩ := swap4 (u0 := .bool !na) (u1 := .slice B ys.length d) (v0 := .bool na) (v1 := .slice A xs.length c) a0 a1 b1
      have HGs : Hid (Grew w ((((wz.setCell ⟨w.heap.size, 0, none⟩ (.bool !na)).setCell ⟨w.heap.size, 1, none⟩ (.slice B ys.length d)).setCell ⟨w.heap.size + 1, 0, none⟩ (.bool na)).setCell ⟨w.heap.size + 1, 1, none⟩ (.slice A xs.length c))) := hid ((((HGy.out.setCell (Nat.le_refl _) _).setCell (Nat.le_refl _) _).setCell (by simp) _).setCell (by simp) _)
      generalize (((wz.setCell ⟨w.heap.size, 0, none⟩ (.bool !na)).setCell ⟨w.heap.size, 1, none⟩ (.slice B ys.length d)).setCell ⟨w.heap.size + 1, 0, none⟩ (.bool na)).setCell ⟨w.heap.size + 1, 1, none⟩ (.slice A xs.length c) = ws at *
      rw [← s5] at l0 l1 l2
      rw [← s3] at r0 r1
      replace fr := fun i => (s4 ⟨w.heap.size + 1 + 1, i, none⟩).trans (fr i)
      clear a0 a1 b0 b1 fa fb s3 s4 s5 HGy
      go_region_held3 (fun w' => w'.cell? ⟨w.heap.size, 0, none⟩ = some (.bool (!na)) ∧ w'.cell? ⟨w.heap.size, 1, none⟩ = some (.slice B ys.length d) ∧ w'.cell? ⟨w.heap.size + 1, 1, none⟩ = some (.slice A xs.length c))
        (first
          | exact ⟨(cell_far2 (ne_two _).1).trans ((y4.cell _ l0).trans s0), (cell_far2 (ne_two _).1).trans ((y4.cell _ l0).trans s1), (cell_far2 (ne_two _).2).trans ((y4.cell _ l1).trans s2)⟩
          | exact ⟨(y4.cell _ l0).trans s0, (y4.cell _ l0).trans s1, (y4.cell _ l1).trans s2⟩
          | exact ⟨(y3.cell _ l0).trans s0, (y3.cell _ l0).trans s1, (y3.cell _ l1).trans s2⟩
          | go_keep)
        (first
          | (go_at_call 37; ((with_reducible refine (psubMags_c B d ys A c xs _ (HB.out.grew (HGs.out.trans (Grew.refl _).drew)) (HA.out.grew (HGs.out.trans (Grew.refl _).drew)) ly lx (by omega) HS.out.1 HS.out.2).mono ?_); rintro e w3 ⟨A3, c3, L3, rfl, hO3, hL3, hv3, hl3, hG3⟩; obtain ⟨y3, rfl⟩ := Grew.trans (show Grew ws (ws).drew from (Grew.refl _).drew) hG3; replace hl3 : L3.length ≤ 2001 := (by omega); replace hv3 := hid hv3))
          | (go_at_call 32; ((with_reducible refine (plimited_c (!na) A3 c3 L3 (ws).drew _ hO3 hL3 (by omega)).mono ?_); rintro e w4 ⟨A4, c4, n4, L4, k4, rfl, hO4, hU4, hG4⟩; obtain ⟨y4, rfl⟩ := Grew.trans y3.grew hG4)))
      go_wp2_with fail
      have q0 := (y4.cell _ l2).trans r0
      have q1 := (y4.cell _ l2).trans r1
      have qf : ∀ i, y4.w.frozen? ⟨w.heap.size + 1 + 1, i, none⟩ = false := fun i => (y4.frozen _ l2).trans (fr i)
      refine bodyPost_ret (v := .tuple #[.agg #[.bool n4, .slice A4 L4.length c4], errVal k4]) (by simp [results, Tryz.results26, go_sem, *]) rfl ?_
      obtain ⟨h1, h2⟩ := own_back2 HGs.out (show OwnNums .u32 ws y4.w 55 A4 c4 L4 from hO4) y4.grew (w.heap.size + 1 + 1) (by omega) l2 (.bool n4) (.slice A4 L4.length c4)
      refine ⟨A4, c4, n4, L4, k4, rfl, h1, ?_, h2⟩
      rw [HZ.out, Lg.num, Lg.num, Int.add_comm, show Lg.sgn na (Dg.val 4294967296 xs) = Lg.sgn (!(!na)) (Dg.val 4294967296 xs) by rw [Bool.not_not], ← sgn_less (!na) hv3.out]
      exact hU4
    · have HS := hid (show ys.length ≤ xs.length ∧ Dg.val 4294967296 ys ≤ Dg.val 4294967296 xs from ⟨Dg.len_le (by decide) lx ty (by omega), by omega⟩)
      have hc0 : 0 ≤ cv := by
        rw [HCV.out]
        rcases Nat.lt_or_ge (Dg.val 4294967296 ys) (Dg.val 4294967296 xs) with h1 | h1
        · rw [cmpN_gt h1]; decide
        · rw [show Dg.val 4294967296 xs = Dg.val 4294967296 ys by omega, cmpN_eq]; decide
      clear hlt HCV
      go_wp2_with fail
      go_region_held3 (fun w' => w'.cell? ⟨w.heap.size, 0, none⟩ = some (.bool na) ∧ w'.cell? ⟨w.heap.size, 1, none⟩ = some (.slice A xs.length c) ∧ w'.cell? ⟨w.heap.size + 1, 1, none⟩ = some (.slice B ys.length d))
        (first
          | exact ⟨(cell_far2 (ne_two _).1).trans ((y4.cell _ l0).trans a0), (cell_far2 (ne_two _).1).trans ((y4.cell _ l0).trans a1), (cell_far2 (ne_two _).2).trans ((y4.cell _ l1).trans b1)⟩
          | exact ⟨(y4.cell _ l0).trans a0, (y4.cell _ l0).trans a1, (y4.cell _ l1).trans b1⟩
          | exact ⟨(y3.cell _ l0).trans a0, (y3.cell _ l0).trans a1, (y3.cell _ l1).trans b1⟩
          | go_keep)
        (first
          | (go_at_call 37; ((with_reducible refine (psubMags_c A c xs B d ys _ (HA.out.grew (HGy.out.trans (Grew.refl _).drew)) (HB.out.grew (HGy.out.trans (Grew.refl _).drew)) lx ly (by omega) HS.out.1 HS.out.2).mono ?_); rintro e w3 ⟨A3, c3, L3, rfl, hO3, hL3, hv3, hl3, hG3⟩; obtain ⟨y3, rfl⟩ := Grew.trans (show Grew wz (wz).drew from (Grew.refl _).drew) hG3; replace hl3 : L3.length ≤ 2001 := (by omega); replace hv3 := hid hv3))
          | (go_at_call 32; ((with_reducible refine (plimited_c na A3 c3 L3 (wz).drew _ hO3 hL3 (by omega)).mono ?_); rintro e w4 ⟨A4, c4, n4, L4, k4, rfl, hO4, hU4, hG4⟩; obtain ⟨y4, rfl⟩ := Grew.trans y3.grew hG4)))
      go_wp2_with fail
      have q0 := (y4.cell _ l2).trans r0
      have q1 := (y4.cell _ l2).trans r1
      have qf : ∀ i, y4.w.frozen? ⟨w.heap.size + 1 + 1, i, none⟩ = false := fun i => (y4.frozen _ l2).trans (fr i)
      refine bodyPost_ret (v := .tuple #[.agg #[.bool n4, .slice A4 L4.length c4], errVal k4]) (by simp [results, Tryz.results26, go_sem, *]) rfl ?_
      obtain ⟨h1, h2⟩ := own_back2 HGy.out (show OwnNums .u32 wz y4.w 55 A4 c4 L4 from hO4) y4.grew (w.heap.size + 1 + 1) (by omega) l2 (.bool n4) (.slice A4 L4.length c4)
      refine ⟨A4, c4, n4, L4, k4, rfl, h1, ?_, h2⟩
      rw [HZ.out, Lg.num, Lg.num, ← sgn_less na hv3.out]
      exact hU4
end Go.Proofs.YtmcfciifjgdgoaaGreatDoor
