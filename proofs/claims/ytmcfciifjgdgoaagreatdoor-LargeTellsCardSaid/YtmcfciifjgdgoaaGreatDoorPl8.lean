/- The developers' large numbers, part 8: the exported sums, products, order; whole numbers. -/
import Derived.Test.YtmcfciifjgdgoaaGreatDoorPl7
import Derived.Test.YtmcfciifjgdgoaaGreatDoorRf5
namespace Go.Proofs.YtmcfciifjgdgoaaGreatDoor
open Go.RowKit

theorem errVal_nil : errVal 0 = .nilIface := rfl
def GaveA (w : World) (ok : Bool) (z : Int) (e : Ending) (w' : World) : Prop :=
  ∃ A' c' ng L k, e = .returned (.tuple #[.agg #[.bool ng, .slice A' L.length c'], errVal k]) ∧ OwnNums .u32 w w' 55 A' c' L ∧ OutA ok z ng L k ∧ Grew w w'

theorem top_of_may {neg : Bool} {xs : List Nat} (lx : Dg.Low 4294967296 xs) (h : Lg.may neg xs = true) : Dg.Top xs ∧ xs.length ≤ 64 := ⟨(Lg.Rep.of_may lx h).top, (Lg.may_iff.1 h).1⟩

set_option maxHeartbeats 2000000 in
theorem pcheck_c (neg : Bool) (A : Option Addr) (c : Nat) (xs : List Nat) (w : World) (h : NumsAt .u32 w w.heap.size A xs) (hn : xs.length ≤ 1000000000000) :
    Calls Tryz.prog 20 #[.agg #[.bool neg, .slice A xs.length c]] w fun e w' => e = .returned (errVal (if Lg.may neg xs then 0 else 1)) ∧ Grew w w' := by
  have CV := hid (pvalid_c neg A c xs (w.alloc (.cells #[.bool neg, .slice A xs.length c] 27)) (h.grew ((Grew.refl _).alloc _)) hn)
  clear h
  cases hm : Lg.may neg xs
  all_goals
    rw [hm] at CV
    clear hm
    go_enter Tryz.func20, Tryz.ntmps20
    go_wp2_with fail
    refine CV.out.mono ?_
    rintro e w1 ⟨rfl, hg⟩
    go_wp2_with fail
    go_ret
    exact ⟨rfl, ((Grew.refl _).alloc _).trans hg⟩

theorem num_not (nb : Bool) (ys : List Nat) : Lg.num (!nb) ys = flip true (Lg.num nb ys) := by cases nb <;> simp [Lg.num, flip, Lg.sgn]
set_option maxRecDepth 100000 in
set_option maxHeartbeats 4000000 in
theorem padd_c (na : Bool) (A : Option Addr) (c : Nat) (xs : List Nat) (nb : Bool) (B : Option Addr) (d : Nat) (ys : List Nat) (w : World) (ha : NumsAt .u32 w w.heap.size A xs) (hb : NumsAt .u32 w w.heap.size B ys) (lx : Dg.Low 4294967296 xs) (ly : Dg.Low 4294967296 ys) (hn : xs.length ≤ 1000000000000) (hm : ys.length ≤ 1000000000000) :
    Calls Tryz.prog 7 #[.agg #[.bool na, .slice A xs.length c], .agg #[.bool nb, .slice B ys.length d]] w (GaveA w (Lg.may na xs && Lg.may nb ys) (Lg.num na xs + Lg.num nb ys)) := by
  have HA := hid ha
  have HB := hid hb
  clear ha hb
  have hbox := Box3.mk' w 27 27 27 na A xs.length c nb B ys.length d
  have CA := hid (pvalid_c na A c xs)
  have CB := hid (pvalid_c nb B d ys)
  have CS := hid (psum_c na A c xs nb B d ys)
  have TA := hid (fun h => top_of_may (neg := na) lx h)
  have TB := hid (fun h => top_of_may (neg := nb) ly h)
  generalize Lg.num na xs + Lg.num nb ys = z at *
  generalize hma : Lg.may na xs = ma at *
  generalize hmb : Lg.may nb ys = mb at *
  clear hma hmb
  go_enter Tryz.func7, Tryz.ntmps7
  go_wp2_with fail
  generalize ((w.alloc (.cells #[.bool na, .slice A xs.length c] 27)).alloc (.cells #[.bool nb, .slice B ys.length d] 27)).alloc (.cells #[.bool false, .slice none 0 0] 27) = wb at *
  obtain ⟨hg, l0, l1, l2, a0, a1, b0, b1, r0, r1, fr⟩ := hbox
  have HG := hid hg
  clear hg
  refine (CA.out wb (HA.out.grew HG.out) hn).mono ?_
  cases ma
  · rintro e w1 ⟨rfl, y, rfl⟩
    go_wp2_with fail
    refine bodyPost_ret (v := .tuple #[.agg #[.bool false, .slice none 0 0], .iface 56 (.int .i64 1)]) (by simp [results, Tryz.results7, go_sem, *]) rfl ?_
    exact ⟨none, 0, false, [], 1, rfl, OwnNums.nil _ _ _ _, OutA.mk (fun h => by simp at h) (fun _ => ⟨rfl, rfl, rfl⟩), ((HG.out.trans y.grew).setCell (by simp <;> omega) _).setCell (by simp <;> omega) _⟩
  · rintro e w1 ⟨rfl, y, rfl⟩
    go_wp2_with fail
    refine (Calls.grew y.grew (CB.out y.w (HB.out.grew (HG.out.trans y.grew)) hm)).mono ?_
    cases mb
    · rintro e w1 ⟨rfl, y2, rfl⟩
      go_wp2_with fail
      refine bodyPost_ret (v := .tuple #[.agg #[.bool false, .slice none 0 0], .iface 56 (.int .i64 1)]) (by simp [results, Tryz.results7, go_sem, *]) rfl ?_
      exact ⟨none, 0, false, [], 1, rfl, OwnNums.nil _ _ _ _, OutA.mk (fun h => by simp at h) (fun _ => ⟨rfl, rfl, rfl⟩), ((HG.out.trans y2.grew).setCell (by simp <;> omega) _).setCell (by simp <;> omega) _⟩
    · rintro e w1 ⟨rfl, y2, rfl⟩
      obtain ⟨tx, hxl⟩ := TA.out (by trivial)
      obtain ⟨ty, hyl⟩ := TB.out (by trivial)
      go_wp2_with fail
      refine (CS.out y2.w (HA.out.grew (HG.out.trans y2.grew)) (HB.out.grew (HG.out.trans y2.grew)) lx ly tx ty (by omega) (by omega)).mono ?_
      rintro e w1 ⟨A4, c4, n4, L4, k4, rfl, hO4, hU4, hG4⟩
      replace hO4 := hO4.mono y2.grew
      obtain ⟨y4, rfl⟩ := Grew.trans y2.grew hG4
      have q0 := (y4.cell _ l2).trans r0
      have q1 := (y4.cell _ l2).trans r1
      have qf : ∀ i, y4.w.frozen? ⟨w.heap.size + 1 + 1, i, none⟩ = false := fun i => (y4.frozen _ l2).trans (fr i)
      have HO4 := hid hO4
      clear hO4 hG4
      go_wp2_with fail
      refine bodyPost_ret (v := .tuple #[.agg #[.bool n4, .slice A4 L4.length c4], errVal k4]) (by simp [results, Tryz.results7, go_sem, *]) rfl ?_
      obtain ⟨h1, h2⟩ := own_back2 HG.out HO4.out y4.grew (w.heap.size + 1 + 1) (by omega) l2 (.bool n4) (.slice A4 L4.length c4)
      exact ⟨A4, c4, n4, L4, k4, rfl, h1, OutA.mk (fun _ => hU4) (fun h => by simp at h), h2⟩
set_option maxRecDepth 100000 in
set_option maxHeartbeats 4000000 in
theorem psub_c (na : Bool) (A : Option Addr) (c : Nat) (xs : List Nat) (nb : Bool) (B : Option Addr) (d : Nat) (ys : List Nat) (w : World) (ha : NumsAt .u32 w w.heap.size A xs) (hb : NumsAt .u32 w w.heap.size B ys) (lx : Dg.Low 4294967296 xs) (ly : Dg.Low 4294967296 ys) (hn : xs.length ≤ 1000000000000) (hm : ys.length ≤ 1000000000000) :
    Calls Tryz.prog 9 #[.agg #[.bool na, .slice A xs.length c], .agg #[.bool nb, .slice B ys.length d]] w (GaveA w (Lg.may na xs && Lg.may nb ys) (Lg.num na xs + flip true (Lg.num nb ys))) := by
  have HA := hid ha
  have HB := hid hb
  clear ha hb
  have hbox := Box3.mk' w 27 27 27 na A xs.length c nb B ys.length d
  have CA := hid (pvalid_c na A c xs)
  have CB := hid (pvalid_c nb B d ys)
  have CS := hid (psum_c na A c xs (!nb) B d ys)
  rw [num_not] at CS
  have TA := hid (fun h => top_of_may (neg := na) lx h)
  have TB := hid (fun h => top_of_may (neg := nb) ly h)
  generalize Lg.num na xs + flip true (Lg.num nb ys) = z at *
  generalize hma : Lg.may na xs = ma at *
  generalize hmb : Lg.may nb ys = mb at *
  clear hma hmb
  go_enter Tryz.func9, Tryz.ntmps9
  go_wp2_with fail
  generalize ((w.alloc (.cells #[.bool na, .slice A xs.length c] 27)).alloc (.cells #[.bool nb, .slice B ys.length d] 27)).alloc (.cells #[.bool false, .slice none 0 0] 27) = wb at *
  obtain ⟨hg, l0, l1, l2, a0, a1, b0, b1, r0, r1, fr⟩ := hbox
  have HG := hid hg
  clear hg
  refine (CA.out wb (HA.out.grew HG.out) hn).mono ?_
  cases ma
  · rintro e w1 ⟨rfl, y, rfl⟩
    go_wp2_with fail
    refine bodyPost_ret (v := .tuple #[.agg #[.bool false, .slice none 0 0], .iface 56 (.int .i64 1)]) (by simp [results, Tryz.results9, go_sem, *]) rfl ?_
    exact ⟨none, 0, false, [], 1, rfl, OwnNums.nil _ _ _ _, OutA.mk (fun h => by simp at h) (fun _ => ⟨rfl, rfl, rfl⟩), ((HG.out.trans y.grew).setCell (by simp <;> omega) _).setCell (by simp <;> omega) _⟩
  · rintro e w1 ⟨rfl, y, rfl⟩
    go_wp2_with fail
    refine (Calls.grew y.grew (CB.out y.w (HB.out.grew (HG.out.trans y.grew)) hm)).mono ?_
    cases mb
    · rintro e w1 ⟨rfl, y2, rfl⟩
      go_wp2_with fail
      refine bodyPost_ret (v := .tuple #[.agg #[.bool false, .slice none 0 0], .iface 56 (.int .i64 1)]) (by simp [results, Tryz.results9, go_sem, *]) rfl ?_
      exact ⟨none, 0, false, [], 1, rfl, OwnNums.nil _ _ _ _, OutA.mk (fun h => by simp at h) (fun _ => ⟨rfl, rfl, rfl⟩), ((HG.out.trans y2.grew).setCell (by simp <;> omega) _).setCell (by simp <;> omega) _⟩
    · rintro e w1 ⟨rfl, y2, rfl⟩
      obtain ⟨tx, hxl⟩ := TA.out (by trivial)
      obtain ⟨ty, hyl⟩ := TB.out (by trivial)
      go_wp2_with fail
      refine (CS.out y2.w (HA.out.grew (HG.out.trans y2.grew)) (HB.out.grew (HG.out.trans y2.grew)) lx ly tx ty (by omega) (by omega)).mono ?_
      rintro e w1 ⟨A4, c4, n4, L4, k4, rfl, hO4, hU4, hG4⟩
      replace hO4 := hO4.mono y2.grew
      obtain ⟨y4, rfl⟩ := Grew.trans y2.grew hG4
      have q0 := (y4.cell _ l2).trans r0
      have q1 := (y4.cell _ l2).trans r1
      have qf : ∀ i, y4.w.frozen? ⟨w.heap.size + 1 + 1, i, none⟩ = false := fun i => (y4.frozen _ l2).trans (fr i)
      have HO4 := hid hO4
      clear hO4 hG4
      go_wp2_with fail
      refine bodyPost_ret (v := .tuple #[.agg #[.bool n4, .slice A4 L4.length c4], errVal k4]) (by simp [results, Tryz.results9, go_sem, *]) rfl ?_
      obtain ⟨h1, h2⟩ := own_back2 HG.out HO4.out y4.grew (w.heap.size + 1 + 1) (by omega) l2 (.bool n4) (.slice A4 L4.length c4)
      exact ⟨A4, c4, n4, L4, k4, rfl, h1, OutA.mk (fun _ => hU4) (fun h => by simp at h), h2⟩
set_option maxRecDepth 100000 in
set_option maxHeartbeats 4000000 in
theorem pmul_c (na : Bool) (A : Option Addr) (c : Nat) (xs : List Nat) (nb : Bool) (B : Option Addr) (d : Nat) (ys : List Nat) (w : World) (ha : NumsAt .u32 w w.heap.size A xs) (hb : NumsAt .u32 w w.heap.size B ys) (lx : Dg.Low 4294967296 xs) (ly : Dg.Low 4294967296 ys) (hn : xs.length ≤ 1000000000000) (hm : ys.length ≤ 1000000000000) :
    Calls Tryz.prog 10 #[.agg #[.bool na, .slice A xs.length c], .agg #[.bool nb, .slice B ys.length d]] w (GaveA w (Lg.may na xs && Lg.may nb ys) (Lg.num na xs * Lg.num nb ys)) := by
  have HA := hid ha
  have HB := hid hb
  clear ha hb
  have hbox := Box3.mk' w 27 27 27 na A xs.length c nb B ys.length d
  have CA := hid (pvalid_c na A c xs)
  have CB := hid (pvalid_c nb B d ys)
  have HZ := hid (prod_sgn na nb (Dg.val 4294967296 xs) (Dg.val 4294967296 ys))
  change Hid (Lg.num na xs * Lg.num nb ys = _) at HZ
  have TA := hid (fun h => top_of_may (neg := na) lx h)
  have TB := hid (fun h => top_of_may (neg := nb) ly h)
  generalize Lg.num na xs * Lg.num nb ys = z at *
  generalize hma : Lg.may na xs = ma at *
  generalize hmb : Lg.may nb ys = mb at *
  clear hma hmb
  go_enter Tryz.func10, Tryz.ntmps10
  go_wp2_with fail
  generalize ((w.alloc (.cells #[.bool na, .slice A xs.length c] 27)).alloc (.cells #[.bool nb, .slice B ys.length d] 27)).alloc (.cells #[.bool false, .slice none 0 0] 27) = wb at *
  obtain ⟨hg, l0, l1, l2, a0, a1, b0, b1, r0, r1, fr⟩ := hbox
  have HG := hid hg
  clear hg
  refine (CA.out wb (HA.out.grew HG.out) hn).mono ?_
  cases ma
  · rintro e w1 ⟨rfl, y, rfl⟩
    go_wp2_with fail
    refine bodyPost_ret (v := .tuple #[.agg #[.bool false, .slice none 0 0], .iface 56 (.int .i64 1)]) (by simp [results, Tryz.results10, go_sem, *]) rfl ?_
    exact ⟨none, 0, false, [], 1, rfl, OwnNums.nil _ _ _ _, OutA.mk (fun h => by simp at h) (fun _ => ⟨rfl, rfl, rfl⟩), ((HG.out.trans y.grew).setCell (by simp <;> omega) _).setCell (by simp <;> omega) _⟩
  · rintro e w1 ⟨rfl, y, rfl⟩
    go_wp2_with fail
    refine (Calls.grew y.grew (CB.out y.w (HB.out.grew (HG.out.trans y.grew)) hm)).mono ?_
    cases mb
    · rintro e w1 ⟨rfl, y2, rfl⟩
      go_wp2_with fail
      refine bodyPost_ret (v := .tuple #[.agg #[.bool false, .slice none 0 0], .iface 56 (.int .i64 1)]) (by simp [results, Tryz.results10, go_sem, *]) rfl ?_
      exact ⟨none, 0, false, [], 1, rfl, OwnNums.nil _ _ _ _, OutA.mk (fun h => by simp at h) (fun _ => ⟨rfl, rfl, rfl⟩), ((HG.out.trans y2.grew).setCell (by simp <;> omega) _).setCell (by simp <;> omega) _⟩
    · rintro e w1 ⟨rfl, y2, rfl⟩
      obtain ⟨tx, hxl⟩ := TA.out (by trivial)
      obtain ⟨ty, hyl⟩ := TB.out (by trivial)
      have A0 := (y2.cell _ l0).trans a0
      have A1 := (y2.cell _ l0).trans a1
      have B0 := (y2.cell _ l1).trans b0
      have B1 := (y2.cell _ l1).trans b1
      have L0 := Nat.lt_of_lt_of_le l0 y2.b.size
      have L1 := Nat.lt_of_lt_of_le l1 y2.b.size
      have L2 := Nat.lt_of_lt_of_le l2 y2.b.size
      have R0 := (y2.cell _ l2).trans r0
      have R1 := (y2.cell _ l2).trans r1
      have FR : ∀ i, y2.w.frozen? ⟨w.heap.size + 1 + 1, i, none⟩ = false := fun i => (y2.frozen _ l2).trans (fr i)
      have HG2 := hid (HG.out.trans y2.grew)
      clear a0 a1 b0 b1 r0 r1 fr l0 l1 l2 HG
      generalize y2.w = wz at *
      go_wp2_with fail
      go_region_held3 (fun w' => w'.cell? ⟨w.heap.size, 0, none⟩ = some (.bool na) ∧ w'.cell? ⟨w.heap.size, 1, none⟩ = some (.slice A xs.length c) ∧ w'.cell? ⟨w.heap.size + 1, 0, none⟩ = some (.bool nb) ∧ w'.cell? ⟨w.heap.size + 1, 1, none⟩ = some (.slice B ys.length d))
        (first
          | exact ⟨(cell_far2 (ne_two _).1).trans ((y4.cell _ L0).trans A0), (cell_far2 (ne_two _).1).trans ((y4.cell _ L0).trans A1), (cell_far2 (ne_two _).2).trans ((y4.cell _ L1).trans B0), (cell_far2 (ne_two _).2).trans ((y4.cell _ L1).trans B1)⟩
          | exact ⟨(y4.cell _ L0).trans A0, (y4.cell _ L0).trans A1, (y4.cell _ L1).trans B0, (y4.cell _ L1).trans B1⟩
          | exact ⟨(y3.cell _ L0).trans A0, (y3.cell _ L0).trans A1, (y3.cell _ L1).trans B0, (y3.cell _ L1).trans B1⟩
          | go_keep)
        (first
          | (go_at_call 33; ((with_reducible refine (pmulMags_c A c xs B d ys _ (HA.out.grew (HG2.out.trans (Grew.refl _).drew)) (HB.out.grew (HG2.out.trans (Grew.refl _).drew)) lx ly (by omega) (by omega)).mono ?_); rintro e w3 ⟨A3, c3, L3, rfl, hO3, hL3, hv3, hl3, hG3⟩; obtain ⟨y3, rfl⟩ := Grew.trans (show Grew wz wz.drew from (Grew.refl _).drew) hG3; replace hl3 : L3.length ≤ 2001 := (by omega); replace hv3 := hid hv3))
          | (go_at_call 32; ((with_reducible refine (plimited_c (!(na == nb)) A3 c3 L3 wz.drew _ hO3 hL3 (by omega)).mono ?_); rintro e w4 ⟨A4, c4, n4, L4, k4, rfl, hO4, hU4, hG4⟩; obtain ⟨y4, rfl⟩ := Grew.trans y3.grew hG4)))
      go_wp2_with fail
      have q0 := (y4.cell _ L2).trans R0
      have q1 := (y4.cell _ L2).trans R1
      have qf : ∀ i, y4.w.frozen? ⟨w.heap.size + 1 + 1, i, none⟩ = false := fun i => (y4.frozen _ L2).trans (FR i)
      refine bodyPost_ret (v := .tuple #[.agg #[.bool n4, .slice A4 L4.length c4], errVal k4]) (by simp [results, Tryz.results10, go_sem, *]) rfl ?_
      obtain ⟨h1, h2⟩ := own_back2 HG2.out (show OwnNums .u32 wz y4.w 55 A4 c4 L4 from hO4) y4.grew (w.heap.size + 1 + 1) (by omega) L2 (.bool n4) (.slice A4 L4.length c4)
      refine ⟨A4, c4, n4, L4, k4, rfl, h1, OutA.mk (fun _ => ?_) (fun h => by simp at h), h2⟩
      rw [HZ.out, ← hv3.out]
      exact hU4

theorem sgnOf_cmp (a b : Nat) : cmpN a b = sgnOf ((a : Int) - (b : Int)) := by
  unfold cmpN sgnOf
  rcases Nat.lt_trichotomy a b with h | h | h
  · rw [if_pos h, if_pos (by omega)]
  · subst h; simp
  · rw [if_neg (by omega), if_pos h, if_neg (by omega), if_neg (by omega)]
theorem neg_pos {xs : List Nat} (lx : Dg.Low 4294967296 xs) (h : Lg.may true xs = true) : 0 < Dg.val 4294967296 xs := by
  have := (Lg.Rep.of_may lx h).neg
  rw [eq_comm, decide_eq_true_iff, Lg.num, Lg.sgn, if_pos rfl] at this
  omega

set_option maxRecDepth 100000 in
set_option maxHeartbeats 4000000 in
theorem pcmp_c (na : Bool) (A : Option Addr) (c : Nat) (xs : List Nat) (nb : Bool) (B : Option Addr) (d : Nat) (ys : List Nat) (w : World) (ha : NumsAt .u32 w w.heap.size A xs) (hb : NumsAt .u32 w w.heap.size B ys) (lx : Dg.Low 4294967296 xs) (ly : Dg.Low 4294967296 ys) (hn : xs.length ≤ 1000000000000) (hm : ys.length ≤ 1000000000000) :
    Calls Tryz.prog 16 #[.agg #[.bool na, .slice A xs.length c], .agg #[.bool nb, .slice B ys.length d]] w fun e w' => e = .returned (.tuple #[.int .i64 (cmpV (Lg.may na xs && Lg.may nb ys) (Lg.num na xs + flip true (Lg.num nb ys))), errVal (cmpE (Lg.may na xs && Lg.may nb ys))]) ∧ Grew w w' := by
  have HA := hid ha
  have HB := hid hb
  clear ha hb
  have CA := hid (pvalid_c na A c xs)
  have CB := hid (pvalid_c nb B d ys)
  have CX := hid (fun w h1 h2 h3 h4 => pcmpMags_c A c xs B d ys w h1 h2 lx ly h3 h4)
  have CY := hid (fun w h1 h2 h3 h4 => pcmpMags_c B d ys A c xs w h1 h2 ly lx h3 h4)
  have TA := hid (fun h => top_of_may (neg := na) lx h)
  have TB := hid (fun h => top_of_may (neg := nb) ly h)
  have PA := hid (fun (h : Lg.may na xs = true) (e : na = true) => neg_pos lx (by subst e; exact h))
  have PB := hid (fun (h : Lg.may nb ys = true) (e : nb = true) => neg_pos ly (by subst e; exact h))
  obtain ⟨r, hr⟩ : ∃ r, r = cmpV (Lg.may na xs && Lg.may nb ys) (Lg.num na xs + flip true (Lg.num nb ys)) := ⟨_, rfl⟩
  obtain ⟨k, hk⟩ : ∃ k, k = cmpE (Lg.may na xs && Lg.may nb ys) := ⟨_, rfl⟩
  rw [← hr, ← hk]
  have HR := hid hr
  have HK := hid hk
  clear hr hk
  generalize hma : Lg.may na xs = ma at *
  generalize hmb : Lg.may nb ys = mb at *
  clear hma hmb
  go_enter Tryz.func16, Tryz.ntmps16
  go_wp2_with fail
  obtain ⟨wb, hwb⟩ : ∃ wb, wb = (w.alloc (.cells #[.bool na, .slice A xs.length c] 27)).alloc (.cells #[.bool nb, .slice B ys.length d] 27) := ⟨_, rfl⟩
  have HG : Hid (Grew w wb) := hid (by rw [hwb]; exact ((Grew.refl _).alloc _).alloc _)
  have l1 : w.heap.size + 1 < wb.heap.size := by rw [hwb]; simp only [World.size_alloc]; omega
  have l0 : w.heap.size < wb.heap.size := by omega
  have a0 : wb.cell? ⟨w.heap.size, 0, none⟩ = some (.bool na) := by rw [hwb, World.cell?_alloc_lt _ _ _ (by simp only [World.size_alloc]; omega)]; simp
  have a1 : wb.cell? ⟨w.heap.size, 1, none⟩ = some (.slice A xs.length c) := by rw [hwb, World.cell?_alloc_lt _ _ _ (by simp only [World.size_alloc]; omega)]; simp
  have b0 : wb.cell? ⟨w.heap.size + 1, 0, none⟩ = some (.bool nb) := by rw [hwb]; simp
  have b1 : wb.cell? ⟨w.heap.size + 1, 1, none⟩ = some (.slice B ys.length d) := by rw [hwb]; simp
  rw [← hwb]
  clear hwb
  refine (CA.out wb (HA.out.grew HG.out) hn).mono ?_
  cases ma
  · rintro e w1 ⟨rfl, y, rfl⟩
    go_wp2_with fail
    go_ret2
    exact ⟨by rw [HR.out, HK.out]; rfl, HG.out.trans y.grew⟩
  · rintro e w1 ⟨rfl, y, rfl⟩
    go_wp2_with fail
    refine (Calls.grew y.grew (CB.out y.w (HB.out.grew (HG.out.trans y.grew)) hm)).mono ?_
    cases mb
    · rintro e w1 ⟨rfl, y2, rfl⟩
      go_wp2_with fail
      go_ret2
      exact ⟨by rw [HR.out, HK.out]; rfl, HG.out.trans y2.grew⟩
    · rintro e w1 ⟨rfl, y2, rfl⟩
      have HK2 : Hid (k = 0) := hid (by rw [HK.out]; rfl)
      have HTA := hid (TA.out (by trivial))
      have HTB := hid (TB.out (by trivial))
      cases na <;> cases nb
      · have E := hid (show r = cmpN (Dg.val 4294967296 xs) (Dg.val 4294967296 ys) by rw [HR.out, sgnOf_cmp]; rfl)
        go_wp2_with fail
        refine (CX.out y2.w (HA.out.grew (HG.out.trans y2.grew)) (HB.out.grew (HG.out.trans y2.grew)) HTA.out.1 HTB.out.1 (by have := HTA.out.2; omega)).mono ?_
        rw [← E.out]
        rintro e w1 ⟨rfl, hg3⟩
        go_wp2_with fail
        go_ret2
        exact ⟨by rw [HK2.out]; rfl, (HG.out.trans y2.grew).trans hg3⟩
      · have E := hid (show r = 1 by
          have := PB.out (by trivial) (by trivial)
          rw [HR.out]
          show sgnOf (((Dg.val 4294967296 xs : Nat) : Int) + -(-((Dg.val 4294967296 ys : Nat) : Int))) = 1
          rw [sgnOf, if_neg (by omega), if_neg (by omega)])
        go_wp2_with fail
        go_ret2
        exact ⟨by rw [HK2.out, E.out]; rfl, HG.out.trans y2.grew⟩
      · have E := hid (show r = -1 by
          have := PA.out (by trivial) (by trivial)
          rw [HR.out]
          show sgnOf (-((Dg.val 4294967296 xs : Nat) : Int) + -((Dg.val 4294967296 ys : Nat) : Int)) = -1
          rw [sgnOf, if_pos (by omega)])
        go_wp2_with fail
        go_ret2
        exact ⟨by rw [HK2.out, E.out]; rfl, HG.out.trans y2.grew⟩
      · have E := hid (show r = cmpN (Dg.val 4294967296 ys) (Dg.val 4294967296 xs) by
          rw [HR.out, sgnOf_cmp]
          show sgnOf (-((Dg.val 4294967296 xs : Nat) : Int) + -(-((Dg.val 4294967296 ys : Nat) : Int))) = _
          congr 1
          omega)
        go_wp2_with fail
        refine (CY.out y2.w (HB.out.grew (HG.out.trans y2.grew)) (HA.out.grew (HG.out.trans y2.grew)) HTB.out.1 HTA.out.1 (by have := HTB.out.2; omega)).mono ?_
        rw [← E.out]
        rintro e w1 ⟨rfl, hg3⟩
        go_wp2_with fail
        go_ret2
        exact ⟨by rw [HK2.out]; rfl, (HG.out.trans y2.grew).trans hg3⟩
end Go.Proofs.YtmcfciifjgdgoaaGreatDoor
