/- The developers' large numbers, part 9: whole numbers. -/
import Derived.Test.YtmcfciifjgdgoaaDoorPl8
import Derived.BigQuiet
import Derived.Test.YtmcfciifjgdgoaaDoorMg18
namespace Go.Proofs.YtmcfciifjgdgoaaDoor
open Go.RowKit

def OfPost (w : World) (n : Int) (e : Ending) (w' : World) : Prop :=
  ∃ A' c' xs, e = .returned (.agg #[.bool (decide (n < 0)), .slice A' xs.length c']) ∧ OwnNums .u32 w w' 48 A' c' xs ∧ Lg.Rep (decide (n < 0)) xs n ∧ Grew w w'
theorem val_two (N : Nat) : Dg.val 4294967296 [N % 4294967296, N / 4294967296] = N := by
  rw [Dg.val_cons, Dg.val_cons, Dg.val_nil]
  omega
theorem rep_two {n : Int} {N : Nat} (h : N = n.natAbs) (h64 : N < 18446744073709551616) : Lg.Rep (decide (n < 0)) (Dg.cut [N % 4294967296, N / 4294967296]) n ∧ (decide (n < 0) && decide (0 < (Dg.cut [N % 4294967296, N / 4294967296]).length)) = decide (n < 0) := by
  have r := cut_rep (decide (n < 0)) (xs := [N % 4294967296, N / 4294967296]) (Dg.Low.cons (Nat.mod_lt _ (by decide)) (Dg.Low.cons (by omega) (Dg.Low.nil _)))
  rw [val_two] at r
  have e : Lg.sgn (decide (n < 0)) N = n := by
    by_cases hn : n < 0
    · rw [decide_eq_true hn, Lg.sgn, if_pos rfl]; omega
    · rw [decide_eq_false hn, Lg.sgn, if_neg (by decide)]; omega
  rw [e] at r
  have := r.neg
  rw [this] at r
  exact ⟨r, this⟩

set_option maxRecDepth 100000 in
set_option maxHeartbeats 400000 in
theorem pof_c (n : Int) (w : World) (h1 : -9223372036854775808 ≤ n) (h2 : n ≤ 9223372036854775807) :
    Calls Tryd.prog 27 #[.int .i64 n] w (OfPost w n) := by
  obtain ⟨N, hN⟩ : ∃ N, N = n.natAbs := ⟨_, rfl⟩
  have h64 : N < 18446744073709551616 := by omega
  have HR := hid (rep_two hN h64)
  have HN := hid hN
  clear hN
  have CM := hid (fun W => pmagOf_c N W h64)
  have CS := hid (fun W => psigned_c (decide (n < 0)) (some ⟨W.heap.size, 0, none⟩) 2 [N % 4294967296, N / 4294967296] W (W.alloc (.cells (numCells .u32 [N % 4294967296, N / 4294967296]).toArray 48)) (OwnNums.new .u32 48 [N % 4294967296, N / 4294967296] (Grew.refl W) (by simp)) (by simp))
  have HL := hid (show ([N % 4294967296, N / 4294967296] : List Nat).length = 2 from rfl)
  have HO := hid (fun W : World => OwnNums.new .u32 48 [N % 4294967296, N / 4294967296] (Grew.refl W) (by simp))
  generalize [N % 4294967296, N / 4294967296] = xs at *
  rw [HL.out] at CS
  have CS2 := hid (fun W => CS.out W)
  rw [HR.out.2] at CS2
  have HR2 := hid HR.out.1
  have HT := hid (Dg.cut_take xs)
  clear CS HR
  generalize Dg.cut xs = L at *
  by_cases hneg : n < 0
  · rw [decide_eq_true hneg] at CS2 HR2
    have CM2 := hid (fun W => CM.out W)
    rw [show ((N : Nat) : Int) = IntKind.u64.wrap (-IntKind.u64.wrap n) by rw [IntKind.wrap_u64, IntKind.wrap_u64]; have := HN.out; omega] at CM2
    unfold OfPost
    rw [decide_eq_true hneg]
    go_enter Tryd.func27, Tryd.ntmps27
    go_wp2_with fail
    refine (CM2.out _).mono ?_
    rintro e w1 ⟨rfl, rfl⟩
    go_wp2_with fail
    have C3 := CS2.out (w.alloc (.cells #[.bool false, .slice none 0 0] 26))
    rw [World.size_alloc] at C3
    refine C3.mono ?_
    clear C3
    rintro e w1 ⟨rfl, y, rfl⟩
    have hO := HO.out (w.alloc (.cells #[.bool false, .slice none 0 0] 26))
    have hO2 := (hO.take L.length).grew y.grew
    rw [HL.out, ← HT.out] at hO2
    have HO2 := hid hO2
    have hG := ((Grew.refl (w.alloc (.cells #[.bool false, .slice none 0 0] 26))).alloc (.cells (numCells .u32 xs).toArray 48)).trans y.grew
    have b0 : y.w.cell? ⟨w.heap.size, 0, none⟩ = some (.bool false) := by rw [hG.below.cell (by simp)]; simp
    have b1 : y.w.cell? ⟨w.heap.size, 1, none⟩ = some (.slice none 0 0) := by rw [hG.below.cell (by simp)]; simp
    have fr : ∀ i, y.w.frozen? ⟨w.heap.size, i, none⟩ = false := fun i => by rw [hG.below.frozen (by simp)]; simp
    have HG := hid hG
    clear hO hO2 hG
    go_wp2_with fail
    refine bodyPost_ret (v := .agg #[.bool true, .slice (some ⟨w.heap.size + 1, 0, none⟩) L.length 2]) (by simp [results, Tryd.results27, go_sem, *]) rfl ?_
    obtain ⟨h1, h2⟩ := own_back2 ((Grew.refl w).alloc _) (by simpa using HO2.out) HG.out w.heap.size (Nat.le_refl _) (by simp) (.bool true) (.slice (some ⟨w.heap.size + 1, 0, none⟩) L.length 2)
    exact ⟨_, _, L, rfl, h1, HR2.out, h2⟩
  · rw [decide_eq_false hneg] at CS2 HR2
    unfold OfPost
    rw [decide_eq_false hneg]
    obtain rfl : n = ((N : Nat) : Int) := by have := HN.out; omega
    clear hneg HN
    have CM2 := hid (fun W => CM.out W)
    go_enter Tryd.func27, Tryd.ntmps27
    go_wp2_with fail
    refine (CM2.out _).mono ?_
    rintro e w1 ⟨rfl, rfl⟩
    go_wp2_with fail
    have C3 := CS2.out (w.alloc (.cells #[.bool false, .slice none 0 0] 26))
    rw [World.size_alloc] at C3
    refine C3.mono ?_
    clear C3
    rintro e w1 ⟨rfl, y, rfl⟩
    have hO := HO.out (w.alloc (.cells #[.bool false, .slice none 0 0] 26))
    have hO2 := (hO.take L.length).grew y.grew
    rw [HL.out, ← HT.out] at hO2
    have HO2 := hid hO2
    have hG := ((Grew.refl (w.alloc (.cells #[.bool false, .slice none 0 0] 26))).alloc (.cells (numCells .u32 xs).toArray 48)).trans y.grew
    have b0 : y.w.cell? ⟨w.heap.size, 0, none⟩ = some (.bool false) := by rw [hG.below.cell (by simp)]; simp
    have b1 : y.w.cell? ⟨w.heap.size, 1, none⟩ = some (.slice none 0 0) := by rw [hG.below.cell (by simp)]; simp
    have fr : ∀ i, y.w.frozen? ⟨w.heap.size, i, none⟩ = false := fun i => by rw [hG.below.frozen (by simp)]; simp
    have HG := hid hG
    clear hO hO2 hG
    go_wp2_with fail
    refine bodyPost_ret (v := .agg #[.bool false, .slice (some ⟨w.heap.size + 1, 0, none⟩) L.length 2]) (by simp [results, Tryd.results27, go_sem, *]) rfl ?_
    obtain ⟨h1, h2⟩ := own_back2 ((Grew.refl w).alloc _) (by simpa using HO2.out) HG.out w.heap.size (Nat.le_refl _) (by simp) (.bool false) (.slice (some ⟨w.heap.size + 1, 0, none⟩) L.length 2)
    exact ⟨_, _, L, rfl, h1, HR2.out, h2⟩

theorem val_short2 {xs : List Nat} (h : xs.length ≤ 2) : Dg.val 4294967296 xs = xs.getD 0 0 + 4294967296 * xs.getD 1 0 := by
  rcases xs with _ | ⟨a, _ | ⟨b, _ | ⟨c, r⟩⟩⟩
  · rfl
  · simp
  · simp
  · simp at h
theorem val_long2 {xs : List Nat} (ht : Dg.Top xs) (h : 2 < xs.length) : 18446744073709551616 ≤ Dg.val 4294967296 xs := by
  have h1 := Dg.val_ge (B := 4294967296) ht (by rintro rfl; simp at h)
  have h2 : (4294967296 : Nat) ^ 2 ≤ 4294967296 ^ (xs.length - 1) := Nat.pow_le_pow_right (by decide) (by omega)
  exact Nat.le_trans h2 h1

set_option maxRecDepth 100000 in
set_option maxHeartbeats 800000 in
theorem pint_c (neg : Bool) (A : Option Addr) (c : Nat) (xs : List Nat) (w : World) (h : NumsAt .u32 w w.heap.size A xs) (hx : Dg.Low 4294967296 xs) (hn : xs.length ≤ 1000000000000) :
    Calls Tryd.prog 28 #[.agg #[.bool neg, .slice A xs.length c]] w fun e w' => e = .returned (.tuple #[.int .i64 (intVal neg xs), .bool (intOk neg xs)]) ∧ Grew w w' := by
  have H := hid h
  clear h
  have CV := hid (pvalid_c neg A c xs (w.alloc (.cells #[.bool neg, .slice A xs.length c] 26)) (H.out.grew ((Grew.refl _).alloc _)) hn)
  cases hm : Lg.may neg xs
  · have E := hid (show intOk neg xs = false by simp [intOk, hm])
    rw [hm] at CV
    go_enter Tryd.func28, Tryd.ntmps28
    go_wp2_with fail
    refine CV.out.mono ?_
    rintro e w1 ⟨rfl, hg⟩
    go_wp2_with fail
    go_ret2
    exact ⟨ret_ib (intOk_no E.out).symm E.out.symm, ((Grew.refl _).alloc _).trans hg⟩
  · obtain ⟨tx, hl64⟩ := top_of_may hx hm
    rw [hm] at CV
    have HNM := hid (show Lg.num neg xs = Lg.sgn neg (Dg.val 4294967296 xs) from rfl)
    obtain ⟨r, hr⟩ : ∃ r, r = intVal neg xs := ⟨_, rfl⟩
    obtain ⟨k, hk⟩ : ∃ k, k = intOk neg xs := ⟨_, rfl⟩
    rw [← hr, ← hk]
    have HR := hid hr
    have HK := hid hk
    clear hr hk
    by_cases hl2 : 2 < xs.length
    · have hl2' : (2 : Int) < (xs.length : Int) := by omega
      have E := hid (show intOk neg xs = false by
        have := val_long2 tx hl2
        cases neg <;> simp [intOk, hm, HNM.out, Lg.sgn] <;> omega)
      clear hm
      go_enter Tryd.func28, Tryd.ntmps28
      go_wp2_with fail
      refine CV.out.mono ?_
      rintro e w1 ⟨rfl, y, rfl⟩
      have b1 : y.w.cell? ⟨w.heap.size, 1, none⟩ = some (.slice A xs.length c) := by rw [y.cell _ (by simp)]; simp
      go_wp2_with fail
      go_ret2
      exact ⟨ret_ib (by rw [HR.out, intOk_no E.out]) (by rw [HK.out, E.out]), ((Grew.refl _).alloc _).trans y.grew⟩
    · have hl2' : ¬ (2 : Int) < (xs.length : Int) := by omega
      have x0 := Dg.Low.getD (by decide) hx 0
      have x1 := Dg.Low.getD (by decide) hx 1
      have HV := hid (val_short2 (xs := xs) (by omega))
      have C0 := fun W h => pat_c A c xs 0 W h (by omega) (by omega)
      have C1 := fun W h => pat_c A c xs 1 W h (by omega) (by omega)
      rw [show ((0 : Nat) : Int) = 0 from rfl] at C0
      rw [show ((1 : Nat) : Int) = 1 from rfl] at C1
      replace C0 := hid C0
      replace C1 := hid C1
      have CJ := hid (fun W => pjoin_c (xs.getD 1 0) (xs.getD 0 0) W x1 x0)
      generalize xs.getD 0 0 = lo at *
      generalize xs.getD 1 0 = hi at *
      have HOK := hid (show intOk neg xs = (decide (-9223372036854775808 ≤ Lg.num neg xs) && decide (Lg.num neg xs ≤ 9223372036854775807)) by simp [intOk, hm])
      clear hm
      go_enter Tryd.func28, Tryd.ntmps28
      go_wp2_with fail
      refine CV.out.mono ?_
      rintro e w1 ⟨rfl, y, rfl⟩
      have b0 : y.w.cell? ⟨w.heap.size, 0, none⟩ = some (.bool neg) := by rw [y.cell _ (by simp)]; simp
      have b1 : y.w.cell? ⟨w.heap.size, 1, none⟩ = some (.slice A xs.length c) := by rw [y.cell _ (by simp)]; simp
      have HG := hid (show Grew w y.w from ((Grew.refl _).alloc _).trans y.grew)
      generalize y.w = wz at *
      go_wp2_with fail
      go_quiet ((first
        | ((with_reducible exact Calls.quiet_of_same (C1.out _ (H.out.grew (HG.out.trans (Grew.mk (below_drewN (Below.refl _ _) _)))))))
        | ((with_reducible exact Calls.quiet_of_same (C0.out _ (H.out.grew (HG.out.trans (Grew.mk (below_drewN (Below.refl _ _) _)))))))
        | ((with_reducible exact Calls.quiet_of_same (CJ.out _)))))
      have HG2 := hid (show Grew w (wz.drewN nq) from HG.out.trans (Grew.mk (below_drewN (Below.refl _ _) _)))
      have hnb : lo + 4294967296 * hi < 18446744073709551616 := by omega
      obtain ⟨N, eN⟩ : ∃ N, N = lo + 4294967296 * hi := ⟨_, rfl⟩
      rw [← eN]
      rw [← eN] at HV hnb
      clear eN CJ C0 C1 x0 x1
      have HO2 : Hid (intOk neg xs = (decide (-9223372036854775808 ≤ Lg.sgn neg N) && decide (Lg.sgn neg N ≤ 9223372036854775807))) := hid (by rw [HOK.out, HNM.out, HV.out])
      have HI2 : Hid (intOk neg xs = true → intVal neg xs = Lg.sgn neg N) := hid (fun h => by rw [intOk_yes h, HNM.out, HV.out])
      clear HOK HNM HV
      cases neg
      · by_cases hN : N ≤ 9223372036854775807
        · have hN' : ((N : Nat) : Int) ≤ 9223372036854775807 := by omega
          have E := hid (show k = true by rw [HK.out, HO2.out]; simp [Lg.sgn]; omega)
          have F := hid (show r = ((N : Nat) : Int) from HR.out.trans (HI2.out (by rw [← HK.out, E.out])))
          go_wp2_with fail
          go_ret2
          exact ⟨ret_ib F.out.symm E.out.symm, HG2.out⟩
        · have hN' : ¬ ((N : Nat) : Int) ≤ 9223372036854775807 := by omega
          have E := hid (show k = false by rw [HK.out, HO2.out]; simp [Lg.sgn]; omega)
          have F := hid (show r = 0 by rw [HR.out, intOk_no (by rw [← HK.out, E.out])])
          go_wp2_with fail
          go_ret2
          exact ⟨ret_ib F.out.symm E.out.symm, HG2.out⟩
      · by_cases hN : N ≤ 9223372036854775808
        · have hN' : ((N : Nat) : Int) ≤ 9223372036854775808 := by omega
          have E := hid (show k = true by rw [HK.out, HO2.out]; simp [Lg.sgn]; omega)
          have F := hid (show r = -((N : Nat) : Int) from HR.out.trans (HI2.out (by rw [← HK.out, E.out])))
          go_wp2_with fail
          go_ret2
          exact ⟨ret_ib (by rw [F.out]; unfold wrap64; rw [IntKind.wrap_u64]; omega) E.out.symm, HG2.out⟩
        · have hN' : ¬ ((N : Nat) : Int) ≤ 9223372036854775808 := by omega
          have hN2 : ¬ ((N : Nat) : Int) ≤ 9223372036854775807 := by omega
          have E := hid (show k = false by rw [HK.out, HO2.out]; simp [Lg.sgn]; omega)
          have F := hid (show r = 0 by rw [HR.out, intOk_no (by rw [← HK.out, E.out])])
          go_wp2_with fail
          go_ret2
          exact ⟨ret_ib F.out.symm E.out.symm, HG2.out⟩
end Go.Proofs.YtmcfciifjgdgoaaDoor
