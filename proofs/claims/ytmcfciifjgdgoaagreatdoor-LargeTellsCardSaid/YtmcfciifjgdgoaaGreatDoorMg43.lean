/- Texts of this claim in one: Pl9 Rf9. -/
import Derived.Test.YtmcfciifjgdgoaaGreatDoorPl8
import Derived.BigQuiet
import Derived.Test.YtmcfciifjgdgoaaGreatDoorIter2
import Derived.Test.YtmcfciifjgdgoaaGreatDoorRf8
import Derived.Test.YtmcfciifjgdgoaaGreatDoorLgQ
section
/- The developers' large numbers, part 9: whole numbers. -/
namespace Go.Proofs.YtmcfciifjgdgoaaGreatDoor
open Go.RowKit

def OfPost (w : World) (n : Int) (e : Ending) (w' : World) : Prop :=
  ∃ A' c' xs, e = .returned (.agg #[.bool (decide (n < 0)), .slice A' xs.length c']) ∧ OwnNums .u32 w w' 55 A' c' xs ∧ Lg.Rep (decide (n < 0)) xs n ∧ Grew w w'
theorem val_two (N : Nat) : Dg.val 4294967296 [N % 4294967296, N / 4294967296] = N := by
  rw [Dg.val_cons, Dg.val_cons, Dg.val_nil]
  omega
theorem rep_two {n : Int} {N : Nat} (h : N = n.natAbs) (h64 : N < 18446744073709551616) : Lg.Rep (decide (n < 0)) (Dg.cut [N % 4294967296, N / 4294967296]) n ∧ (decide (n < 0) && decide (0 < (Dg.cut [N % 4294967296, N / 4294967296]).length)) = decide (n < 0) := by
  have r := cut_rep (decide (n < 0)) (xs := [N % 4294967296, N / 4294967296]) (Dg.Low.cons (Nat.mod_lt _ (by decide)) (Dg.Low.cons (by omega) (Dg.Low.nil _)))
  rw [val_two] at r
  have e : Lg.sgn (decide (n < 0)) N = n := by
    by_cases hn : n < 0
    · rw [decide_eq_true hn, Lg.sgn, if_pos rfl]; omega
    · rw [decide_eq_false hn, Lg.sgn, if_neg (by decide)]; omega
  rw [e] at r
  have := r.neg
  rw [this] at r
  exact ⟨r, this⟩

set_option maxRecDepth 100000 in
set_option maxHeartbeats 400000 in
theorem pof_c (n : Int) (w : World) (h1 : -9223372036854775808 ≤ n) (h2 : n ≤ 9223372036854775807) :
    Calls Tryz.prog 23 #[.int .i64 n] w (OfPost w n) := by
  obtain ⟨N, hN⟩ : ∃ N, N = n.natAbs := ⟨_, rfl⟩
  have h64 : N < 18446744073709551616 := by omega
  have HR := hid (rep_two hN h64)
  have HN := hid hN
  clear hN
  have CM := hid (fun W => pmagOf_c N W h64)
  have CS := hid (fun W => psigned_c (decide (n < 0)) (some ⟨W.heap.size, 0, none⟩) 2 [N % 4294967296, N / 4294967296] W (W.alloc (.cells (numCells .u32 [N % 4294967296, N / 4294967296]).toArray 55)) (OwnNums.new .u32 55 [N % 4294967296, N / 4294967296] (Grew.refl W) (by simp)) (by simp))
  have HL := hid (show ([N % 4294967296, N / 4294967296] : List Nat).length = 2 from rfl)
  have HO := hid (fun W : World => OwnNums.new .u32 55 [N % 4294967296, N / 4294967296] (Grew.refl W) (by simp))
  generalize [N % 4294967296, N / 4294967296] = xs at *
  rw [HL.out] at CS
  have CS2 := hid (fun W => CS.out W)
  rw [HR.out.2] at CS2
  have HR2 := hid HR.out.1
  have HT := hid (Dg.cut_take xs)
  clear CS HR
  generalize Dg.cut xs = L at *
  by_cases hneg : n < 0
  · rw [decide_eq_true hneg] at CS2 HR2
    have CM2 := hid (fun W => CM.out W)
    rw [show ((N : Nat) : Int) = IntKind.u64.wrap (-IntKind.u64.wrap n) by rw [IntKind.wrap_u64, IntKind.wrap_u64]; have := HN.out; omega] at CM2
    unfold OfPost
    rw [decide_eq_true hneg]
    go_enter Tryz.func23, Tryz.ntmps23
    go_wp2_with fail
    refine (CM2.out _).mono ?_
    rintro e w1 ⟨rfl, rfl⟩
    go_wp2_with fail
    have C3 := CS2.out (w.alloc (.cells #[.bool false, .slice none 0 0] 27))
    rw [World.size_alloc] at C3
    refine C3.mono ?_
    clear C3
    rintro e w1 ⟨rfl, y, rfl⟩
    have hO := HO.out (w.alloc (.cells #[.bool false, .slice none 0 0] 27))
    have hO2 := (hO.take L.length).grew y.grew
    rw [HL.out, ← HT.out] at hO2
    have HO2 := hid hO2
    have hG := ((Grew.refl (w.alloc (.cells #[.bool false, .slice none 0 0] 27))).alloc (.cells (numCells .u32 xs).toArray 55)).trans y.grew
    have b0 : y.w.cell? ⟨w.heap.size, 0, none⟩ = some (.bool false) := by rw [hG.below.cell (by simp)]; simp
    have b1 : y.w.cell? ⟨w.heap.size, 1, none⟩ = some (.slice none 0 0) := by rw [hG.below.cell (by simp)]; simp
    have fr : ∀ i, y.w.frozen? ⟨w.heap.size, i, none⟩ = false := fun i => by rw [hG.below.frozen (by simp)]; simp
    have HG := hid hG
    clear hO hO2 hG
    go_wp2_with fail
    refine bodyPost_ret (v := .agg #[.bool true, .slice (some ⟨w.heap.size + 1, 0, none⟩) L.length 2]) (by simp [results, Tryz.results23, go_sem, *]) rfl ?_
    obtain ⟨h1, h2⟩ := own_back2 ((Grew.refl w).alloc _) (by simpa using HO2.out) HG.out w.heap.size (Nat.le_refl _) (by simp) (.bool true) (.slice (some ⟨w.heap.size + 1, 0, none⟩) L.length 2)
    exact ⟨_, _, L, rfl, h1, HR2.out, h2⟩
  · rw [decide_eq_false hneg] at CS2 HR2
    unfold OfPost
    rw [decide_eq_false hneg]
    obtain rfl : n = ((N : Nat) : Int) := by have := HN.out; omega
    clear hneg HN
    have CM2 := hid (fun W => CM.out W)
    go_enter Tryz.func23, Tryz.ntmps23
    go_wp2_with fail
    refine (CM2.out _).mono ?_
    rintro e w1 ⟨rfl, rfl⟩
    go_wp2_with fail
    have C3 := CS2.out (w.alloc (.cells #[.bool false, .slice none 0 0] 27))
    rw [World.size_alloc] at C3
    refine C3.mono ?_
    clear C3
    rintro e w1 ⟨rfl, y, rfl⟩
    have hO := HO.out (w.alloc (.cells #[.bool false, .slice none 0 0] 27))
    have hO2 := (hO.take L.length).grew y.grew
    rw [HL.out, ← HT.out] at hO2
    have HO2 := hid hO2
    have hG := ((Grew.refl (w.alloc (.cells #[.bool false, .slice none 0 0] 27))).alloc (.cells (numCells .u32 xs).toArray 55)).trans y.grew
    have b0 : y.w.cell? ⟨w.heap.size, 0, none⟩ = some (.bool false) := by rw [hG.below.cell (by simp)]; simp
    have b1 : y.w.cell? ⟨w.heap.size, 1, none⟩ = some (.slice none 0 0) := by rw [hG.below.cell (by simp)]; simp
    have fr : ∀ i, y.w.frozen? ⟨w.heap.size, i, none⟩ = false := fun i => by rw [hG.below.frozen (by simp)]; simp
    have HG := hid hG
    clear hO hO2 hG
    go_wp2_with fail
    refine bodyPost_ret (v := .agg #[.bool false, .slice (some ⟨w.heap.size + 1, 0, none⟩) L.length 2]) (by simp [results, Tryz.results23, go_sem, *]) rfl ?_
    obtain ⟨h1, h2⟩ := own_back2 ((Grew.refl w).alloc _) (by simpa using HO2.out) HG.out w.heap.size (Nat.le_refl _) (by simp) (.bool false) (.slice (some ⟨w.heap.size + 1, 0, none⟩) L.length 2)
    exact ⟨_, _, L, rfl, h1, HR2.out, h2⟩

theorem val_short2 {xs : List Nat} (h : xs.length ≤ 2) : Dg.val 4294967296 xs = xs.getD 0 0 + 4294967296 * xs.getD 1 0 := by
  rcases xs with _ | ⟨a, _ | ⟨b, _ | ⟨c, r⟩⟩⟩
  · rfl
  · simp
  · simp
  · simp at h
theorem val_long2 {xs : List Nat} (ht : Dg.Top xs) (h : 2 < xs.length) : 18446744073709551616 ≤ Dg.val 4294967296 xs := by
  have h1 := Dg.val_ge (B := 4294967296) ht (by rintro rfl; simp at h)
  have h2 : (4294967296 : Nat) ^ 2 ≤ 4294967296 ^ (xs.length - 1) := Nat.pow_le_pow_right (by decide) (by omega)
  exact Nat.le_trans h2 h1

set_option maxRecDepth 100000 in
set_option maxHeartbeats 800000 in
theorem pint_c (neg : Bool) (A : Option Addr) (c : Nat) (xs : List Nat) (w : World) (h : NumsAt .u32 w w.heap.size A xs) (hx : Dg.Low 4294967296 xs) (hn : xs.length ≤ 1000000000000) :
    Calls Tryz.prog 18 #[.agg #[.bool neg, .slice A xs.length c]] w fun e w' => e = .returned (.tuple #[.int .i64 (intVal neg xs), .bool (intOk neg xs)]) ∧ Grew w w' := by
  have H := hid h
  clear h
  have CV := hid (pvalid_c neg A c xs (w.alloc (.cells #[.bool neg, .slice A xs.length c] 27)) (H.out.grew ((Grew.refl _).alloc _)) hn)
  cases hm : Lg.may neg xs
  · have E := hid (show intOk neg xs = false by simp [intOk, hm])
    rw [hm] at CV
    go_enter Tryz.func18, Tryz.ntmps18
    go_wp2_with fail
    refine CV.out.mono ?_
    rintro e w1 ⟨rfl, hg⟩
    go_wp2_with fail
    go_ret2
    exact ⟨ret_ib (intOk_no E.out).symm E.out.symm, ((Grew.refl _).alloc _).trans hg⟩
  · obtain ⟨tx, hl64⟩ := top_of_may hx hm
    rw [hm] at CV
    have HNM := hid (show Lg.num neg xs = Lg.sgn neg (Dg.val 4294967296 xs) from rfl)
    obtain ⟨r, hr⟩ : ∃ r, r = intVal neg xs := ⟨_, rfl⟩
    obtain ⟨k, hk⟩ : ∃ k, k = intOk neg xs := ⟨_, rfl⟩
    rw [← hr, ← hk]
    have HR := hid hr
    have HK := hid hk
    clear hr hk
    by_cases hl2 : 2 < xs.length
    · have hl2' : (2 : Int) < (xs.length : Int) := by omega
      have E := hid (show intOk neg xs = false by
        have := val_long2 tx hl2
        cases neg <;> simp [intOk, hm, HNM.out, Lg.sgn] <;> omega)
      clear hm
      go_enter Tryz.func18, Tryz.ntmps18
      go_wp2_with fail
      refine CV.out.mono ?_
      rintro e w1 ⟨rfl, y, rfl⟩
      have b1 : y.w.cell? ⟨w.heap.size, 1, none⟩ = some (.slice A xs.length c) := by rw [y.cell _ (by simp)]; simp
      go_wp2_with fail
      go_ret2
      exact ⟨ret_ib (by rw [HR.out, intOk_no E.out]) (by rw [HK.out, E.out]), ((Grew.refl _).alloc _).trans y.grew⟩
    · have hl2' : ¬ (2 : Int) < (xs.length : Int) := by omega
      have x0 := Dg.Low.getD (by decide) hx 0
      have x1 := Dg.Low.getD (by decide) hx 1
      have HV := hid (val_short2 (xs := xs) (by omega))
      have C0 := fun W h => pat_c A c xs 0 W h (by omega) (by omega)
      have C1 := fun W h => pat_c A c xs 1 W h (by omega) (by omega)
      rw [show ((0 : Nat) : Int) = 0 from rfl] at C0
      rw [show ((1 : Nat) : Int) = 1 from rfl] at C1
      replace C0 := hid C0
      replace C1 := hid C1
      have CJ := hid (fun W => pjoin_c (xs.getD 1 0) (xs.getD 0 0) W x1 x0)
      generalize xs.getD 0 0 = lo at *
      generalize xs.getD 1 0 = hi at *
      have HOK := hid (show intOk neg xs = (decide (-9223372036854775808 ≤ Lg.num neg xs) && decide (Lg.num neg xs ≤ 9223372036854775807)) by simp [intOk, hm])
      clear hm
      go_enter Tryz.func18, Tryz.ntmps18
      go_wp2_with fail
      refine CV.out.mono ?_
      rintro e w1 ⟨rfl, y, rfl⟩
      have b0 : y.w.cell? ⟨w.heap.size, 0, none⟩ = some (.bool neg) := by rw [y.cell _ (by simp)]; simp
      have b1 : y.w.cell? ⟨w.heap.size, 1, none⟩ = some (.slice A xs.length c) := by rw [y.cell _ (by simp)]; simp
      have HG := hid (show Grew w y.w from ((Grew.refl _).alloc _).trans y.grew)
      generalize y.w = wz at *
      go_wp2_with fail
      go_quiet ((first
        | ((with_reducible exact Calls.quiet_of_same (C1.out _ (H.out.grew (HG.out.trans (Grew.mk (below_drewN (Below.refl _ _) _)))))))
        | ((with_reducible exact Calls.quiet_of_same (C0.out _ (H.out.grew (HG.out.trans (Grew.mk (below_drewN (Below.refl _ _) _)))))))
        | ((with_reducible exact Calls.quiet_of_same (CJ.out _)))))
      have HG2 := hid (show Grew w (wz.drewN nq) from HG.out.trans (Grew.mk (below_drewN (Below.refl _ _) _)))
      have hnb : lo + 4294967296 * hi < 18446744073709551616 := by omega
      obtain ⟨N, eN⟩ : ∃ N, N = lo + 4294967296 * hi := ⟨_, rfl⟩
      rw [← eN]
      rw [← eN] at HV hnb
      clear eN CJ C0 C1 x0 x1
      have HO2 : Hid (intOk neg xs = (decide (-9223372036854775808 ≤ Lg.sgn neg N) && decide (Lg.sgn neg N ≤ 9223372036854775807))) := hid (by rw [HOK.out, HNM.out, HV.out])
      have HI2 : Hid (intOk neg xs = true → intVal neg xs = Lg.sgn neg N) := hid (fun h => by rw [intOk_yes h, HNM.out, HV.out])
      clear HOK HNM HV
      cases neg
      · by_cases hN : N ≤ 9223372036854775807
        · have hN' : ((N : Nat) : Int) ≤ 9223372036854775807 := by omega
          have E := hid (show k = true by rw [HK.out, HO2.out]; simp [Lg.sgn]; omega)
          have F := hid (show r = ((N : Nat) : Int) from HR.out.trans (HI2.out (by rw [← HK.out, E.out])))
          go_wp2_with fail
          go_ret2
          exact ⟨ret_ib F.out.symm E.out.symm, HG2.out⟩
        · have hN' : ¬ ((N : Nat) : Int) ≤ 9223372036854775807 := by omega
          have E := hid (show k = false by rw [HK.out, HO2.out]; simp [Lg.sgn]; omega)
          have F := hid (show r = 0 by rw [HR.out, intOk_no (by rw [← HK.out, E.out])])
          go_wp2_with fail
          go_ret2
          exact ⟨ret_ib F.out.symm E.out.symm, HG2.out⟩
      · by_cases hN : N ≤ 9223372036854775808
        · have hN' : ((N : Nat) : Int) ≤ 9223372036854775808 := by omega
          have E := hid (show k = true by rw [HK.out, HO2.out]; simp [Lg.sgn]; omega)
          have F := hid (show r = -((N : Nat) : Int) from HR.out.trans (HI2.out (by rw [← HK.out, E.out])))
          go_wp2_with fail
          go_ret2
          exact ⟨ret_ib (by rw [F.out]; unfold wrap64; rw [IntKind.wrap_u64]; omega) E.out.symm, HG2.out⟩
        · have hN' : ¬ ((N : Nat) : Int) ≤ 9223372036854775808 := by omega
          have hN2 : ¬ ((N : Nat) : Int) ≤ 9223372036854775807 := by omega
          have E := hid (show k = false by rw [HK.out, HO2.out]; simp [Lg.sgn]; omega)
          have F := hid (show r = 0 by rw [HR.out, intOk_no (by rw [← HK.out, E.out])])
          go_wp2_with fail
          go_ret2
          exact ⟨ret_ib F.out.symm E.out.symm, HG2.out⟩
end Go.Proofs.YtmcfciifjgdgoaaGreatDoor
end

section
/- The walks of the document's own large numbers, part 9: quotients. -/
namespace Go.Proofs.YtmcfciifjgdgoaaGreatDoor
open Go.RowKit

theorem OwnNums.made (w0 w : World) (e : TypeId) (d : List Nat) (hg : Grew w0 w) (hd : d.length ≤ 1000000) : OwnNums .u8 w0 (w.alloc (.cells (byteCells d) e)) e (some ⟨w.heap.size, 0, none⟩) d.length d := by
  refine ⟨by simp [numCells], .inr ⟨w.heap.size, d.length, byteCells d, rfl, hg.below.size, heap_alloc_new w _, Nat.le_refl _, by simp only [maxLen]; omega, by simp [byteCells], ?_⟩⟩
  simp [byteCells, numCells, List.take_of_length_le]
/-- One digit of a quotient more. -/
theorem div_round {p n v q r s : Nat} (h : p = n * q + r) (hs : s * q ≤ v + 2 * r) : v + 2 * p = (s + 2 * n) * q + (v + 2 * r - s * q) := by
  subst h
  have e1 : (s + 2 * n) * q = s * q + 2 * (n * q) := by rw [Nat.add_mul, Nat.mul_assoc]
  omega
theorem digit_of_val {x : Nat} {R M : List Nat} (h : M = [x] ++ R) (hx : x < 2) (hr : Dg.Low 2 R) : Dg.Low 2 (Dg.cut M) ∧ Dg.Top (Dg.cut M) ∧ Dg.val 2 (Dg.cut M) = x + 2 * Dg.val 2 R := by
  subst h
  exact ⟨Dg.cut_low (Dg.Low.cons hx hr), Dg.cut_top _, by rw [Dg.cut_val]; simp⟩
theorem set_drop {N : List Nat} {m s : Nat} (hm : m < N.length) : Dg.val 2 ((N.set m s).drop m) = s + 2 * Dg.val 2 (N.drop (m + 1)) := by
  have hl : m < (N.set m s).length := by rw [List.length_set]; exact hm
  rw [Dg.val_drop 2 hl]
  congr 1
  · simp [List.getD_eq_getElem?_getD, hm]
  · congr 2
    rw [List.drop_set_of_lt (by omega)]
theorem set_below {N : List Nat} {m s : Nat} (h : ∀ j, j < m + 1 → N.getD j 0 = 0) : ∀ j, j < m → (N.set m s).getD j 0 = 0 := by
  intro j hj
  have := h j (by omega)
  simpa [List.getD_eq_getElem?_getD, List.getElem?_set, show m ≠ j by omega] using this
set_option maxRecDepth 100000 in
set_option maxHeartbeats 8000000 in
theorem rdiv_c (na : Bool) (A : Option Addr) (c : Nat) (xs : List Nat) (nb : Bool) (B : Option Addr) (d : Nat) (ys : List Nat) (w : World) (ha : NumsAt .u32 w w.heap.size A xs) (hb : NumsAt .u32 w w.heap.size B ys) (lx : Dg.Low 4294967296 xs) (ly : Dg.Low 4294967296 ys) (hn : xs.length ≤ 1000000000000) (hm : ys.length ≤ 1000000000000) :
    Calls Tryz.prog 15 #[.agg #[.bool na, .slice A xs.length c], .agg #[.bool nb, .slice B ys.length d]] w fun e w' => ∃ A1 c1 n1 L1 A2 c2 n2 L2 k, e = .returned (.tuple #[.agg #[.bool n1, .slice A1 L1.length c1], .agg #[.bool n2, .slice A2 L2.length c2], .int .i64 ((k : Nat) : Int)]) ∧ OwnNums .u32 w w' 55 A1 c1 L1 ∧ OwnNums .u32 w w' 55 A2 c2 L2 ∧ OutD (Lg.may na xs && Lg.may nb ys) (Lg.num na xs) (Lg.num nb ys) n1 L1 n2 L2 k ∧ Grew w w' := by
  have HA := hid ha
  have HB := hid hb
  clear ha hb
  have hbox := Box4.mk' w 24 24 24 na A xs.length c nb B ys.length d
  go_enter Tryz.func15, Tryz.ntmps15
  go_wp2_with fail
  generalize (((w.alloc (.cells #[.bool na, .slice A xs.length c] 24)).alloc (.cells #[.bool nb, .slice B ys.length d] 24)).alloc (.cells #[.bool false, .slice none 0 0] 24)).alloc (.cells #[.bool false, .slice none 0 0] 24) = wb at *
  obtain ⟨hg, l0, l1, l2, l3, a0, a1, b0, b1, r0, r1, fr, s0, s1, fs⟩ := hbox
  have HG := hid hg
  clear hg
  refine (may_c na A c xs wb (HA.out.grew HG.out) hn).mono ?_
  cases hma : Lg.may na xs
  · rintro e w1 ⟨rfl, y1, rfl⟩
    go_wp2_with fail
    refine bodyPost_ret (v := .tuple #[.agg #[.bool false, .slice none 0 0], .agg #[.bool false, .slice none 0 0], .int .i64 1]) (by simp [results, Tryz.results15, go_sem, *]) rfl ?_
    exact ⟨none, 0, false, [], none, 0, false, [], 1, rfl, OwnNums.nil _ _ _ _, OwnNums.nil _ _ _ _, OutD.mk (fun _ => ⟨rfl, ⟨rfl, rfl⟩, rfl, rfl⟩) (fun h => by simp [*] at h) (fun h => by simp [*] at h), ((((HG.out.trans y1.grew).setCell (by simp <;> omega) _).setCell (by simp <;> omega) _).setCell (by simp <;> omega) _).setCell (by simp <;> omega) _⟩
  · rintro e w1 ⟨rfl, y1, rfl⟩
    go_wp2_with fail
    refine (Calls.grew y1.grew (may_c nb B d ys _ ((HB.out.grew HG.out).grew y1.grew) hm)).mono ?_
    cases hmb : Lg.may nb ys
    · rintro e w1 ⟨rfl, y2, rfl⟩
      go_wp2_with fail
      refine bodyPost_ret (v := .tuple #[.agg #[.bool false, .slice none 0 0], .agg #[.bool false, .slice none 0 0], .int .i64 1]) (by simp [results, Tryz.results15, go_sem, *]) rfl ?_
      exact ⟨none, 0, false, [], none, 0, false, [], 1, rfl, OwnNums.nil _ _ _ _, OwnNums.nil _ _ _ _, OutD.mk (fun _ => ⟨rfl, ⟨rfl, rfl⟩, rfl, rfl⟩) (fun h => by simp [*] at h) (fun h => by simp [*] at h), ((((HG.out.trans y2.grew).setCell (by simp <;> omega) _).setCell (by simp <;> omega) _).setCell (by simp <;> omega) _).setCell (by simp <;> omega) _⟩
    · rintro e w1 ⟨rfl, y2, rfl⟩
      have hlx := (Lg.may_iff.1 hma).1
      have hly := (Lg.may_iff.1 hmb).1
      rcases Nat.eq_zero_or_pos ys.length with h0 | h0
      · have e := List.eq_nil_of_length_eq_zero h0
        subst e
        clear h0
        have HZ := hid (show Lg.num nb [] = 0 by cases nb <;> simp [Lg.num, Lg.sgn])
        clear hly hlx lx ly hn hm
        go_wp2_with fail
        refine bodyPost_ret (v := .tuple #[.agg #[.bool false, .slice none 0 0], .agg #[.bool false, .slice none 0 0], .int .i64 10]) (by simp [results, Tryz.results15, go_sem, *]) rfl ?_
        exact ⟨none, 0, false, [], none, 0, false, [], 10, rfl, OwnNums.nil _ _ _ _, OwnNums.nil _ _ _ _, OutD.mk (fun h => by simp [*] at h) (fun _ _ => ⟨rfl, ⟨rfl, rfl⟩, rfl, rfl⟩) (fun _ h => absurd HZ.out h), ((((HG.out.trans y2.grew).setCell (by simp <;> omega) _).setCell (by simp <;> omega) _).setCell (by simp <;> omega) _).setCell (by simp <;> omega) _⟩
      · have hl0 : (((ys.length : Nat) : Int) == 0) = false := by rw [beq_eq_false_iff_ne]; omega
        have rb := Lg.Rep.of_may ly hmb
        have hpos : 0 < Dg.val 4294967296 ys := Dg.val_pos (by decide) rb.top (by rintro rfl; simp at h0)
        clear rb h0
        go_upto_region 5 with fail
        go_cut [7, 8] (fun s8 s9 wx => ∃ (A3 : Option Addr) (c3 : Nat) (A4 : Option Addr) (c4 : Nat) (y : After wb), s8 = .slice A3 (Dg.cut (flat xs)).length c3 ∧ s9 = .slice A4 (Dg.cut (flat ys)).length c4 ∧ OwnNums .u8 wb y.w 5 A3 c3 (Dg.cut (flat xs)) ∧ OwnNums .u8 wb y.w 5 A4 c4 (Dg.cut (flat ys)) ∧ wx = y.w)
        case first =>
          go_region_with ((first
            | (go_at_call 27; ((with_reducible refine (bits_c A c xs _ (HA.out.grew (HG.out.trans (by first | exact After.grew _ | exact (After.grew _).drew))) (by omega)).mono ?_); rintro e w3 ⟨A3, c3, rfl, hO3, hG3⟩); obtain ⟨y3, rfl⟩ := Grew.trans (show Grew wb _ by first | exact After.grew _ | exact (After.grew _).drew) hG3)
            | (go_at_call 27; ((with_reducible refine (bits_c B d ys _ (HB.out.grew (HG.out.trans (by first | exact After.grew _ | exact (After.grew _).drew))) (by omega)).mono ?_); rintro e w4 ⟨A4, c4, rfl, hO4, hG4⟩); obtain ⟨y4, rfl⟩ := Grew.trans (show Grew wb _ by first | exact After.grew _ | exact (After.grew _).drew) hG4)))
          all_goals
            go_wp2_with fail
            go_meet
            case rel => exact ⟨A3, c3, A4, c4, y4, rfl, rfl, (OwnNums.mono hO3 (by first | exact After.grew _ | exact (After.grew _).drew)).grew hG4, OwnNums.mono hO4 (by first | exact After.grew _ | exact (After.grew _).drew), rfl⟩
        case rest =>
          clear hl0
          obtain ⟨A3, c3, A4, c4, y, rfl, rfl, hO3, hO4, rfl⟩ := hcut
          obtain ⟨pl, pt, pv, pn⟩ := bits_of xs lx
          obtain ⟨ql, qt, qv, qn⟩ := bits_of ys ly
          generalize Dg.cut (flat xs) = P at *
          generalize Dg.cut (flat ys) = Q at *
          have HNa : Hid (Lg.num na xs = Lg.sgn na (Dg.val 2 P)) := hid (by rw [Lg.num, pv])
          have HNb : Hid (Lg.num nb ys = Lg.sgn nb (Dg.val 2 Q)) := hid (by rw [Lg.num, qv])
          have HQ := hid (show 0 < Dg.val 2 Q by rw [qv]; exact hpos)
          have hPl : P.length ≤ 2048 := by omega
          have hQl : Q.length ≤ 2048 := by omega
          have HO3 := hid hO3
          have HO4 := hid hO4
          clear pv qv pn qn hO3 hO4 hpos
          have hmk := make_bytes Tryz.underlying57 Tryz.info_u8 P.length (by omega)
          go_wp2_with fail
          clear hmk
          have hBq : OwnNums .u8 y.w (y.w.alloc (.cells (byteCells (List.replicate P.length 0)) 5)) 5 (some ⟨y.w.heap.size, 0, none⟩) P.length (List.replicate P.length 0) := by
            have := OwnNums.made y.w y.w 5 (List.replicate P.length 0) (Grew.refl _) (by simp; omega)
            rwa [List.length_replicate] at this
          have HBq := hid hBq
          have HGq := hid (show Grew y.w (y.w.alloc (.cells (byteCells (List.replicate P.length 0)) 5)) from (Grew.refl _).alloc _)
          clear hBq
          generalize y.w.alloc (.cells (byteCells (List.replicate P.length 0)) 5) = wq at *
          go_loopw [10, 11] (fun r i wr => ∃ (k : Nat) (E : Option Addr) (f : Nat) (R N : List Nat), i = .int .i64 ((k : Int) - 1) ∧ r = .slice E R.length f ∧ OwnNums .u8 y.w wr 5 E f R ∧ OwnNums .u8 y.w wr 5 (some ⟨y.w.heap.size, 0, none⟩) P.length N ∧ Grew y.w wr ∧ k ≤ P.length ∧ R.length ≤ 2048 ∧ N.length = P.length ∧ Hid ((∀ g, E = some ⟨g, 0, none⟩ → g ≠ y.w.heap.size) ∧ Dg.Low 2 R ∧ Dg.Top R ∧ Dg.Low 2 N ∧ Dg.val 2 R < Dg.val 2 Q ∧ Dg.val 2 (P.drop k) = Dg.val 2 (N.drop k) * Dg.val 2 Q + Dg.val 2 R ∧ ∀ j, j < k → N.getD j 0 = 0)) (fun _ i _ => (intOf i + 1).toNat)
          case atStart => exact ⟨P.length, none, 0, [], List.replicate P.length 0, by go_num, rfl, OwnNums.nil _ _ _ _, HBq.out, HGq.out, Nat.le_refl _, by decide, by simp, hid ⟨(fun g h => by cases h), Dg.Low.nil 2, Dg.Top.nil, (fun x hx => by rw [List.eq_of_mem_replicate hx]; decide), HQ.out, (by simp), (fun j hj => by simp [List.getD_eq_getElem?_getD, hj])⟩⟩
          case round =>
            clear HBq HGq
            obtain ⟨k, E, f, R, N, rfl, rfl, hR, hN, hg, hk, hRl, hNl, HL⟩ := hrel
            rcases Nat.eq_zero_or_pos k with h0 | h0
            · subst h0
              have HV := hid (show Dg.val 2 P = Dg.val 2 N * Dg.val 2 Q + Dg.val 2 R by simpa using HL.out.2.2.2.2.2.1)
              obtain ⟨y9, rfl⟩ := hg
              have bA : y9.w.cell? ⟨w.heap.size, 0, none⟩ = some (.bool na) := by rw [y9.cell _ (by have := y.b.size; simp; omega), y.cell _ (by simp; omega)]; exact a0
              have bB : y9.w.cell? ⟨w.heap.size + 1, 0, none⟩ = some (.bool nb) := by rw [y9.cell _ (by have := y.b.size; simp; omega), y.cell _ (by simp; omega)]; exact b0
              go_upto_region 15 with fail
              go_cut [74] (fun s74 wx => ∃ t : Bool, s74 = .bool t ∧ Hid (t = (!(na == nb) && decide (0 < R.length))) ∧ wx = y9.w)
              case first =>
                cases hab : (na == nb)
                · go_wp2_with fail
                  go_meet
                  case rel => exact ⟨_, rfl, hid (by rw [hab]; simp), rfl⟩
                · go_wp2_with fail
                  go_meet
                  case rel => exact ⟨_, rfl, hid (by rw [hab]; simp), rfl⟩
              case rest =>
                obtain ⟨t, rfl, HT, rfl⟩ := hcut
                have hSa := hid (((Lg.Rep.of_may lx hma).len).1 hlx)
                have hSb := hid (((Lg.Rep.of_may ly hmb).len).1 hly)
                rw [HNa.out, Lg.small, Lg.sgn_abs] at hSa
                rw [HNb.out, Lg.small, Lg.sgn_abs] at hSb
                have hR1 := hR.mono y.grew
                have hN1 := hN.mono y.grew
                have hQ1 := HO4.out.grew y9.grew
                have hgw : Grew wb y9.w := y.grew.trans y9.grew
                have HL2 := hid HL.out.2
                generalize y9.w = W9 at *
                rw [← hNl] at hN1 ⊢
                clear hR hN HL HO3 HO4 bA bB
                generalize y.w.heap.size = g9 at *
                obtain ⟨z, rfl⟩ := hgw
                have hNl3 : N.length ≤ 2048 := by omega
                clear hNl
                go_upto_if 74 with fail
                go_cut [9, 10] (fun s9 s10 wx => ∃ (A5 : Option Addr) (c5 : Nat) (N5 : List Nat) (A6 : Option Addr) (c6 : Nat) (R6 : List Nat) (z5 : After wb), s9 = .slice A5 N5.length c5 ∧ s10 = .slice A6 R6.length c6 ∧ OwnNums .u8 wb z5.w 5 A5 c5 N5 ∧ OwnNums .u8 wb z5.w 5 A6 c6 R6 ∧ wx = z5.w ∧ N5.length ≤ 3000 ∧ R6.length ≤ 3000 ∧ Hid (Dg.Low 2 N5 ∧ Dg.Low 2 R6 ∧ (Lg.num na xs).fdiv (Lg.num nb ys) = Lg.sgn (!(na == nb)) (Dg.val 2 N5) ∧ (Lg.num na xs).fmod (Lg.num nb ys) = Lg.sgn nb (Dg.val 2 R6) ∧ Dg.val 2 N5 < 4294967296 ^ 64 ∧ Dg.val 2 R6 < 4294967296 ^ 64))
                case first =>
                  have HS := Lg.div_signs (na := na) (nb := nb) HV.out HL2.out.2.2.2.1
                  have hNle : Dg.val 2 N ≤ Dg.val 2 P := by
                    rw [HV.out]
                    have := Nat.mul_le_mul_left (Dg.val 2 N) HQ.out
                    omega
                  cases t
                  · have HH := hid (show (Lg.num na xs).fdiv (Lg.num nb ys) = Lg.sgn (!(na == nb)) (Dg.val 2 N) ∧ (Lg.num na xs).fmod (Lg.num nb ys) = Lg.sgn nb (Dg.val 2 R) by
                      rw [HNa.out, HNb.out]
                      by_cases hab : na = nb
                      · have := HS.1 hab
                        rw [this.1, this.2]
                        subst hab
                        simp
                      · have h1 := HT.out
                        have h2 : (na == nb) = false := by simpa using hab
                        rw [h2] at h1 ⊢
                        have hl : R.length = 0 := by
                          have : ¬ 0 < R.length := by simpa using h1
                          omega
                        have hz : Dg.val 2 R = 0 := by rw [List.eq_nil_of_length_eq_zero hl]; rfl
                        have := HS.2.1 hab hz
                        rw [this.1, this.2, hz]
                        exact ⟨rfl, rfl⟩)
                    have hSN := hid (Nat.lt_of_le_of_lt hNle hSa.out)
                    have hSR := hid (Nat.lt_trans HL2.out.2.2.2.1 hSb.out)
                    clear HS hNle
                    go_wp2_with fail
                    go_meet
                    case rel => exact ⟨some ⟨g9, 0, none⟩, N.length, N, E, f, R, z, rfl, rfl, hN1, hR1, rfl, by omega, by omega, hid ⟨HL2.out.2.2.1, HL2.out.1, HH.out.1, HH.out.2, hSN.out, hSR.out⟩⟩
                  · have hT2 := HT.out
                    have hab : na ≠ nb ∧ 0 < R.length := by
                      have h1 : (!(na == nb)) = true ∧ decide (0 < R.length) = true := by
                        rw [← Bool.and_eq_true]; exact hT2.symm
                      exact ⟨by simpa using h1.1, by simpa using h1.2⟩
                    have hRp : 0 < Dg.val 2 R := Dg.val_pos (by decide) HL2.out.2.1 (by intro h; rw [h] at hab; simp at hab)
                    have h3 := HS.2.2 hab.1 hRp
                    have hbn : (na == nb) = false := by simpa using hab.1
                    have HH := hid (show (Lg.num na xs).fdiv (Lg.num nb ys) = Lg.sgn (!(na == nb)) (Dg.val 2 N + 1) ∧ (Lg.num na xs).fmod (Lg.num nb ys) = Lg.sgn nb (Dg.val 2 Q - Dg.val 2 R) by
                      rw [HNa.out, HNb.out, h3.1, h3.2, hbn]
                      exact ⟨rfl, rfl⟩)
                    have hSN := hid (show Dg.val 2 N + 1 < 4294967296 ^ 64 by
                      refine Nat.lt_of_le_of_lt ?_ hSa.out
                      have h5 := Nat.mul_le_mul_left (Dg.val 2 N) HQ.out
                      rw [HV.out]
                      omega)
                    have hSR := hid (Nat.lt_of_le_of_lt (Nat.sub_le _ (Dg.val 2 R)) hSb.out)
                    have hRQ := hid (Nat.le_of_lt HL2.out.2.2.2.1)
                    clear HS hNle hT2 hab hRp h3 hbn
                    go_wp2_with (go_at_call 39; refine (cut_c _ _ _ _ hN1.at (by omega) hN1.cap.1 hN1.cap.2).mono ?_; rintro e W1 ⟨rfl, rfl⟩)
                    have hCo : OwnNums .u8 wb z.w 5 (some ⟨g9, 0, none⟩) N.length (Dg.cut N) := by
                      have := OwnNums.take hN1 (Dg.cut N).length
                      rwa [← Dg.cut_take] at this
                    have hCL := Dg.cut_low HL2.out.2.2.1
                    have hCV := hid (Dg.cut_val 2 N)
                    have hCl : (Dg.cut N).length ≤ 2048 := Nat.le_trans (Dg.cut_len N) hNl3
                    generalize Dg.cut N = C at *
                    have hone := NumsAt.one .u8 z.w 5 1
                    rw [show ((1 : Nat) : Int) = 1 from rfl] at hone
                    have hCo2 := (OwnNums.alloc hCo (.cells #[.int .u8 1] 5)).at
                    refine (plus_c _ _ C (some ⟨z.w.heap.size, 0, none⟩) 1 [1] (z.w.alloc (.cells #[.int .u8 1] 5)) hCo2 hone hCL (Dg.Low.cons (by decide) (Dg.Low.nil 2)) (by omega) (by decide)).mono ?_
                    rintro e w5 ⟨A5, c5, L5, rfl, hO5, hl5, hv5, hn5, hG5⟩
                    have hQ5 := (hQ1.alloc (.cells #[.int .u8 1] 5)).grew hG5
                    have hR5 := (hR1.alloc (.cells #[.int .u8 1] 5)).grew hG5
                    replace hO5 := hO5.mono (z.grew.alloc _)
                    obtain ⟨z5, rfl⟩ := (z.grew.alloc (.cells #[.int .u8 1] 5)).trans hG5
                    have hV5 := hid hv5
                    clear hv5 hG5 hCo hN1 hR1 hQ1
                    go_wp2_with fail
                    refine (minus_c A4 c4 Q E f R z5.w hQ5.at hR5.at ql HL2.out.1 HL2.out.2.1 hRQ.out (by omega)).mono ?_
                    rintro e w6 ⟨A6, c6, L6, rfl, hO6, hl6, ht6, hv6, hn6, hG6⟩
                    replace hO5 := hO5.grew hG6
                    replace hO6 := hO6.mono z5.grew
                    obtain ⟨z6, rfl⟩ := z5.grew.trans hG6
                    have hV6 := hid hv6
                    clear hv6 hG6
                    have hb5 : L5.length ≤ 3000 := by simp at hn5; omega
                    go_wp2_with fail
                    go_meet
                    case rel =>
                      refine ⟨A5, c5, L5, A6, c6, L6, z6, rfl, rfl, hO5, hO6, rfl, hb5, by omega, ?_⟩
                      have e5 : Dg.val 2 L5 = Dg.val 2 N + 1 := by rw [hV5.out, hCV.out]; rfl
                      exact hid ⟨hl5, hl6, by rw [e5]; exact HH.out.1, by rw [hV6.out]; exact HH.out.2, by rw [e5]; exact hSN.out, by rw [hV6.out]; exact hSR.out⟩
                case rest =>
                  obtain ⟨A5, c5, N5, A6, c6, R6, z5, rfl, rfl, hN5, hR5, rfl, hNb, hRb, HF⟩ := hcut
                  clear hR1 hQ1 hN1 hNl3 HL2 hSa hSb HT HV
                  go_wp2_with fail
                  refine (made_c _ A5 c5 N5 z5.w hN5.at HF.out.1 (by omega) hN5.cap.1 hN5.cap.2).mono ?_
                  rintro e w7 ⟨A7, c7, n7, L7, k7, rfl, hO7, hOut7, hG7⟩
                  obtain ⟨rfl, hr7⟩ := hOut7.yes (by rw [Lg.small, Lg.sgn_abs]; exact HF.out.2.2.2.2.1)
                  have hR7 := hR5.grew hG7
                  replace hO7 := hO7.mono z5.grew
                  obtain ⟨z7, rfl⟩ := z5.grew.trans hG7
                  have HR7 := hid hr7
                  clear hOut7 hr7 hG7 hN5 hR5 hNb
                  go_wp2_with fail
                  refine (made_c _ A6 c6 R6 _ (OwnNums.alloc hR7 _).at HF.out.2.1 (by omega) hR7.cap.1 hR7.cap.2).mono ?_
                  rintro e w8 ⟨A8, c8, n8, L8, k8, rfl, hO8, hOut8, hG8⟩
                  obtain ⟨rfl, hr8⟩ := hOut8.yes (by rw [Lg.small, Lg.sgn_abs]; exact HF.out.2.2.2.2.2)
                  have q0 : w8.cell? ⟨z7.w.heap.size, 0, none⟩ = some (.bool n7) := by rw [hG8.below.cell (by simp)]; simp
                  have q1 : w8.cell? ⟨z7.w.heap.size, 1, none⟩ = some (.slice A7 L7.length c7) := by rw [hG8.below.cell (by simp)]; simp
                  have ql8 : z7.w.heap.size < w8.heap.size := by have := hG8.below.size; simp at this; omega
                  have hF7 := hid (show ∀ g, A7 = some ⟨g, 0, none⟩ → wb.heap.size ≤ g from fun g hA => ((World.ownsRow.lt hO7) g (by rw [hA]; rfl)).1)
                  have hF8 := hid (show ∀ g, A8 = some ⟨g, 0, none⟩ → wb.heap.size ≤ g from fun g hA => by
                    have h1 := ((World.ownsRow.lt hO8) g (by rw [hA]; rfl)).1
                    have h2 := z7.b.size
                    simp at h1
                    omega)
                  have hO7' := hid (((OwnNums.alloc hO7 _).grew hG8).mono HG.out)
                  have hO8' := hid ((hO8.mono (z7.grew.alloc _)).mono HG.out)
                  obtain ⟨z8, rfl⟩ := (z7.grew.alloc _).trans hG8
                  have HR8 := hid hr8
                  have m2 : w.heap.size + 1 + 1 < z8.w.heap.size := by have := z8.b.size; omega
                  have m3 : w.heap.size + 1 + 1 + 1 < z8.w.heap.size := by have := z8.b.size; omega
                  have g0 : z8.w.cell? ⟨w.heap.size + 1 + 1, 0, none⟩ = some (.bool false) := by rw [z8.cell _ (by simp; omega)]; exact r0
                  have g1 : z8.w.cell? ⟨w.heap.size + 1 + 1, 1, none⟩ = some (.slice none 0 0) := by rw [z8.cell _ (by simp; omega)]; exact r1
                  have g2 : ∀ i, z8.w.frozen? ⟨w.heap.size + 1 + 1, i, none⟩ = false := fun i => by rw [z8.frozen _ (by simp; omega)]; exact fr i
                  have g3 : z8.w.cell? ⟨w.heap.size + 1 + 1 + 1, 0, none⟩ = some (.bool false) := by rw [z8.cell _ (by simp; omega)]; exact s0
                  have g4 : z8.w.cell? ⟨w.heap.size + 1 + 1 + 1, 1, none⟩ = some (.slice none 0 0) := by rw [z8.cell _ (by simp; omega)]; exact s1
                  have g5 : ∀ i, z8.w.frozen? ⟨w.heap.size + 1 + 1 + 1, i, none⟩ = false := fun i => by rw [z8.frozen _ (by simp; omega)]; exact fs i
                  have HGz := hid (HG.out.trans z8.grew)
                  clear hOut8 hr8 hG8 hR7 hO7 hO8 hRb a0 a1 b0 b1 r0 r1 fr s0 s1 fs
                  go_wp2_with fail
                  go_region
                  go_wp2
                  refine bodyPost_ret (v := .tuple #[.agg #[.bool n7, .slice A7 L7.length c7], .agg #[.bool n8, .slice A8 L8.length c8], .int .i64 0]) (by simp [results, Tryz.results15, go_sem, *]) rfl ?_
                  have d7 : ∀ p : Addr, (p.block = w.heap.size + 1 + 1 ∨ p.block = w.heap.size + 1 + 1 + 1) → ∀ g, A7 = some ⟨g, 0, none⟩ → g ≠ p.block := fun p hp g hA => by have := hF7.out g hA; omega
                  have d8 : ∀ p : Addr, (p.block = w.heap.size + 1 + 1 ∨ p.block = w.heap.size + 1 + 1 + 1) → ∀ g, A8 = some ⟨g, 0, none⟩ → g ≠ p.block := fun p hp g hA => by have := hF8.out g hA; omega
                  refine ⟨A7, c7, n7, L7, A8, c8, n8, L8, 0, rfl, ?_, ?_, OutD.mk (fun h => by simp [hma, hmb] at h) (fun _ h => ?_) (fun _ _ => ⟨rfl, by rw [HF.out.2.2.1]; exact HR7.out, by rw [HF.out.2.2.2.1]; exact HR8.out⟩), ?_⟩
                  · exact (((((hO7'.out.far (d7 _ (.inl rfl)) _).far (d7 _ (.inl rfl)) _).far (d7 _ (.inr rfl)) _).far (d7 _ (.inr rfl)) _).alloc _).drew
                  · exact (((((hO8'.out.far (d8 _ (.inl rfl)) _).far (d8 _ (.inl rfl)) _).far (d8 _ (.inr rfl)) _).far (d8 _ (.inr rfl)) _).alloc _).drew
                  · exfalso
                    rw [HNb.out] at h
                    have := HQ.out
                    cases nb <;> simp [Lg.sgn] at h <;> omega
                  · exact (((((HGz.out.setCell (by simp <;> omega) _).setCell (by simp <;> omega) _).setCell (by simp <;> omega) _).setCell (by simp <;> omega) _).alloc _).drew
            · obtain ⟨m, rfl⟩ : ∃ m, k = m + 1 := ⟨k - 1, by omega⟩
              obtain ⟨ad, rfl, had, hca⟩ := (HO3.out.at) (by omega)
              have hcm := hca m (by omega)
              have hx := Dg.Low.getD (by decide) pl m
              have hst := hid (Dg.val_drop 2 (show m < P.length by omega))
              have hcw : wr.cell? (ad.add m) = some (.int .u8 ((P.getD m 0 : Nat) : Int)) := (hg.below.cell (by rw [block_add]; exact had)).trans hcm
              clear hca hcm
              generalize P.getD m 0 = x at *
              go_wp2_with (first
                | (at_builtin; refine wpList_catM .u8 1 wr _ rfl _ _ 57 5 rfl Tryz.underlying57 Tryz.info_u8 ((Grew.refl _).alloc _) (some ⟨wr.heap.size, 0, none⟩) 1 [x] rfl (OwnNums.made1 .u8 wr wr 5 x (Grew.refl _)) E f R rfl ((hR.alloc _).at) (by simp; omega) (by simp; omega) ?_; rintro A' c' M W1 hM hO hG; have hMl : M.length ≤ 2049 := by rw [hM.out]; simp; omega)
                | (go_at_call 39; refine (cut_c _ _ _ _ hO.at (by omega) hO.cap.1 hO.cap.2).mono ?_; rintro e W1 ⟨rfl, rfl⟩))
              obtain ⟨hC1, hC2, hC3⟩ := digit_of_val hM.out hx HL.out.2.1
              have hOC : OwnNums .u8 wr W1 5 A' c' (Dg.cut M) := by
                have := OwnNums.take hO (Dg.cut M).length
                rwa [← Dg.cut_take] at this
              have hCl : (Dg.cut M).length ≤ 2049 := Nat.le_trans (Dg.cut_len M) hMl
              generalize Dg.cut M = C at *
              have hDist : ∀ g, A' = some ⟨g, 0, none⟩ → g ≠ y.w.heap.size := fun g hA => by
                have h1 := (World.ownsRow.lt hOC) g (by rw [hA]; rfl)
                have h2 := (World.ownsRow.lt hN) y.w.heap.size rfl
                omega
              have hN1 := hN.grew hG
              have hg1 := hg.trans hG
              have hOC1 : OwnNums .u8 y.w W1 5 A' c' C := hOC.mono hg
              clear hM hO hMl hOC hR hcw
              refine (more_c A' c' C A4 c4 Q W1 hOC1.at (HO4.out.at.grew hg1) hC1 ql hC2 qt (by omega) (by omega)).mono ?_
              have HP := hid (show Dg.val 2 (P.drop m) = x + 2 * (Dg.val 2 (N.drop (m + 1)) * Dg.val 2 Q + Dg.val 2 R) by rw [hst.out, HL.out.2.2.2.2.2.1])
              by_cases hle : Dg.val 2 Q ≤ Dg.val 2 C
              · rw [decide_eq_true hle]
                rintro e w5 ⟨rfl, hg5⟩
                have hN5 := hid (hN1.grew hg5)
                have hC5 := hid (hOC1.grew hg5)
                have hgg5 := hid (hg1.trans hg5)
                have HLE := hid hle
                have HC3 := hid hC3
                clear hle hg5 hN1 hOC1 hg1 hC3 hst hN hg hG
                go_wp2_with fail
                refine (minus_c A' c' C A4 c4 Q w5 hC5.out.at (HO4.out.at.grew hgg5.out) hC1 ql qt HLE.out (by omega)).mono ?_
                rintro e w6 ⟨A7, c7, S, rfl, hO7, hl7, ht7, hv7, hn7, hG7⟩
                have hD7 := hid (show ∀ g, A7 = some ⟨g, 0, none⟩ → g ≠ y.w.heap.size from fun g hA => by
                  have h1 := (World.ownsRow.lt hO7) g (by rw [hA]; rfl)
                  have h2 := (World.ownsRow.lt hN5.out) y.w.heap.size rfl
                  omega)
                have hN7 := hN5.out.grew hG7
                have hS7 := hid (hO7.mono hgg5.out)
                have hgg7 := hid (hgg5.out.trans hG7)
                rcases hN7.cases with ⟨h, _⟩ | ⟨g9, h9, _, hlt9, hcell9, hfro9, _⟩
                · cases h
                have hg9 : g9 = y.w.heap.size := by
                  have := Option.some.inj h9
                  exact (congrArg Addr.block this).symm
                subst hg9
                have cN := hcell9 m (by omega)
                have fN := hfro9 m
                have HNN := hid hN7
                have hml : (m : Int) < (P.length : Int) := by omega
                have hSv := hid (show Dg.val 2 S = x + 2 * Dg.val 2 R - 1 * Dg.val 2 Q by rw [hv7, HC3.out, Nat.one_mul])
                have hSlt := hid (show Dg.val 2 S < Dg.val 2 Q by have := HL.out.2.2.2.2.1; have := HC3.out; rw [hv7]; omega)
                have hSl : S.length ≤ 2048 := Nat.le_trans (Dg.len_le (by decide) ql ht7 (Nat.le_of_lt hSlt.out)) hQl
                have hLE2 := hid (show 1 * Dg.val 2 Q ≤ x + 2 * Dg.val 2 R by rw [Nat.one_mul, ← HC3.out]; exact HLE.out)
                clear hv7 hcell9 hfro9 hO7 hN7 hG7 h9 hn7
                go_wp2_with fail
                go_roundw
                case rel =>
                  refine ⟨m, A7, c7, S, N.set m 1, by go_num, rfl, hS7.out.far (fun g hA => hD7.out g hA) _, OwnNums.set HNN.out m 1, hgg7.out.setCell (Nat.le_refl _) _, by omega, hSl, by rw [List.length_set]; exact hNl, ?_⟩
                  refine hid ⟨hD7.out, hl7, ht7, HL.out.2.2.2.1.set (by decide) _, hSlt.out, ?_, set_below HL.out.2.2.2.2.2.2⟩
                  rw [HP.out, set_drop (by omega), hSv.out]
                  exact div_round rfl hLE2.out
                case measure => simp [intOf]
              · rw [decide_eq_false hle]
                rintro e w5 ⟨rfl, hg5⟩
                have hN5 := hid (hN1.grew hg5)
                have hC5 := hid (hOC1.grew hg5)
                have hgg5 := hid (hg1.trans hg5)
                have HLE := hid hle
                have HC3 := hid hC3
                have hCl2 : C.length ≤ 2048 := Nat.le_trans (Dg.len_le (by decide) ql hC2 (by omega)) hQl
                clear hle hg5 hN1 hOC1 hg1 hC3 hst hN hg hG
                go_wp2_with fail
                go_roundw
                case rel =>
                  refine ⟨m, A', c', C, N, by go_num, rfl, hC5.out, hN5.out, hgg5.out, by omega, hCl2, hNl, ?_⟩
                  refine hid ⟨hDist, hC1, hC2, HL.out.2.2.2.1, Nat.lt_of_not_le HLE.out, ?_, fun j hj => HL.out.2.2.2.2.2.2 j (by omega)⟩
                  rw [HP.out, Dg.val_drop 2 (show m < N.length by omega), HL.out.2.2.2.2.2.2 m (by omega), HC3.out]
                  have := div_round (p := Dg.val 2 (N.drop (m + 1)) * Dg.val 2 Q + Dg.val 2 R) (v := x) (s := 0) (q := Dg.val 2 Q) rfl (by omega)
                  rwa [Nat.zero_mul, Nat.sub_zero] at this
                case measure => simp [intOf]
end Go.Proofs.YtmcfciifjgdgoaaGreatDoor
end
