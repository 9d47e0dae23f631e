/- The document's own product: by doubling, bit by bit, as long as it fits. -/
import Derived.Test.YtceldfnajemdkaaDoorSmRef
namespace Go.Proofs.YtceldfnajemdkaaDoor
open Go.RowKit

/-- Whether the product, taken from 0, and turned about if it is above 0, fits. -/
def downOk (a b : Int) (up : Bool) : Bool := decide (a * b ≤ if up = true then 2305843009213693951 else 2305843009213693952)
def downVal (a b : Int) (up : Bool) : Int := if downOk a b up = true then (if up = true then a * b else -(a * b)) else 0

set_option maxHeartbeats 1000000 in
theorem down_c (a b : Int) (up : Bool) (w : World) (ha : 0 ≤ a) (ha2 : a ≤ 2305843009213693952) (hb : b ≤ 2305843009213693952) (h : 0 ≤ b ∨ a = 0) :
    Calls Tryd.prog 25 #[.int .i64 a, .int .i64 b, .bool up] w fun e w' => e = .returned (.tuple #[.int .i64 (downVal a b up), .bool (downOk a b up)]) ∧ w' = w := by
  have H := hid h
  have HB := hid hb
  clear h hb
  go_enter Tryd.func25, Tryd.ntmps25
  go_wp2
  go_loop [8, 9] (fun n i => ∃ k : Nat, k ≤ 62 ∧ i = .int .i64 ((k : Int) - 1) ∧ n = .int .i64 (-(Sm.dn a b k)) ∧ Sm.dn a b k ≤ 2305843009213693952) (fun _ i => (intOf i + 1).toNat)
  case atStart => exact ⟨62, by omega, rfl, by rw [Sm.dn_top a b HB.out H.out]; rfl, by rw [Sm.dn_top a b HB.out H.out]; decide⟩
  case round =>
    obtain ⟨k, hk, rfl, rfl, hd⟩ := hrel
    rcases Nat.eq_zero_or_pos k with h0 | h0
    · subst h0
      have hz := Sm.dn_zero a b
      have h1 := Sm.dn_nonneg a b 0 ha H.out
      have E1 : Sm.dn a b 0 ≤ 2305843009213693952 → downOk a b false = true ∧ downVal a b false = -(Sm.dn a b 0) := fun h => by
        have e : downOk a b false = true := by simp [downOk]; omega
        exact ⟨e, by simp [downVal, e, hz]⟩
      have E2 : Sm.dn a b 0 ≤ 2305843009213693951 → downOk a b true = true ∧ downVal a b true = Sm.dn a b 0 := fun h => by
        have e : downOk a b true = true := by simp [downOk]; omega
        exact ⟨e, by simp [downVal, e, hz]⟩
      have E3 : 2305843009213693951 < Sm.dn a b 0 → downOk a b true = false ∧ downVal a b true = 0 := fun h => by
        have e : downOk a b true = false := by simp [downOk]; omega
        exact ⟨e, by simp [downVal, e]⟩
      clear hz
      generalize Sm.dn a b 0 = p at *
      have F1 := hid E1
      have F2 := hid E2
      have F3 := hid E3
      clear E1 E2 E3
      cases up
      · go_wp2
        go_ret2
        exact ⟨ret_ib (F1.out hd).2.symm (F1.out hd).1.symm, rfl⟩
      · by_cases hp : p ≤ 2305843009213693951
        · have hf : Sm.fits p = true := Sm.fits_iff.2 (by omega)
          go_wp2_with (go_at_call 21; refine (rfits_c _ _).mono ?_; rintro e w' ⟨rfl, rfl⟩)
          all_goals
            go_ret2
            exact ⟨ret_ib (F2.out hp).2.symm (F2.out hp).1.symm, rfl⟩
        · have hf : Sm.fits p = false := Sm.fits_no.2 (by omega)
          go_wp2_with (go_at_call 21; refine (rfits_c _ _).mono ?_; rintro e w' ⟨rfl, rfl⟩)
          all_goals
            go_ret2
            exact ⟨ret_ib (F3.out (by omega)).2.symm (F3.out (by omega)).1.symm, rfl⟩
    · obtain ⟨j, rfl⟩ : ∃ j, k = j + 1 := ⟨k - 1, by omega⟩
      have h1 := Sm.dn_nonneg a b (j + 1) ha H.out
      have hs := Sm.dn_step a b j H.out
      have hl := Sm.dn_le a b ha H.out j
      have NO : 2305843009213693952 < Sm.dn a b j → downOk a b up = false ∧ downVal a b up = 0 := fun h => by
        have e : downOk a b up = false := by cases up <;> simp [downOk] <;> omega
        exact ⟨e, by simp [downVal, e]⟩
      have FN := hid NO
      clear NO hl
      cases hbit : Sm.bit b j
      · rw [hbit, if_neg (by decide)] at hs
        have HS := hid hs
        have hbit' : ((b / 2 ^ j).tmod 2 == 1) = false := hbit
        clear hs hbit
        by_cases hp : Sm.dn a b (j + 1) ≤ 1152921504606846976
        · go_wp2
          go_round
          case rel => exact ⟨j, by omega, rfl, by rw [HS.out]; go_num, by rw [HS.out]; omega⟩
          case measure => simp [intOf] <;> omega
        · go_wp2
          go_ret2
          exact ⟨ret_ib (FN.out (by rw [HS.out]; omega)).2.symm (FN.out (by rw [HS.out]; omega)).1.symm, rfl⟩
      · rw [hbit, if_pos rfl] at hs
        have HS := hid hs
        have hbit' : ((b / 2 ^ j).tmod 2 == 1) = true := hbit
        clear hs hbit
        by_cases hp : Sm.dn a b (j + 1) ≤ 1152921504606846976
        · by_cases hp2 : 2 * Sm.dn a b (j + 1) + a ≤ 2305843009213693952
          · go_wp2
            go_round
            case rel => exact ⟨j, by omega, rfl, by rw [HS.out]; go_num, by rw [HS.out]; omega⟩
            case measure => simp [intOf] <;> omega
          · go_wp2
            go_ret2
            exact ⟨ret_ib (FN.out (by rw [HS.out]; omega)).2.symm (FN.out (by rw [HS.out]; omega)).1.symm, rfl⟩
        · go_wp2
          go_ret2
          exact ⟨ret_ib (FN.out (by rw [HS.out]; omega)).2.symm (FN.out (by rw [HS.out]; omega)).1.symm, rfl⟩

/-! ### The product -/
theorem ok_prod (a b : Int) (ha : Sm.fits a = true) (hb : Sm.fits b = true) (h : 0 ≤ a * b) : Sm.ok3 a b (a * b) = decide (a * b ≤ 2305843009213693951) := by
  rw [Bool.eq_iff_iff, Sm.ok3_iff, decide_eq_true_iff]
  simp only [ha, hb, true_and, Sm.fits_iff]
  omega
theorem ok_prod_neg (a b : Int) (ha : Sm.fits a = true) (hb : Sm.fits b = true) (h : a * b ≤ 0) : Sm.ok3 a b (a * b) = decide (-(a * b) ≤ 2305843009213693952) := by
  rw [Bool.eq_iff_iff, Sm.ok3_iff, decide_eq_true_iff]
  simp only [ha, hb, true_and, Sm.fits_iff]
  omega
theorem down_up (a b c d : Int) (ha : Sm.fits a = true) (hb : Sm.fits b = true) (e : c * d = a * b) (h : 0 ≤ a * b) : downVal c d true = Sm.val3 a b (a * b) ∧ downOk c d true = Sm.ok3 a b (a * b) := by
  have e1 : downOk c d true = Sm.ok3 a b (a * b) := by rw [ok_prod a b ha hb h]; simp [downOk, e]
  exact ⟨by unfold downVal Sm.val3; rw [e1, e, if_pos rfl], e1⟩
theorem down_neg (a b c d : Int) (ha : Sm.fits a = true) (hb : Sm.fits b = true) (e : c * d = -(a * b)) (h : a * b ≤ 0) : downVal c d false = Sm.val3 a b (a * b) ∧ downOk c d false = Sm.ok3 a b (a * b) := by
  have e1 : downOk c d false = Sm.ok3 a b (a * b) := by rw [ok_prod_neg a b ha hb h]; simp [downOk, e]
  exact ⟨by unfold downVal Sm.val3; rw [e1, e]; simp, e1⟩

set_option maxHeartbeats 1000000 in
theorem rmul_c (a b : Int) (w : World) : Calls Tryd.prog 13 #[.int .i64 a, .int .i64 b] w fun e w' => e = .returned (.tuple #[.int .i64 (Sm.val3 a b (a * b)), .bool (Sm.ok3 a b (a * b))]) ∧ w' = w := by
  cases ha : Sm.fits a
  · have E : Hid (Sm.ok3 a b (a * b) = false) := hid (by simp [Sm.ok3, ha])
    go_enter Tryd.func13, Tryd.ntmps13
    go_wp2_with (go_at_call 21; refine (rfits_c _ _).mono ?_; rintro e w' ⟨rfl, rfl⟩)
    go_ret2
    exact ⟨ret_ib (Sm.val3_no E.out).symm E.out.symm, rfl⟩
  · cases hb : Sm.fits b
    · have E : Hid (Sm.ok3 a b (a * b) = false) := hid (by simp [Sm.ok3, hb])
      go_enter Tryd.func13, Tryd.ntmps13
      go_wp2_with (go_at_call 21; refine (rfits_c _ _).mono ?_; rintro e w' ⟨rfl, rfl⟩)
      go_ret2
      exact ⟨ret_ib (Sm.val3_no E.out).symm E.out.symm, rfl⟩
    · have ba := Sm.fits_iff.1 ha
      have bb := Sm.fits_iff.1 hb
      rcases (by omega : a < 0 ∨ 0 ≤ a) with hA | hA
      · rcases (by omega : b < 0 ∨ 0 ≤ b) with hB | hB
        · have E := hid (down_up a b (-a) (-b) ha hb (by rw [Int.neg_mul_neg]) (Int.mul_nonneg_of_nonpos_of_nonpos (by omega) (by omega)))
          go_enter Tryd.func13, Tryd.ntmps13
          go_wp2_with (first
            | (go_at_call 21; refine (rfits_c _ _).mono ?_; rintro e w' ⟨rfl, rfl⟩)
            | (go_at_call 25; refine (down_c _ _ _ _ (by omega) (by omega) (by omega) (.inl (by omega))).mono ?_; rintro e w' ⟨rfl, rfl⟩))
          all_goals
            go_ret2
            exact ⟨ret_ib E.out.1 E.out.2, rfl⟩
        · have E := hid (down_neg a b (-a) b ha hb (by rw [Int.neg_mul]) (Int.mul_nonpos_of_nonpos_of_nonneg (by omega) (by omega)))
          go_enter Tryd.func13, Tryd.ntmps13
          go_wp2_with (first
            | (go_at_call 21; refine (rfits_c _ _).mono ?_; rintro e w' ⟨rfl, rfl⟩)
            | (go_at_call 25; refine (down_c _ _ _ _ (by omega) (by omega) (by omega) (.inl (by omega))).mono ?_; rintro e w' ⟨rfl, rfl⟩))
          all_goals
            go_ret2
            exact ⟨ret_ib E.out.1 E.out.2, rfl⟩
      · rcases (by omega : b < 0 ∨ 0 ≤ b) with hB | hB
        · by_cases h0 : a = 0
          · subst h0
            have E := hid (down_up 0 b 0 b ha hb rfl (by simp))
            go_enter Tryd.func13, Tryd.ntmps13
            go_wp2_with (first
              | (go_at_call 21; refine (rfits_c _ _).mono ?_; rintro e w' ⟨rfl, rfl⟩)
              | (go_at_call 25; refine (down_c _ _ _ _ (by omega) (by omega) (by omega) (.inr rfl)).mono ?_; rintro e w' ⟨rfl, rfl⟩))
            all_goals
              go_ret2
              exact ⟨ret_ib E.out.1 E.out.2, rfl⟩
          · have E := hid (down_neg a b a (-b) ha hb (by rw [Int.mul_neg]) (Int.mul_nonpos_of_nonneg_of_nonpos (by omega) (by omega)))
            have hA' : 0 < a := by omega
            go_enter Tryd.func13, Tryd.ntmps13
            go_wp2_with (first
              | (go_at_call 21; refine (rfits_c _ _).mono ?_; rintro e w' ⟨rfl, rfl⟩)
              | (go_at_call 25; refine (down_c _ _ _ _ (by omega) (by omega) (by omega) (.inl (by omega))).mono ?_; rintro e w' ⟨rfl, rfl⟩))
            all_goals
              go_ret2
              exact ⟨ret_ib E.out.1 E.out.2, rfl⟩
        · have E := hid (down_up a b a b ha hb rfl (Int.mul_nonneg (by omega) (by omega)))
          go_enter Tryd.func13, Tryd.ntmps13
          go_wp2_with (first
            | (go_at_call 21; refine (rfits_c _ _).mono ?_; rintro e w' ⟨rfl, rfl⟩)
            | (go_at_call 25; refine (down_c _ _ _ _ (by omega) (by omega) (by omega) (.inl (by omega))).mono ?_; rintro e w' ⟨rfl, rfl⟩))
          all_goals
            go_ret2
            exact ⟨ret_ib E.out.1 E.out.2, rfl⟩
end Go.Proofs.YtceldfnajemdkaaDoor
