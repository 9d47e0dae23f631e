/- The walks of package small: each function by its contract. -/
import Derived.Test.YtceldfnajemdkaaDoorProg
import Derived.Test.YtceldfnajemdkaaDoorBase
import Derived.Test.YtceldfnajemdkaaDoorNum
import Derived.Test.YtceldfnajemdkaaDoorSmP
import Derived.Laws.BitsAllLaws
namespace Go.Proofs.YtceldfnajemdkaaDoor
open Go.RowKit

theorem fits_c (n : Int) (w : World) : Calls Tryd.prog 20 #[.int .i64 n] w fun e w' => e = .returned (.bool (Sm.fits n)) ∧ w' = w := by
  go_enter Tryd.func20, Tryd.ntmps20
  go_wp2
  all_goals
    go_ret
    exact ⟨ret_bool (by simp [Sm.fits]; try omega), rfl⟩
theorem rfits_c (n : Int) (w : World) : Calls Tryd.prog 21 #[.int .i64 n] w fun e w' => e = .returned (.bool (Sm.fits n)) ∧ w' = w := by
  go_enter Tryd.func21, Tryd.ntmps21
  go_wp2
  all_goals
    go_ret
    exact ⟨ret_bool (by simp [Sm.fits]; try omega), rfl⟩

theorem checked_c (a b n : Int) (w : World) : Calls Tryd.prog 24 #[.int .i64 a, .int .i64 b, .int .i64 n] w fun e w' => e = .returned (.tuple #[.int .i64 (Sm.val3 a b n), .bool (Sm.ok3 a b n)]) ∧ w' = w := by
  have e1 : Sm.val3 a b n = if (Sm.fits a && Sm.fits b && Sm.fits n) = true then n else 0 := rfl
  have e2 : Sm.ok3 a b n = (Sm.fits a && Sm.fits b && Sm.fits n) := rfl
  rw [e1, e2]
  clear e1 e2
  cases ha : Sm.fits a <;> cases hb : Sm.fits b <;> cases hn : Sm.fits n
  all_goals
    go_enter Tryd.func24, Tryd.ntmps24
    go_wp2_with (go_at_call 20; refine (fits_c _ _).mono ?_; rintro e w' ⟨rfl, rfl⟩)
    go_ret2
    exact ⟨rfl, rfl⟩

theorem ok3_congr {a b m n : Int} (h : Sm.fits a = true → Sm.fits b = true → m = n) : Sm.ok3 a b m = Sm.ok3 a b n := by
  unfold Sm.ok3
  cases ha : Sm.fits a <;> cases hb : Sm.fits b <;> simp
  rw [h ha hb]
theorem val3_congr {a b m n : Int} (h : Sm.fits a = true → Sm.fits b = true → m = n) : Sm.val3 a b m = Sm.val3 a b n := by
  unfold Sm.val3
  rw [ok3_congr h]
  by_cases hk : Sm.ok3 a b n = true
  · rw [if_pos hk, if_pos hk]
    exact h (Sm.ok3_iff.1 hk).1 (Sm.ok3_iff.1 hk).2.1
  · rw [if_neg hk, if_neg hk]

theorem ret_ib {k : IntKind} {a b : Int} {p q : Bool} (h : a = b) (h2 : p = q) : Ending.returned (.tuple #[.int k a, .bool p]) = .returned (.tuple #[.int k b, .bool q]) := by rw [h, h2]
theorem ret_iv {k : IntKind} {a b : Int} {p q : Value} (h : a = b) (h2 : p = q) : Ending.returned (.tuple #[.int k a, p]) = .returned (.tuple #[.int k b, q]) := by rw [h, h2]
theorem wrap_fit {n : Int} (h : -9223372036854775808 ≤ n ∧ n ≤ 9223372036854775807) : wrap64 n = n := IntWalk.wrap64_in n h
theorem wrap_add {a b : Int} (ha : Sm.fits a = true) (hb : Sm.fits b = true) : wrap64 (a + b) = a + b := by
  have := Sm.fits_iff.1 ha; have := Sm.fits_iff.1 hb
  exact wrap_fit (by omega)
theorem wrap_sub {a b : Int} (ha : Sm.fits a = true) (hb : Sm.fits b = true) : wrap64 (a - b) = a - b := by
  have := Sm.fits_iff.1 ha; have := Sm.fits_iff.1 hb
  exact wrap_fit (by omega)

theorem add_c (a b : Int) (w : World) : Calls Tryd.prog 8 #[.int .i64 a, .int .i64 b] w fun e w' => e = .returned (.tuple #[.int .i64 (Sm.val3 a b (a + b)), .bool (Sm.ok3 a b (a + b))]) ∧ w' = w := by
  go_enter Tryd.func8, Tryd.ntmps8
  go_wp2_with (go_at_call 24; refine (checked_c _ _ _ _).mono ?_; rintro e w' ⟨rfl, rfl⟩)
  go_ret2
  exact ⟨ret_ib (val3_congr wrap_add) (ok3_congr wrap_add), rfl⟩
theorem sub_c (a b : Int) (w : World) : Calls Tryd.prog 10 #[.int .i64 a, .int .i64 b] w fun e w' => e = .returned (.tuple #[.int .i64 (Sm.val3 a b (a - b)), .bool (Sm.ok3 a b (a - b))]) ∧ w' = w := by
  go_enter Tryd.func10, Tryd.ntmps10
  go_wp2_with (go_at_call 24; refine (checked_c _ _ _ _).mono ?_; rintro e w' ⟨rfl, rfl⟩)
  go_ret2
  exact ⟨ret_ib (val3_congr wrap_sub) (ok3_congr wrap_sub), rfl⟩

/-! ### Words -/
theorem or_one (m : Nat) (h : 4 * m < 18446744073709551616) : bits .or .u64 ((4 * m : Nat) : Int) 1 = ((4 * m + 1 : Nat) : Int) := by
  rw [show (1 : Int) = ((1 : Nat) : Int) from rfl, u64_or_nat _ _ h (by decide)]
  have := Nat.two_pow_add_eq_or_of_lt (b := 1) (i := 2) (by decide) m
  rw [show (2 ^ 2 : Nat) = 4 from rfl] at this
  rw [this]
theorem tag_word (n : Int) : bits .or .u64 (IntKind.u64.wrap (IntKind.u64.wrap n * 4)) 1 = (4 * n + 1) % 18446744073709551616 := by
  rw [IntKind.wrap_u64, IntKind.wrap_u64]
  obtain ⟨m, hm⟩ : ∃ m : Nat, (n % 18446744073709551616 * 4) % 18446744073709551616 = ((4 * m : Nat) : Int) := ⟨(n % 4611686018427387904).toNat, by omega⟩
  have hlt : 4 * m < 18446744073709551616 := by omega
  rw [hm, or_one m hlt]
  omega
theorem and_three {w : Int} (h0 : 0 ≤ w) (h1 : w < 18446744073709551616) : bits .and .u64 w 3 = w % 4 := by
  obtain ⟨m, rfl⟩ := Int.eq_ofNat_of_zero_le h0
  rw [show (3 : Int) = ((3 : Nat) : Int) from rfl, u64_and_nat _ _ (by omega) (by decide)]
  have := Nat.and_two_pow_sub_one_eq_mod m 2
  rw [show (2 ^ 2 - 1 : Nat) = 3 from rfl] at this
  rw [this]
  omega
theorem errVal_zero : errVal 0 = .nilIface := rfl
theorem tag_c (n : Int) (w : World) : Calls Tryd.prog 16 #[.int .i64 n] w fun e w' => e = .returned (.tuple #[.int .u64 (Sm.tagW n), errVal (Sm.tagE n)]) ∧ w' = w := by
  cases hn : Sm.fits n
  · rw [show Sm.tagW n = 0 by simp [Sm.tagW, hn], show Sm.tagE n = 3 by simp [Sm.tagE, hn]]
    go_enter Tryd.func16, Tryd.ntmps16
    go_wp2_with (go_at_call 20; refine (fits_c _ _).mono ?_; rintro e w' ⟨rfl, rfl⟩)
    go_ret2
    exact ⟨rfl, rfl⟩
  · rw [show Sm.tagW n = (4 * n + 1) % 18446744073709551616 by simp [Sm.tagW, hn], show Sm.tagE n = 0 by simp [Sm.tagE, hn]]
    go_enter Tryd.func16, Tryd.ntmps16
    go_wp2_with (go_at_call 20; refine (fits_c _ _).mono ?_; rintro e w' ⟨rfl, rfl⟩)
    go_ret2
    exact ⟨ret_iv (tag_word n) rfl, rfl⟩
theorem of_c (n : Int) (w : World) (h0 : 0 ≤ n) (h1 : n < 18446744073709551616) : Calls Tryd.prog 18 #[.int .u64 n] w fun e w' => e = .returned (.tuple #[.int .i64 (Sm.ofN n), errVal (Sm.ofE n)]) ∧ w' = w := by
  have Hb := hid (and_three h0 h1)
  have Ha := hid h1
  have Hc := hid h0
  clear h0 h1
  go_enter Tryd.func18, Tryd.ntmps18
  go_wp2
  · rename_i h
    rw [Hb.out] at h
    have hn : n % 4 ≠ 1 := by simpa using h
    go_ret2
    exact ⟨ret_iv (by simp [Sm.ofN, hn]) (by simp [Sm.ofE, hn, errVal]), rfl⟩
  · rename_i h
    rw [Hb.out] at h
    have hn : n % 4 = 1 := by simpa using h
    have := Ha.out
    have := Hc.out
    go_ret2
    refine ⟨ret_iv ?_ (by simp [Sm.ofE, hn, errVal]), rfl⟩
    rw [Sm.ofN, if_pos hn]
    unfold wrap64
    split <;> omega

/-! ### Products -/
theorem tdiv_in {n b : Int} (h0 : b ≠ 0) (hm : b ≠ -1) (h : -9223372036854775808 ≤ n ∧ n ≤ 9223372036854775807) : -9223372036854775808 ≤ n.tdiv b ∧ n.tdiv b ≤ 9223372036854775807 := by
  have hl : (n.tdiv b).natAbs = n.natAbs / b.natAbs := Int.natAbs_tdiv n b
  have hle := Nat.div_le_self n.natAbs b.natAbs
  by_cases h1 : b = 1
  · subst h1; rw [Int.tdiv_one]; exact h
  · have := Nat.div_le_div_left (show 2 ≤ b.natAbs by omega) (by decide : 0 < 2) (a := n.natAbs)
    omega
theorem mul_found {a b : Int} (hb : Sm.fits b = true) (hd : wrap64 ((wrap64 (a * b)).tdiv b) = a) (h0 : b ≠ 0) (ha : Sm.fits a = true) : wrap64 (a * b) = a * b := by
  have hw : -9223372036854775808 ≤ wrap64 (a * b) ∧ wrap64 (a * b) ≤ 9223372036854775807 := by unfold wrap64; omega
  by_cases hm : b = -1
  · subst hm
    have := Sm.fits_iff.1 ha
    exact wrap_fit (by omega)
  · refine Sm.mul_wrapped ((a * b + 9223372036854775808) / 18446744073709551616) ?_ hb ?_ h0
    · unfold wrap64; omega
    · rw [wrap_fit (tdiv_in h0 hm hw)] at hd
      exact hd
theorem mul_kept {a b : Int} (h0 : b ≠ 0) (h : Sm.ok3 a b (a * b) = true) : wrap64 ((wrap64 (a * b)).tdiv b) = a := by
  obtain ⟨h1, h2, h3⟩ := Sm.ok3_iff.1 h
  have := Sm.fits_iff.1 h1
  have := Sm.fits_iff.1 h3
  rw [wrap_fit (n := a * b) (by omega), Int.mul_tdiv_cancel _ h0, wrap_fit (by omega)]

theorem mul_c (a b : Int) (w : World) : Calls Tryd.prog 12 #[.int .i64 a, .int .i64 b] w fun e w' => e = .returned (.tuple #[.int .i64 (Sm.val3 a b (a * b)), .bool (Sm.ok3 a b (a * b))]) ∧ w' = w := by
  by_cases h0 : b = 0
  · subst h0
    go_enter Tryd.func12, Tryd.ntmps12
    go_wp2_with (go_at_call 24; refine (checked_c _ _ _ _).mono ?_; rintro e w' ⟨rfl, rfl⟩)
    go_ret2
    exact ⟨ret_ib (val3_congr fun _ _ => by simp) (ok3_congr fun _ _ => by simp), rfl⟩
  · go_enter Tryd.func12, Tryd.ntmps12
    go_wp2_with (go_at_call 24; refine (checked_c _ _ _ _).mono ?_; rintro e w' ⟨rfl, rfl⟩)
    · rename_i h
      go_ret2
      have hne : ¬ Sm.ok3 a b (a * b) = true := by
        intro hk
        have := mul_kept h0 hk
        rw [this] at h
        simp at h
      have hno : Sm.ok3 a b (a * b) = false := by simpa using hne
      exact ⟨ret_ib (Sm.val3_no hno).symm hno.symm, rfl⟩
    · rename_i h
      go_ret2
      have hd : wrap64 ((wrap64 (a * b)).tdiv b) = a := by
        rcases h with h | h
        · exact absurd (by simpa using h) h0
        · simpa using h
      exact ⟨ret_ib (val3_congr fun ha hb => mul_found hb hd h0 ha) (ok3_congr fun ha hb => mul_found hb hd h0 ha), rfl⟩

/-! ### Quotients -/
theorem ret_ie3 {a b c d : Int} {k l : Value} (h : a = c) (h2 : b = d) (h3 : k = l) : Ending.returned (.tuple #[.int .i64 a, .int .i64 b, k]) = .returned (.tuple #[.int .i64 c, .int .i64 d, l]) := by rw [h, h2, h3]
theorem div_rest (a b q r : Int) (h0 : b ≠ 0) (ha : Sm.fits a = true) (hb : Sm.fits b = true) (hq : a.fdiv b = q) (hr : a.fmod b = r) :
    (Sm.fits q = true → Sm.divQ a b = q ∧ Sm.divR a b = r ∧ Sm.divE a b = 0) ∧ (Sm.fits q = false → Sm.divQ a b = 0 ∧ Sm.divR a b = 0 ∧ Sm.divE a b = 3) := by
  refine ⟨fun h => ?_, fun h => ?_⟩
  · have e : Sm.divE a b = 0 := by simp [Sm.divE, ha, hb, h0, hq, h]
    exact ⟨by simp [Sm.divQ, e, hq], by simp [Sm.divR, e, hr], e⟩
  · have e : Sm.divE a b = 3 := by simp [Sm.divE, ha, hb, h0, hq, h]
    exact ⟨by simp [Sm.divQ, e], by simp [Sm.divR, e], e⟩
set_option maxHeartbeats 1000000 in
theorem div_c (a b : Int) (w : World) : Calls Tryd.prog 14 #[.int .i64 a, .int .i64 b] w fun e w' => e = .returned (.tuple #[.int .i64 (Sm.divQ a b), .int .i64 (Sm.divR a b), errVal (Sm.divE a b)]) ∧ Grew w w' := by
  by_cases hab : Sm.fits a = true ∧ Sm.fits b = true
  · obtain ⟨ha, hb⟩ := hab
    by_cases h0 : b = 0
    · subst h0
      have E := hid (show Sm.divE a 0 = 10 by simp [Sm.divE, ha, hb])
      go_enter Tryd.func14, Tryd.ntmps14
      go_wp2_with (go_at_call 20; refine (fits_c _ _).mono ?_; rintro e w' ⟨rfl, rfl⟩)
      go_ret3
      exact ⟨ret_ie3 (by simp [Sm.divQ, E.out]) (by simp [Sm.divR, E.out]) (by rw [E.out]; rfl), Grew.refl _⟩
    · have ba := Sm.fits_iff.1 ha
      have bb := Sm.fits_iff.1 hb
      have bq := Sm.tdiv_bd b ba
      have br := Sm.tmod_bd (a := a) h0
      have h0' : (b == 0) = false := by simpa using h0
      have key := Sm.fdiv_of_tdiv (a := a) h0
      obtain ⟨q, hq⟩ : ∃ q, q = a.tdiv b := ⟨_, rfl⟩
      obtain ⟨r, hr⟩ : ∃ r, r = a.tmod b := ⟨_, rfl⟩
      rw [← hq] at bq
      rw [← hr] at br
      rw [← hq, ← hr] at key
      have E := hid (div_rest a b _ _ h0 ha hb key.1 key.2)
      clear key
      have Hq := hid hq
      have Hr := hid hr
      clear hq hr ba
      rcases Int.lt_trichotomy r 0 with hr0 | hr0 | hr0 <;> rcases Int.lt_or_gt_of_ne h0 with hb0 | hb0
      · have hc := E.out
        rw [if_neg (by simp; omega), if_neg (by simp; omega)] at hc
        cases hf : Sm.fits (q)
        all_goals
          have HC := hid hc
          clear hc E
          have d1 : decide (r < 0) = true := by simp; omega
          have d2 : decide (b < 0) = true := by simp; omega
          have d3 : (r != 0) = true := by simp; omega
          go_enter Tryd.func14, Tryd.ntmps14
          go_wp2_with (go_at_call 20; refine (fits_c _ _).mono ?_; rintro e w' ⟨rfl, rfl⟩)
          refine wp_region_grew (by kernel_rfl) (by kernel_rfl) ?_
          have e1 := Hq.out.symm
          have e2 := Hr.out.symm
          repeat (go_big_quiet_step (fail))
          refine wpQuiet_nil ?_
          rintro _ ⟨y, rfl⟩
          clear e1 e2
          go_wp2_with (go_at_call 20; refine (fits_c _ _).mono ?_; rintro e w' ⟨rfl, rfl⟩)
          go_ret3
          first
            | exact ⟨ret_ie3 (HC.out.1 hf).1.symm ((HC.out.1 hf).2.1.trans (by first | rfl | exact hr0)).symm (by rw [(HC.out.1 hf).2.2]; rfl), y.grew⟩
            | exact ⟨ret_ie3 (HC.out.2 hf).1.symm (HC.out.2 hf).2.1.symm (by rw [(HC.out.2 hf).2.2]; rfl), y.grew⟩
      · have hc := E.out
        rw [if_pos (by simp; omega), if_pos (by simp; omega)] at hc
        cases hf : Sm.fits (q - 1)
        all_goals
          have HC := hid hc
          clear hc E
          have d1 : decide (r < 0) = true := by simp; omega
          have d2 : decide (b < 0) = false := by simp; omega
          have d3 : (r != 0) = true := by simp; omega
          go_enter Tryd.func14, Tryd.ntmps14
          go_wp2_with (go_at_call 20; refine (fits_c _ _).mono ?_; rintro e w' ⟨rfl, rfl⟩)
          refine wp_region_grew (by kernel_rfl) (by kernel_rfl) ?_
          have e1 := Hq.out.symm
          have e2 := Hr.out.symm
          repeat (go_big_quiet_step (fail))
          refine wpQuiet_nil ?_
          rintro _ ⟨y, rfl⟩
          clear e1 e2
          go_wp2_with (go_at_call 20; refine (fits_c _ _).mono ?_; rintro e w' ⟨rfl, rfl⟩)
          go_ret3
          first
            | exact ⟨ret_ie3 (HC.out.1 hf).1.symm ((HC.out.1 hf).2.1.trans (by first | rfl | exact hr0)).symm (by rw [(HC.out.1 hf).2.2]; rfl), y.grew⟩
            | exact ⟨ret_ie3 (HC.out.2 hf).1.symm (HC.out.2 hf).2.1.symm (by rw [(HC.out.2 hf).2.2]; rfl), y.grew⟩
      · have hc := E.out
        rw [if_neg (by simp; omega), if_neg (by simp; omega)] at hc
        cases hf : Sm.fits (q)
        all_goals
          have HC := hid hc
          clear hc E
          have d1 : decide (r < 0) = false := by simp; omega
          have d2 : decide (b < 0) = true := by simp; omega
          have d3 : (r != 0) = false := by simp; omega
          go_enter Tryd.func14, Tryd.ntmps14
          go_wp2_with (go_at_call 20; refine (fits_c _ _).mono ?_; rintro e w' ⟨rfl, rfl⟩)
          refine wp_region_grew (by kernel_rfl) (by kernel_rfl) ?_
          have e1 := Hq.out.symm
          have e2 := Hr.out.symm
          repeat (go_big_quiet_step (fail))
          refine wpQuiet_nil ?_
          rintro _ ⟨y, rfl⟩
          clear e1 e2
          go_wp2_with (go_at_call 20; refine (fits_c _ _).mono ?_; rintro e w' ⟨rfl, rfl⟩)
          go_ret3
          first
            | exact ⟨ret_ie3 (HC.out.1 hf).1.symm ((HC.out.1 hf).2.1.trans (by first | rfl | exact hr0)).symm (by rw [(HC.out.1 hf).2.2]; rfl), y.grew⟩
            | exact ⟨ret_ie3 (HC.out.2 hf).1.symm (HC.out.2 hf).2.1.symm (by rw [(HC.out.2 hf).2.2]; rfl), y.grew⟩
      · have hc := E.out
        rw [if_neg (by simp; omega), if_neg (by simp; omega)] at hc
        cases hf : Sm.fits (q)
        all_goals
          have HC := hid hc
          clear hc E
          have d1 : decide (r < 0) = false := by simp; omega
          have d2 : decide (b < 0) = false := by simp; omega
          have d3 : (r != 0) = false := by simp; omega
          go_enter Tryd.func14, Tryd.ntmps14
          go_wp2_with (go_at_call 20; refine (fits_c _ _).mono ?_; rintro e w' ⟨rfl, rfl⟩)
          refine wp_region_grew (by kernel_rfl) (by kernel_rfl) ?_
          have e1 := Hq.out.symm
          have e2 := Hr.out.symm
          repeat (go_big_quiet_step (fail))
          refine wpQuiet_nil ?_
          rintro _ ⟨y, rfl⟩
          clear e1 e2
          go_wp2_with (go_at_call 20; refine (fits_c _ _).mono ?_; rintro e w' ⟨rfl, rfl⟩)
          go_ret3
          first
            | exact ⟨ret_ie3 (HC.out.1 hf).1.symm ((HC.out.1 hf).2.1.trans (by first | rfl | exact hr0)).symm (by rw [(HC.out.1 hf).2.2]; rfl), y.grew⟩
            | exact ⟨ret_ie3 (HC.out.2 hf).1.symm (HC.out.2 hf).2.1.symm (by rw [(HC.out.2 hf).2.2]; rfl), y.grew⟩
      · have hc := E.out
        rw [if_pos (by simp; omega), if_pos (by simp; omega)] at hc
        cases hf : Sm.fits (q - 1)
        all_goals
          have HC := hid hc
          clear hc E
          have d1 : decide (r < 0) = false := by simp; omega
          have d2 : decide (b < 0) = true := by simp; omega
          have d3 : (r != 0) = true := by simp; omega
          go_enter Tryd.func14, Tryd.ntmps14
          go_wp2_with (go_at_call 20; refine (fits_c _ _).mono ?_; rintro e w' ⟨rfl, rfl⟩)
          refine wp_region_grew (by kernel_rfl) (by kernel_rfl) ?_
          have e1 := Hq.out.symm
          have e2 := Hr.out.symm
          repeat (go_big_quiet_step (fail))
          refine wpQuiet_nil ?_
          rintro _ ⟨y, rfl⟩
          clear e1 e2
          go_wp2_with (go_at_call 20; refine (fits_c _ _).mono ?_; rintro e w' ⟨rfl, rfl⟩)
          go_ret3
          first
            | exact ⟨ret_ie3 (HC.out.1 hf).1.symm ((HC.out.1 hf).2.1.trans (by first | rfl | exact hr0)).symm (by rw [(HC.out.1 hf).2.2]; rfl), y.grew⟩
            | exact ⟨ret_ie3 (HC.out.2 hf).1.symm (HC.out.2 hf).2.1.symm (by rw [(HC.out.2 hf).2.2]; rfl), y.grew⟩
      · have hc := E.out
        rw [if_neg (by simp; omega), if_neg (by simp; omega)] at hc
        cases hf : Sm.fits (q)
        all_goals
          have HC := hid hc
          clear hc E
          have d1 : decide (r < 0) = false := by simp; omega
          have d2 : decide (b < 0) = false := by simp; omega
          have d3 : (r != 0) = true := by simp; omega
          go_enter Tryd.func14, Tryd.ntmps14
          go_wp2_with (go_at_call 20; refine (fits_c _ _).mono ?_; rintro e w' ⟨rfl, rfl⟩)
          refine wp_region_grew (by kernel_rfl) (by kernel_rfl) ?_
          have e1 := Hq.out.symm
          have e2 := Hr.out.symm
          repeat (go_big_quiet_step (fail))
          refine wpQuiet_nil ?_
          rintro _ ⟨y, rfl⟩
          clear e1 e2
          go_wp2_with (go_at_call 20; refine (fits_c _ _).mono ?_; rintro e w' ⟨rfl, rfl⟩)
          go_ret3
          first
            | exact ⟨ret_ie3 (HC.out.1 hf).1.symm ((HC.out.1 hf).2.1.trans (by first | rfl | exact hr0)).symm (by rw [(HC.out.1 hf).2.2]; rfl), y.grew⟩
            | exact ⟨ret_ie3 (HC.out.2 hf).1.symm (HC.out.2 hf).2.1.symm (by rw [(HC.out.2 hf).2.2]; rfl), y.grew⟩
  · have E := hid (show Sm.divE a b = 3 by simp only [Sm.divE, hab, not_false_eq_true, if_true])
    have hab' : Hid (¬ (Sm.fits a = true ∧ Sm.fits b = true)) := hid hab
    clear hab
    cases ha : Sm.fits a <;> cases hb : Sm.fits b
    case true.true => exact absurd ⟨ha, hb⟩ hab'.out
    all_goals
      go_enter Tryd.func14, Tryd.ntmps14
      go_wp2_with (go_at_call 20; refine (fits_c _ _).mono ?_; rintro e w' ⟨rfl, rfl⟩)
      go_ret3
      exact ⟨ret_ie3 (by simp [Sm.divQ, E.out]) (by simp [Sm.divR, E.out]) (by rw [E.out]; rfl), Grew.refl _⟩
end Go.Proofs.YtceldfnajemdkaaDoor
