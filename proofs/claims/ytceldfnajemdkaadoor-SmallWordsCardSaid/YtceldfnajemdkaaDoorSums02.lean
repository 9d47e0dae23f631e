/- SmallWords, SmallSums, SmallProducts: for every input each law returns true, and nothing that was there is changed. Conditions: none of ours. -/
import Derived.Test.YtceldfnajemdkaaDoorBack02
namespace Go.Proofs.YtceldfnajemdkaaDoor
open Go.RowKit

/-! ### Words -/
theorem num_at (k : Nat) (hk : k ≠ 0) (W : World) (hg : HandleAt W) : Calls Tryd.prog 22 #[.iface 48 (.int .i64 k)] W fun e w' => e = .returned (.int .i64 k) ∧ Grew W w' := by
  have := num_c k W hg
  rwa [show errVal k = .iface 48 (.int .i64 k) from by simp [errVal, hk]] at this
theorem num_3 (W : World) (hg : HandleAt W) : Calls Tryd.prog 22 #[.iface 48 (.int .i64 3)] W fun e w' => e = .returned (.int .i64 3) ∧ Grew W w' := num_at 3 (by decide) W hg
theorem num_2 (W : World) (hg : HandleAt W) : Calls Tryd.prog 22 #[.iface 48 (.int .i64 2)] W fun e w' => e = .returned (.int .i64 2) ∧ Grew W w' := num_at 2 (by decide) W hg
theorem of_yes {u : Int} (h0 : 0 ≤ u) (h1 : u < 18446744073709551616) (h : u % 4 = 1) (w : World) : Calls Tryd.prog 18 #[.int .u64 u] w fun e w' => e = .returned (.tuple #[.int .i64 (Sm.ofN u), .nilIface]) ∧ w' = w := by
  have := of_c u w h0 h1
  rwa [show Sm.ofE u = 0 from by simp [Sm.ofE, h], errVal_zero] at this
theorem of_no {u : Int} (h0 : 0 ≤ u) (h1 : u < 18446744073709551616) (h : ¬ u % 4 = 1) (w : World) : Calls Tryd.prog 18 #[.int .u64 u] w fun e w' => e = .returned (.tuple #[.int .i64 0, .iface 48 (.int .i64 2)]) ∧ w' = w := by
  have := of_c u w h0 h1
  rwa [show Sm.ofE u = 2 from by simp [Sm.ofE, h], show Sm.ofN u = 0 from by simp [Sm.ofN, h], show errVal 2 = .iface 48 (.int .i64 2) from rfl] at this
theorem tag_word_of {u : Int} (h0 : 0 ≤ u) (h1 : u < 18446744073709551616) (h : u % 4 = 1) (w : World) : Calls Tryd.prog 16 #[.int .i64 (Sm.ofN u)] w fun e w' => e = .returned (.tuple #[.int .u64 u, .nilIface]) ∧ w' = w := by
  have := tag_yes (Sm.ofN_fits h0 h1) w
  rwa [Sm.tag_of h0 h1 h] at this

set_option maxRecDepth 100000 in
set_option maxHeartbeats 4000000 in
theorem words_walk (n u : Int) (w : World) (h0 : 0 ≤ u) (h1 : u < 18446744073709551616) (hg : HandleAt w) :
    Calls Tryd.prog 5 #[.int .i64 n, .int .u64 u] w fun e w' => e = .returned (.bool true) ∧ Grew w w' := by
  have Hg := hid hg
  have H0 := hid h0
  have H1 := hid h1
  clear hg h0 h1
  cases hf : Sm.fits n <;> by_cases hu : u % 4 = 1
  · have HU := hid hu
    have hF : Sm.fits (Sm.ofN u) = true := Sm.ofN_fits H0.out H1.out
    have e1 : (u.tmod 4 == 1) = true := by rw [Int.tmod_eq_emod_of_nonneg H0.out]; simpa using hu
    clear hu
    go_enter Tryd.func5, Tryd.ntmps5
    go_wp2_with (go_at_call 16; refine (tag_no hf _).mono ?_; rintro e w ⟨rfl, rfl⟩)
    refine wp_region_grew (by kernel_rfl) (by kernel_rfl) ?_
    repeat (go_big_quiet_step (first
      | (go_at_call 20; exact Calls.grew_same (After.grew _) (fits_c _ _))
      | (go_at_call 22; exact Calls.after (After.grew _) (num_3 _ (Hg.out.grew (After.grew _))))))
    refine wpQuiet_nil ?_
    rintro _ ⟨y1, rfl⟩
    go_wp2_with fail
    refine (of_yes H0.out H1.out HU.out _).mono ?_
    rintro e w ⟨rfl, rfl⟩
    go_wp2_with fail
    refine (tag_word_of H0.out H1.out HU.out _).mono ?_
    rintro e w ⟨rfl, rfl⟩
    go_wp2_with (go_at_call 20; refine (fits_c _ _).mono ?_; rintro e w ⟨rfl, rfl⟩)
    refine (Calls.grew y1.grew (sure_c _ (Hg.out.grew y1.grew))).mono ?_
    rintro e w ⟨rfl, y3, rfl⟩
    go_wp2_with fail
    go_ret
    exact ⟨rfl, y3.grew⟩
  · have HU := hid hu
    have e1 : (u.tmod 4 == 1) = false := by rw [Int.tmod_eq_emod_of_nonneg H0.out]; simpa using hu
    clear hu
    go_enter Tryd.func5, Tryd.ntmps5
    go_wp2_with (go_at_call 16; refine (tag_no hf _).mono ?_; rintro e w ⟨rfl, rfl⟩)
    refine wp_region_grew (by kernel_rfl) (by kernel_rfl) ?_
    repeat (go_big_quiet_step (first
      | (go_at_call 20; exact Calls.grew_same (After.grew _) (fits_c _ _))
      | (go_at_call 22; exact Calls.after (After.grew _) (num_3 _ (Hg.out.grew (After.grew _))))))
    refine wpQuiet_nil ?_
    rintro _ ⟨y1, rfl⟩
    go_wp2_with fail
    refine (of_no H0.out H1.out HU.out _).mono ?_
    rintro e w ⟨rfl, rfl⟩
    go_wp2_with fail
    refine (Calls.grew y1.grew (num_2 _ (Hg.out.grew y1.grew))).mono ?_
    rintro e w ⟨rfl, y2, rfl⟩
    go_wp2_with fail
    refine (Calls.grew y2.grew (sure_c _ (Hg.out.grew y2.grew))).mono ?_
    rintro e w ⟨rfl, y3, rfl⟩
    go_wp2_with fail
    go_ret
    exact ⟨rfl, y3.grew⟩
  · have HU := hid hu
    have hF : Sm.fits (Sm.ofN u) = true := Sm.ofN_fits H0.out H1.out
    have e1 : (u.tmod 4 == 1) = true := by rw [Int.tmod_eq_emod_of_nonneg H0.out]; simpa using hu
    obtain ⟨t1, _, t2, t3⟩ := Sm.of_tag hf
    have e2 : (Sm.tagW n % 4 != 1) = false := by simpa using t1
    clear hu t1
    go_enter Tryd.func5, Tryd.ntmps5
    go_wp2_with (go_at_call 16; refine (tag_yes hf _).mono ?_; rintro e w ⟨rfl, rfl⟩)
    refine wp_region_grew (by kernel_rfl) (by kernel_rfl) ?_
    repeat (go_big_quiet_step ((go_at_call 20; exact Calls.grew_same (After.grew _) (fits_c _ _))))
    refine wpQuiet_nil ?_
    rintro _ ⟨y1, rfl⟩
    go_wp2_with fail
    refine (of_tagged hf _).mono ?_
    rintro e w ⟨rfl, rfl⟩
    go_wp2_with fail
    refine (of_yes H0.out H1.out HU.out _).mono ?_
    rintro e w ⟨rfl, rfl⟩
    go_wp2_with fail
    refine (tag_word_of H0.out H1.out HU.out _).mono ?_
    rintro e w ⟨rfl, rfl⟩
    go_wp2_with (go_at_call 20; refine (fits_c _ _).mono ?_; rintro e w ⟨rfl, rfl⟩)
    refine (Calls.grew y1.grew (sure_c _ (Hg.out.grew y1.grew))).mono ?_
    rintro e w ⟨rfl, y3, rfl⟩
    go_wp2_with fail
    go_ret
    exact ⟨rfl, y3.grew⟩
  · have HU := hid hu
    have e1 : (u.tmod 4 == 1) = false := by rw [Int.tmod_eq_emod_of_nonneg H0.out]; simpa using hu
    obtain ⟨t1, _, t2, t3⟩ := Sm.of_tag hf
    have e2 : (Sm.tagW n % 4 != 1) = false := by simpa using t1
    clear hu t1
    go_enter Tryd.func5, Tryd.ntmps5
    go_wp2_with (go_at_call 16; refine (tag_yes hf _).mono ?_; rintro e w ⟨rfl, rfl⟩)
    refine wp_region_grew (by kernel_rfl) (by kernel_rfl) ?_
    repeat (go_big_quiet_step ((go_at_call 20; exact Calls.grew_same (After.grew _) (fits_c _ _))))
    refine wpQuiet_nil ?_
    rintro _ ⟨y1, rfl⟩
    go_wp2_with fail
    refine (of_tagged hf _).mono ?_
    rintro e w ⟨rfl, rfl⟩
    go_wp2_with fail
    refine (of_no H0.out H1.out HU.out _).mono ?_
    rintro e w ⟨rfl, rfl⟩
    go_wp2_with fail
    refine (Calls.grew y1.grew (num_2 _ (Hg.out.grew y1.grew))).mono ?_
    rintro e w ⟨rfl, y2, rfl⟩
    go_wp2_with fail
    refine (Calls.grew y2.grew (sure_c _ (Hg.out.grew y2.grew))).mono ?_
    rintro e w ⟨rfl, y3, rfl⟩
    go_wp2_with fail
    go_ret
    exact ⟨rfl, y3.grew⟩

/-! ### Sums -/
theorem ok3_swap (a b n : Int) : Sm.ok3 b a n = Sm.ok3 a b n := by unfold Sm.ok3; cases Sm.fits a <;> cases Sm.fits b <;> rfl
theorem val3_swap (a b n : Int) : Sm.val3 b a n = Sm.val3 a b n := by unfold Sm.val3; rw [ok3_swap]
theorem add_swap (a b : Int) (w : World) : Calls Tryd.prog 8 #[.int .i64 b, .int .i64 a] w fun e w' => e = .returned (.tuple #[.int .i64 (Sm.val3 a b (a + b)), .bool (Sm.ok3 a b (a + b))]) ∧ w' = w := by
  have := add_c b a w
  rwa [val3_swap, ok3_swap, Int.add_comm b a] at this
theorem mul_swap (a b : Int) (w : World) : Calls Tryd.prog 12 #[.int .i64 b, .int .i64 a] w fun e w' => e = .returned (.tuple #[.int .i64 (Sm.val3 a b (a * b)), .bool (Sm.ok3 a b (a * b))]) ∧ w' = w := by
  have := mul_c b a w
  rwa [val3_swap, ok3_swap, Int.mul_comm b a] at this
theorem zero_fits : Sm.fits 0 = true := rfl
theorem add_zero_c {a : Int} (h : Sm.fits a = true) (w : World) : Calls Tryd.prog 8 #[.int .i64 a, .int .i64 0] w fun e w' => e = .returned (.tuple #[.int .i64 a, .bool true]) ∧ w' = w := by
  have := add_yes (a := a) (b := 0) (Sm.ok3_iff.2 ⟨h, zero_fits, by rw [Int.add_zero]; exact h⟩) w
  rwa [Int.add_zero] at this
theorem sub_self_c {a : Int} (h : Sm.fits a = true) (w : World) : Calls Tryd.prog 10 #[.int .i64 a, .int .i64 a] w fun e w' => e = .returned (.tuple #[.int .i64 0, .bool true]) ∧ w' = w := by
  have := sub_yes (a := a) (b := a) (Sm.ok3_iff.2 ⟨h, h, by rw [Int.sub_self]; exact zero_fits⟩) w
  rwa [Int.sub_self] at this
theorem mul_one_c {a : Int} (h : Sm.fits a = true) (w : World) : Calls Tryd.prog 12 #[.int .i64 a, .int .i64 1] w fun e w' => e = .returned (.tuple #[.int .i64 a, .bool true]) ∧ w' = w := by
  have := mul_yes (a := a) (b := 1) (Sm.ok3_iff.2 ⟨h, rfl, by rw [Int.mul_one]; exact h⟩) w
  rwa [Int.mul_one] at this
theorem zero_mul_c {a : Int} (h : Sm.fits a = true) (w : World) : Calls Tryd.prog 12 #[.int .i64 0, .int .i64 a] w fun e w' => e = .returned (.tuple #[.int .i64 0, .bool true]) ∧ w' = w := by
  have := mul_yes (a := 0) (b := a) (Sm.ok3_iff.2 ⟨zero_fits, h, by rw [Int.zero_mul]; exact zero_fits⟩) w
  rwa [Int.zero_mul] at this
theorem pair_eq {a b c d n : Int} (ha : Sm.fits a = true) (hb : Sm.fits b = true) (hc : Sm.fits c = true) (hd : Sm.fits d = true) : Sm.ok3 a b n = Sm.ok3 c d n ∧ Sm.val3 a b n = Sm.val3 c d n := by
  have e : Sm.ok3 a b n = Sm.ok3 c d n := by simp [Sm.ok3, ha, hb, hc, hd]
  exact ⟨e, by unfold Sm.val3; rw [e]⟩

set_option maxRecDepth 100000 in
set_option maxHeartbeats 4000000 in
theorem sums_walk (a b c : Int) (w : World) (hg : HandleAt w) :
    Calls Tryd.prog 6 #[.int .i64 a, .int .i64 b, .int .i64 c] w fun e w' => e = .returned (.bool true) ∧ Grew w w' := by
  have Hg := hid hg
  clear hg
  cases hf : Sm.fits a
  · have hk : Sm.ok3 a b (a + b) = false := by simp [Sm.ok3, hf]
    go_enter Tryd.func6, Tryd.ntmps6
    go_wp2_with fail
    refine (add_c _ _ _).mono ?_
    rintro e w ⟨rfl, rfl⟩
    go_wp2_with fail
    refine (add_swap _ _ _).mono ?_
    rintro e w ⟨rfl, rfl⟩
    go_wp2_with (go_at_call 20; refine (fits_c _ _).mono ?_; rintro e w ⟨rfl, rfl⟩)
    refine (add_c _ _ _).mono ?_
    rintro e w ⟨rfl, rfl⟩
    go_wp2_with fail
    refine (sure_c _ Hg.out).mono ?_
    rintro e w ⟨rfl, y, rfl⟩
    go_wp2_with fail
    go_ret
    exact ⟨rfl, y.grew⟩
  · cases hk : Sm.ok3 a b (a + b)
    · go_enter Tryd.func6, Tryd.ntmps6
      go_wp2_with fail
      refine (add_c _ _ _).mono ?_
      rintro e w ⟨rfl, rfl⟩
      go_wp2_with fail
      refine (add_swap _ _ _).mono ?_
      rintro e w ⟨rfl, rfl⟩
      go_wp2_with (go_at_call 20; refine (fits_c _ _).mono ?_; rintro e w ⟨rfl, rfl⟩)
      refine (add_zero_c hf _).mono ?_
      rintro e w ⟨rfl, rfl⟩
      go_wp2_with fail
      refine (sub_self_c hf _).mono ?_
      rintro e w ⟨rfl, rfl⟩
      go_wp2_with fail
      refine (add_c _ _ _).mono ?_
      rintro e w ⟨rfl, rfl⟩
      go_wp2_with fail
      refine (sure_c _ Hg.out).mono ?_
      rintro e w ⟨rfl, y, rfl⟩
      go_wp2_with fail
      go_ret
      exact ⟨rfl, y.grew⟩
    · cases hk2 : Sm.ok3 b c (b + c)
      · go_enter Tryd.func6, Tryd.ntmps6
        go_wp2_with fail
        refine (add_c _ _ _).mono ?_
        rintro e w ⟨rfl, rfl⟩
        go_wp2_with fail
        refine (add_swap _ _ _).mono ?_
        rintro e w ⟨rfl, rfl⟩
        go_wp2_with (go_at_call 20; refine (fits_c _ _).mono ?_; rintro e w ⟨rfl, rfl⟩)
        refine (add_zero_c hf _).mono ?_
        rintro e w ⟨rfl, rfl⟩
        go_wp2_with fail
        refine (sub_self_c hf _).mono ?_
        rintro e w ⟨rfl, rfl⟩
        go_wp2_with fail
        refine (add_c _ _ _).mono ?_
        rintro e w ⟨rfl, rfl⟩
        go_wp2_with fail
        refine (sure_c _ Hg.out).mono ?_
        rintro e w ⟨rfl, y, rfl⟩
        go_wp2_with fail
        go_ret
        exact ⟨rfl, y.grew⟩
      · obtain ⟨f1, f2, f3⟩ := Sm.ok3_iff.1 hk
        obtain ⟨_, f4, f5⟩ := Sm.ok3_iff.1 hk2
        have E := pair_eq (n := a + b + c) f3 f4 f1 f5
        rw [show Sm.val3 a (b + c) (a + b + c) = Sm.val3 a (b + c) (a + (b + c)) by rw [Int.add_assoc], show Sm.ok3 a (b + c) (a + b + c) = Sm.ok3 a (b + c) (a + (b + c)) by rw [Int.add_assoc]] at E
        have C1 := hid (fun W => add_c a (b + c) W)
        rw [← E.1, ← E.2] at C1
        have A1 := hid (add_yes hk)
        have A2 := hid (add_yes hk2)
        have A3 := hid (fun W => add_swap a b W)
        rw [Sm.val3_yes hk, hk] at A3
        clear E hk hk2
        go_enter Tryd.func6, Tryd.ntmps6
        go_wp2_with fail
        refine (A1.out _).mono ?_
        rintro e w ⟨rfl, rfl⟩
        go_wp2_with fail
        refine (A3.out _).mono ?_
        rintro e w ⟨rfl, rfl⟩
        go_wp2_with (go_at_call 20; refine (fits_c _ _).mono ?_; rintro e w ⟨rfl, rfl⟩)
        refine (add_zero_c hf _).mono ?_
        rintro e w ⟨rfl, rfl⟩
        go_wp2_with fail
        refine (sub_self_c hf _).mono ?_
        rintro e w ⟨rfl, rfl⟩
        go_wp2_with fail
        refine (A2.out _).mono ?_
        rintro e w ⟨rfl, rfl⟩
        go_wp2_with fail
        refine (add_c _ _ _).mono ?_
        rintro e w ⟨rfl, rfl⟩
        go_wp2_with fail
        refine (C1.out _).mono ?_
        rintro e w ⟨rfl, rfl⟩
        go_wp2_with fail
        refine (sure_c _ Hg.out).mono ?_
        rintro e w ⟨rfl, y, rfl⟩
        go_wp2_with fail
        go_ret
        exact ⟨rfl, y.grew⟩

/-! ### Products -/
set_option maxRecDepth 100000 in
set_option maxHeartbeats 4000000 in
theorem products_walk (a b c : Int) (w : World) (hg : HandleAt w) :
    Calls Tryd.prog 7 #[.int .i64 a, .int .i64 b, .int .i64 c] w fun e w' => e = .returned (.bool true) ∧ Grew w w' := by
  have Hg := hid hg
  clear hg
  cases hf : Sm.fits a
  · have hk : Sm.ok3 a b (a * b) = false := by simp [Sm.ok3, hf]
    go_enter Tryd.func7, Tryd.ntmps7
    go_wp2_with fail
    refine (mul_c _ _ _).mono ?_
    rintro e w ⟨rfl, rfl⟩
    go_wp2_with fail
    refine (mul_swap _ _ _).mono ?_
    rintro e w ⟨rfl, rfl⟩
    go_wp2_with (go_at_call 20; refine (fits_c _ _).mono ?_; rintro e w ⟨rfl, rfl⟩)
    refine (mul_c _ _ _).mono ?_
    rintro e w ⟨rfl, rfl⟩
    go_wp2_with fail
    refine (add_c _ _ _).mono ?_
    rintro e w ⟨rfl, rfl⟩
    go_wp2_with fail
    refine (sure_c _ Hg.out).mono ?_
    rintro e w ⟨rfl, y, rfl⟩
    go_wp2_with fail
    go_ret
    exact ⟨rfl, y.grew⟩
  · by_cases hk : Sm.ok3 a b (a * b) = true ∧ Sm.ok3 a c (a * c) = true ∧ Sm.ok3 b c (b + c) = true
    · obtain ⟨k1, k2, k3⟩ := hk
      obtain ⟨f1, f2, f3⟩ := Sm.ok3_iff.1 k1
      obtain ⟨_, f4, f5⟩ := Sm.ok3_iff.1 k2
      obtain ⟨_, _, f6⟩ := Sm.ok3_iff.1 k3
      have E := pair_eq (n := a * b + a * c) f3 f5 f1 f6
      rw [show Sm.val3 a (b + c) (a * b + a * c) = Sm.val3 a (b + c) (a * (b + c)) by rw [Int.mul_add], show Sm.ok3 a (b + c) (a * b + a * c) = Sm.ok3 a (b + c) (a * (b + c)) by rw [Int.mul_add]] at E
      have C1 := hid (fun W => mul_c a (b + c) W)
      rw [← E.1, ← E.2] at C1
      have A1 := hid (mul_yes k1)
      have A2 := hid (mul_yes k2)
      have A4 := hid (add_yes k3)
      have A3 := hid (fun W => mul_swap a b W)
      rw [Sm.val3_yes k1, k1] at A3
      clear E k1 k2 k3
      go_enter Tryd.func7, Tryd.ntmps7
      go_wp2_with fail
      refine (A1.out _).mono ?_
      rintro e w ⟨rfl, rfl⟩
      go_wp2_with fail
      refine (A3.out _).mono ?_
      rintro e w ⟨rfl, rfl⟩
      go_wp2_with (go_at_call 20; refine (fits_c _ _).mono ?_; rintro e w ⟨rfl, rfl⟩)
      refine (mul_one_c hf _).mono ?_
      rintro e w ⟨rfl, rfl⟩
      go_wp2_with fail
      refine (zero_mul_c hf _).mono ?_
      rintro e w ⟨rfl, rfl⟩
      go_wp2_with fail
      refine (A2.out _).mono ?_
      rintro e w ⟨rfl, rfl⟩
      go_wp2_with fail
      refine (A4.out _).mono ?_
      rintro e w ⟨rfl, rfl⟩
      go_wp2_with fail
      refine (add_c _ _ _).mono ?_
      rintro e w ⟨rfl, rfl⟩
      go_wp2_with fail
      refine (C1.out _).mono ?_
      rintro e w ⟨rfl, rfl⟩
      go_wp2_with fail
      refine (sure_c _ Hg.out).mono ?_
      rintro e w ⟨rfl, y, rfl⟩
      go_wp2_with fail
      go_ret
      exact ⟨rfl, y.grew⟩
    · have HK := hid hk
      clear hk
      cases k1 : Sm.ok3 a b (a * b) <;> cases k2 : Sm.ok3 a c (a * c) <;> cases k3 : Sm.ok3 b c (b + c)
      rotate_right
      · exact absurd ⟨k1, k2, k3⟩ HK.out
      all_goals
          (go_enter Tryd.func7, Tryd.ntmps7
           go_wp2_with fail
           refine (mul_c _ _ _).mono ?_
           rintro e w ⟨rfl, rfl⟩
           go_wp2_with fail
           refine (mul_swap _ _ _).mono ?_
           rintro e w ⟨rfl, rfl⟩
           go_wp2_with (go_at_call 20; refine (fits_c _ _).mono ?_; rintro e w ⟨rfl, rfl⟩)
           refine (mul_one_c hf _).mono ?_
           rintro e w ⟨rfl, rfl⟩
           go_wp2_with fail
           refine (zero_mul_c hf _).mono ?_
           rintro e w ⟨rfl, rfl⟩
           go_wp2_with fail
           refine (mul_c _ _ _).mono ?_
           rintro e w ⟨rfl, rfl⟩
           go_wp2_with fail
           refine (add_c _ _ _).mono ?_
           rintro e w ⟨rfl, rfl⟩
           go_wp2_with fail
           refine (sure_c _ Hg.out).mono ?_
           rintro e w ⟨rfl, y, rfl⟩
           go_wp2_with fail
           go_ret
           exact ⟨rfl, y.grew⟩)
end Go.Proofs.YtceldfnajemdkaaDoor
