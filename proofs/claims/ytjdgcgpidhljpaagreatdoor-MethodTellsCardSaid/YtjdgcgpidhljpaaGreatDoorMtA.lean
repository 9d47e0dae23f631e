/- Stage 9: selectors looked at, rune by rune: within, isSmall, isCapital, isDigit, isName, ContainsRune, isBinary. -/
import Derived.Test.YtjdgcgpidhljpaaGreatDoorShelf
import Derived.Test.YtjdgcgpidhljpaaGreatDoorMtP
import Derived.Test.YtjdgcgpidhljpaaGreatDoorYBase
import Derived.Test.YtjdgcgpidhljpaaGreatDoorYViM
import Derived.BigQuiet
namespace Go.Proofs.YtjdgcgpidhljpaaGreatDoor
open Go.RowKit

theorem within_c (n lo hi : Int) (w : World) : Calls Tryz.prog 53 #[.int .i64 n, .int .i64 lo, .int .i64 hi] w fun e w' => e = .returned (.bool (decide (lo ≤ n) && decide (n ≤ hi))) ∧ w' = w := by
  by_cases h1 : lo ≤ n
  · by_cases h2 : n ≤ hi
    · rw [show (decide (lo ≤ n) && decide (n ≤ hi)) = true by rw [decide_eq_true h1, decide_eq_true h2]; rfl]
      go_enter Tryz.func53, Tryz.ntmps53
      go_wp2_with fail
      go_ret
      exact ⟨rfl, rfl⟩
    · rw [show (decide (lo ≤ n) && decide (n ≤ hi)) = false by rw [decide_eq_false h2, Bool.and_false]]
      go_enter Tryz.func53, Tryz.ntmps53
      go_wp2_with fail
      go_ret
      exact ⟨rfl, rfl⟩
  · rw [show (decide (lo ≤ n) && decide (n ≤ hi)) = false by rw [decide_eq_false h1, Bool.false_and]]
    go_enter Tryz.func53, Tryz.ntmps53
    go_wp2_with fail
    go_ret
    exact ⟨rfl, rfl⟩
theorem small_c (x : Nat) (w : World) : Calls Tryz.prog 93 #[.int .i32 ((x : Nat) : Int)] w fun e w' => e = .returned (.bool (Mt.small x)) ∧ w' = w := by
  unfold Mt.small
  by_cases h1 : 97 ≤ x
  · have t1 : (97 : Int) ≤ ((x : Nat) : Int) := by omega
    by_cases h2 : x ≤ 122
    · have t2 : ((x : Nat) : Int) ≤ 122 := by omega
      rw [show (decide (97 ≤ x) && decide (x ≤ 122)) = true by rw [decide_eq_true h1, decide_eq_true h2]; rfl]
      go_enter Tryz.func93, Tryz.ntmps93
      go_wp2_with fail
      go_ret
      exact ⟨rfl, rfl⟩
    · have t2 : ¬ ((x : Nat) : Int) ≤ 122 := by omega
      rw [show (decide (97 ≤ x) && decide (x ≤ 122)) = false by rw [decide_eq_false h2, Bool.and_false]]
      go_enter Tryz.func93, Tryz.ntmps93
      go_wp2_with fail
      go_ret
      exact ⟨rfl, rfl⟩
  · have t1 : ¬ (97 : Int) ≤ ((x : Nat) : Int) := by omega
    rw [show (decide (97 ≤ x) && decide (x ≤ 122)) = false by rw [decide_eq_false h1, Bool.false_and]]
    go_enter Tryz.func93, Tryz.ntmps93
    go_wp2_with fail
    go_ret
    exact ⟨rfl, rfl⟩
theorem capital_c (x : Nat) (w : World) : Calls Tryz.prog 94 #[.int .i32 ((x : Nat) : Int)] w fun e w' => e = .returned (.bool (Mt.capital x)) ∧ w' = w := by
  unfold Mt.capital
  by_cases h1 : 65 ≤ x
  · have t1 : (65 : Int) ≤ ((x : Nat) : Int) := by omega
    by_cases h2 : x ≤ 90
    · have t2 : ((x : Nat) : Int) ≤ 90 := by omega
      rw [show (decide (65 ≤ x) && decide (x ≤ 90)) = true by rw [decide_eq_true h1, decide_eq_true h2]; rfl]
      go_enter Tryz.func94, Tryz.ntmps94
      go_wp2_with fail
      go_ret
      exact ⟨rfl, rfl⟩
    · have t2 : ¬ ((x : Nat) : Int) ≤ 90 := by omega
      rw [show (decide (65 ≤ x) && decide (x ≤ 90)) = false by rw [decide_eq_false h2, Bool.and_false]]
      go_enter Tryz.func94, Tryz.ntmps94
      go_wp2_with fail
      go_ret
      exact ⟨rfl, rfl⟩
  · have t1 : ¬ (65 : Int) ≤ ((x : Nat) : Int) := by omega
    rw [show (decide (65 ≤ x) && decide (x ≤ 90)) = false by rw [decide_eq_false h1, Bool.false_and]]
    go_enter Tryz.func94, Tryz.ntmps94
    go_wp2_with fail
    go_ret
    exact ⟨rfl, rfl⟩
theorem digit_c (x : Nat) (w : World) : Calls Tryz.prog 95 #[.int .i32 ((x : Nat) : Int)] w fun e w' => e = .returned (.bool (Mt.digit x)) ∧ w' = w := by
  unfold Mt.digit
  by_cases h1 : 48 ≤ x
  · have t1 : (48 : Int) ≤ ((x : Nat) : Int) := by omega
    by_cases h2 : x ≤ 57
    · have t2 : ((x : Nat) : Int) ≤ 57 := by omega
      rw [show (decide (48 ≤ x) && decide (x ≤ 57)) = true by rw [decide_eq_true h1, decide_eq_true h2]; rfl]
      go_enter Tryz.func95, Tryz.ntmps95
      go_wp2_with fail
      go_ret
      exact ⟨rfl, rfl⟩
    · have t2 : ¬ ((x : Nat) : Int) ≤ 57 := by omega
      rw [show (decide (48 ≤ x) && decide (x ≤ 57)) = false by rw [decide_eq_false h2, Bool.and_false]]
      go_enter Tryz.func95, Tryz.ntmps95
      go_wp2_with fail
      go_ret
      exact ⟨rfl, rfl⟩
  · have t1 : ¬ (48 : Int) ≤ ((x : Nat) : Int) := by omega
    rw [show (decide (48 ≤ x) && decide (x ≤ 57)) = false by rw [decide_eq_false h1, Bool.false_and]]
    go_enter Tryz.func95, Tryz.ntmps95
    go_wp2_with fail
    go_ret
    exact ⟨rfl, rfl⟩
set_option maxHeartbeats 1000000 in
theorem nameOther_c (x : Nat) (w : World) : Calls Tryz.prog 92 #[.int .i32 ((x : Nat) : Int)] w fun e w' => e = .returned (.bool (!(Mt.letter x))) ∧ w' = w := by
  have C1 := hid (small_c x w)
  have C2 := hid (capital_c x w)
  have C3 := hid (digit_c x w)
  unfold Mt.letter
  generalize Mt.small x = a at *
  generalize Mt.capital x = b at *
  generalize Mt.digit x = c at *
  cases a
  · cases b
    · cases c <;> (
        go_enter Tryz.func92, Tryz.ntmps92
        go_wp2_with (first
          | (go_at_call 93; refine C1.out.mono ?_; rintro e w1 ⟨rfl, rfl⟩)
          | (go_at_call 94; refine C2.out.mono ?_; rintro e w1 ⟨rfl, rfl⟩)
          | (go_at_call 95; refine C3.out.mono ?_; rintro e w1 ⟨rfl, rfl⟩))
        go_ret
        exact ⟨rfl, rfl⟩)
    · go_enter Tryz.func92, Tryz.ntmps92
      go_wp2_with (first
        | (go_at_call 93; refine C1.out.mono ?_; rintro e w1 ⟨rfl, rfl⟩)
        | (go_at_call 94; refine C2.out.mono ?_; rintro e w1 ⟨rfl, rfl⟩))
      go_ret
      exact ⟨by cases c <;> rfl, rfl⟩
  · go_enter Tryz.func92, Tryz.ntmps92
    go_wp2_with (go_at_call 93; refine C1.out.mono ?_; rintro e w1 ⟨rfl, rfl⟩)
    go_ret
    exact ⟨by cases b <;> cases c <;> rfl, rfl⟩
end Go.Proofs.YtjdgcgpidhljpaaGreatDoor
