/- The law's own 'sure': its fixed examples. -/
import Derived.Test.YtceldfnajemdkaaDoorSmDown
import Derived.Test.YtceldfnajemdkaaDoorLawNum
namespace Go.Proofs.YtceldfnajemdkaaDoor
open Go.RowKit

theorem sure_div (w : World) : Calls Tryd.prog 14 #[.int .i64 (-7), .int .i64 2] w fun e w' => e = .returned (.tuple #[.int .i64 (-4), .int .i64 1, .nilIface]) ∧ Grew w w' := by
  have := div_c (-7) 2 w
  rwa [show Sm.divQ (-7) 2 = -4 from by decide +kernel, show Sm.divR (-7) 2 = 1 from by decide +kernel, show Sm.divE (-7) 2 = 0 from by decide +kernel, errVal_zero] at this
theorem sure_zero (w : World) : Calls Tryd.prog 14 #[.int .i64 1, .int .i64 0] w fun e w' => e = .returned (.tuple #[.int .i64 0, .int .i64 0, errVal 10]) ∧ Grew w w' := by
  have := div_c 1 0 w
  rwa [show Sm.divQ 1 0 = 0 from by decide +kernel, show Sm.divR 1 0 = 0 from by decide +kernel, show Sm.divE 1 0 = 10 from by decide +kernel] at this
theorem sure_add (w : World) : Calls Tryd.prog 8 #[.int .i64 2305843009213693951, .int .i64 1] w fun e w' => e = .returned (.tuple #[.int .i64 0, .bool false]) ∧ w' = w := by
  have := add_c 2305843009213693951 1 w
  rwa [show Sm.val3 2305843009213693951 1 (2305843009213693951 + 1) = 0 from by decide +kernel, show Sm.ok3 2305843009213693951 1 (2305843009213693951 + 1) = false from by decide +kernel] at this
theorem sure_mul (w : World) : Calls Tryd.prog 12 #[.int .i64 (-2147483648), .int .i64 1073741824] w fun e w' => e = .returned (.tuple #[.int .i64 (-2305843009213693952), .bool true]) ∧ w' = w := by
  have := mul_c (-2147483648) 1073741824 w
  rwa [show Sm.val3 (-2147483648) 1073741824 (-2147483648 * 1073741824) = -2305843009213693952 from by decide +kernel, show Sm.ok3 (-2147483648) 1073741824 (-2147483648 * 1073741824) = true from by decide +kernel] at this
theorem sure_tag (w : World) : Calls Tryd.prog 16 #[.int .i64 (-1)] w fun e w' => e = .returned (.tuple #[.int .u64 18446744073709551613, .nilIface]) ∧ w' = w := by
  have := tag_c (-1) w
  rwa [show Sm.tagW (-1) = 18446744073709551613 from by decide +kernel, show Sm.tagE (-1) = 0 from by decide +kernel, errVal_zero] at this
theorem sure_of (w : World) : Calls Tryd.prog 18 #[.int .u64 18446744073709551613] w fun e w' => e = .returned (.tuple #[.int .i64 (-1), .nilIface]) ∧ w' = w := by
  have := of_c 18446744073709551613 w (by decide) (by decide)
  rwa [show Sm.ofN 18446744073709551613 = -1 from by decide +kernel, show Sm.ofE 18446744073709551613 = 0 from by decide +kernel, errVal_zero] at this
theorem sure_fits (w : World) : Calls Tryd.prog 20 #[.int .i64 2305843009213693952] w fun e w' => e = .returned (.bool false) ∧ w' = w := by
  have := fits_c 2305843009213693952 w
  rwa [show Sm.fits 2305843009213693952 = false from by decide +kernel] at this
theorem sure_num (W : World) (hg : HandleAt W) : Calls Tryd.prog 22 #[errVal 10] W fun e w' => e = .returned (.int .i64 10) ∧ Grew W w' := num_c 10 W hg

set_option maxHeartbeats 4000000 in
theorem sure_c (w : World) (hg : HandleAt w) : Calls Tryd.prog 23 #[] w fun e w' => e = .returned (.bool true) ∧ Grew w w' := by
  have Hg := hid hg
  clear hg
  go_enter Tryd.func23, Tryd.ntmps23
  go_wp2_with fail
  refine (sure_div _).mono ?_
  rintro e w1 ⟨rfl, y1, rfl⟩
  go_wp2_with fail
  refine (Calls.grew y1.grew (sure_zero _)).mono ?_
  rintro e w2 ⟨rfl, y2, rfl⟩
  go_wp2_with fail
  refine (sure_add _).mono ?_
  rintro e w3 ⟨rfl, rfl⟩
  go_wp2_with fail
  refine (sure_mul _).mono ?_
  rintro e w3 ⟨rfl, rfl⟩
  go_wp2_with fail
  refine (sure_tag _).mono ?_
  rintro e w3 ⟨rfl, rfl⟩
  go_wp2_with fail
  refine (sure_of _).mono ?_
  rintro e w3 ⟨rfl, rfl⟩
  go_wp2_with fail
  refine (Calls.grew y2.grew (sure_num _ (Hg.out.grew y2.grew))).mono ?_
  rintro e w4 ⟨rfl, y3, rfl⟩
  go_wp2_with fail
  refine (sure_fits _).mono ?_
  rintro e w3 ⟨rfl, rfl⟩
  go_wp2_with fail
  go_ret
  exact ⟨rfl, y3.grew⟩
end Go.Proofs.YtceldfnajemdkaaDoor
