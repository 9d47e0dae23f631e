/- SmallTells: for every two ints and every word the law returns true, and nothing that was there is changed. Conditions: none of ours. -/
import Derived.Test.YtceldfnajemdkaaDoorSure02
namespace Go.Proofs.YtceldfnajemdkaaDoor
open Go.RowKit

set_option maxRecDepth 100000 in
set_option maxHeartbeats 4000000 in
theorem tells_walk (a b u : Int) (w : World) (h0 : 0 ≤ u) (h1 : u < 18446744073709551616) (hg : HandleAt w) :
    Calls Tryd.prog 3 #[.int .i64 a, .int .i64 b, .int .u64 u] w fun e w' => e = .returned (.bool true) ∧ Grew w w' := by
  have Hg := hid hg
  have H0 := hid h0
  have H1 := hid h1
  clear hg h0 h1
  go_enter Tryd.func3, Tryd.ntmps3
  go_wp2_with (first
    | (go_at_call 8; refine (add_c _ _ _).mono ?_; rintro e w' ⟨rfl, rfl⟩)
    | (go_at_call 9; refine (radd_c _ _ _).mono ?_; rintro e w' ⟨rfl, rfl⟩)
    | (go_at_call 10; refine (sub_c _ _ _).mono ?_; rintro e w' ⟨rfl, rfl⟩)
    | (go_at_call 11; refine (rsub_c _ _ _).mono ?_; rintro e w' ⟨rfl, rfl⟩)
    | (go_at_call 12; refine (mul_c _ _ _).mono ?_; rintro e w' ⟨rfl, rfl⟩)
    | (go_at_call 13; refine (rmul_c _ _ _).mono ?_; rintro e w' ⟨rfl, rfl⟩))
  refine (div_c _ _ _).mono ?_
  rintro e w1 ⟨rfl, y1, rfl⟩
  go_wp2_with fail
  refine (Calls.grew y1.grew (rdiv_c _ _ _)).mono ?_
  rintro e w1 ⟨rfl, y2, rfl⟩
  have Hg2 := hid (Hg.out.grew y2.grew)
  go_wp2_with (first
    | (go_at_call 16; refine (tag_c _ _).mono ?_; rintro e w' ⟨rfl, rfl⟩)
    | (go_at_call 17; refine (rtag_c _ _).mono ?_; rintro e w' ⟨rfl, rfl⟩)
    | (go_at_call 18; refine (of_c _ _ H0.out H1.out).mono ?_; rintro e w' ⟨rfl, rfl⟩)
    | (go_at_call 19; refine (rof_c _ _ H0.out H1.out).mono ?_; rintro e w' ⟨rfl, rfl⟩)
    | (go_at_call 20; refine (fits_c _ _).mono ?_; rintro e w' ⟨rfl, rfl⟩)
    | (go_at_call 21; refine (rfits_c _ _).mono ?_; rintro e w' ⟨rfl, rfl⟩))
  refine (Calls.grew y2.grew (num_c _ _ Hg2.out)).mono ?_
  rintro e w1 ⟨rfl, y3, rfl⟩
  go_wp2_with fail
  refine (Calls.grew y3.grew (num_c _ _ (Hg.out.grew y3.grew))).mono ?_
  rintro e w1 ⟨rfl, y4, rfl⟩
  go_wp2_with fail
  refine (Calls.grew y4.grew (num_c _ _ (Hg.out.grew y4.grew))).mono ?_
  rintro e w1 ⟨rfl, y5, rfl⟩
  go_wp2_with fail
  refine (Calls.grew y5.grew (sure_c _ (Hg.out.grew y5.grew))).mono ?_
  rintro e w1 ⟨rfl, y6, rfl⟩
  go_wp2_with fail
  go_ret
  exact ⟨rfl, y6.grew⟩
end Go.Proofs.YtceldfnajemdkaaDoor
