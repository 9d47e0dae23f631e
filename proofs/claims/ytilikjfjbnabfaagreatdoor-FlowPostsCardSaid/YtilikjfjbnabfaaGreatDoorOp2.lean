/- The document's own answers for law 07: wide, Size. -/
import Derived.Test.YtilikjfjbnabfaaGreatDoorOp1
namespace Go.Proofs.YtilikjfjbnabfaaGreatDoor
open Go.RowKit

set_option maxRecDepth 100000 in
set_option maxHeartbeats 2000000 in
theorem wide_c (p : Nat × Nat) (w : World) (hp : p = (0, 0) ∨ p = (1, 0) ∨ p = (1, 1) ∨ p = (2, 0) ∨ p = (2, 2)) :
    Calls Tryz.prog 32 #[.string (formP p)] w (fun e w' => e = .returned (.tuple #[.int .i64 (p.1 : Nat), .int .i64 (p.2 : Nat)]) ∧ Grew w w') := by
  rcases hp with rfl | rfl | rfl | rfl | rfl
  all_goals
    go_enter Tryz.func32, Tryz.ntmps32
    go_wp2_with fail
    go_ret2
    exact ⟨rfl, Grew.refl _⟩
theorem wide_of (c : Nat) (w : World) : Calls Tryz.prog 32 #[.string (formB c)] w (fun e w' => e = .returned (.tuple #[.int .i64 ((Op7.wid c).1 : Nat), .int .i64 ((Op7.wid c).2 : Nat)]) ∧ Grew w w') :=
  wide_c _ w (wid_cases c)
set_option maxRecDepth 100000 in
set_option maxHeartbeats 2000000 in
theorem size_c (c : Nat) (w : World) (hm : c < 256) :
    Calls Tryz.prog 30 #[.int .u8 (c : Nat)] w (fun e w' => e = .returned (.int .i64 ((if c < 21 then Op7.size c else 0 : Nat) : Int)) ∧ Grew w w') := by
  have HF := hid (form_c c w hm)
  have HW := hid (wide_of c)
  have HZ := hid (show Op7.size c = 1 + (Op7.wid c).1 + (Op7.wid c).2 from rfl)
  obtain ⟨h1, h2⟩ := Op7.wid_le c
  generalize (Op7.wid c).1 = x at *
  generalize (Op7.wid c).2 = y at *
  generalize Op7.size c = z at *
  generalize formB c = s at *
  by_cases h : c < 21
  · rw [if_pos h, decide_eq_true h] at HF
    rw [if_pos h]
    go_enter Tryz.func30, Tryz.ntmps30
    go_wp2_with fail
    refine HF.out.mono ?_
    rintro e w1 ⟨rfl, hg1⟩
    go_wp2_with fail
    refine (HW.out w1).mono ?_
    rintro e w2 ⟨rfl, hg2⟩
    go_wp2_with fail
    go_ret
    exact ⟨ret_int (by rw [HZ.out]; omega), hg1.trans hg2⟩
  · rw [if_neg h, decide_eq_false h] at HF
    rw [if_neg h]
    go_enter Tryz.func30, Tryz.ntmps30
    go_wp2_with fail
    refine HF.out.mono ?_
    rintro e w1 ⟨rfl, hg1⟩
    go_wp2_with fail
    go_ret
    exact ⟨rfl, hg1⟩
end Go.Proofs.YtilikjfjbnabfaaGreatDoor
