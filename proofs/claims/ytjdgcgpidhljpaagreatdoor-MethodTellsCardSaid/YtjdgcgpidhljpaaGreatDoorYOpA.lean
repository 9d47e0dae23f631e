/- Parts of elder texts that this layer needs, joined: XOp1 XOp2. -/
import Derived.Test.YtjdgcgpidhljpaaGreatDoorProg
import Derived.Test.YtjdgcgpidhljpaaGreatDoorYBase
import Derived.Test.YtjdgcgpidhljpaaGreatDoorYOpM
namespace Go.Proofs.YtjdgcgpidhljpaaGreatDoor
open Go.RowKit

/-- The text of a form: the digits of its widths. -/
def formP (p : Nat × Nat) : ByteArray := match p with
  | (0, _) => ⟨#[]⟩
  | (a, 0) => ⟨#[UInt8.ofNat (48 + a)]⟩
  | (a, b) => ⟨#[UInt8.ofNat (48 + a), UInt8.ofNat (48 + b)]⟩
def formB (c : Nat) : ByteArray := formP (Op7.wid c)
theorem wid_cases (c : Nat) : Op7.wid c = (0, 0) ∨ Op7.wid c = (1, 0) ∨ Op7.wid c = (1, 1) ∨ Op7.wid c = (2, 0) ∨ Op7.wid c = (2, 2) := by
  unfold Op7.wid
  rcases Nat.lt_or_ge c 21 with h | h
  · revert c
    decide
  · rw [List.getD_eq_getElem?_getD, List.getElem?_eq_none (by simpa [Op7.widths] using h)]
    exact .inl rfl
set_option maxRecDepth 100000 in
set_option maxHeartbeats 4000000 in
theorem form_no (c : Nat) (w : World) (hc : 21 ≤ c) (hm : c < 256) :
    Calls Tryz.prog 80 #[.int .u8 (c : Nat)] w (fun e w' => e = .returned (.tuple #[.string ⟨#[]⟩, .bool false]) ∧ Grew w w') := by
  go_enter Tryz.func80, Tryz.ntmps80
  go_wp2_with fail
  go_ret2
  exact ⟨rfl, (Grew.refl _).alloc _⟩
set_option maxRecDepth 100000 in
set_option maxHeartbeats 4000000 in
theorem form_yes (c : Nat) (w : World) (hc : c < 21) :
    Calls Tryz.prog 80 #[.int .u8 (c : Nat)] w (fun e w' => e = .returned (.tuple #[.string (formB c), .bool true]) ∧ Grew w w') := by
  rcases (by omega : c = 0 ∨ c = 1 ∨ c = 2 ∨ c = 3 ∨ c = 4 ∨ c = 5 ∨ c = 6 ∨ c = 7 ∨ c = 8 ∨ c = 9 ∨ c = 10 ∨ c = 11 ∨ c = 12 ∨ c = 13 ∨ c = 14 ∨ c = 15 ∨ c = 16 ∨ c = 17 ∨ c = 18 ∨ c = 19 ∨ c = 20) with rfl | rfl | rfl | rfl | rfl | rfl | rfl | rfl | rfl | rfl | rfl | rfl | rfl | rfl | rfl | rfl | rfl | rfl | rfl | rfl | rfl
  all_goals
    go_enter Tryz.func80, Tryz.ntmps80
    go_wp2_with fail
    go_ret2
    exact ⟨rfl, (Grew.refl _).alloc _⟩
theorem form_c (c : Nat) (w : World) (hm : c < 256) :
    Calls Tryz.prog 80 #[.int .u8 (c : Nat)] w (fun e w' => e = .returned (.tuple #[.string (if c < 21 then formB c else ⟨#[]⟩), .bool (decide (c < 21))]) ∧ Grew w w') := by
  by_cases h : c < 21
  · rw [if_pos h, decide_eq_true h]
    exact form_yes c w h
  · rw [if_neg h, decide_eq_false h]
    exact form_no c w (by omega) hm
end Go.Proofs.YtjdgcgpidhljpaaGreatDoor
namespace Go.Proofs.YtjdgcgpidhljpaaGreatDoor
open Go.RowKit

set_option maxRecDepth 100000 in
set_option maxHeartbeats 2000000 in
theorem wide_c (p : Nat × Nat) (w : World) (hp : p = (0, 0) ∨ p = (1, 0) ∨ p = (1, 1) ∨ p = (2, 0) ∨ p = (2, 2)) :
    Calls Tryz.prog 81 #[.string (formP p)] w (fun e w' => e = .returned (.tuple #[.int .i64 (p.1 : Nat), .int .i64 (p.2 : Nat)]) ∧ Grew w w') := by
  rcases hp with rfl | rfl | rfl | rfl | rfl
  all_goals
    go_enter Tryz.func81, Tryz.ntmps81
    go_wp2_with fail
    go_ret2
    exact ⟨rfl, Grew.refl _⟩
theorem wide_of (c : Nat) (w : World) : Calls Tryz.prog 81 #[.string (formB c)] w (fun e w' => e = .returned (.tuple #[.int .i64 ((Op7.wid c).1 : Nat), .int .i64 ((Op7.wid c).2 : Nat)]) ∧ Grew w w') :=
  wide_c _ w (wid_cases c)
set_option maxRecDepth 100000 in
set_option maxHeartbeats 2000000 in
theorem size_c (c : Nat) (w : World) (hm : c < 256) :
    Calls Tryz.prog 79 #[.int .u8 (c : Nat)] w (fun e w' => e = .returned (.int .i64 ((if c < 21 then Op7.size c else 0 : Nat) : Int)) ∧ Grew w w') := by
  have HF := hid (form_c c w hm)
  have HW := hid (wide_of c)
  have HZ := hid (show Op7.size c = 1 + (Op7.wid c).1 + (Op7.wid c).2 from rfl)
  obtain ⟨h1, h2⟩ := Op7.wid_le c
  generalize (Op7.wid c).1 = x at *
  generalize (Op7.wid c).2 = y at *
  generalize Op7.size c = z at *
  generalize formB c = s at *
  by_cases h : c < 21
  · rw [if_pos h, decide_eq_true h] at HF
    rw [if_pos h]
    go_enter Tryz.func79, Tryz.ntmps79
    go_wp2_with fail
    refine HF.out.mono ?_
    rintro e w1 ⟨rfl, hg1⟩
    go_wp2_with fail
    refine (HW.out w1).mono ?_
    rintro e w2 ⟨rfl, hg2⟩
    go_wp2_with fail
    go_ret
    exact ⟨ret_int (by rw [HZ.out]; omega), hg1.trans hg2⟩
  · rw [if_neg h, decide_eq_false h] at HF
    rw [if_neg h]
    go_enter Tryz.func79, Tryz.ntmps79
    go_wp2_with fail
    refine HF.out.mono ?_
    rintro e w1 ⟨rfl, hg1⟩
    go_wp2_with fail
    go_ret
    exact ⟨rfl, hg1⟩
end Go.Proofs.YtjdgcgpidhljpaaGreatDoor
