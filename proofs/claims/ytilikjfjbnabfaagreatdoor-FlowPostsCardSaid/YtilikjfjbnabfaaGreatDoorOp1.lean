/- The document's own answers for law 07: Form, wide, Size. -/
import Derived.Test.YtilikjfjbnabfaaGreatDoorProg
import Derived.Test.YtilikjfjbnabfaaGreatDoorOwn2
import Derived.Test.YtilikjfjbnabfaaGreatDoorOpP
namespace Go.Proofs.YtilikjfjbnabfaaGreatDoor
open Go.RowKit

/-- The text of a form: the digits of its widths. -/
def formP (p : Nat × Nat) : ByteArray := match p with
  | (0, _) => ⟨#[]⟩
  | (a, 0) => ⟨#[UInt8.ofNat (48 + a)]⟩
  | (a, b) => ⟨#[UInt8.ofNat (48 + a), UInt8.ofNat (48 + b)]⟩
def formB (c : Nat) : ByteArray := formP (Op7.wid c)
theorem wid_cases (c : Nat) : Op7.wid c = (0, 0) ∨ Op7.wid c = (1, 0) ∨ Op7.wid c = (1, 1) ∨ Op7.wid c = (2, 0) ∨ Op7.wid c = (2, 2) := by
  unfold Op7.wid
  rcases Nat.lt_or_ge c 21 with h | h
  · revert c
    decide
  · rw [List.getD_eq_getElem?_getD, List.getElem?_eq_none (by simpa [Op7.widths] using h)]
    exact .inl rfl
set_option maxRecDepth 100000 in
set_option maxHeartbeats 4000000 in
theorem form_no (c : Nat) (w : World) (hc : 21 ≤ c) (hm : c < 256) :
    Calls Tryz.prog 31 #[.int .u8 (c : Nat)] w (fun e w' => e = .returned (.tuple #[.string ⟨#[]⟩, .bool false]) ∧ Grew w w') := by
  go_enter Tryz.func31, Tryz.ntmps31
  go_wp2_with fail
  go_ret2
  exact ⟨rfl, (Grew.refl _).alloc _⟩
set_option maxRecDepth 100000 in
set_option maxHeartbeats 4000000 in
theorem form_yes (c : Nat) (w : World) (hc : c < 21) :
    Calls Tryz.prog 31 #[.int .u8 (c : Nat)] w (fun e w' => e = .returned (.tuple #[.string (formB c), .bool true]) ∧ Grew w w') := by
  rcases (by omega : c = 0 ∨ c = 1 ∨ c = 2 ∨ c = 3 ∨ c = 4 ∨ c = 5 ∨ c = 6 ∨ c = 7 ∨ c = 8 ∨ c = 9 ∨ c = 10 ∨ c = 11 ∨ c = 12 ∨ c = 13 ∨ c = 14 ∨ c = 15 ∨ c = 16 ∨ c = 17 ∨ c = 18 ∨ c = 19 ∨ c = 20) with rfl | rfl | rfl | rfl | rfl | rfl | rfl | rfl | rfl | rfl | rfl | rfl | rfl | rfl | rfl | rfl | rfl | rfl | rfl | rfl | rfl
  all_goals
    go_enter Tryz.func31, Tryz.ntmps31
    go_wp2_with fail
    go_ret2
    exact ⟨rfl, (Grew.refl _).alloc _⟩
theorem form_c (c : Nat) (w : World) (hm : c < 256) :
    Calls Tryz.prog 31 #[.int .u8 (c : Nat)] w (fun e w' => e = .returned (.tuple #[.string (if c < 21 then formB c else ⟨#[]⟩), .bool (decide (c < 21))]) ∧ Grew w w') := by
  by_cases h : c < 21
  · rw [if_pos h, decide_eq_true h]
    exact form_yes c w h
  · rw [if_neg h, decide_eq_false h]
    exact form_no c w (by omega) hm
end Go.Proofs.YtilikjfjbnabfaaGreatDoor
