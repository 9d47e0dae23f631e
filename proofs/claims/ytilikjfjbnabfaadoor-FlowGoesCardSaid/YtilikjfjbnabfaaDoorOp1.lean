/- The document's own answers for law 07: Form, wide, Size. -/
import Derived.Test.YtilikjfjbnabfaaDoorProg
import Derived.Test.YtilikjfjbnabfaaDoorOwn2
import Derived.Test.YtilikjfjbnabfaaDoorOpP
namespace Go.Proofs.YtilikjfjbnabfaaDoor
open Go.RowKit

/-- The text of a form: the digits of its widths. -/
def formP (p : Nat × Nat) : ByteArray := match p with
  | (0, _) => ⟨#[]⟩
  | (a, 0) => ⟨#[UInt8.ofNat (48 + a)]⟩
  | (a, b) => ⟨#[UInt8.ofNat (48 + a), UInt8.ofNat (48 + b)]⟩
def formB (c : Nat) : ByteArray := formP (Op7.wid c)
theorem wid_cases (c : Nat) : Op7.wid c = (0, 0) ∨ Op7.wid c = (1, 0) ∨ Op7.wid c = (1, 1) ∨ Op7.wid c = (2, 0) ∨ Op7.wid c = (2, 2) := by
  unfold Op7.wid
  rcases Nat.lt_or_ge c 21 with h | h
  · revert c
    decide
  · rw [List.getD_eq_getElem?_getD, List.getElem?_eq_none (by simpa [Op7.widths] using h)]
    exact .inl rfl
end Go.Proofs.YtilikjfjbnabfaaDoor
