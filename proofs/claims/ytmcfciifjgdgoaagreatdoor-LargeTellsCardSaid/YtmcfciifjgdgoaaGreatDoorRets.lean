/- Equal parts make equal answers. -/
import Derived.Test.YtmcfciifjgdgoaaGreatDoorBase
namespace Go.Proofs.YtmcfciifjgdgoaaGreatDoor
open Go.RowKit
theorem ret_ib {k : IntKind} {a b : Int} {p q : Bool} (h : a = b) (h2 : p = q) : Ending.returned (.tuple #[.int k a, .bool p]) = .returned (.tuple #[.int k b, .bool q]) := by rw [h, h2]
theorem ret_iv {k : IntKind} {a b : Int} {p q : Value} (h : a = b) (h2 : p = q) : Ending.returned (.tuple #[.int k a, p]) = .returned (.tuple #[.int k b, q]) := by rw [h, h2]
theorem ret_ii {k l : IntKind} {a b c d : Int} (h : a = b) (h2 : c = d) : Ending.returned (.tuple #[.int k a, .int l c]) = .returned (.tuple #[.int k b, .int l d]) := by rw [h, h2]
end Go.Proofs.YtmcfciifjgdgoaaGreatDoor
