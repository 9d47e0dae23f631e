/- The document's own answers for law 07: Name. -/
import Derived.Test.YtilikjfjbnabfaaGreatDoorOp2
namespace Go.Proofs.YtilikjfjbnabfaaGreatDoor
open Go.RowKit

/-- The instructions' names. -/
def nameBs : List ByteArray := [⟨#[115, 101, 108, 102]⟩, ⟨#[110, 105, 108]⟩, ⟨#[116, 114, 117, 101]⟩, ⟨#[102, 97, 108, 115, 101]⟩, ⟨#[108, 105, 116]⟩, ⟨#[116, 101, 109, 112]⟩, ⟨#[115, 101, 116]⟩, ⟨#[118, 97, 114]⟩, ⟨#[112, 117, 116]⟩, ⟨#[112, 111, 112]⟩, ⟨#[100, 117, 112]⟩, ⟨#[115, 101, 110, 100]⟩, ⟨#[115, 117, 112, 101, 114]⟩, ⟨#[106, 117, 109, 112]⟩, ⟨#[101, 108, 115, 101]⟩, ⟨#[106, 111, 105, 110]⟩, ⟨#[98, 108, 111, 99, 107]⟩, ⟨#[97, 110, 115, 119, 101, 114]⟩, ⟨#[109, 101]⟩, ⟨#[104, 111, 109, 101]⟩, ⟨#[99, 108, 97, 115, 115]⟩]
def nameB (c : Nat) : ByteArray := nameBs.getD c ⟨#[]⟩
end Go.Proofs.YtilikjfjbnabfaaGreatDoor
