/-
  DERIVED. GIVEN WITH THE SEED: THE CARDS: each row of YtilikjfjbnabfaaGreatDoorRows.lean that lists a variable, with what it lists TIED to the program's text (the seventh form; the later family's looks); each row that meets fmt, with fmt's text TOLD by the authors' own Lean function (tested against real Go, not proved from fmt's source: count such statements apart). THE CARD IS WHAT COUNTS. Prove the row's statement (the work); the ties are given (YtilikjfjbnabfaaGreatDoorTie.lean); close each card by the builder's one call (the guide's Derived/Test/ToyasCard.lean, 'card_holds'). Laid BY PROGRAM, IN A SANDBOX (cutbox-door.mjs). By AI agents, Wed Nov 11 2026. No macro, syntax, notation, axiom, sorry.
-/
import Derived.Test.YtilikjfjbnabfaaGreatDoorRows
import GoSem.ClaimSeven
namespace Go.Proofs.YtilikjfjbnabfaaGreatDoor
namespace Rows

/-- THE TIED CARD OF 'colloquylaw08.FlowPosts'. -/
def flowPostsCard : Claim7 := { stood := { row := flowPostsRow, standIns := [], harness := (true, "e3ca232a80e36f2c6cf32e53c3df0b6db8f4311dc1e5c4dac82c46a7fd401940"), looks := true }, kinds := [], alts := [], laidByText := true, laidKinds := [.handle, .data], laidTests := true, laidLooks := .later }
def FlowPostsCardSaid : Prop := Claim7.holds Tryz.pinned (.plain (OpenSpec.ofChange flowPostsSpec)) flowPostsCard

/-- THE SECOND FORM's CARD OF 'colloquylaw08.FlowPosts'. -/
def flowPostsUptoCard : Claim7 := { stood := { row := flowPostsUptoRow, standIns := [], harness := (true, "e3ca232a80e36f2c6cf32e53c3df0b6db8f4311dc1e5c4dac82c46a7fd401940"), looks := true }, kinds := [], alts := [], laidByText := true, laidKinds := [.handle, .data], laidTests := true, laidLooks := .later }
def FlowPostsUptoCardSaid : Prop := Claim7.holds Tryz.pinned (.plain (OpenSpec.upto flowPostsSpec)) flowPostsUptoCard
end Rows
end Go.Proofs.YtilikjfjbnabfaaGreatDoor
