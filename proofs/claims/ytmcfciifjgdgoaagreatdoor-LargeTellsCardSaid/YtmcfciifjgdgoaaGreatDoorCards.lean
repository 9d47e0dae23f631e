/-
  DERIVED. GIVEN WITH THE SEED: THE CARDS: each row of YtmcfciifjgdgoaaGreatDoorRows.lean that lists a variable, with what it lists TIED to the program's text (the seventh form; the later family's looks); each row that meets fmt, with fmt's text TOLD by the authors' own Lean function (tested against real Go, not proved from fmt's source: count such statements apart). THE CARD IS WHAT COUNTS. Prove the row's statement (the work); the ties are given (YtmcfciifjgdgoaaGreatDoorTie.lean); close each card by the builder's one call (the guide's Derived/Test/ToyasCard.lean, 'card_holds'). Laid BY PROGRAM, IN A SANDBOX (cutbox-door.mjs). By AI agents, Wed Nov 11 2026. No macro, syntax, notation, axiom, sorry.
-/
import Derived.Test.YtmcfciifjgdgoaaGreatDoorRows
import GoSem.ClaimSeven
namespace Go.Proofs.YtmcfciifjgdgoaaGreatDoor
namespace Rows

/-- THE TIED CARD OF 'colloquylaw03.LargeTells'. -/
def largeTellsCard : Claim7 := { stood := { row := largeTellsRow, standIns := [], harness := (true, "9c32dd77c7568d4e2cbb4d12b2ec4bc5f9710e57d004a02ec83a8d2323b9522d"), looks := true }, kinds := [], alts := [], laidByText := true, laidKinds := [.data, .handle, .pinned], laidTests := true, laidLooks := .later }
def LargeTellsCardSaid : Prop := Claim7.holds Tryz.pinned (.plain (OpenSpec.ofChange largeTellsSpec)) largeTellsCard

/-- THE SECOND FORM's CARD OF 'colloquylaw03.LargeTells'. -/
def largeTellsUptoCard : Claim7 := { stood := { row := largeTellsUptoRow, standIns := [], harness := (true, "9c32dd77c7568d4e2cbb4d12b2ec4bc5f9710e57d004a02ec83a8d2323b9522d"), looks := true }, kinds := [], alts := [], laidByText := true, laidKinds := [.data, .handle, .pinned], laidTests := true, laidLooks := .later }
def LargeTellsUptoCardSaid : Prop := Claim7.holds Tryz.pinned (.plain (OpenSpec.upto largeTellsSpec)) largeTellsUptoCard
end Rows
end Go.Proofs.YtmcfciifjgdgoaaGreatDoor
