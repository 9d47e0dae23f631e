/-
  DERIVED. GIVEN WITH THE SEED: THE CARDS: each row of YtjladeiecokpfaaGreatDoorRows.lean that lists a variable, with what it lists TIED to the program's text (the seventh form; the later family's looks); each row that meets fmt, with fmt's text TOLD by the authors' own Lean function (tested against real Go, not proved from fmt's source: count such statements apart). THE CARD IS WHAT COUNTS. Prove the row's statement (the work); the ties are given (YtjladeiecokpfaaGreatDoorTie.lean); close each card by the builder's one call (the guide's Derived/Test/ToyasCard.lean, 'card_holds'). Laid BY PROGRAM, IN A SANDBOX (cutbox-door.mjs). By AI agents, Wed Nov 11 2026. No macro, syntax, notation, axiom, sorry.
-/
import Derived.Test.YtjladeiecokpfaaGreatDoorRows
import GoSem.ClaimSeven
namespace Go.Proofs.YtjladeiecokpfaaGreatDoor
namespace Rows

/-- THE TIED CARD OF 'colloquylaw10.ClassTells'. -/
def classTellsCard : Claim7 := { stood := { row := classTellsRow, standIns := [], harness := (true, "7f21b1910d61c25ceffe760944bc9c265f4568b061ea4b9ee51ce783f15e74de"), looks := true }, kinds := [], alts := [], laidByText := true, laidKinds := [.data, .handle, .data, .pinned], laidTests := true, laidLooks := .later }
def ClassTellsCardSaid : Prop := Claim7.holds Tryz.pinned (.plain (OpenSpec.ofChange classTellsSpec)) classTellsCard

/-- THE TIED CARD OF 'colloquylaw10.ClassBelow'. -/
def classBelowCard : Claim7 := { stood := { row := classBelowRow, standIns := [], harness := (true, "7f21b1910d61c25ceffe760944bc9c265f4568b061ea4b9ee51ce783f15e74de"), looks := true }, kinds := [], alts := [], laidByText := true, laidKinds := [.data, .handle, .data, .pinned], laidTests := true, laidLooks := .later }
def ClassBelowCardSaid : Prop := Claim7.holds Tryz.pinned (.plain (OpenSpec.ofChange classBelowSpec)) classBelowCard

/-- THE TIED CARD OF 'colloquylaw10.ClassMore'. -/
def classMoreCard : Claim7 := { stood := { row := classMoreRow, standIns := [], harness := (true, "7f21b1910d61c25ceffe760944bc9c265f4568b061ea4b9ee51ce783f15e74de"), looks := true }, kinds := [], alts := [], laidByText := true, laidKinds := [.data, .handle, .data, .pinned], laidTests := true, laidLooks := .later }
def ClassMoreCardSaid : Prop := Claim7.holds Tryz.pinned (.plain (OpenSpec.ofChange classMoreSpec)) classMoreCard

/-- THE TIED CARD OF 'colloquylaw10.ClassFinds'. -/
def classFindsCard : Claim7 := { stood := { row := classFindsRow, standIns := [], harness := (true, "7f21b1910d61c25ceffe760944bc9c265f4568b061ea4b9ee51ce783f15e74de"), looks := true }, kinds := [], alts := [], laidByText := true, laidKinds := [.data, .handle, .data, .pinned], laidTests := true, laidLooks := .later }
def ClassFindsCardSaid : Prop := Claim7.holds Tryz.pinned (.plain (OpenSpec.ofChange classFindsSpec)) classFindsCard

/-- THE SECOND FORM's CARD OF 'colloquylaw10.ClassTells'. -/
def classTellsUptoCard : Claim7 := { stood := { row := classTellsUptoRow, standIns := [], harness := (true, "7f21b1910d61c25ceffe760944bc9c265f4568b061ea4b9ee51ce783f15e74de"), looks := true }, kinds := [], alts := [], laidByText := true, laidKinds := [.data, .handle, .data, .pinned], laidTests := true, laidLooks := .later }
def ClassTellsUptoCardSaid : Prop := Claim7.holds Tryz.pinned (.plain (OpenSpec.upto classTellsSpec)) classTellsUptoCard

/-- THE SECOND FORM's CARD OF 'colloquylaw10.ClassBelow'. -/
def classBelowUptoCard : Claim7 := { stood := { row := classBelowUptoRow, standIns := [], harness := (true, "7f21b1910d61c25ceffe760944bc9c265f4568b061ea4b9ee51ce783f15e74de"), looks := true }, kinds := [], alts := [], laidByText := true, laidKinds := [.data, .handle, .data, .pinned], laidTests := true, laidLooks := .later }
def ClassBelowUptoCardSaid : Prop := Claim7.holds Tryz.pinned (.plain (OpenSpec.upto classBelowSpec)) classBelowUptoCard

/-- THE SECOND FORM's CARD OF 'colloquylaw10.ClassMore'. -/
def classMoreUptoCard : Claim7 := { stood := { row := classMoreUptoRow, standIns := [], harness := (true, "7f21b1910d61c25ceffe760944bc9c265f4568b061ea4b9ee51ce783f15e74de"), looks := true }, kinds := [], alts := [], laidByText := true, laidKinds := [.data, .handle, .data, .pinned], laidTests := true, laidLooks := .later }
def ClassMoreUptoCardSaid : Prop := Claim7.holds Tryz.pinned (.plain (OpenSpec.upto classMoreSpec)) classMoreUptoCard

/-- THE SECOND FORM's CARD OF 'colloquylaw10.ClassFinds'. -/
def classFindsUptoCard : Claim7 := { stood := { row := classFindsUptoRow, standIns := [], harness := (true, "7f21b1910d61c25ceffe760944bc9c265f4568b061ea4b9ee51ce783f15e74de"), looks := true }, kinds := [], alts := [], laidByText := true, laidKinds := [.data, .handle, .data, .pinned], laidTests := true, laidLooks := .later }
def ClassFindsUptoCardSaid : Prop := Claim7.holds Tryz.pinned (.plain (OpenSpec.upto classFindsSpec)) classFindsUptoCard
end Rows
end Go.Proofs.YtjladeiecokpfaaGreatDoor
