/-
  DERIVED. GIVEN WITH THE SEED: THE CARDS: each row of YtilikjfjbnabfaaDoorRows.lean that lists a variable, with what it lists TIED to the program's text (the seventh form; the later family's looks); each row that meets fmt, with fmt's text TOLD by the authors' own Lean function (tested against real Go, not proved from fmt's source: count such statements apart). THE CARD IS WHAT COUNTS. Prove the row's statement (the work); the ties are given (YtilikjfjbnabfaaDoorTie.lean); close each card by the builder's one call (the guide's Derived/Test/ToyasCard.lean, 'card_holds'). Laid BY PROGRAM, IN A SANDBOX (cutbox-door.mjs). By AI agents, Wed Nov 11 2026. No macro, syntax, notation, axiom, sorry.
-/
import Derived.Test.YtilikjfjbnabfaaDoorRows
import GoSem.ClaimSeven
namespace Go.Proofs.YtilikjfjbnabfaaDoor
namespace Rows

/-- THE TIED CARD OF 'colloquylaw08.FlowGoes'. -/
def flowGoesCard : Claim7 := { stood := { row := flowGoesRow, standIns := [], harness := (true, "6a1312e4964745ecb03ab51c0407de08920f6d59b053d3194d3aada6c077ebf4"), looks := true }, kinds := [], alts := [], laidByText := true, laidKinds := [.handle, .data], laidTests := true, laidLooks := .later }
def FlowGoesCardSaid : Prop := Claim7.holds Tryd.pinned (.plain (OpenSpec.ofChange flowGoesSpec)) flowGoesCard

/-- THE TIED CARD OF 'colloquylaw08.FlowMore'. -/
def flowMoreCard : Claim7 := { stood := { row := flowMoreRow, standIns := [], harness := (true, "6a1312e4964745ecb03ab51c0407de08920f6d59b053d3194d3aada6c077ebf4"), looks := true }, kinds := [], alts := [], laidByText := true, laidKinds := [.handle, .data], laidTests := true, laidLooks := .later }
def FlowMoreCardSaid : Prop := Claim7.holds Tryd.pinned (.plain (OpenSpec.ofChange flowMoreSpec)) flowMoreCard

/-- THE TIED CARD OF 'colloquylaw08.FlowNexts'. -/
def flowNextsCard : Claim7 := { stood := { row := flowNextsRow, standIns := [], harness := (true, "6a1312e4964745ecb03ab51c0407de08920f6d59b053d3194d3aada6c077ebf4"), looks := true }, kinds := [], alts := [], laidByText := true, laidKinds := [.handle, .data], laidTests := true, laidLooks := .later }
def FlowNextsCardSaid : Prop := Claim7.holds Tryd.pinned (.plain (OpenSpec.ofChange flowNextsSpec)) flowNextsCard

/-- THE SECOND FORM's CARD OF 'colloquylaw08.FlowGoes'. -/
def flowGoesUptoCard : Claim7 := { stood := { row := flowGoesUptoRow, standIns := [], harness := (true, "6a1312e4964745ecb03ab51c0407de08920f6d59b053d3194d3aada6c077ebf4"), looks := true }, kinds := [], alts := [], laidByText := true, laidKinds := [.handle, .data], laidTests := true, laidLooks := .later }
def FlowGoesUptoCardSaid : Prop := Claim7.holds Tryd.pinned (.plain (OpenSpec.upto flowGoesSpec)) flowGoesUptoCard

/-- THE SECOND FORM's CARD OF 'colloquylaw08.FlowMore'. -/
def flowMoreUptoCard : Claim7 := { stood := { row := flowMoreUptoRow, standIns := [], harness := (true, "6a1312e4964745ecb03ab51c0407de08920f6d59b053d3194d3aada6c077ebf4"), looks := true }, kinds := [], alts := [], laidByText := true, laidKinds := [.handle, .data], laidTests := true, laidLooks := .later }
def FlowMoreUptoCardSaid : Prop := Claim7.holds Tryd.pinned (.plain (OpenSpec.upto flowMoreSpec)) flowMoreUptoCard

/-- THE SECOND FORM's CARD OF 'colloquylaw08.FlowNexts'. -/
def flowNextsUptoCard : Claim7 := { stood := { row := flowNextsUptoRow, standIns := [], harness := (true, "6a1312e4964745ecb03ab51c0407de08920f6d59b053d3194d3aada6c077ebf4"), looks := true }, kinds := [], alts := [], laidByText := true, laidKinds := [.handle, .data], laidTests := true, laidLooks := .later }
def FlowNextsUptoCardSaid : Prop := Claim7.holds Tryd.pinned (.plain (OpenSpec.upto flowNextsSpec)) flowNextsUptoCard
end Rows
end Go.Proofs.YtilikjfjbnabfaaDoor
