/-
  DERIVED. GIVEN WITH THE SEED: THE CARDS: each row of YtlidjdlamnkfmaaDoorRows.lean that lists a variable, with what it lists TIED to the program's text (the seventh form; the later family's looks); each row that meets fmt, with fmt's text TOLD by the authors' own Lean function (tested against real Go, not proved from fmt's source: count such statements apart). THE CARD IS WHAT COUNTS. Prove the row's statement (the work); the ties are given (YtlidjdlamnkfmaaDoorTie.lean); close each card by the builder's one call (the guide's Derived/Test/ToyasCard.lean, 'card_holds'). Laid BY PROGRAM, IN A SANDBOX (cutbox-door.mjs). By AI agents, Wed Nov 11 2026. No macro, syntax, notation, axiom, sorry.
-/
import Derived.Test.YtlidjdlamnkfmaaDoorRows
import GoSem.ClaimSeven
namespace Go.Proofs.YtlidjdlamnkfmaaDoor
namespace Rows

/-- THE TIED CARD OF 'colloquylaw03.LargeTexts'. -/
def largeTextsCard : Claim7 := { stood := { row := largeTextsRow, standIns := [], harness := (true, "20bb0279dad833ae9a1969860d1ebba53fdc1e88dc1687608d049f42d823e7cd"), looks := true }, kinds := [], alts := [], laidByText := true, laidKinds := [.data, .handle, .pinned], laidTests := true, laidLooks := .later }
def LargeTextsCardSaid : Prop := Claim7.holds Tryd.pinned (.plain (OpenSpec.ofChange largeTextsSpec)) largeTextsCard

/-- THE TIED CARD OF 'colloquylaw03.LargeLaws'. -/
def largeLawsCard : Claim7 := { stood := { row := largeLawsRow, standIns := [], harness := (true, "20bb0279dad833ae9a1969860d1ebba53fdc1e88dc1687608d049f42d823e7cd"), looks := true }, kinds := [], alts := [], laidByText := true, laidKinds := [.data, .handle, .pinned], laidTests := true, laidLooks := .later }
def LargeLawsCardSaid : Prop := Claim7.holds Tryd.pinned (.plain (OpenSpec.ofChange largeLawsSpec)) largeLawsCard

/-- THE TIED CARD OF 'colloquylaw03.LargeOrder'. -/
def largeOrderCard : Claim7 := { stood := { row := largeOrderRow, standIns := [], harness := (true, "20bb0279dad833ae9a1969860d1ebba53fdc1e88dc1687608d049f42d823e7cd"), looks := true }, kinds := [], alts := [], laidByText := true, laidKinds := [.data, .handle, .pinned], laidTests := true, laidLooks := .later }
def LargeOrderCardSaid : Prop := Claim7.holds Tryd.pinned (.plain (OpenSpec.ofChange largeOrderSpec)) largeOrderCard

/-- THE TIED CARD OF 'colloquylaw03.LargeInts'. -/
def largeIntsCard : Claim7 := { stood := { row := largeIntsRow, standIns := [], harness := (true, "20bb0279dad833ae9a1969860d1ebba53fdc1e88dc1687608d049f42d823e7cd"), looks := true }, kinds := [], alts := [], laidByText := true, laidKinds := [.data, .handle, .pinned], laidTests := true, laidLooks := .later }
def LargeIntsCardSaid : Prop := Claim7.holds Tryd.pinned (.plain (OpenSpec.ofChange largeIntsSpec)) largeIntsCard

/-- THE TIED CARD OF 'colloquylaw04.VarintTells'. -/
def varintTellsCard : Claim7 := { stood := { row := varintTellsRow, standIns := [], harness := (true, "20bb0279dad833ae9a1969860d1ebba53fdc1e88dc1687608d049f42d823e7cd"), looks := true }, kinds := [], alts := [], laidByText := true, laidKinds := [.handle], laidTests := true, laidLooks := .later }
def VarintTellsCardSaid : Prop := Claim7.holds Tryd.pinned (.plain (OpenSpec.ofChange varintTellsSpec)) varintTellsCard

/-- THE SECOND FORM's CARD OF 'colloquylaw03.LargeTexts'. -/
def largeTextsUptoCard : Claim7 := { stood := { row := largeTextsUptoRow, standIns := [], harness := (true, "20bb0279dad833ae9a1969860d1ebba53fdc1e88dc1687608d049f42d823e7cd"), looks := true }, kinds := [], alts := [], laidByText := true, laidKinds := [.data, .handle, .pinned], laidTests := true, laidLooks := .later }
def LargeTextsUptoCardSaid : Prop := Claim7.holds Tryd.pinned (.plain (OpenSpec.upto largeTextsSpec)) largeTextsUptoCard

/-- THE SECOND FORM's CARD OF 'colloquylaw03.LargeLaws'. -/
def largeLawsUptoCard : Claim7 := { stood := { row := largeLawsUptoRow, standIns := [], harness := (true, "20bb0279dad833ae9a1969860d1ebba53fdc1e88dc1687608d049f42d823e7cd"), looks := true }, kinds := [], alts := [], laidByText := true, laidKinds := [.data, .handle, .pinned], laidTests := true, laidLooks := .later }
def LargeLawsUptoCardSaid : Prop := Claim7.holds Tryd.pinned (.plain (OpenSpec.upto largeLawsSpec)) largeLawsUptoCard

/-- THE SECOND FORM's CARD OF 'colloquylaw03.LargeOrder'. -/
def largeOrderUptoCard : Claim7 := { stood := { row := largeOrderUptoRow, standIns := [], harness := (true, "20bb0279dad833ae9a1969860d1ebba53fdc1e88dc1687608d049f42d823e7cd"), looks := true }, kinds := [], alts := [], laidByText := true, laidKinds := [.data, .handle, .pinned], laidTests := true, laidLooks := .later }
def LargeOrderUptoCardSaid : Prop := Claim7.holds Tryd.pinned (.plain (OpenSpec.upto largeOrderSpec)) largeOrderUptoCard

/-- THE SECOND FORM's CARD OF 'colloquylaw03.LargeInts'. -/
def largeIntsUptoCard : Claim7 := { stood := { row := largeIntsUptoRow, standIns := [], harness := (true, "20bb0279dad833ae9a1969860d1ebba53fdc1e88dc1687608d049f42d823e7cd"), looks := true }, kinds := [], alts := [], laidByText := true, laidKinds := [.data, .handle, .pinned], laidTests := true, laidLooks := .later }
def LargeIntsUptoCardSaid : Prop := Claim7.holds Tryd.pinned (.plain (OpenSpec.upto largeIntsSpec)) largeIntsUptoCard

/-- THE SECOND FORM's CARD OF 'colloquylaw04.VarintTells'. -/
def varintTellsUptoCard : Claim7 := { stood := { row := varintTellsUptoRow, standIns := [], harness := (true, "20bb0279dad833ae9a1969860d1ebba53fdc1e88dc1687608d049f42d823e7cd"), looks := true }, kinds := [], alts := [], laidByText := true, laidKinds := [.handle], laidTests := true, laidLooks := .later }
def VarintTellsUptoCardSaid : Prop := Claim7.holds Tryd.pinned (.plain (OpenSpec.upto varintTellsSpec)) varintTellsUptoCard
end Rows
end Go.Proofs.YtlidjdlamnkfmaaDoor
