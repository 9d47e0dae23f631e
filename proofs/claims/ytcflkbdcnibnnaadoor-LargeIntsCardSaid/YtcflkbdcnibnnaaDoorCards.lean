/-
  DERIVED. GIVEN WITH THE SEED: THE CARDS: each row of YtcflkbdcnibnnaaDoorRows.lean that lists a variable, with what it lists TIED to the program's text (the seventh form; the later family's looks); each row that meets fmt, with fmt's text TOLD by the authors' own Lean function (tested against real Go, not proved from fmt's source: count such statements apart). THE CARD IS WHAT COUNTS. Prove the row's statement (the work); the ties are given (YtcflkbdcnibnnaaDoorTie.lean); close each card by the builder's one call (the guide's Derived/Test/ToyasCard.lean, 'card_holds'). Laid BY PROGRAM, IN A SANDBOX (cutbox-door.mjs). By AI agents, Wed Nov 11 2026. No macro, syntax, notation, axiom, sorry.
-/
import Derived.Test.YtcflkbdcnibnnaaDoorRows
import GoSem.ClaimSeven
namespace Go.Proofs.YtcflkbdcnibnnaaDoor
namespace Rows

/-- THE TIED CARD OF 'colloquylaw03.LargeTexts'. -/
def largeTextsCard : Claim7 := { stood := { row := largeTextsRow, standIns := [], harness := (true, "ff2178b307973d58dae2a229c2ff0bef9f07465afca145d2a06c58d2d9a15ef0"), looks := true }, kinds := [], alts := [], laidByText := true, laidKinds := [.data, .handle, .pinned], laidTests := true, laidLooks := .later }
def LargeTextsCardSaid : Prop := Claim7.holds Tryd.pinned (.plain (OpenSpec.ofChange largeTextsSpec)) largeTextsCard

/-- THE TIED CARD OF 'colloquylaw03.LargeLaws'. -/
def largeLawsCard : Claim7 := { stood := { row := largeLawsRow, standIns := [], harness := (true, "ff2178b307973d58dae2a229c2ff0bef9f07465afca145d2a06c58d2d9a15ef0"), looks := true }, kinds := [], alts := [], laidByText := true, laidKinds := [.data, .handle, .pinned], laidTests := true, laidLooks := .later }
def LargeLawsCardSaid : Prop := Claim7.holds Tryd.pinned (.plain (OpenSpec.ofChange largeLawsSpec)) largeLawsCard

/-- THE TIED CARD OF 'colloquylaw03.LargeOrder'. -/
def largeOrderCard : Claim7 := { stood := { row := largeOrderRow, standIns := [], harness := (true, "ff2178b307973d58dae2a229c2ff0bef9f07465afca145d2a06c58d2d9a15ef0"), looks := true }, kinds := [], alts := [], laidByText := true, laidKinds := [.data, .handle, .pinned], laidTests := true, laidLooks := .later }
def LargeOrderCardSaid : Prop := Claim7.holds Tryd.pinned (.plain (OpenSpec.ofChange largeOrderSpec)) largeOrderCard

/-- THE TIED CARD OF 'colloquylaw03.LargeInts'. -/
def largeIntsCard : Claim7 := { stood := { row := largeIntsRow, standIns := [], harness := (true, "ff2178b307973d58dae2a229c2ff0bef9f07465afca145d2a06c58d2d9a15ef0"), looks := true }, kinds := [], alts := [], laidByText := true, laidKinds := [.data, .handle, .pinned], laidTests := true, laidLooks := .later }
def LargeIntsCardSaid : Prop := Claim7.holds Tryd.pinned (.plain (OpenSpec.ofChange largeIntsSpec)) largeIntsCard

/-- THE SECOND FORM's CARD OF 'colloquylaw03.LargeTexts'. -/
def largeTextsUptoCard : Claim7 := { stood := { row := largeTextsUptoRow, standIns := [], harness := (true, "ff2178b307973d58dae2a229c2ff0bef9f07465afca145d2a06c58d2d9a15ef0"), looks := true }, kinds := [], alts := [], laidByText := true, laidKinds := [.data, .handle, .pinned], laidTests := true, laidLooks := .later }
def LargeTextsUptoCardSaid : Prop := Claim7.holds Tryd.pinned (.plain (OpenSpec.upto largeTextsSpec)) largeTextsUptoCard

/-- THE SECOND FORM's CARD OF 'colloquylaw03.LargeLaws'. -/
def largeLawsUptoCard : Claim7 := { stood := { row := largeLawsUptoRow, standIns := [], harness := (true, "ff2178b307973d58dae2a229c2ff0bef9f07465afca145d2a06c58d2d9a15ef0"), looks := true }, kinds := [], alts := [], laidByText := true, laidKinds := [.data, .handle, .pinned], laidTests := true, laidLooks := .later }
def LargeLawsUptoCardSaid : Prop := Claim7.holds Tryd.pinned (.plain (OpenSpec.upto largeLawsSpec)) largeLawsUptoCard

/-- THE SECOND FORM's CARD OF 'colloquylaw03.LargeOrder'. -/
def largeOrderUptoCard : Claim7 := { stood := { row := largeOrderUptoRow, standIns := [], harness := (true, "ff2178b307973d58dae2a229c2ff0bef9f07465afca145d2a06c58d2d9a15ef0"), looks := true }, kinds := [], alts := [], laidByText := true, laidKinds := [.data, .handle, .pinned], laidTests := true, laidLooks := .later }
def LargeOrderUptoCardSaid : Prop := Claim7.holds Tryd.pinned (.plain (OpenSpec.upto largeOrderSpec)) largeOrderUptoCard

/-- THE SECOND FORM's CARD OF 'colloquylaw03.LargeInts'. -/
def largeIntsUptoCard : Claim7 := { stood := { row := largeIntsUptoRow, standIns := [], harness := (true, "ff2178b307973d58dae2a229c2ff0bef9f07465afca145d2a06c58d2d9a15ef0"), looks := true }, kinds := [], alts := [], laidByText := true, laidKinds := [.data, .handle, .pinned], laidTests := true, laidLooks := .later }
def LargeIntsUptoCardSaid : Prop := Claim7.holds Tryd.pinned (.plain (OpenSpec.upto largeIntsSpec)) largeIntsUptoCard
end Rows
end Go.Proofs.YtcflkbdcnibnnaaDoor
