/-
  DERIVED. GIVEN WITH THE SEED: THE CARDS: each row of YtidnaednldcdfaaDoorRows.lean that lists a variable, with what it lists TIED to the program's text (the seventh form; the later family's looks); each row that meets fmt, with fmt's text TOLD by the authors' own Lean function (tested against real Go, not proved from fmt's source: count such statements apart). THE CARD IS WHAT COUNTS. Prove the row's statement (the work); the ties are given (YtidnaednldcdfaaDoorTie.lean); close each card by the builder's one call (the guide's Derived/Test/ToyasCard.lean, 'card_holds'). Laid BY PROGRAM, IN A SANDBOX (cutbox-door.mjs). By AI agents, Wed Nov 11 2026. No macro, syntax, notation, axiom, sorry.
-/
import Derived.Test.YtidnaednldcdfaaDoorRows
import GoSem.ClaimSeven
namespace Go.Proofs.YtidnaednldcdfaaDoor
namespace Rows

/-- THE TIED CARD OF 'colloquylaw12.HeapStays'. -/
def heapStaysCard : Claim7 := { stood := { row := heapStaysRow, standIns := [], harness := (true, "d95f23e95047fcd94d34032f0472424850ab8909a4eabc62889ab8b9d9c4e44c"), looks := true }, kinds := [], alts := [], laidByText := true, laidKinds := [.handle], laidTests := true, laidLooks := .later }
def HeapStaysCardSaid : Prop := Claim7.holds Tryd.pinned (.plain (OpenSpec.ofChange heapStaysSpec)) heapStaysCard

/-- THE TIED CARD OF 'colloquylaw12.HeapAsStore'. -/
def heapAsStoreCard : Claim7 := { stood := { row := heapAsStoreRow, standIns := [], harness := (true, "d95f23e95047fcd94d34032f0472424850ab8909a4eabc62889ab8b9d9c4e44c"), looks := true }, kinds := [], alts := [], laidByText := true, laidKinds := [.handle], laidTests := true, laidLooks := .later }
def HeapAsStoreCardSaid : Prop := Claim7.holds Tryd.pinned (.plain (OpenSpec.ofChange heapAsStoreSpec)) heapAsStoreCard

/-- THE TIED CARD OF 'colloquylaw12.HeapAgain'. -/
def heapAgainCard : Claim7 := { stood := { row := heapAgainRow, standIns := [], harness := (true, "d95f23e95047fcd94d34032f0472424850ab8909a4eabc62889ab8b9d9c4e44c"), looks := true }, kinds := [], alts := [], laidByText := true, laidKinds := [.handle], laidTests := true, laidLooks := .later }
def HeapAgainCardSaid : Prop := Claim7.holds Tryd.pinned (.plain (OpenSpec.ofChange heapAgainSpec)) heapAgainCard

/-- THE SECOND FORM's CARD OF 'colloquylaw12.HeapStays'. -/
def heapStaysUptoCard : Claim7 := { stood := { row := heapStaysUptoRow, standIns := [], harness := (true, "d95f23e95047fcd94d34032f0472424850ab8909a4eabc62889ab8b9d9c4e44c"), looks := true }, kinds := [], alts := [], laidByText := true, laidKinds := [.handle], laidTests := true, laidLooks := .later }
def HeapStaysUptoCardSaid : Prop := Claim7.holds Tryd.pinned (.plain (OpenSpec.upto heapStaysSpec)) heapStaysUptoCard

/-- THE SECOND FORM's CARD OF 'colloquylaw12.HeapAsStore'. -/
def heapAsStoreUptoCard : Claim7 := { stood := { row := heapAsStoreUptoRow, standIns := [], harness := (true, "d95f23e95047fcd94d34032f0472424850ab8909a4eabc62889ab8b9d9c4e44c"), looks := true }, kinds := [], alts := [], laidByText := true, laidKinds := [.handle], laidTests := true, laidLooks := .later }
def HeapAsStoreUptoCardSaid : Prop := Claim7.holds Tryd.pinned (.plain (OpenSpec.upto heapAsStoreSpec)) heapAsStoreUptoCard

/-- THE SECOND FORM's CARD OF 'colloquylaw12.HeapAgain'. -/
def heapAgainUptoCard : Claim7 := { stood := { row := heapAgainUptoRow, standIns := [], harness := (true, "d95f23e95047fcd94d34032f0472424850ab8909a4eabc62889ab8b9d9c4e44c"), looks := true }, kinds := [], alts := [], laidByText := true, laidKinds := [.handle], laidTests := true, laidLooks := .later }
def HeapAgainUptoCardSaid : Prop := Claim7.holds Tryd.pinned (.plain (OpenSpec.upto heapAgainSpec)) heapAgainUptoCard
end Rows
end Go.Proofs.YtidnaednldcdfaaDoor
