/-
  DERIVED. GIVEN WITH THE SEED: THE CARDS: each row of YtceldfnajemdkaaDoorRows.lean that lists a variable, with what it lists TIED to the program's text (the seventh form; the later family's looks); each row that meets fmt, with fmt's text TOLD by the authors' own Lean function (tested against real Go, not proved from fmt's source: count such statements apart). THE CARD IS WHAT COUNTS. Prove the row's statement (the work); the ties are given (YtceldfnajemdkaaDoorTie.lean); close each card by the builder's one call (the guide's Derived/Test/ToyasCard.lean, 'card_holds'). Laid BY PROGRAM, IN A SANDBOX (cutbox-door.mjs). By AI agents, Wed Nov 11 2026. No macro, syntax, notation, axiom, sorry.
-/
import Derived.Test.YtceldfnajemdkaaDoorRows
import GoSem.ClaimSeven
namespace Go.Proofs.YtceldfnajemdkaaDoor
namespace Rows

/-- THE TIED CARD OF 'colloquylaw02.SmallTells'. -/
def smallTellsCard : Claim7 := { stood := { row := smallTellsRow, standIns := [], harness := (true, "1a7635a64b3ca43b161543cd47f2d206774d55970f93bfe1a1ea8a2bd7342894"), looks := true }, kinds := [], alts := [], laidByText := true, laidKinds := [.handle], laidTests := true, laidLooks := .later }
def SmallTellsCardSaid : Prop := Claim7.holds Tryd.pinned (.plain (OpenSpec.ofChange smallTellsSpec)) smallTellsCard

/-- THE TIED CARD OF 'colloquylaw02.SmallBack'. -/
def smallBackCard : Claim7 := { stood := { row := smallBackRow, standIns := [], harness := (true, "1a7635a64b3ca43b161543cd47f2d206774d55970f93bfe1a1ea8a2bd7342894"), looks := true }, kinds := [], alts := [], laidByText := true, laidKinds := [.handle], laidTests := true, laidLooks := .later }
def SmallBackCardSaid : Prop := Claim7.holds Tryd.pinned (.plain (OpenSpec.ofChange smallBackSpec)) smallBackCard

/-- THE TIED CARD OF 'colloquylaw02.SmallWords'. -/
def smallWordsCard : Claim7 := { stood := { row := smallWordsRow, standIns := [], harness := (true, "1a7635a64b3ca43b161543cd47f2d206774d55970f93bfe1a1ea8a2bd7342894"), looks := true }, kinds := [], alts := [], laidByText := true, laidKinds := [.handle], laidTests := true, laidLooks := .later }
def SmallWordsCardSaid : Prop := Claim7.holds Tryd.pinned (.plain (OpenSpec.ofChange smallWordsSpec)) smallWordsCard

/-- THE TIED CARD OF 'colloquylaw02.SmallSums'. -/
def smallSumsCard : Claim7 := { stood := { row := smallSumsRow, standIns := [], harness := (true, "1a7635a64b3ca43b161543cd47f2d206774d55970f93bfe1a1ea8a2bd7342894"), looks := true }, kinds := [], alts := [], laidByText := true, laidKinds := [.handle], laidTests := true, laidLooks := .later }
def SmallSumsCardSaid : Prop := Claim7.holds Tryd.pinned (.plain (OpenSpec.ofChange smallSumsSpec)) smallSumsCard

/-- THE TIED CARD OF 'colloquylaw02.SmallProducts'. -/
def smallProductsCard : Claim7 := { stood := { row := smallProductsRow, standIns := [], harness := (true, "1a7635a64b3ca43b161543cd47f2d206774d55970f93bfe1a1ea8a2bd7342894"), looks := true }, kinds := [], alts := [], laidByText := true, laidKinds := [.handle], laidTests := true, laidLooks := .later }
def SmallProductsCardSaid : Prop := Claim7.holds Tryd.pinned (.plain (OpenSpec.ofChange smallProductsSpec)) smallProductsCard

/-- THE SECOND FORM's CARD OF 'colloquylaw02.SmallTells'. -/
def smallTellsUptoCard : Claim7 := { stood := { row := smallTellsUptoRow, standIns := [], harness := (true, "1a7635a64b3ca43b161543cd47f2d206774d55970f93bfe1a1ea8a2bd7342894"), looks := true }, kinds := [], alts := [], laidByText := true, laidKinds := [.handle], laidTests := true, laidLooks := .later }
def SmallTellsUptoCardSaid : Prop := Claim7.holds Tryd.pinned (.plain (OpenSpec.upto smallTellsSpec)) smallTellsUptoCard

/-- THE SECOND FORM's CARD OF 'colloquylaw02.SmallBack'. -/
def smallBackUptoCard : Claim7 := { stood := { row := smallBackUptoRow, standIns := [], harness := (true, "1a7635a64b3ca43b161543cd47f2d206774d55970f93bfe1a1ea8a2bd7342894"), looks := true }, kinds := [], alts := [], laidByText := true, laidKinds := [.handle], laidTests := true, laidLooks := .later }
def SmallBackUptoCardSaid : Prop := Claim7.holds Tryd.pinned (.plain (OpenSpec.upto smallBackSpec)) smallBackUptoCard

/-- THE SECOND FORM's CARD OF 'colloquylaw02.SmallWords'. -/
def smallWordsUptoCard : Claim7 := { stood := { row := smallWordsUptoRow, standIns := [], harness := (true, "1a7635a64b3ca43b161543cd47f2d206774d55970f93bfe1a1ea8a2bd7342894"), looks := true }, kinds := [], alts := [], laidByText := true, laidKinds := [.handle], laidTests := true, laidLooks := .later }
def SmallWordsUptoCardSaid : Prop := Claim7.holds Tryd.pinned (.plain (OpenSpec.upto smallWordsSpec)) smallWordsUptoCard

/-- THE SECOND FORM's CARD OF 'colloquylaw02.SmallSums'. -/
def smallSumsUptoCard : Claim7 := { stood := { row := smallSumsUptoRow, standIns := [], harness := (true, "1a7635a64b3ca43b161543cd47f2d206774d55970f93bfe1a1ea8a2bd7342894"), looks := true }, kinds := [], alts := [], laidByText := true, laidKinds := [.handle], laidTests := true, laidLooks := .later }
def SmallSumsUptoCardSaid : Prop := Claim7.holds Tryd.pinned (.plain (OpenSpec.upto smallSumsSpec)) smallSumsUptoCard

/-- THE SECOND FORM's CARD OF 'colloquylaw02.SmallProducts'. -/
def smallProductsUptoCard : Claim7 := { stood := { row := smallProductsUptoRow, standIns := [], harness := (true, "1a7635a64b3ca43b161543cd47f2d206774d55970f93bfe1a1ea8a2bd7342894"), looks := true }, kinds := [], alts := [], laidByText := true, laidKinds := [.handle], laidTests := true, laidLooks := .later }
def SmallProductsUptoCardSaid : Prop := Claim7.holds Tryd.pinned (.plain (OpenSpec.upto smallProductsSpec)) smallProductsUptoCard
end Rows
end Go.Proofs.YtceldfnajemdkaaDoor
