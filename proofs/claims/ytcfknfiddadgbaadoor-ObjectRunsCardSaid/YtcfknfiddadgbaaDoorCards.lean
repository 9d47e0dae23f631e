/-
  DERIVED. GIVEN WITH THE SEED: THE CARDS: each row of YtcfknfiddadgbaaDoorRows.lean that lists a variable, with what it lists TIED to the program's text (the seventh form; the later family's looks); each row that meets fmt, with fmt's text TOLD by the authors' own Lean function (tested against real Go, not proved from fmt's source: count such statements apart). THE CARD IS WHAT COUNTS. Prove the row's statement (the work); the ties are given (YtcfknfiddadgbaaDoorTie.lean); close each card by the builder's one call (the guide's Derived/Test/ToyasCard.lean, 'card_holds'). Laid BY PROGRAM, IN A SANDBOX (cutbox-door.mjs). By AI agents, Wed Nov 11 2026. No macro, syntax, notation, axiom, sorry.
-/
import Derived.Test.YtcfknfiddadgbaaDoorRows
import GoSem.ClaimSeven
namespace Go.Proofs.YtcfknfiddadgbaaDoor
namespace Rows

/-- THE TIED CARD OF 'colloquylaw11.ObjectRuns'. -/
def objectRunsCard : Claim7 := { stood := { row := objectRunsRow, standIns := [], harness := (true, "e520c8b8787f32649df8e207bf979a87ee0db5cf540585086c108495ea9685f5"), looks := true }, kinds := [], alts := [], laidByText := true, laidKinds := [.handle], laidTests := true, laidLooks := .later }
def ObjectRunsCardSaid : Prop := Claim7.holds Tryd.pinned (.plain (OpenSpec.ofChange objectRunsSpec)) objectRunsCard

/-- THE TIED CARD OF 'colloquylaw11.ObjectAlone'. -/
def objectAloneCard : Claim7 := { stood := { row := objectAloneRow, standIns := [], harness := (true, "e520c8b8787f32649df8e207bf979a87ee0db5cf540585086c108495ea9685f5"), looks := true }, kinds := [], alts := [], laidByText := true, laidKinds := [.handle], laidTests := true, laidLooks := .later }
def ObjectAloneCardSaid : Prop := Claim7.holds Tryd.pinned (.plain (OpenSpec.ofChange objectAloneSpec)) objectAloneCard

/-- THE TIED CARD OF 'colloquylaw11.ObjectHashes'. -/
def objectHashesCard : Claim7 := { stood := { row := objectHashesRow, standIns := [], harness := (true, "e520c8b8787f32649df8e207bf979a87ee0db5cf540585086c108495ea9685f5"), looks := true }, kinds := [], alts := [], laidByText := true, laidKinds := [.handle], laidTests := true, laidLooks := .later }
def ObjectHashesCardSaid : Prop := Claim7.holds Tryd.pinned (.plain (OpenSpec.ofChange objectHashesSpec)) objectHashesCard

/-- THE SECOND FORM's CARD OF 'colloquylaw11.ObjectRuns'. -/
def objectRunsUptoCard : Claim7 := { stood := { row := objectRunsUptoRow, standIns := [], harness := (true, "e520c8b8787f32649df8e207bf979a87ee0db5cf540585086c108495ea9685f5"), looks := true }, kinds := [], alts := [], laidByText := true, laidKinds := [.handle], laidTests := true, laidLooks := .later }
def ObjectRunsUptoCardSaid : Prop := Claim7.holds Tryd.pinned (.plain (OpenSpec.upto objectRunsSpec)) objectRunsUptoCard

/-- THE SECOND FORM's CARD OF 'colloquylaw11.ObjectAlone'. -/
def objectAloneUptoCard : Claim7 := { stood := { row := objectAloneUptoRow, standIns := [], harness := (true, "e520c8b8787f32649df8e207bf979a87ee0db5cf540585086c108495ea9685f5"), looks := true }, kinds := [], alts := [], laidByText := true, laidKinds := [.handle], laidTests := true, laidLooks := .later }
def ObjectAloneUptoCardSaid : Prop := Claim7.holds Tryd.pinned (.plain (OpenSpec.upto objectAloneSpec)) objectAloneUptoCard

/-- THE SECOND FORM's CARD OF 'colloquylaw11.ObjectHashes'. -/
def objectHashesUptoCard : Claim7 := { stood := { row := objectHashesUptoRow, standIns := [], harness := (true, "e520c8b8787f32649df8e207bf979a87ee0db5cf540585086c108495ea9685f5"), looks := true }, kinds := [], alts := [], laidByText := true, laidKinds := [.handle], laidTests := true, laidLooks := .later }
def ObjectHashesUptoCardSaid : Prop := Claim7.holds Tryd.pinned (.plain (OpenSpec.upto objectHashesSpec)) objectHashesUptoCard
end Rows
end Go.Proofs.YtcfknfiddadgbaaDoor
