/-
  NARROWER THAN 'FOR EVERY INPUT', by the rows' own cells (each row's printed sentence says how): ObjectRuns: laid · ObjectAlone: laid · ObjectHashes: laid.
  DERIVED. THE GIVEN ROWS OF THIS SEAT. 3 by the template 'for every input the law returns true; each argument reads behind the call as it read before'; 0 by the template 'total and deterministic' (their statements: YtcfknfiddadgbaaDoorTotals.lean).
  GIVEN WITH THE SEED: the statements are not yours to turn. If you find one false, say at which input.
  Laid BY PROGRAM, IN A SANDBOX (cutbox-rows.mjs): the forced cells as the released guide's own fill.sh prints them over the translation fcb21a012bf08a06… (all of the seat's roots in one cut). By AI agents, Wed Nov 11 2026. No macro, syntax, notation, axiom, sorry.
-/
import Derived.Test.YtcfknfiddadgbaaDoorChecked
import GoSem.Claim
import GoSem.ClaimJoined
import GoSem.ClaimMapViews
import Derived.JoinedTies
import Derived.KernelRfl
namespace Go.Proofs.YtcfknfiddadgbaaDoor
/- THE CELL 'sum', in the pinned program and in every row, IS THE sha256 OF THE DUMP (.gsa) THAT YtcfknfiddadgbaaDoorProg.lean LOADS. Nothing in Lean hashes anything: it is a label: what it is worth is what the hold of that sum in a sandbox is worth. -/
noncomputable def Tryd.pinned : Pinned := { name := "ytcfknfiddadgbaadoor", sum := "fcb21a012bf08a06fbcf466118aa6dfdff543352ef4356c62c26cab4d634b715", checked := Tryd.checked }
namespace Rows
def none {H : Type} : Left H := { results := [], args := [] }

/- WHAT THE LISTED PACKAGE-LEVEL VARIABLES READ AS WHEN THE CALL BEGINS. Each datum BY PROGRAM (the guide's laid-datum.mjs) off the statement by which the dump's own 'gosem.cut.vars' lays the variable. In a bare row this is a premise. The card (YtcfknfiddadgbaaDoorCards.lean) ties it to the program's text. -/
def laid_errors_errorType {H : Type} : DataW H := .iface "internal/reflectlite.rtype" (.agg [.ptr (.lit (.string [101, 114, 114, 111, 114]))])

/-- 'colloquylaw11.ObjectRuns': WHATEVER THE INPUT: true; the input reads as it did. -/
def objectRunsSpec : ChangeSpec := { name := "objectRuns", fn := fun _ => fun
  | [d1, d2, d3] => { results := [.lit (.bool true)], args := [d1, d2, d3] }
  | _ => none }
def objectRunsRow : OpenClaim := { program := "ytcfknfiddadgbaadoor", sum := "fcb21a012bf08a06fbcf466118aa6dfdff543352ef4356c62c26cab4d634b715", func := "colloquy/colloquylaw11.ObjectRuns", spec := "objectRuns", inPlace := ["internal/reflectlite.ValueOf", "(internal/reflectlite.Value).Type", "(internal/reflectlite.Value).IsNil", "internal/reflectlite.TypeOf", "(internal/reflectlite.Value).Elem", "(internal/reflectlite.Value).Set", "internal/bytealg.IndexByte"], unfollowed := true, recurses := true, named := ["errors.errorType"], apart := false, laid := [("errors.errorType", laid_errors_errorType)] }
def ObjectRunsSaid : Prop := objectRunsRow.holds Tryd.pinned (OpenSpec.ofChange objectRunsSpec)

/-- ITS FALSE NEIGHBOUR: 'it returns false'. Refute it at one input. -/
def objectRunsWrong : ChangeSpec := { name := "objectRuns", fn := fun _ => fun
  | [d1, d2, d3] => { results := [.lit (.bool false)], args := [d1, d2, d3] }
  | _ => none }
def ObjectRunsWrongFalsely : Prop := objectRunsRow.holds Tryd.pinned (OpenSpec.ofChange objectRunsWrong)

/-- 'colloquylaw11.ObjectAlone': WHATEVER THE INPUT: true; the input reads as it did. -/
def objectAloneSpec : ChangeSpec := { name := "objectAlone", fn := fun _ => fun
  | [d1, d2, d3] => { results := [.lit (.bool true)], args := [d1, d2, d3] }
  | _ => none }
def objectAloneRow : OpenClaim := { program := "ytcfknfiddadgbaadoor", sum := "fcb21a012bf08a06fbcf466118aa6dfdff543352ef4356c62c26cab4d634b715", func := "colloquy/colloquylaw11.ObjectAlone", spec := "objectAlone", inPlace := ["internal/bytealg.IndexByte", "internal/reflectlite.ValueOf", "(internal/reflectlite.Value).Type", "(internal/reflectlite.Value).IsNil", "internal/reflectlite.TypeOf", "(internal/reflectlite.Value).Elem", "(internal/reflectlite.Value).Set"], unfollowed := true, recurses := true, named := ["errors.errorType"], apart := false, laid := [("errors.errorType", laid_errors_errorType)] }
def ObjectAloneSaid : Prop := objectAloneRow.holds Tryd.pinned (OpenSpec.ofChange objectAloneSpec)

/-- ITS FALSE NEIGHBOUR: 'it returns false'. Refute it at one input. -/
def objectAloneWrong : ChangeSpec := { name := "objectAlone", fn := fun _ => fun
  | [d1, d2, d3] => { results := [.lit (.bool false)], args := [d1, d2, d3] }
  | _ => none }
def ObjectAloneWrongFalsely : Prop := objectAloneRow.holds Tryd.pinned (OpenSpec.ofChange objectAloneWrong)

/-- 'colloquylaw11.ObjectHashes': WHATEVER THE INPUT: true; the input reads as it did. -/
def objectHashesSpec : ChangeSpec := { name := "objectHashes", fn := fun _ => fun
  | [d1, d2] => { results := [.lit (.bool true)], args := [d1, d2] }
  | _ => none }
def objectHashesRow : OpenClaim := { program := "ytcfknfiddadgbaadoor", sum := "fcb21a012bf08a06fbcf466118aa6dfdff543352ef4356c62c26cab4d634b715", func := "colloquy/colloquylaw11.ObjectHashes", spec := "objectHashes", inPlace := ["internal/bytealg.IndexByte", "internal/reflectlite.ValueOf", "(internal/reflectlite.Value).Type", "(internal/reflectlite.Value).IsNil", "internal/reflectlite.TypeOf", "(internal/reflectlite.Value).Elem", "(internal/reflectlite.Value).Set"], unfollowed := true, recurses := true, named := ["errors.errorType"], apart := false, laid := [("errors.errorType", laid_errors_errorType)] }
def ObjectHashesSaid : Prop := objectHashesRow.holds Tryd.pinned (OpenSpec.ofChange objectHashesSpec)

/-- ITS FALSE NEIGHBOUR: 'it returns false'. Refute it at one input. -/
def objectHashesWrong : ChangeSpec := { name := "objectHashes", fn := fun _ => fun
  | [d1, d2] => { results := [.lit (.bool false)], args := [d1, d2] }
  | _ => none }
def ObjectHashesWrongFalsely : Prop := objectHashesRow.holds Tryd.pinned (OpenSpec.ofChange objectHashesWrong)

/- THE SECOND FORM. 'bulk': how many values and letters a reading holds, each counted each time it is reached (what is shared counts as often as it is met; a slice's spare places count too). A statement '..UptoSaid' is the law's where the arguments, and the package variables that the reading takes, are together of bulk at most 1048576: NARROWER than '..Said'. Prove '..Said' where nothing that the law and all that it calls make is longer than what came in: it says more and counts as full. Else prove '..UptoSaid'. A law counts once. -/
mutual
def uptoBulk {H : Type} : DataW H → Nat
  | .lit (.string bytes) => bytes.length + 1
  | .lit _ => 1
  | .nil => 1
  | .ptr d => uptoBulk d + 1
  | .slice elems spare => uptoBulkAll elems + uptoBulkAll spare + 1
  | .agg parts => uptoBulkAll parts + 1
  | .iface _ d => uptoBulk d + 1
  | .map entries => uptoBulkEntries entries + 1
  | .held _ => 1
def uptoBulkAll {H : Type} : List (DataW H) → Nat
  | [] => 0
  | d :: r => uptoBulk d + uptoBulkAll r
def uptoBulkEntries {H : Type} : List (Lit × DataW H) → Nat
  | [] => 0
  | x :: r => uptoBulkEntry x + uptoBulkEntries r
def uptoBulkEntry {H : Type} : Lit × DataW H → Nat
  | (.string bytes, d) => bytes.length + uptoBulk d + 1
  | (_, d) => uptoBulk d + 1
 end
def uptoSmall : (H : Type) → List (DataW H) → Bool := fun _ ds => decide (uptoBulkAll ds ≤ 1048576)
def OpenSpec.upto (s : _root_.Go.ChangeSpec) : _root_.Go.OpenSpec := { _root_.Go.OpenSpec.ofChange s with cond := some uptoSmall }

/-- 'colloquylaw11.ObjectRuns', WHERE WHAT IT READS IS OF BULK AT MOST 1048576: true; the input reads as it did. -/
def objectRunsUptoRow : OpenClaim := { program := "ytcfknfiddadgbaadoor", sum := "fcb21a012bf08a06fbcf466118aa6dfdff543352ef4356c62c26cab4d634b715", func := "colloquy/colloquylaw11.ObjectRuns", spec := "objectRuns", inPlace := ["internal/reflectlite.ValueOf", "(internal/reflectlite.Value).Type", "(internal/reflectlite.Value).IsNil", "internal/reflectlite.TypeOf", "(internal/reflectlite.Value).Elem", "(internal/reflectlite.Value).Set", "internal/bytealg.IndexByte"], unfollowed := true, recurses := true, named := ["errors.errorType"], apart := false, laid := [("errors.errorType", laid_errors_errorType)], narrowed := true }
def ObjectRunsUptoSaid : Prop := objectRunsUptoRow.holds Tryd.pinned (OpenSpec.upto objectRunsSpec)

/-- 'colloquylaw11.ObjectAlone', WHERE WHAT IT READS IS OF BULK AT MOST 1048576: true; the input reads as it did. -/
def objectAloneUptoRow : OpenClaim := { program := "ytcfknfiddadgbaadoor", sum := "fcb21a012bf08a06fbcf466118aa6dfdff543352ef4356c62c26cab4d634b715", func := "colloquy/colloquylaw11.ObjectAlone", spec := "objectAlone", inPlace := ["internal/bytealg.IndexByte", "internal/reflectlite.ValueOf", "(internal/reflectlite.Value).Type", "(internal/reflectlite.Value).IsNil", "internal/reflectlite.TypeOf", "(internal/reflectlite.Value).Elem", "(internal/reflectlite.Value).Set"], unfollowed := true, recurses := true, named := ["errors.errorType"], apart := false, laid := [("errors.errorType", laid_errors_errorType)], narrowed := true }
def ObjectAloneUptoSaid : Prop := objectAloneUptoRow.holds Tryd.pinned (OpenSpec.upto objectAloneSpec)

/-- 'colloquylaw11.ObjectHashes', WHERE WHAT IT READS IS OF BULK AT MOST 1048576: true; the input reads as it did. -/
def objectHashesUptoRow : OpenClaim := { program := "ytcfknfiddadgbaadoor", sum := "fcb21a012bf08a06fbcf466118aa6dfdff543352ef4356c62c26cab4d634b715", func := "colloquy/colloquylaw11.ObjectHashes", spec := "objectHashes", inPlace := ["internal/bytealg.IndexByte", "internal/reflectlite.ValueOf", "(internal/reflectlite.Value).Type", "(internal/reflectlite.Value).IsNil", "internal/reflectlite.TypeOf", "(internal/reflectlite.Value).Elem", "(internal/reflectlite.Value).Set"], unfollowed := true, recurses := true, named := ["errors.errorType"], apart := false, laid := [("errors.errorType", laid_errors_errorType)], narrowed := true }
def ObjectHashesUptoSaid : Prop := objectHashesUptoRow.holds Tryd.pinned (OpenSpec.upto objectHashesSpec)

end Rows
end Go.Proofs.YtcfknfiddadgbaaDoor
