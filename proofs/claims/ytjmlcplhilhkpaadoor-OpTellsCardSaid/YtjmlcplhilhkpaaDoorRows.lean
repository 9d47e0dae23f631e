/-
  NARROWER THAN 'FOR EVERY INPUT', by the rows' own cells (each row's printed sentence says how): OpTells: laid · OpBack: laid · OpCut: laid · OpNames: laid.
  DERIVED. THE GIVEN ROWS OF THIS SEAT. 4 by the template 'for every input the law returns true; each argument reads behind the call as it read before'; 0 by the template 'total and deterministic' (their statements: YtjmlcplhilhkpaaDoorTotals.lean).
  GIVEN WITH THE SEED: the statements are not yours to turn. If you find one false, say at which input.
  Laid BY PROGRAM, IN A SANDBOX (cutbox-rows.mjs): the forced cells as the released guide's own fill.sh prints them over the translation 71897e6356f33d28… (all of the seat's roots in one cut). By AI agents, Wed Nov 11 2026. No macro, syntax, notation, axiom, sorry.
-/
import Derived.Test.YtjmlcplhilhkpaaDoorChecked
import GoSem.Claim
import GoSem.ClaimJoined
import GoSem.ClaimMapViews
import Derived.JoinedTies
import Derived.KernelRfl
namespace Go.Proofs.YtjmlcplhilhkpaaDoor
/- THE CELL 'sum', in the pinned program and in every row, IS THE sha256 OF THE DUMP (.gsa) THAT YtjmlcplhilhkpaaDoorProg.lean LOADS. Nothing in Lean hashes anything: it is a label: what it is worth is what the hold of that sum in a sandbox is worth. -/
noncomputable def Tryd.pinned : Pinned := { name := "ytjmlcplhilhkpaadoor", sum := "71897e6356f33d28a311a73d1972c0f29c7e3a6fdb154578b93e7a978893458d", checked := Tryd.checked }
namespace Rows
def none {H : Type} : Left H := { results := [], args := [] }

/- WHAT THE LISTED PACKAGE-LEVEL VARIABLES READ AS WHEN THE CALL BEGINS. Each datum BY PROGRAM (the guide's laid-datum.mjs) off the statement by which the dump's own 'gosem.cut.vars' lays the variable. In a bare row this is a premise. The card (YtjmlcplhilhkpaaDoorCards.lean) ties it to the program's text. -/
def laid_errors_errorType {H : Type} : DataW H := .iface "internal/reflectlite.rtype" (.agg [.ptr (.lit (.string [101, 114, 114, 111, 114]))])
def laid_colloquy_op_instructions {H : Type} : DataW H := .agg [.agg [.lit (.string [115, 101, 108, 102]), .lit (.string [])], .agg [.lit (.string [110, 105, 108]), .lit (.string [])], .agg [.lit (.string [116, 114, 117, 101]), .lit (.string [])], .agg [.lit (.string [102, 97, 108, 115, 101]), .lit (.string [])], .agg [.lit (.string [108, 105, 116]), .lit (.string [49])], .agg [.lit (.string [116, 101, 109, 112]), .lit (.string [49, 49])], .agg [.lit (.string [115, 101, 116]), .lit (.string [49, 49])], .agg [.lit (.string [118, 97, 114]), .lit (.string [49])], .agg [.lit (.string [112, 117, 116]), .lit (.string [49])], .agg [.lit (.string [112, 111, 112]), .lit (.string [])], .agg [.lit (.string [100, 117, 112]), .lit (.string [])], .agg [.lit (.string [115, 101, 110, 100]), .lit (.string [49, 49])], .agg [.lit (.string [115, 117, 112, 101, 114]), .lit (.string [49, 49])], .agg [.lit (.string [106, 117, 109, 112]), .lit (.string [50])], .agg [.lit (.string [101, 108, 115, 101]), .lit (.string [50, 50])], .agg [.lit (.string [106, 111, 105, 110]), .lit (.string [])], .agg [.lit (.string [98, 108, 111, 99, 107]), .lit (.string [49])], .agg [.lit (.string [97, 110, 115, 119, 101, 114]), .lit (.string [])], .agg [.lit (.string [109, 101]), .lit (.string [])], .agg [.lit (.string [104, 111, 109, 101]), .lit (.string [])], .agg [.lit (.string [99, 108, 97, 115, 115]), .lit (.string [49])]]

/-- 'colloquylaw07.OpTells': WHATEVER THE INPUT: true; the input reads as it did. -/
def opTellsSpec : ChangeSpec := { name := "opTells", fn := fun _ => fun
  | [d1, d2, d3] => { results := [.lit (.bool true)], args := [d1, d2, d3] }
  | _ => none }
def opTellsRow : OpenClaim := { program := "ytjmlcplhilhkpaadoor", sum := "71897e6356f33d28a311a73d1972c0f29c7e3a6fdb154578b93e7a978893458d", func := "colloquy/colloquylaw07.OpTells", spec := "opTells", inPlace := ["internal/reflectlite.ValueOf", "(internal/reflectlite.Value).Type", "(internal/reflectlite.Value).IsNil", "internal/reflectlite.TypeOf", "(internal/reflectlite.Value).Elem", "(internal/reflectlite.Value).Set"], unfollowed := true, recurses := true, named := ["colloquy/op.instructions", "errors.errorType"], apart := false, laid := [("errors.errorType", laid_errors_errorType), ("colloquy/op.instructions", laid_colloquy_op_instructions)] }
def OpTellsSaid : Prop := opTellsRow.holds Tryd.pinned (OpenSpec.ofChange opTellsSpec)

/-- ITS FALSE NEIGHBOUR: 'it returns false'. Refute it at one input. -/
def opTellsWrong : ChangeSpec := { name := "opTells", fn := fun _ => fun
  | [d1, d2, d3] => { results := [.lit (.bool false)], args := [d1, d2, d3] }
  | _ => none }
def OpTellsWrongFalsely : Prop := opTellsRow.holds Tryd.pinned (OpenSpec.ofChange opTellsWrong)

/-- 'colloquylaw07.OpBack': WHATEVER THE INPUT: true; the input reads as it did. -/
def opBackSpec : ChangeSpec := { name := "opBack", fn := fun _ => fun
  | [d1, d2] => { results := [.lit (.bool true)], args := [d1, d2] }
  | _ => none }
def opBackRow : OpenClaim := { program := "ytjmlcplhilhkpaadoor", sum := "71897e6356f33d28a311a73d1972c0f29c7e3a6fdb154578b93e7a978893458d", func := "colloquy/colloquylaw07.OpBack", spec := "opBack", inPlace := ["internal/reflectlite.ValueOf", "(internal/reflectlite.Value).Type", "(internal/reflectlite.Value).IsNil", "internal/reflectlite.TypeOf", "(internal/reflectlite.Value).Elem", "(internal/reflectlite.Value).Set"], unfollowed := true, recurses := true, named := ["colloquy/op.instructions", "errors.errorType"], apart := false, laid := [("errors.errorType", laid_errors_errorType), ("colloquy/op.instructions", laid_colloquy_op_instructions)] }
def OpBackSaid : Prop := opBackRow.holds Tryd.pinned (OpenSpec.ofChange opBackSpec)

/-- ITS FALSE NEIGHBOUR: 'it returns false'. Refute it at one input. -/
def opBackWrong : ChangeSpec := { name := "opBack", fn := fun _ => fun
  | [d1, d2] => { results := [.lit (.bool false)], args := [d1, d2] }
  | _ => none }
def OpBackWrongFalsely : Prop := opBackRow.holds Tryd.pinned (OpenSpec.ofChange opBackWrong)

/-- 'colloquylaw07.OpCut': WHATEVER THE INPUT: true; the input reads as it did. -/
def opCutSpec : ChangeSpec := { name := "opCut", fn := fun _ => fun
  | [d1, d2] => { results := [.lit (.bool true)], args := [d1, d2] }
  | _ => none }
def opCutRow : OpenClaim := { program := "ytjmlcplhilhkpaadoor", sum := "71897e6356f33d28a311a73d1972c0f29c7e3a6fdb154578b93e7a978893458d", func := "colloquy/colloquylaw07.OpCut", spec := "opCut", inPlace := ["internal/reflectlite.ValueOf", "(internal/reflectlite.Value).Type", "(internal/reflectlite.Value).IsNil", "internal/reflectlite.TypeOf", "(internal/reflectlite.Value).Elem", "(internal/reflectlite.Value).Set"], unfollowed := true, recurses := true, named := ["colloquy/op.instructions", "errors.errorType"], apart := false, laid := [("errors.errorType", laid_errors_errorType), ("colloquy/op.instructions", laid_colloquy_op_instructions)] }
def OpCutSaid : Prop := opCutRow.holds Tryd.pinned (OpenSpec.ofChange opCutSpec)

/-- ITS FALSE NEIGHBOUR: 'it returns false'. Refute it at one input. -/
def opCutWrong : ChangeSpec := { name := "opCut", fn := fun _ => fun
  | [d1, d2] => { results := [.lit (.bool false)], args := [d1, d2] }
  | _ => none }
def OpCutWrongFalsely : Prop := opCutRow.holds Tryd.pinned (OpenSpec.ofChange opCutWrong)

/-- 'colloquylaw07.OpNames': WHATEVER THE INPUT: true; the input reads as it did. -/
def opNamesSpec : ChangeSpec := { name := "opNames", fn := fun _ => fun
  | [d1, d2] => { results := [.lit (.bool true)], args := [d1, d2] }
  | _ => none }
def opNamesRow : OpenClaim := { program := "ytjmlcplhilhkpaadoor", sum := "71897e6356f33d28a311a73d1972c0f29c7e3a6fdb154578b93e7a978893458d", func := "colloquy/colloquylaw07.OpNames", spec := "opNames", inPlace := ["internal/reflectlite.ValueOf", "(internal/reflectlite.Value).Type", "(internal/reflectlite.Value).IsNil", "internal/reflectlite.TypeOf", "(internal/reflectlite.Value).Elem", "(internal/reflectlite.Value).Set"], unfollowed := true, recurses := true, named := ["colloquy/op.instructions", "errors.errorType"], apart := false, laid := [("errors.errorType", laid_errors_errorType), ("colloquy/op.instructions", laid_colloquy_op_instructions)] }
def OpNamesSaid : Prop := opNamesRow.holds Tryd.pinned (OpenSpec.ofChange opNamesSpec)

/-- ITS FALSE NEIGHBOUR: 'it returns false'. Refute it at one input. -/
def opNamesWrong : ChangeSpec := { name := "opNames", fn := fun _ => fun
  | [d1, d2] => { results := [.lit (.bool false)], args := [d1, d2] }
  | _ => none }
def OpNamesWrongFalsely : Prop := opNamesRow.holds Tryd.pinned (OpenSpec.ofChange opNamesWrong)

/- THE SECOND FORM. 'bulk': how many values and letters a reading holds, each counted each time it is reached (what is shared counts as often as it is met; a slice's spare places count too). A statement '..UptoSaid' is the law's where the arguments, and the package variables that the reading takes, are together of bulk at most 1048576: NARROWER than '..Said'. Prove '..Said' where nothing that the law and all that it calls make is longer than what came in: it says more and counts as full. Else prove '..UptoSaid'. A law counts once. -/
mutual
def uptoBulk {H : Type} : DataW H → Nat
  | .lit (.string bytes) => bytes.length + 1
  | .lit _ => 1
  | .nil => 1
  | .ptr d => uptoBulk d + 1
  | .slice elems spare => uptoBulkAll elems + uptoBulkAll spare + 1
  | .agg parts => uptoBulkAll parts + 1
  | .iface _ d => uptoBulk d + 1
  | .map entries => uptoBulkEntries entries + 1
  | .held _ => 1
def uptoBulkAll {H : Type} : List (DataW H) → Nat
  | [] => 0
  | d :: r => uptoBulk d + uptoBulkAll r
def uptoBulkEntries {H : Type} : List (Lit × DataW H) → Nat
  | [] => 0
  | x :: r => uptoBulkEntry x + uptoBulkEntries r
def uptoBulkEntry {H : Type} : Lit × DataW H → Nat
  | (.string bytes, d) => bytes.length + uptoBulk d + 1
  | (_, d) => uptoBulk d + 1
 end
def uptoSmall : (H : Type) → List (DataW H) → Bool := fun _ ds => decide (uptoBulkAll ds ≤ 1048576)
def OpenSpec.upto (s : _root_.Go.ChangeSpec) : _root_.Go.OpenSpec := { _root_.Go.OpenSpec.ofChange s with cond := some uptoSmall }

/-- 'colloquylaw07.OpTells', WHERE WHAT IT READS IS OF BULK AT MOST 1048576: true; the input reads as it did. -/
def opTellsUptoRow : OpenClaim := { program := "ytjmlcplhilhkpaadoor", sum := "71897e6356f33d28a311a73d1972c0f29c7e3a6fdb154578b93e7a978893458d", func := "colloquy/colloquylaw07.OpTells", spec := "opTells", inPlace := ["internal/reflectlite.ValueOf", "(internal/reflectlite.Value).Type", "(internal/reflectlite.Value).IsNil", "internal/reflectlite.TypeOf", "(internal/reflectlite.Value).Elem", "(internal/reflectlite.Value).Set"], unfollowed := true, recurses := true, named := ["colloquy/op.instructions", "errors.errorType"], apart := false, laid := [("errors.errorType", laid_errors_errorType), ("colloquy/op.instructions", laid_colloquy_op_instructions)], narrowed := true }
def OpTellsUptoSaid : Prop := opTellsUptoRow.holds Tryd.pinned (OpenSpec.upto opTellsSpec)

/-- 'colloquylaw07.OpBack', WHERE WHAT IT READS IS OF BULK AT MOST 1048576: true; the input reads as it did. -/
def opBackUptoRow : OpenClaim := { program := "ytjmlcplhilhkpaadoor", sum := "71897e6356f33d28a311a73d1972c0f29c7e3a6fdb154578b93e7a978893458d", func := "colloquy/colloquylaw07.OpBack", spec := "opBack", inPlace := ["internal/reflectlite.ValueOf", "(internal/reflectlite.Value).Type", "(internal/reflectlite.Value).IsNil", "internal/reflectlite.TypeOf", "(internal/reflectlite.Value).Elem", "(internal/reflectlite.Value).Set"], unfollowed := true, recurses := true, named := ["colloquy/op.instructions", "errors.errorType"], apart := false, laid := [("errors.errorType", laid_errors_errorType), ("colloquy/op.instructions", laid_colloquy_op_instructions)], narrowed := true }
def OpBackUptoSaid : Prop := opBackUptoRow.holds Tryd.pinned (OpenSpec.upto opBackSpec)

/-- 'colloquylaw07.OpCut', WHERE WHAT IT READS IS OF BULK AT MOST 1048576: true; the input reads as it did. -/
def opCutUptoRow : OpenClaim := { program := "ytjmlcplhilhkpaadoor", sum := "71897e6356f33d28a311a73d1972c0f29c7e3a6fdb154578b93e7a978893458d", func := "colloquy/colloquylaw07.OpCut", spec := "opCut", inPlace := ["internal/reflectlite.ValueOf", "(internal/reflectlite.Value).Type", "(internal/reflectlite.Value).IsNil", "internal/reflectlite.TypeOf", "(internal/reflectlite.Value).Elem", "(internal/reflectlite.Value).Set"], unfollowed := true, recurses := true, named := ["colloquy/op.instructions", "errors.errorType"], apart := false, laid := [("errors.errorType", laid_errors_errorType), ("colloquy/op.instructions", laid_colloquy_op_instructions)], narrowed := true }
def OpCutUptoSaid : Prop := opCutUptoRow.holds Tryd.pinned (OpenSpec.upto opCutSpec)

/-- 'colloquylaw07.OpNames', WHERE WHAT IT READS IS OF BULK AT MOST 1048576: true; the input reads as it did. -/
def opNamesUptoRow : OpenClaim := { program := "ytjmlcplhilhkpaadoor", sum := "71897e6356f33d28a311a73d1972c0f29c7e3a6fdb154578b93e7a978893458d", func := "colloquy/colloquylaw07.OpNames", spec := "opNames", inPlace := ["internal/reflectlite.ValueOf", "(internal/reflectlite.Value).Type", "(internal/reflectlite.Value).IsNil", "internal/reflectlite.TypeOf", "(internal/reflectlite.Value).Elem", "(internal/reflectlite.Value).Set"], unfollowed := true, recurses := true, named := ["colloquy/op.instructions", "errors.errorType"], apart := false, laid := [("errors.errorType", laid_errors_errorType), ("colloquy/op.instructions", laid_colloquy_op_instructions)], narrowed := true }
def OpNamesUptoSaid : Prop := opNamesUptoRow.holds Tryd.pinned (OpenSpec.upto opNamesSpec)

end Rows
end Go.Proofs.YtjmlcplhilhkpaaDoor
