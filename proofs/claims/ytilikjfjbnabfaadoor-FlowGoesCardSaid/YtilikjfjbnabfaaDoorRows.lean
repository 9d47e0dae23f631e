/-
  NARROWER THAN 'FOR EVERY INPUT', by the rows' own cells (each row's printed sentence says how): FlowGoes: laid · FlowMore: laid · FlowNexts: laid.
  DERIVED. THE GIVEN ROWS OF THIS SEAT. 3 by the template 'for every input the law returns true; each argument reads behind the call as it read before'; 0 by the template 'total and deterministic' (their statements: YtilikjfjbnabfaaDoorTotals.lean).
  GIVEN WITH THE SEED: the statements are not yours to turn. If you find one false, say at which input.
  Laid BY PROGRAM, IN A SANDBOX (cutbox-rows.mjs): the forced cells as the released guide's own fill.sh prints them over the translation 83163a8f76135cd1… (all of the seat's roots in one cut). By AI agents, Wed Nov 11 2026. No macro, syntax, notation, axiom, sorry.
-/
import Derived.Test.YtilikjfjbnabfaaDoorChecked
import GoSem.Claim
import GoSem.ClaimJoined
import GoSem.ClaimMapViews
import Derived.JoinedTies
import Derived.KernelRfl
namespace Go.Proofs.YtilikjfjbnabfaaDoor
/- THE CELL 'sum', in the pinned program and in every row, IS THE sha256 OF THE DUMP (.gsa) THAT YtilikjfjbnabfaaDoorProg.lean LOADS. Nothing in Lean hashes anything: it is a label: what it is worth is what the hold of that sum in a sandbox is worth. -/
noncomputable def Tryd.pinned : Pinned := { name := "ytilikjfjbnabfaadoor", sum := "83163a8f76135cd1ab5eeeb3e0e128466e9e1dc4c77401c500c8bebbaa8ecfce", checked := Tryd.checked }
namespace Rows
def none {H : Type} : Left H := { results := [], args := [] }

/- WHAT THE LISTED PACKAGE-LEVEL VARIABLES READ AS WHEN THE CALL BEGINS. Each datum BY PROGRAM (the guide's laid-datum.mjs) off the statement by which the dump's own 'gosem.cut.vars' lays the variable. In a bare row this is a premise. The card (YtilikjfjbnabfaaDoorCards.lean) ties it to the program's text. -/
def laid_errors_errorType {H : Type} : DataW H := .iface "internal/reflectlite.rtype" (.agg [.ptr (.lit (.string [101, 114, 114, 111, 114]))])
def laid_colloquy_op_instructions {H : Type} : DataW H := .agg [.agg [.lit (.string [115, 101, 108, 102]), .lit (.string [])], .agg [.lit (.string [110, 105, 108]), .lit (.string [])], .agg [.lit (.string [116, 114, 117, 101]), .lit (.string [])], .agg [.lit (.string [102, 97, 108, 115, 101]), .lit (.string [])], .agg [.lit (.string [108, 105, 116]), .lit (.string [49])], .agg [.lit (.string [116, 101, 109, 112]), .lit (.string [49, 49])], .agg [.lit (.string [115, 101, 116]), .lit (.string [49, 49])], .agg [.lit (.string [118, 97, 114]), .lit (.string [49])], .agg [.lit (.string [112, 117, 116]), .lit (.string [49])], .agg [.lit (.string [112, 111, 112]), .lit (.string [])], .agg [.lit (.string [100, 117, 112]), .lit (.string [])], .agg [.lit (.string [115, 101, 110, 100]), .lit (.string [49, 49])], .agg [.lit (.string [115, 117, 112, 101, 114]), .lit (.string [49, 49])], .agg [.lit (.string [106, 117, 109, 112]), .lit (.string [50])], .agg [.lit (.string [101, 108, 115, 101]), .lit (.string [50, 50])], .agg [.lit (.string [106, 111, 105, 110]), .lit (.string [])], .agg [.lit (.string [98, 108, 111, 99, 107]), .lit (.string [49])], .agg [.lit (.string [97, 110, 115, 119, 101, 114]), .lit (.string [])], .agg [.lit (.string [109, 101]), .lit (.string [])], .agg [.lit (.string [104, 111, 109, 101]), .lit (.string [])], .agg [.lit (.string [99, 108, 97, 115, 115]), .lit (.string [49])]]

/-- 'colloquylaw08.FlowGoes': WHATEVER THE INPUT: true; the input reads as it did. -/
def flowGoesSpec : ChangeSpec := { name := "flowGoes", fn := fun _ => fun
  | [d1, d2] => { results := [.lit (.bool true)], args := [d1, d2] }
  | _ => none }
def flowGoesRow : OpenClaim := { program := "ytilikjfjbnabfaadoor", sum := "83163a8f76135cd1ab5eeeb3e0e128466e9e1dc4c77401c500c8bebbaa8ecfce", func := "colloquy/colloquylaw08.FlowGoes", spec := "flowGoes", inPlace := ["internal/reflectlite.ValueOf", "(internal/reflectlite.Value).Type", "(internal/reflectlite.Value).IsNil", "internal/reflectlite.TypeOf", "(internal/reflectlite.Value).Elem", "(internal/reflectlite.Value).Set"], unfollowed := true, recurses := true, named := ["colloquy/op.instructions", "errors.errorType"], apart := false, laid := [("errors.errorType", laid_errors_errorType), ("colloquy/op.instructions", laid_colloquy_op_instructions)] }
def FlowGoesSaid : Prop := flowGoesRow.holds Tryd.pinned (OpenSpec.ofChange flowGoesSpec)

/-- ITS FALSE NEIGHBOUR: 'it returns false'. Refute it at one input. -/
def flowGoesWrong : ChangeSpec := { name := "flowGoes", fn := fun _ => fun
  | [d1, d2] => { results := [.lit (.bool false)], args := [d1, d2] }
  | _ => none }
def FlowGoesWrongFalsely : Prop := flowGoesRow.holds Tryd.pinned (OpenSpec.ofChange flowGoesWrong)

/-- 'colloquylaw08.FlowMore': WHATEVER THE INPUT: true; the input reads as it did. -/
def flowMoreSpec : ChangeSpec := { name := "flowMore", fn := fun _ => fun
  | [d] => { results := [.lit (.bool true)], args := [d] }
  | _ => none }
def flowMoreRow : OpenClaim := { program := "ytilikjfjbnabfaadoor", sum := "83163a8f76135cd1ab5eeeb3e0e128466e9e1dc4c77401c500c8bebbaa8ecfce", func := "colloquy/colloquylaw08.FlowMore", spec := "flowMore", inPlace := ["internal/reflectlite.ValueOf", "(internal/reflectlite.Value).Type", "(internal/reflectlite.Value).IsNil", "internal/reflectlite.TypeOf", "(internal/reflectlite.Value).Elem", "(internal/reflectlite.Value).Set"], unfollowed := true, recurses := true, named := ["colloquy/op.instructions", "errors.errorType"], apart := false, laid := [("errors.errorType", laid_errors_errorType), ("colloquy/op.instructions", laid_colloquy_op_instructions)] }
def FlowMoreSaid : Prop := flowMoreRow.holds Tryd.pinned (OpenSpec.ofChange flowMoreSpec)

/-- ITS FALSE NEIGHBOUR: 'it returns false'. Refute it at one input. -/
def flowMoreWrong : ChangeSpec := { name := "flowMore", fn := fun _ => fun
  | [d] => { results := [.lit (.bool false)], args := [d] }
  | _ => none }
def FlowMoreWrongFalsely : Prop := flowMoreRow.holds Tryd.pinned (OpenSpec.ofChange flowMoreWrong)

/-- 'colloquylaw08.FlowNexts': WHATEVER THE INPUT: true; the input reads as it did. -/
def flowNextsSpec : ChangeSpec := { name := "flowNexts", fn := fun _ => fun
  | [d] => { results := [.lit (.bool true)], args := [d] }
  | _ => none }
def flowNextsRow : OpenClaim := { program := "ytilikjfjbnabfaadoor", sum := "83163a8f76135cd1ab5eeeb3e0e128466e9e1dc4c77401c500c8bebbaa8ecfce", func := "colloquy/colloquylaw08.FlowNexts", spec := "flowNexts", inPlace := ["internal/reflectlite.ValueOf", "(internal/reflectlite.Value).Type", "(internal/reflectlite.Value).IsNil", "internal/reflectlite.TypeOf", "(internal/reflectlite.Value).Elem", "(internal/reflectlite.Value).Set"], unfollowed := true, recurses := true, named := ["colloquy/op.instructions", "errors.errorType"], apart := false, laid := [("errors.errorType", laid_errors_errorType), ("colloquy/op.instructions", laid_colloquy_op_instructions)] }
def FlowNextsSaid : Prop := flowNextsRow.holds Tryd.pinned (OpenSpec.ofChange flowNextsSpec)

/-- ITS FALSE NEIGHBOUR: 'it returns false'. Refute it at one input. -/
def flowNextsWrong : ChangeSpec := { name := "flowNexts", fn := fun _ => fun
  | [d] => { results := [.lit (.bool false)], args := [d] }
  | _ => none }
def FlowNextsWrongFalsely : Prop := flowNextsRow.holds Tryd.pinned (OpenSpec.ofChange flowNextsWrong)

/- THE SECOND FORM. 'bulk': how many values and letters a reading holds, each counted each time it is reached (what is shared counts as often as it is met; a slice's spare places count too). A statement '..UptoSaid' is the law's where the arguments, and the package variables that the reading takes, are together of bulk at most 1048576: NARROWER than '..Said'. Prove '..Said' where nothing that the law and all that it calls make is longer than what came in: it says more and counts as full. Else prove '..UptoSaid'. A law counts once. -/
mutual
def uptoBulk {H : Type} : DataW H → Nat
  | .lit (.string bytes) => bytes.length + 1
  | .lit _ => 1
  | .nil => 1
  | .ptr d => uptoBulk d + 1
  | .slice elems spare => uptoBulkAll elems + uptoBulkAll spare + 1
  | .agg parts => uptoBulkAll parts + 1
  | .iface _ d => uptoBulk d + 1
  | .map entries => uptoBulkEntries entries + 1
  | .held _ => 1
def uptoBulkAll {H : Type} : List (DataW H) → Nat
  | [] => 0
  | d :: r => uptoBulk d + uptoBulkAll r
def uptoBulkEntries {H : Type} : List (Lit × DataW H) → Nat
  | [] => 0
  | x :: r => uptoBulkEntry x + uptoBulkEntries r
def uptoBulkEntry {H : Type} : Lit × DataW H → Nat
  | (.string bytes, d) => bytes.length + uptoBulk d + 1
  | (_, d) => uptoBulk d + 1
 end
def uptoSmall : (H : Type) → List (DataW H) → Bool := fun _ ds => decide (uptoBulkAll ds ≤ 1048576)
def OpenSpec.upto (s : _root_.Go.ChangeSpec) : _root_.Go.OpenSpec := { _root_.Go.OpenSpec.ofChange s with cond := some uptoSmall }

/-- 'colloquylaw08.FlowGoes', WHERE WHAT IT READS IS OF BULK AT MOST 1048576: true; the input reads as it did. -/
def flowGoesUptoRow : OpenClaim := { program := "ytilikjfjbnabfaadoor", sum := "83163a8f76135cd1ab5eeeb3e0e128466e9e1dc4c77401c500c8bebbaa8ecfce", func := "colloquy/colloquylaw08.FlowGoes", spec := "flowGoes", inPlace := ["internal/reflectlite.ValueOf", "(internal/reflectlite.Value).Type", "(internal/reflectlite.Value).IsNil", "internal/reflectlite.TypeOf", "(internal/reflectlite.Value).Elem", "(internal/reflectlite.Value).Set"], unfollowed := true, recurses := true, named := ["colloquy/op.instructions", "errors.errorType"], apart := false, laid := [("errors.errorType", laid_errors_errorType), ("colloquy/op.instructions", laid_colloquy_op_instructions)], narrowed := true }
def FlowGoesUptoSaid : Prop := flowGoesUptoRow.holds Tryd.pinned (OpenSpec.upto flowGoesSpec)

/-- 'colloquylaw08.FlowMore', WHERE WHAT IT READS IS OF BULK AT MOST 1048576: true; the input reads as it did. -/
def flowMoreUptoRow : OpenClaim := { program := "ytilikjfjbnabfaadoor", sum := "83163a8f76135cd1ab5eeeb3e0e128466e9e1dc4c77401c500c8bebbaa8ecfce", func := "colloquy/colloquylaw08.FlowMore", spec := "flowMore", inPlace := ["internal/reflectlite.ValueOf", "(internal/reflectlite.Value).Type", "(internal/reflectlite.Value).IsNil", "internal/reflectlite.TypeOf", "(internal/reflectlite.Value).Elem", "(internal/reflectlite.Value).Set"], unfollowed := true, recurses := true, named := ["colloquy/op.instructions", "errors.errorType"], apart := false, laid := [("errors.errorType", laid_errors_errorType), ("colloquy/op.instructions", laid_colloquy_op_instructions)], narrowed := true }
def FlowMoreUptoSaid : Prop := flowMoreUptoRow.holds Tryd.pinned (OpenSpec.upto flowMoreSpec)

/-- 'colloquylaw08.FlowNexts', WHERE WHAT IT READS IS OF BULK AT MOST 1048576: true; the input reads as it did. -/
def flowNextsUptoRow : OpenClaim := { program := "ytilikjfjbnabfaadoor", sum := "83163a8f76135cd1ab5eeeb3e0e128466e9e1dc4c77401c500c8bebbaa8ecfce", func := "colloquy/colloquylaw08.FlowNexts", spec := "flowNexts", inPlace := ["internal/reflectlite.ValueOf", "(internal/reflectlite.Value).Type", "(internal/reflectlite.Value).IsNil", "internal/reflectlite.TypeOf", "(internal/reflectlite.Value).Elem", "(internal/reflectlite.Value).Set"], unfollowed := true, recurses := true, named := ["colloquy/op.instructions", "errors.errorType"], apart := false, laid := [("errors.errorType", laid_errors_errorType), ("colloquy/op.instructions", laid_colloquy_op_instructions)], narrowed := true }
def FlowNextsUptoSaid : Prop := flowNextsUptoRow.holds Tryd.pinned (OpenSpec.upto flowNextsSpec)

end Rows
end Go.Proofs.YtilikjfjbnabfaaDoor
