/-
  NARROWER THAN 'FOR EVERY INPUT', by the rows' own cells (each row's printed sentence says how): FlowPosts: laid.
  DERIVED. THE GIVEN ROWS OF THIS SEAT. 1 by the template 'for every input the law returns true; each argument reads behind the call as it read before'; 0 by the template 'total and deterministic' (their statements: YtilikjfjbnabfaaGreatDoorTotals.lean).
  GIVEN WITH THE SEED: the statements are not yours to turn. If you find one false, say at which input.
  Laid BY PROGRAM, IN A SANDBOX (cutbox-rows.mjs): the forced cells as the released guide's own fill.sh prints them over the translation 00e743fb556c900a… (all of the seat's roots in one cut). By AI agents, Wed Nov 11 2026. No macro, syntax, notation, axiom, sorry.
-/
import Derived.Test.YtilikjfjbnabfaaGreatDoorChecked
import GoSem.Claim
import GoSem.ClaimJoined
import GoSem.ClaimMapViews
import Derived.JoinedTies
import Derived.KernelRfl
namespace Go.Proofs.YtilikjfjbnabfaaGreatDoor
/- THE CELL 'sum', in the pinned program and in every row, IS THE sha256 OF THE DUMP (.gsa) THAT YtilikjfjbnabfaaGreatDoorProg.lean LOADS. Nothing in Lean hashes anything: it is a label: what it is worth is what the hold of that sum in a sandbox is worth. -/
noncomputable def Tryz.pinned : Pinned := { name := "ytilikjfjbnabfaagreatdoor", sum := "00e743fb556c900a8b46aca21ce9921dadd72d7d79ae9a30b8cfa2808052d3c5", checked := Tryz.checked }
namespace Rows
def none {H : Type} : Left H := { results := [], args := [] }

/- WHAT THE LISTED PACKAGE-LEVEL VARIABLES READ AS WHEN THE CALL BEGINS. Each datum BY PROGRAM (the guide's laid-datum.mjs) off the statement by which the dump's own 'gosem.cut.vars' lays the variable. In a bare row this is a premise. The card (YtilikjfjbnabfaaGreatDoorCards.lean) ties it to the program's text. -/
def laid_errors_errorType {H : Type} : DataW H := .iface "internal/reflectlite.rtype" (.agg [.ptr (.lit (.string [101, 114, 114, 111, 114]))])
def laid_colloquy_op_instructions {H : Type} : DataW H := .agg [.agg [.lit (.string [115, 101, 108, 102]), .lit (.string [])], .agg [.lit (.string [110, 105, 108]), .lit (.string [])], .agg [.lit (.string [116, 114, 117, 101]), .lit (.string [])], .agg [.lit (.string [102, 97, 108, 115, 101]), .lit (.string [])], .agg [.lit (.string [108, 105, 116]), .lit (.string [49])], .agg [.lit (.string [116, 101, 109, 112]), .lit (.string [49, 49])], .agg [.lit (.string [115, 101, 116]), .lit (.string [49, 49])], .agg [.lit (.string [118, 97, 114]), .lit (.string [49])], .agg [.lit (.string [112, 117, 116]), .lit (.string [49])], .agg [.lit (.string [112, 111, 112]), .lit (.string [])], .agg [.lit (.string [100, 117, 112]), .lit (.string [])], .agg [.lit (.string [115, 101, 110, 100]), .lit (.string [49, 49])], .agg [.lit (.string [115, 117, 112, 101, 114]), .lit (.string [49, 49])], .agg [.lit (.string [106, 117, 109, 112]), .lit (.string [50])], .agg [.lit (.string [101, 108, 115, 101]), .lit (.string [50, 50])], .agg [.lit (.string [106, 111, 105, 110]), .lit (.string [])], .agg [.lit (.string [98, 108, 111, 99, 107]), .lit (.string [49])], .agg [.lit (.string [97, 110, 115, 119, 101, 114]), .lit (.string [])], .agg [.lit (.string [109, 101]), .lit (.string [])], .agg [.lit (.string [104, 111, 109, 101]), .lit (.string [])], .agg [.lit (.string [99, 108, 97, 115, 115]), .lit (.string [49])]]

/-- 'colloquylaw08.FlowPosts': WHATEVER THE INPUT: true; the input reads as it did. -/
def flowPostsSpec : ChangeSpec := { name := "flowPosts", fn := fun _ => fun
  | [d] => { results := [.lit (.bool true)], args := [d] }
  | _ => none }
def flowPostsRow : OpenClaim := { program := "ytilikjfjbnabfaagreatdoor", sum := "00e743fb556c900a8b46aca21ce9921dadd72d7d79ae9a30b8cfa2808052d3c5", func := "colloquy/colloquylaw08.FlowPosts", spec := "flowPosts", inPlace := ["internal/reflectlite.ValueOf", "(internal/reflectlite.Value).Type", "(internal/reflectlite.Value).IsNil", "internal/reflectlite.TypeOf", "(internal/reflectlite.Value).Elem", "(internal/reflectlite.Value).Set"], unfollowed := true, recurses := true, named := ["colloquy/op.instructions", "errors.errorType"], apart := false, laid := [("errors.errorType", laid_errors_errorType), ("colloquy/op.instructions", laid_colloquy_op_instructions)] }
def FlowPostsSaid : Prop := flowPostsRow.holds Tryz.pinned (OpenSpec.ofChange flowPostsSpec)

/-- ITS FALSE NEIGHBOUR: 'it returns false'. Refute it at one input. -/
def flowPostsWrong : ChangeSpec := { name := "flowPosts", fn := fun _ => fun
  | [d] => { results := [.lit (.bool false)], args := [d] }
  | _ => none }
def FlowPostsWrongFalsely : Prop := flowPostsRow.holds Tryz.pinned (OpenSpec.ofChange flowPostsWrong)

/- THE SECOND FORM. 'bulk': how many values and letters a reading holds, each counted each time it is reached (what is shared counts as often as it is met; a slice's spare places count too). A statement '..UptoSaid' is the law's where the arguments, and the package variables that the reading takes, are together of bulk at most 1048576: NARROWER than '..Said'. Prove '..Said' where nothing that the law and all that it calls make is longer than what came in: it says more and counts as full. Else prove '..UptoSaid'. A law counts once. -/
mutual
def uptoBulk {H : Type} : DataW H → Nat
  | .lit (.string bytes) => bytes.length + 1
  | .lit _ => 1
  | .nil => 1
  | .ptr d => uptoBulk d + 1
  | .slice elems spare => uptoBulkAll elems + uptoBulkAll spare + 1
  | .agg parts => uptoBulkAll parts + 1
  | .iface _ d => uptoBulk d + 1
  | .map entries => uptoBulkEntries entries + 1
  | .held _ => 1
def uptoBulkAll {H : Type} : List (DataW H) → Nat
  | [] => 0
  | d :: r => uptoBulk d + uptoBulkAll r
def uptoBulkEntries {H : Type} : List (Lit × DataW H) → Nat
  | [] => 0
  | x :: r => uptoBulkEntry x + uptoBulkEntries r
def uptoBulkEntry {H : Type} : Lit × DataW H → Nat
  | (.string bytes, d) => bytes.length + uptoBulk d + 1
  | (_, d) => uptoBulk d + 1
 end
def uptoSmall : (H : Type) → List (DataW H) → Bool := fun _ ds => decide (uptoBulkAll ds ≤ 1048576)
def OpenSpec.upto (s : _root_.Go.ChangeSpec) : _root_.Go.OpenSpec := { _root_.Go.OpenSpec.ofChange s with cond := some uptoSmall }

/-- 'colloquylaw08.FlowPosts', WHERE WHAT IT READS IS OF BULK AT MOST 1048576: true; the input reads as it did. -/
def flowPostsUptoRow : OpenClaim := { program := "ytilikjfjbnabfaagreatdoor", sum := "00e743fb556c900a8b46aca21ce9921dadd72d7d79ae9a30b8cfa2808052d3c5", func := "colloquy/colloquylaw08.FlowPosts", spec := "flowPosts", inPlace := ["internal/reflectlite.ValueOf", "(internal/reflectlite.Value).Type", "(internal/reflectlite.Value).IsNil", "internal/reflectlite.TypeOf", "(internal/reflectlite.Value).Elem", "(internal/reflectlite.Value).Set"], unfollowed := true, recurses := true, named := ["colloquy/op.instructions", "errors.errorType"], apart := false, laid := [("errors.errorType", laid_errors_errorType), ("colloquy/op.instructions", laid_colloquy_op_instructions)], narrowed := true }
def FlowPostsUptoSaid : Prop := flowPostsUptoRow.holds Tryz.pinned (OpenSpec.upto flowPostsSpec)

end Rows
end Go.Proofs.YtilikjfjbnabfaaGreatDoor
