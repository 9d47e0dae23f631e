/-
  NARROWER THAN 'FOR EVERY INPUT', by the rows' own cells (each row's printed sentence says how): MethodTells: laid · MethodBack: laid · MethodMore: laid · MethodKeys: laid.
  DERIVED. THE GIVEN ROWS OF THIS SEAT. 4 by the template 'for every input the law returns true; each argument reads behind the call as it read before'; 0 by the template 'total and deterministic' (their statements: YtjdgcgpidhljpaaGreatDoorTotals.lean).
  GIVEN WITH THE SEED: the statements are not yours to turn. If you find one false, say at which input.
  Laid BY PROGRAM, IN A SANDBOX (cutbox-rows.mjs): the forced cells as the released guide's own fill.sh prints them over the translation ab8b4c9fbb2523d3… (all of the seat's roots in one cut). By AI agents, Wed Nov 11 2026. No macro, syntax, notation, axiom, sorry.
-/
import Derived.Test.YtjdgcgpidhljpaaGreatDoorChecked
import GoSem.PinnedTables
import GoSem.Claim
import GoSem.ClaimJoined
import GoSem.ClaimMapViews
import Derived.JoinedTies
import Derived.KernelRfl
namespace Go.Proofs.YtjdgcgpidhljpaaGreatDoor
/- THE CELL 'sum', in the pinned program and in every row, IS THE sha256 OF THE DUMP (.gsa) THAT YtjdgcgpidhljpaaGreatDoorProg.lean LOADS. Nothing in Lean hashes anything: it is a label: what it is worth is what the hold of that sum in a sandbox is worth. -/
noncomputable def Tryz.pinned : Pinned := { name := "ytjdgcgpidhljpaagreatdoor", sum := "ab8b4c9fbb2523d32e6a994c32aa238f5de9582c160c98556d9da1ccfc5ee313", checked := Tryz.checked }
namespace Rows
def none {H : Type} : Left H := { results := [], args := [] }

/- WHAT THE LISTED PACKAGE-LEVEL VARIABLES READ AS WHEN THE CALL BEGINS. Each datum BY PROGRAM (the guide's laid-datum.mjs) off the statement by which the dump's own 'gosem.cut.vars' lays the variable. In a bare row this is a premise. The card (YtjdgcgpidhljpaaGreatDoorCards.lean) ties it to the program's text. -/
def laid_unicode_utf8_acceptRanges {H : Type} : DataW H := .agg [.agg [.lit (.int .u8 128), .lit (.int .u8 191)], .agg [.lit (.int .u8 160), .lit (.int .u8 191)], .agg [.lit (.int .u8 128), .lit (.int .u8 159)], .agg [.lit (.int .u8 144), .lit (.int .u8 191)], .agg [.lit (.int .u8 128), .lit (.int .u8 143)], .agg [.lit (.int .u8 0), .lit (.int .u8 0)], .agg [.lit (.int .u8 0), .lit (.int .u8 0)], .agg [.lit (.int .u8 0), .lit (.int .u8 0)], .agg [.lit (.int .u8 0), .lit (.int .u8 0)], .agg [.lit (.int .u8 0), .lit (.int .u8 0)], .agg [.lit (.int .u8 0), .lit (.int .u8 0)], .agg [.lit (.int .u8 0), .lit (.int .u8 0)], .agg [.lit (.int .u8 0), .lit (.int .u8 0)], .agg [.lit (.int .u8 0), .lit (.int .u8 0)], .agg [.lit (.int .u8 0), .lit (.int .u8 0)], .agg [.lit (.int .u8 0), .lit (.int .u8 0)]]
def laid_errors_errorType {H : Type} : DataW H := .iface "internal/reflectlite.rtype" (.agg [.ptr (.lit (.string [101, 114, 114, 111, 114]))])
def laid_colloquy_op_instructions {H : Type} : DataW H := .agg [.agg [.lit (.string [115, 101, 108, 102]), .lit (.string [])], .agg [.lit (.string [110, 105, 108]), .lit (.string [])], .agg [.lit (.string [116, 114, 117, 101]), .lit (.string [])], .agg [.lit (.string [102, 97, 108, 115, 101]), .lit (.string [])], .agg [.lit (.string [108, 105, 116]), .lit (.string [49])], .agg [.lit (.string [116, 101, 109, 112]), .lit (.string [49, 49])], .agg [.lit (.string [115, 101, 116]), .lit (.string [49, 49])], .agg [.lit (.string [118, 97, 114]), .lit (.string [49])], .agg [.lit (.string [112, 117, 116]), .lit (.string [49])], .agg [.lit (.string [112, 111, 112]), .lit (.string [])], .agg [.lit (.string [100, 117, 112]), .lit (.string [])], .agg [.lit (.string [115, 101, 110, 100]), .lit (.string [49, 49])], .agg [.lit (.string [115, 117, 112, 101, 114]), .lit (.string [49, 49])], .agg [.lit (.string [106, 117, 109, 112]), .lit (.string [50])], .agg [.lit (.string [101, 108, 115, 101]), .lit (.string [50, 50])], .agg [.lit (.string [106, 111, 105, 110]), .lit (.string [])], .agg [.lit (.string [98, 108, 111, 99, 107]), .lit (.string [49])], .agg [.lit (.string [97, 110, 115, 119, 101, 114]), .lit (.string [])], .agg [.lit (.string [109, 101]), .lit (.string [])], .agg [.lit (.string [104, 111, 109, 101]), .lit (.string [])], .agg [.lit (.string [99, 108, 97, 115, 115]), .lit (.string [49])]]
/-- One of Go's own tables, pinned by name: the form's constant. -/
def laid_unicode_utf8_first : DataW Unit := Go.Pinned.utf8First

/-- 'colloquylaw09.MethodTells': WHATEVER THE INPUT: true; the input reads as it did. -/
def methodTellsSpec : ChangeSpec := { name := "methodTells", fn := fun _ => fun
  | [d1, d2, d3] => { results := [.lit (.bool true)], args := [d1, d2, d3] }
  | _ => none }
def methodTellsRow : OpenClaim := { program := "ytjdgcgpidhljpaagreatdoor", sum := "ab8b4c9fbb2523d32e6a994c32aa238f5de9582c160c98556d9da1ccfc5ee313", func := "colloquy/colloquylaw09.MethodTells", spec := "methodTells", inPlace := ["internal/bytealg.CountString", "internal/bytealg.IndexByteString", "internal/bytealg.IndexString", "internal/reflectlite.ValueOf", "(internal/reflectlite.Value).Type", "(internal/reflectlite.Value).IsNil", "internal/reflectlite.TypeOf", "(internal/reflectlite.Value).Elem", "(internal/reflectlite.Value).Set"], unfollowed := true, recurses := true, named := ["unicode/utf8.first", "unicode/utf8.acceptRanges", "internal/bytealg.MaxLen", "errors.errorType", "colloquy/op.instructions"], apart := false, laid := [("unicode/utf8.acceptRanges", laid_unicode_utf8_acceptRanges), ("errors.errorType", laid_errors_errorType), ("colloquy/op.instructions", laid_colloquy_op_instructions), ("unicode/utf8.first", laid_unicode_utf8_first)] }
def MethodTellsSaid : Prop := methodTellsRow.holds Tryz.pinned (OpenSpec.ofChange methodTellsSpec)

/-- ITS FALSE NEIGHBOUR: 'it returns false'. Refute it at one input. -/
def methodTellsWrong : ChangeSpec := { name := "methodTells", fn := fun _ => fun
  | [d1, d2, d3] => { results := [.lit (.bool false)], args := [d1, d2, d3] }
  | _ => none }
def MethodTellsWrongFalsely : Prop := methodTellsRow.holds Tryz.pinned (OpenSpec.ofChange methodTellsWrong)

/-- 'colloquylaw09.MethodBack': WHATEVER THE INPUT: true; the input reads as it did. -/
def methodBackSpec : ChangeSpec := { name := "methodBack", fn := fun _ => fun
  | [d1, d2, d3] => { results := [.lit (.bool true)], args := [d1, d2, d3] }
  | _ => none }
def methodBackRow : OpenClaim := { program := "ytjdgcgpidhljpaagreatdoor", sum := "ab8b4c9fbb2523d32e6a994c32aa238f5de9582c160c98556d9da1ccfc5ee313", func := "colloquy/colloquylaw09.MethodBack", spec := "methodBack", inPlace := ["internal/bytealg.CountString", "internal/bytealg.IndexByteString", "internal/bytealg.IndexString", "internal/reflectlite.ValueOf", "(internal/reflectlite.Value).Type", "(internal/reflectlite.Value).IsNil", "internal/reflectlite.TypeOf", "(internal/reflectlite.Value).Elem", "(internal/reflectlite.Value).Set"], unfollowed := true, recurses := true, named := ["unicode/utf8.first", "unicode/utf8.acceptRanges", "internal/bytealg.MaxLen", "errors.errorType", "colloquy/op.instructions"], apart := false, laid := [("unicode/utf8.acceptRanges", laid_unicode_utf8_acceptRanges), ("errors.errorType", laid_errors_errorType), ("colloquy/op.instructions", laid_colloquy_op_instructions), ("unicode/utf8.first", laid_unicode_utf8_first)] }
def MethodBackSaid : Prop := methodBackRow.holds Tryz.pinned (OpenSpec.ofChange methodBackSpec)

/-- ITS FALSE NEIGHBOUR: 'it returns false'. Refute it at one input. -/
def methodBackWrong : ChangeSpec := { name := "methodBack", fn := fun _ => fun
  | [d1, d2, d3] => { results := [.lit (.bool false)], args := [d1, d2, d3] }
  | _ => none }
def MethodBackWrongFalsely : Prop := methodBackRow.holds Tryz.pinned (OpenSpec.ofChange methodBackWrong)

/-- 'colloquylaw09.MethodMore': WHATEVER THE INPUT: true; the input reads as it did. -/
def methodMoreSpec : ChangeSpec := { name := "methodMore", fn := fun _ => fun
  | [d1, d2, d3] => { results := [.lit (.bool true)], args := [d1, d2, d3] }
  | _ => none }
def methodMoreRow : OpenClaim := { program := "ytjdgcgpidhljpaagreatdoor", sum := "ab8b4c9fbb2523d32e6a994c32aa238f5de9582c160c98556d9da1ccfc5ee313", func := "colloquy/colloquylaw09.MethodMore", spec := "methodMore", inPlace := ["internal/bytealg.CountString", "internal/bytealg.IndexByteString", "internal/bytealg.IndexString", "internal/reflectlite.ValueOf", "(internal/reflectlite.Value).Type", "(internal/reflectlite.Value).IsNil", "internal/reflectlite.TypeOf", "(internal/reflectlite.Value).Elem", "(internal/reflectlite.Value).Set"], unfollowed := true, recurses := true, named := ["unicode/utf8.first", "unicode/utf8.acceptRanges", "internal/bytealg.MaxLen", "errors.errorType", "colloquy/op.instructions"], apart := false, laid := [("unicode/utf8.acceptRanges", laid_unicode_utf8_acceptRanges), ("errors.errorType", laid_errors_errorType), ("colloquy/op.instructions", laid_colloquy_op_instructions), ("unicode/utf8.first", laid_unicode_utf8_first)] }
def MethodMoreSaid : Prop := methodMoreRow.holds Tryz.pinned (OpenSpec.ofChange methodMoreSpec)

/-- ITS FALSE NEIGHBOUR: 'it returns false'. Refute it at one input. -/
def methodMoreWrong : ChangeSpec := { name := "methodMore", fn := fun _ => fun
  | [d1, d2, d3] => { results := [.lit (.bool false)], args := [d1, d2, d3] }
  | _ => none }
def MethodMoreWrongFalsely : Prop := methodMoreRow.holds Tryz.pinned (OpenSpec.ofChange methodMoreWrong)

/-- 'colloquylaw09.MethodKeys': WHATEVER THE INPUT: true; the input reads as it did. -/
def methodKeysSpec : ChangeSpec := { name := "methodKeys", fn := fun _ => fun
  | [d1, d2] => { results := [.lit (.bool true)], args := [d1, d2] }
  | _ => none }
def methodKeysRow : OpenClaim := { program := "ytjdgcgpidhljpaagreatdoor", sum := "ab8b4c9fbb2523d32e6a994c32aa238f5de9582c160c98556d9da1ccfc5ee313", func := "colloquy/colloquylaw09.MethodKeys", spec := "methodKeys", inPlace := ["internal/bytealg.CountString", "internal/bytealg.IndexByteString", "internal/bytealg.IndexString", "internal/reflectlite.ValueOf", "(internal/reflectlite.Value).Type", "(internal/reflectlite.Value).IsNil", "internal/reflectlite.TypeOf", "(internal/reflectlite.Value).Elem", "(internal/reflectlite.Value).Set"], unfollowed := true, recurses := true, named := ["unicode/utf8.first", "unicode/utf8.acceptRanges", "internal/bytealg.MaxLen", "errors.errorType", "colloquy/op.instructions"], apart := false, laid := [("unicode/utf8.acceptRanges", laid_unicode_utf8_acceptRanges), ("errors.errorType", laid_errors_errorType), ("colloquy/op.instructions", laid_colloquy_op_instructions), ("unicode/utf8.first", laid_unicode_utf8_first)] }
def MethodKeysSaid : Prop := methodKeysRow.holds Tryz.pinned (OpenSpec.ofChange methodKeysSpec)

/-- ITS FALSE NEIGHBOUR: 'it returns false'. Refute it at one input. -/
def methodKeysWrong : ChangeSpec := { name := "methodKeys", fn := fun _ => fun
  | [d1, d2] => { results := [.lit (.bool false)], args := [d1, d2] }
  | _ => none }
def MethodKeysWrongFalsely : Prop := methodKeysRow.holds Tryz.pinned (OpenSpec.ofChange methodKeysWrong)

/- THE SECOND FORM. 'bulk': how many values and letters a reading holds, each counted each time it is reached (what is shared counts as often as it is met; a slice's spare places count too). A statement '..UptoSaid' is the law's where the arguments, and the package variables that the reading takes, are together of bulk at most 1048576: NARROWER than '..Said'. Prove '..Said' where nothing that the law and all that it calls make is longer than what came in: it says more and counts as full. Else prove '..UptoSaid'. A law counts once. -/
mutual
def uptoBulk {H : Type} : DataW H → Nat
  | .lit (.string bytes) => bytes.length + 1
  | .lit _ => 1
  | .nil => 1
  | .ptr d => uptoBulk d + 1
  | .slice elems spare => uptoBulkAll elems + uptoBulkAll spare + 1
  | .agg parts => uptoBulkAll parts + 1
  | .iface _ d => uptoBulk d + 1
  | .map entries => uptoBulkEntries entries + 1
  | .held _ => 1
def uptoBulkAll {H : Type} : List (DataW H) → Nat
  | [] => 0
  | d :: r => uptoBulk d + uptoBulkAll r
def uptoBulkEntries {H : Type} : List (Lit × DataW H) → Nat
  | [] => 0
  | x :: r => uptoBulkEntry x + uptoBulkEntries r
def uptoBulkEntry {H : Type} : Lit × DataW H → Nat
  | (.string bytes, d) => bytes.length + uptoBulk d + 1
  | (_, d) => uptoBulk d + 1
 end
def uptoSmall : (H : Type) → List (DataW H) → Bool := fun _ ds => decide (uptoBulkAll ds ≤ 1048576)
def OpenSpec.upto (s : _root_.Go.ChangeSpec) : _root_.Go.OpenSpec := { _root_.Go.OpenSpec.ofChange s with cond := some uptoSmall }

/-- 'colloquylaw09.MethodTells', WHERE WHAT IT READS IS OF BULK AT MOST 1048576: true; the input reads as it did. -/
def methodTellsUptoRow : OpenClaim := { program := "ytjdgcgpidhljpaagreatdoor", sum := "ab8b4c9fbb2523d32e6a994c32aa238f5de9582c160c98556d9da1ccfc5ee313", func := "colloquy/colloquylaw09.MethodTells", spec := "methodTells", inPlace := ["internal/bytealg.CountString", "internal/bytealg.IndexByteString", "internal/bytealg.IndexString", "internal/reflectlite.ValueOf", "(internal/reflectlite.Value).Type", "(internal/reflectlite.Value).IsNil", "internal/reflectlite.TypeOf", "(internal/reflectlite.Value).Elem", "(internal/reflectlite.Value).Set"], unfollowed := true, recurses := true, named := ["unicode/utf8.first", "unicode/utf8.acceptRanges", "internal/bytealg.MaxLen", "errors.errorType", "colloquy/op.instructions"], apart := false, laid := [("unicode/utf8.acceptRanges", laid_unicode_utf8_acceptRanges), ("errors.errorType", laid_errors_errorType), ("colloquy/op.instructions", laid_colloquy_op_instructions), ("unicode/utf8.first", laid_unicode_utf8_first)], narrowed := true }
def MethodTellsUptoSaid : Prop := methodTellsUptoRow.holds Tryz.pinned (OpenSpec.upto methodTellsSpec)

/-- 'colloquylaw09.MethodBack', WHERE WHAT IT READS IS OF BULK AT MOST 1048576: true; the input reads as it did. -/
def methodBackUptoRow : OpenClaim := { program := "ytjdgcgpidhljpaagreatdoor", sum := "ab8b4c9fbb2523d32e6a994c32aa238f5de9582c160c98556d9da1ccfc5ee313", func := "colloquy/colloquylaw09.MethodBack", spec := "methodBack", inPlace := ["internal/bytealg.CountString", "internal/bytealg.IndexByteString", "internal/bytealg.IndexString", "internal/reflectlite.ValueOf", "(internal/reflectlite.Value).Type", "(internal/reflectlite.Value).IsNil", "internal/reflectlite.TypeOf", "(internal/reflectlite.Value).Elem", "(internal/reflectlite.Value).Set"], unfollowed := true, recurses := true, named := ["unicode/utf8.first", "unicode/utf8.acceptRanges", "internal/bytealg.MaxLen", "errors.errorType", "colloquy/op.instructions"], apart := false, laid := [("unicode/utf8.acceptRanges", laid_unicode_utf8_acceptRanges), ("errors.errorType", laid_errors_errorType), ("colloquy/op.instructions", laid_colloquy_op_instructions), ("unicode/utf8.first", laid_unicode_utf8_first)], narrowed := true }
def MethodBackUptoSaid : Prop := methodBackUptoRow.holds Tryz.pinned (OpenSpec.upto methodBackSpec)

/-- 'colloquylaw09.MethodMore', WHERE WHAT IT READS IS OF BULK AT MOST 1048576: true; the input reads as it did. -/
def methodMoreUptoRow : OpenClaim := { program := "ytjdgcgpidhljpaagreatdoor", sum := "ab8b4c9fbb2523d32e6a994c32aa238f5de9582c160c98556d9da1ccfc5ee313", func := "colloquy/colloquylaw09.MethodMore", spec := "methodMore", inPlace := ["internal/bytealg.CountString", "internal/bytealg.IndexByteString", "internal/bytealg.IndexString", "internal/reflectlite.ValueOf", "(internal/reflectlite.Value).Type", "(internal/reflectlite.Value).IsNil", "internal/reflectlite.TypeOf", "(internal/reflectlite.Value).Elem", "(internal/reflectlite.Value).Set"], unfollowed := true, recurses := true, named := ["unicode/utf8.first", "unicode/utf8.acceptRanges", "internal/bytealg.MaxLen", "errors.errorType", "colloquy/op.instructions"], apart := false, laid := [("unicode/utf8.acceptRanges", laid_unicode_utf8_acceptRanges), ("errors.errorType", laid_errors_errorType), ("colloquy/op.instructions", laid_colloquy_op_instructions), ("unicode/utf8.first", laid_unicode_utf8_first)], narrowed := true }
def MethodMoreUptoSaid : Prop := methodMoreUptoRow.holds Tryz.pinned (OpenSpec.upto methodMoreSpec)

/-- 'colloquylaw09.MethodKeys', WHERE WHAT IT READS IS OF BULK AT MOST 1048576: true; the input reads as it did. -/
def methodKeysUptoRow : OpenClaim := { program := "ytjdgcgpidhljpaagreatdoor", sum := "ab8b4c9fbb2523d32e6a994c32aa238f5de9582c160c98556d9da1ccfc5ee313", func := "colloquy/colloquylaw09.MethodKeys", spec := "methodKeys", inPlace := ["internal/bytealg.CountString", "internal/bytealg.IndexByteString", "internal/bytealg.IndexString", "internal/reflectlite.ValueOf", "(internal/reflectlite.Value).Type", "(internal/reflectlite.Value).IsNil", "internal/reflectlite.TypeOf", "(internal/reflectlite.Value).Elem", "(internal/reflectlite.Value).Set"], unfollowed := true, recurses := true, named := ["unicode/utf8.first", "unicode/utf8.acceptRanges", "internal/bytealg.MaxLen", "errors.errorType", "colloquy/op.instructions"], apart := false, laid := [("unicode/utf8.acceptRanges", laid_unicode_utf8_acceptRanges), ("errors.errorType", laid_errors_errorType), ("colloquy/op.instructions", laid_colloquy_op_instructions), ("unicode/utf8.first", laid_unicode_utf8_first)], narrowed := true }
def MethodKeysUptoSaid : Prop := methodKeysUptoRow.holds Tryz.pinned (OpenSpec.upto methodKeysSpec)

end Rows
end Go.Proofs.YtjdgcgpidhljpaaGreatDoor
