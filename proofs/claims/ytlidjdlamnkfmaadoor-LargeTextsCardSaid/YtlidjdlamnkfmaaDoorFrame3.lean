/- A witness world for stage 3: the listed handle, and the two tables of unicode/utf8. -/
import Derived.Test.YtlidjdlamnkfmaaDoorFrame
namespace Go.Proofs.YtlidjdlamnkfmaaDoor
open Go.RowKit

def litCells : Nat → DataW Unit → List Value
  | 0, _ => []
  | k + 1, .agg ds => ds.flatMap (litCells k)
  | _ + 1, .lit (.int k n) => [.int k n]
  | _ + 1, _ => []
noncomputable def laidWorld3 (os : Os) : World :=
  let w0 := laidWorld os
  { w0 with heap := (w0.heap.modify 4 fun
      | .cells _ t frozen => .cells (litCells 4 Rows.laid_unicode_utf8_acceptRanges).toArray t frozen
      | o => o).modify 3 fun
      | .cells _ t frozen => .cells (litCells 4 Rows.laid_unicode_utf8_first).toArray t frozen
      | o => o }
end Go.Proofs.YtlidjdlamnkfmaaDoor
