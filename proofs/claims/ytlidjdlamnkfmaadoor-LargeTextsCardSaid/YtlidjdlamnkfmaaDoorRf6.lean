/- The walks of the document's own large numbers, part 6: sums and differences, and which is more. -/
import Derived.Test.YtlidjdlamnkfmaaDoorRf5
import Derived.Test.YtlidjdlamnkfmaaDoorLgA
import Derived.Deep.DeepCutAuto
import Derived.Deep.RegionHeld3
namespace Go.Proofs.YtlidjdlamnkfmaaDoor
open Go.RowKit

end Go.Proofs.YtlidjdlamnkfmaaDoor
