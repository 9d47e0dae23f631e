/- The walks of the document's own large numbers, part 6: sums and differences, and which is more. -/
import Derived.Test.YtcflkbdcnibnnaaDoorRf5
import Derived.Test.YtcflkbdcnibnnaaDoorLgA
import Derived.Deep.DeepCutAuto
import Derived.Deep.RegionHeld3
namespace Go.Proofs.YtcflkbdcnibnnaaDoor
open Go.RowKit

end Go.Proofs.YtcflkbdcnibnnaaDoor
