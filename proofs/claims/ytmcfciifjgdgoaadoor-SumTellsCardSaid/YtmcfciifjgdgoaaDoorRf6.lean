/- The walks of the document's own large numbers, part 6: sums and differences, and which is more. -/
import Derived.Test.YtmcfciifjgdgoaaDoorRf5
import Derived.Test.YtmcfciifjgdgoaaDoorLgA
import Derived.Deep.DeepCutAuto
import Derived.Deep.RegionHeld3
namespace Go.Proofs.YtmcfciifjgdgoaaDoor
open Go.RowKit

end Go.Proofs.YtmcfciifjgdgoaaDoor
