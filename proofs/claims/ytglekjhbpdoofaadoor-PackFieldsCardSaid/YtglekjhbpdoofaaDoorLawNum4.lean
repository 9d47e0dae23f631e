/- The law's own 'num' at nil and at an api.Errno. -/
import Derived.Test.YtglekjhbpdoofaaDoorNum
namespace Go.Proofs.YtglekjhbpdoofaaDoor
open Go.RowKit

end Go.Proofs.YtglekjhbpdoofaaDoor
