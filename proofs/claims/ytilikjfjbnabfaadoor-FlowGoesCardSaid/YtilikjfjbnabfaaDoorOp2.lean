/- The document's own answers for law 07: wide, Size. -/
import Derived.Test.YtilikjfjbnabfaaDoorOp1
namespace Go.Proofs.YtilikjfjbnabfaaDoor
open Go.RowKit

end Go.Proofs.YtilikjfjbnabfaaDoor
