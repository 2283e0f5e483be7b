/- The walk of laws.toObj. -/
import Derived.Test.YtelagcpkbcdpdaaCopyI
import Derived.Test.YtelagcpkbcdpdaaObjV
namespace Go.Proofs.Ytelagcpkbcdpdaa
open Go.RowKit

end Go.Proofs.Ytelagcpkbcdpdaa
