/- The walk of laws.eqByteS. -/
import Derived.Test.YtelagcpkbcdpdaaProg
import Derived.Test.YtelagcpkbcdpdaaReads
import Derived.Deep.QuietTactic
import Derived.BigQuiet
namespace Go.Proofs.Ytelagcpkbcdpdaa
open Go.RowKit

end Go.Proofs.Ytelagcpkbcdpdaa
