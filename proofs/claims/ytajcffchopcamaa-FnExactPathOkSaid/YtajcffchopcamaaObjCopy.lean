/- The walk of laws.toObj. -/
import Derived.Test.YtajcffchopcamaaCopyI
import Derived.Test.YtajcffchopcamaaObjV
namespace Go.Proofs.Ytajcffchopcamaa
open Go.RowKit

end Go.Proofs.Ytajcffchopcamaa
