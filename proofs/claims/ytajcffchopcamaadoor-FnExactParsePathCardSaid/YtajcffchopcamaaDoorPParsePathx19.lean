/- Several texts in one, in their order. -/
import Derived.Test.YtajcffchopcamaaDoorPParsePathx18
import Derived.Test.YtajcffchopcamaaDoorProg
import Derived.Test.YtajcffchopcamaaDoorPParsePathx1
import Derived.Test.YtajcffchopcamaaDoorPParsePathx15
/- The walk of impl.Frame: it comes to frameOf. -/
namespace Go.Proofs.YtajcffchopcamaaDoor
open Go.RowKit

def frameOf (zs : List Int) : List Int := (putOf zs.length ++ zs) ++ four (crcOf zs)

end Go.Proofs.YtajcffchopcamaaDoor

/- The walks of impl.unfoldSign and impl.joinGroups. -/
namespace Go.Proofs.YtajcffchopcamaaDoor
open Go.RowKit

end Go.Proofs.YtajcffchopcamaaDoor

/- The walk of impl.countGroups. -/
namespace Go.Proofs.YtajcffchopcamaaDoor
open Go.RowKit

end Go.Proofs.YtajcffchopcamaaDoor
