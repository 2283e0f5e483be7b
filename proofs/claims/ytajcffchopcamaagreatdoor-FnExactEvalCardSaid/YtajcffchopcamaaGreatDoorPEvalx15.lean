/- Several texts in one, in their order. -/
import Derived.Test.YtajcffchopcamaaGreatDoorPEvalx12
import Derived.Test.YtajcffchopcamaaGreatDoorPEvalx14
import Derived.Test.YtajcffchopcamaaGreatDoorProg
import Derived.Test.YtajcffchopcamaaGreatDoorPEvalx1
/- The walk of impl.putInts: b, and behind it the bytes of each number. -/
namespace Go.Proofs.YtajcffchopcamaaGreatDoor
open Go.RowKit

end Go.Proofs.YtajcffchopcamaaGreatDoor

/- The walk of impl.Frame: it comes to frameOf. -/
namespace Go.Proofs.YtajcffchopcamaaGreatDoor
open Go.RowKit

def frameOf (zs : List Int) : List Int := (putOf zs.length ++ zs) ++ four (crcOf zs)

end Go.Proofs.YtajcffchopcamaaGreatDoor

/- The walks of impl.unfoldSign and impl.joinGroups. -/
namespace Go.Proofs.YtajcffchopcamaaGreatDoor
open Go.RowKit

end Go.Proofs.YtajcffchopcamaaGreatDoor

/- The walk of impl.countGroups. -/
namespace Go.Proofs.YtajcffchopcamaaGreatDoor
open Go.RowKit

end Go.Proofs.YtajcffchopcamaaGreatDoor
