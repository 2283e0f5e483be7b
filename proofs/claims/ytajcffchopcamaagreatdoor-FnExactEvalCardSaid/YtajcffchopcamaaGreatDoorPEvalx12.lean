/- Several texts in one, in their order. -/
import Derived.Test.YtajcffchopcamaaGreatDoorPEvalx11
import Derived.Test.YtajcffchopcamaaGreatDoorPEvalx1
import Derived.Test.YtajcffchopcamaaGreatDoorPEvalx9
import Derived.Deep.RegionHeld3
import Derived.WalkKit
/- The walks of impl.appendGroups and impl.foldSign. -/
namespace Go.Proofs.YtajcffchopcamaaGreatDoor
open Go.RowKit

end Go.Proofs.YtajcffchopcamaaGreatDoor

/- The walk of spec.PutInt. -/
namespace Go.Proofs.YtajcffchopcamaaGreatDoor
open Go.RowKit

end Go.Proofs.YtajcffchopcamaaGreatDoor

/- The bytes of an object; the walks of spec.l2PutList and spec.PutObj. -/
namespace Go.Proofs.YtajcffchopcamaaGreatDoor
open Go.RowKit

end Go.Proofs.YtajcffchopcamaaGreatDoor

/- Plain mathematics of reading a number: how many groups say that more come, what they hold. -/
namespace Go.Proofs.YtajcffchopcamaaGreatDoor

end Go.Proofs.YtajcffchopcamaaGreatDoor
