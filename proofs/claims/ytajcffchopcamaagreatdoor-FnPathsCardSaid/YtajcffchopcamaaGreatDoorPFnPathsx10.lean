/- Several texts in one, in their order. -/
import Derived.Test.YtajcffchopcamaaGreatDoorPFnPathsx9
import Derived.Test.YtajcffchopcamaaGreatDoorPFnPathsx7
import Derived.Deep.RegionHeld3
import Derived.WalkKit
import Derived.Test.YtajcffchopcamaaGreatDoorProg
import Derived.Test.YtajcffchopcamaaGreatDoorPFnPathsx1
import Derived.Test.YtajcffchopcamaaGreatDoorPFnPathsx6
import Derived.Test.YtajcffchopcamaaGreatDoorPFnPathsx2
import Derived.Deep.QuietTactic
import Derived.BigQuiet
/- The walk of spec.PutInt. -/
namespace Go.Proofs.YtajcffchopcamaaGreatDoor
open Go.RowKit

end Go.Proofs.YtajcffchopcamaaGreatDoor

/- The bytes of an object; the walks of spec.l2PutList and spec.PutObj. -/
namespace Go.Proofs.YtajcffchopcamaaGreatDoor
open Go.RowKit

end Go.Proofs.YtajcffchopcamaaGreatDoor

/- Plain mathematics of reading a number: how many groups say that more come, what they hold. -/
namespace Go.Proofs.YtajcffchopcamaaGreatDoor

end Go.Proofs.YtajcffchopcamaaGreatDoor

/- The walks of spec.l1In and spec.GetInt. -/
namespace Go.Proofs.YtajcffchopcamaaGreatDoor
open Go.RowKit


end Go.Proofs.YtajcffchopcamaaGreatDoor

/- The walks of spec.l2Next and spec.l2List: a reader over bytes. -/
namespace Go.Proofs.YtajcffchopcamaaGreatDoor
open Go.RowKit

end Go.Proofs.YtajcffchopcamaaGreatDoor
