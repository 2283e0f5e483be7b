/- Several texts in one, in their order. -/
import Derived.Test.YtajcffchopcamaaDoorPParsePathx14
import Derived.Test.YtajcffchopcamaaDoorPParsePathx12
import Derived.Deep.RegionHeld3
import Derived.WalkKit
/- The walk of spec.PutInt. -/
namespace Go.Proofs.YtajcffchopcamaaDoor
open Go.RowKit

end Go.Proofs.YtajcffchopcamaaDoor

/- The bytes of an object; the walks of spec.l2PutList and spec.PutObj. -/
namespace Go.Proofs.YtajcffchopcamaaDoor
open Go.RowKit

end Go.Proofs.YtajcffchopcamaaDoor

/- Plain mathematics of reading a number: how many groups say that more come, what they hold. -/
namespace Go.Proofs.YtajcffchopcamaaDoor

end Go.Proofs.YtajcffchopcamaaDoor
