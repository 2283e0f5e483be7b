/- Several texts in one, in their order. -/
import Derived.Test.YtajcffchopcamaaDoorProg
import Derived.Test.YtajcffchopcamaaDoorPParsePathx1
import Derived.Test.YtajcffchopcamaaDoorPParsePathx15
import Derived.Test.YtajcffchopcamaaDoorPParsePathx10
import Derived.Test.YtajcffchopcamaaDoorPParsePathx3
import Derived.Deep.QuietTactic
import Derived.BigQuiet
import Derived.Test.YtajcffchopcamaaDoorPParsePathx14
/- The walks of spec.l1In and spec.GetInt. -/
namespace Go.Proofs.YtajcffchopcamaaDoor
open Go.RowKit


end Go.Proofs.YtajcffchopcamaaDoor

/- The walks of spec.l2Next and spec.l2List: a reader over bytes. -/
namespace Go.Proofs.YtajcffchopcamaaDoor
open Go.RowKit

end Go.Proofs.YtajcffchopcamaaDoor

/- Plain mathematics: a number comes back of its bytes; cut, it does not. -/
namespace Go.Proofs.YtajcffchopcamaaDoor

end Go.Proofs.YtajcffchopcamaaDoor
