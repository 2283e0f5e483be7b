/- Several texts in one, in their order. -/
import Derived.Test.YtajcffchopcamaaDoorPParsePathx19
import Derived.Test.YtajcffchopcamaaDoorPParsePathx16
import Derived.Test.YtajcffchopcamaaDoorPParsePathx17
import Derived.Test.YtajcffchopcamaaDoorPParsePathx5
/- The walk of impl.scanInt. -/
namespace Go.Proofs.YtajcffchopcamaaDoor
open Go.RowKit

end Go.Proofs.YtajcffchopcamaaDoor

/- What Unframe answers, in plain mathematics; four bytes and the sum that they hold. -/
namespace Go.Proofs.YtajcffchopcamaaDoor
open Go.RowKit

end Go.Proofs.YtajcffchopcamaaDoor

/- Plain mathematics of pages: when they are right, what their bytes are, that they come back of them, and of them alone. -/
namespace Go.Proofs.YtajcffchopcamaaDoor
open Go.RowKit

end Go.Proofs.YtajcffchopcamaaDoor
