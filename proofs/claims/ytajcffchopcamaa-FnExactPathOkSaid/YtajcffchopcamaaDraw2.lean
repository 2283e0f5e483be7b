/- The walks of spec.l1Int, l1Bytes and l1New. -/
import Derived.Test.YtajcffchopcamaaDraw
namespace Go.Proofs.Ytajcffchopcamaa
open Go.RowKit

end Go.Proofs.Ytajcffchopcamaa
