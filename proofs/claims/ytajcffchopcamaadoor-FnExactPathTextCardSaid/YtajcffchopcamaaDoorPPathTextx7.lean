/- Several texts in one, in their order. -/
import Derived.Test.YtajcffchopcamaaDoorProg
import Derived.Test.YtajcffchopcamaaDoorPPathTextx1
import Derived.Deep.QuietTactic
import Derived.BigQuiet
/- The walks of laws.markByteS and laws.heldByteS. -/
namespace Go.Proofs.YtajcffchopcamaaDoor
open Go.RowKit

def marks (k0 : Int) (n : Nat) : List Int := (List.range n).map fun i : Nat => (k0 + i) % 256

end Go.Proofs.YtajcffchopcamaaDoor

/- The walk of laws.toByteS: a new row with the same bytes. -/
namespace Go.Proofs.YtajcffchopcamaaDoor
open Go.RowKit

end Go.Proofs.YtajcffchopcamaaDoor

/- The walk of laws.eqByteS. -/
namespace Go.Proofs.YtajcffchopcamaaDoor
open Go.RowKit

end Go.Proofs.YtajcffchopcamaaDoor
