/- Several texts in one, in their order. -/
import Derived.Test.YtajcffchopcamaaDoorProg
import Derived.Test.YtajcffchopcamaaDoorPParsePathx1
import Derived.Deep.QuietTactic
import Derived.BigQuiet
/- The walks of laws.markByteS and laws.heldByteS. -/
namespace Go.Proofs.YtajcffchopcamaaDoor
open Go.RowKit

def marks (k0 : Int) (n : Nat) : List Int := (List.range n).map fun i : Nat => (k0 + i) % 256

def marked (k0 : Int) (xs : List Int) (k : Nat) : List Int := marks k0 k ++ xs.drop k
end Go.Proofs.YtajcffchopcamaaDoor

/- The walk of laws.toByteS: a new row with the same bytes. -/
namespace Go.Proofs.YtajcffchopcamaaDoor
open Go.RowKit

def part (zs : List Int) (k : Nat) : List Int := zs.take k ++ List.replicate (zs.length - k) 0

end Go.Proofs.YtajcffchopcamaaDoor

/- The walk of laws.eqByteS. -/
namespace Go.Proofs.YtajcffchopcamaaDoor
open Go.RowKit

end Go.Proofs.YtajcffchopcamaaDoor
