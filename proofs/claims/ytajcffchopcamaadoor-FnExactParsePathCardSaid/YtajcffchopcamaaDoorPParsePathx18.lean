/- Several texts in one, in their order. -/
import Derived.Test.YtajcffchopcamaaDoorPParsePathx17
import Derived.Test.YtajcffchopcamaaDoorPParsePathx1
import Derived.Test.YtajcffchopcamaaDoorPParsePathx14
/- The walk of impl.Crc: it comes to crcOf. -/
namespace Go.Proofs.YtajcffchopcamaaDoor
open Go.RowKit

end Go.Proofs.YtajcffchopcamaaDoor

/- The walk of impl.appendSum: four bytes of a sum, the lowest first. -/
namespace Go.Proofs.YtajcffchopcamaaDoor
open Go.RowKit

def sumByte (x k : Nat) : Int := ((x / 256 ^ k % 256 : Nat) : Int)
def fourTo (x k : Nat) : List Int := (List.range k).map (sumByte x)
def four (x : Nat) : List Int := fourTo x 4

end Go.Proofs.YtajcffchopcamaaDoor

/- The walk of impl.putInts: b, and behind it the bytes of each number. -/
namespace Go.Proofs.YtajcffchopcamaaDoor
open Go.RowKit

end Go.Proofs.YtajcffchopcamaaDoor
