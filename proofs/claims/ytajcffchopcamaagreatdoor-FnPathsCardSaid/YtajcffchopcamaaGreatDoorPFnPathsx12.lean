/- Several texts in one, in their order. -/
import Derived.Test.YtajcffchopcamaaGreatDoorPFnPathsx1
import Derived.Test.YtajcffchopcamaaGreatDoorPFnPathsx9
import Derived.Test.YtajcffchopcamaaGreatDoorPFnPathsx11
import Derived.Test.YtajcffchopcamaaGreatDoorProg
import Derived.Test.YtajcffchopcamaaGreatDoorPFnPathsx10
/- The walk of impl.appendSum: four bytes of a sum, the lowest first. -/
namespace Go.Proofs.YtajcffchopcamaaGreatDoor
open Go.RowKit

def sumByte (x k : Nat) : Int := ((x / 256 ^ k % 256 : Nat) : Int)
def fourTo (x k : Nat) : List Int := (List.range k).map (sumByte x)
def four (x : Nat) : List Int := fourTo x 4

end Go.Proofs.YtajcffchopcamaaGreatDoor

/- The walk of impl.putInts: b, and behind it the bytes of each number. -/
namespace Go.Proofs.YtajcffchopcamaaGreatDoor
open Go.RowKit

end Go.Proofs.YtajcffchopcamaaGreatDoor

/- The walk of impl.Frame: it comes to frameOf. -/
namespace Go.Proofs.YtajcffchopcamaaGreatDoor
open Go.RowKit

def frameOf (zs : List Int) : List Int := (putOf zs.length ++ zs) ++ four (crcOf zs)

end Go.Proofs.YtajcffchopcamaaGreatDoor

/- The walks of impl.unfoldSign and impl.joinGroups. -/
namespace Go.Proofs.YtajcffchopcamaaGreatDoor
open Go.RowKit

end Go.Proofs.YtajcffchopcamaaGreatDoor

/- The walk of impl.countGroups. -/
namespace Go.Proofs.YtajcffchopcamaaGreatDoor
open Go.RowKit

end Go.Proofs.YtajcffchopcamaaGreatDoor
