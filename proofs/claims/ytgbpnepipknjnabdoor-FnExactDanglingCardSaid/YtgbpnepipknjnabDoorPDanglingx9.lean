/- Several texts in one, in their order. -/
import Derived.Test.YtgbpnepipknjnabDoorPDanglingx1
import Derived.Test.YtgbpnepipknjnabDoorPDanglingx7
import Derived.Test.YtgbpnepipknjnabDoorPDanglingx8
import Derived.Test.YtgbpnepipknjnabDoorProg
/- The walk of impl.appendSum: four bytes of a sum, the lowest first. -/
namespace Go.Proofs.YtgbpnepipknjnabDoor
open Go.RowKit

def sumByte (x k : Nat) : Int := ((x / 256 ^ k % 256 : Nat) : Int)
def fourTo (x k : Nat) : List Int := (List.range k).map (sumByte x)
def four (x : Nat) : List Int := fourTo x 4

end Go.Proofs.YtgbpnepipknjnabDoor

/- The walk of impl.putInts: b, and behind it the bytes of each number. -/
namespace Go.Proofs.YtgbpnepipknjnabDoor
open Go.RowKit

end Go.Proofs.YtgbpnepipknjnabDoor

/- The walk of impl.Frame: it comes to frameOf. -/
namespace Go.Proofs.YtgbpnepipknjnabDoor
open Go.RowKit

def frameOf (zs : List Int) : List Int := (putOf zs.length ++ zs) ++ four (crcOf zs)

end Go.Proofs.YtgbpnepipknjnabDoor

/- The walks of impl.unfoldSign and impl.joinGroups. -/
namespace Go.Proofs.YtgbpnepipknjnabDoor
open Go.RowKit

end Go.Proofs.YtgbpnepipknjnabDoor

/- The walk of impl.countGroups. -/
namespace Go.Proofs.YtgbpnepipknjnabDoor
open Go.RowKit

end Go.Proofs.YtgbpnepipknjnabDoor

/- The walk of impl.scanInt. -/
namespace Go.Proofs.YtgbpnepipknjnabDoor
open Go.RowKit

end Go.Proofs.YtgbpnepipknjnabDoor
