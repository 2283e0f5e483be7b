/- Several texts in one, in their order. -/
import Derived.Test.YtgbpnepipknjnaaDoorProg
import Derived.Test.YtgbpnepipknjnaaDoorPFnGarbagex6
import Derived.Test.YtgbpnepipknjnaaDoorPFnGarbagex1
import Derived.WalkKit
import Derived.Test.YtgbpnepipknjnaaDoorPFnGarbagex2
import Derived.Test.YtgbpnepipknjnaaDoorPFnGarbagex5
/- The walk of impl.crcByte. -/
namespace Go.Proofs.YtgbpnepipknjnaaDoor
open Go.RowKit



end Go.Proofs.YtgbpnepipknjnaaDoor

/- The walk of impl.Crc: it comes to crcOf. -/
namespace Go.Proofs.YtgbpnepipknjnaaDoor
open Go.RowKit

end Go.Proofs.YtgbpnepipknjnaaDoor

/- The walk of impl.appendSum: four bytes of a sum, the lowest first. -/
namespace Go.Proofs.YtgbpnepipknjnaaDoor
open Go.RowKit

def sumByte (x k : Nat) : Int := ((x / 256 ^ k % 256 : Nat) : Int)
def fourTo (x k : Nat) : List Int := (List.range k).map (sumByte x)
def four (x : Nat) : List Int := fourTo x 4

end Go.Proofs.YtgbpnepipknjnaaDoor

/- The walk of impl.putInts: b, and behind it the bytes of each number. -/
namespace Go.Proofs.YtgbpnepipknjnaaDoor
open Go.RowKit

end Go.Proofs.YtgbpnepipknjnaaDoor

/- The walk of impl.Frame: it comes to frameOf. -/
namespace Go.Proofs.YtgbpnepipknjnaaDoor
open Go.RowKit

def frameOf (zs : List Int) : List Int := (putOf zs.length ++ zs) ++ four (crcOf zs)

end Go.Proofs.YtgbpnepipknjnaaDoor

/- The walks of impl.unfoldSign and impl.joinGroups. -/
namespace Go.Proofs.YtgbpnepipknjnaaDoor
open Go.RowKit

end Go.Proofs.YtgbpnepipknjnaaDoor

/- The walk of impl.countGroups. -/
namespace Go.Proofs.YtgbpnepipknjnaaDoor
open Go.RowKit

end Go.Proofs.YtgbpnepipknjnaaDoor
