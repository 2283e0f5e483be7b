/- Several texts in one, in their order. -/
import Derived.Test.YtgbpnepipknjnaaDoorProg
import Derived.Test.YtgbpnepipknjnaaDoorPReachx7
import Derived.Test.YtgbpnepipknjnaaDoorPReachx1
import Derived.WalkKit
import Derived.Test.YtgbpnepipknjnaaDoorPReachx3
import Derived.Test.YtgbpnepipknjnaaDoorPReachx6
/- The walk of impl.crcByte. -/
namespace Go.Proofs.YtgbpnepipknjnaaDoor
open Go.RowKit



end Go.Proofs.YtgbpnepipknjnaaDoor

/- The walk of impl.Crc: it comes to crcOf. -/
namespace Go.Proofs.YtgbpnepipknjnaaDoor
open Go.RowKit

end Go.Proofs.YtgbpnepipknjnaaDoor

/- The walk of impl.appendSum: four bytes of a sum, the lowest first. -/
namespace Go.Proofs.YtgbpnepipknjnaaDoor
open Go.RowKit

def sumByte (x k : Nat) : Int := ((x / 256 ^ k % 256 : Nat) : Int)
def fourTo (x k : Nat) : List Int := (List.range k).map (sumByte x)
def four (x : Nat) : List Int := fourTo x 4

end Go.Proofs.YtgbpnepipknjnaaDoor

/- The walk of impl.putInts: b, and behind it the bytes of each number. -/
namespace Go.Proofs.YtgbpnepipknjnaaDoor
open Go.RowKit

end Go.Proofs.YtgbpnepipknjnaaDoor

/- The walk of impl.Frame: it comes to frameOf. -/
namespace Go.Proofs.YtgbpnepipknjnaaDoor
open Go.RowKit

def frameOf (zs : List Int) : List Int := (putOf zs.length ++ zs) ++ four (crcOf zs)

end Go.Proofs.YtgbpnepipknjnaaDoor

/- The walks of impl.unfoldSign and impl.joinGroups. -/
namespace Go.Proofs.YtgbpnepipknjnaaDoor
open Go.RowKit

end Go.Proofs.YtgbpnepipknjnaaDoor
