/- Several texts in one, in their order. -/
import Derived.WalkKit
import Derived.Test.YtgbpnepipknjnabDoorPDanglingx1
import Derived.Test.YtgbpnepipknjnabDoorPDanglingx6
import Derived.Deep.RegionHeld3
import Derived.Test.YtgbpnepipknjnabDoorProg
/- Plain mathematics of numbers in bytes: groups of seven bits, the lowest first. -/
namespace Go.Proofs.YtgbpnepipknjnabDoor

def groupsN : Nat → Nat → List Int
  | 0, m => [(m : Int)]
  | f + 1, m => if m < 128 then [(m : Int)] else ((m % 128 + 128 : Nat) : Int) :: groupsN f (m / 128)
def groups (m : Nat) : List Int := groupsN 64 m

/-- A number beyond the greatest counts as that. -/
def clampI (n : Int) : Int := if n > 1000000000000 then 1000000000000 else if n < -1000000000000 then -1000000000000 else n
def zig (n : Int) : Nat := if 0 ≤ clampI n then (2 * clampI n).toNat else (-2 * clampI n - 1).toNat
def putOf (n : Int) : List Int := groups (zig n)

end Go.Proofs.YtgbpnepipknjnabDoor

/- The walks of impl.appendGroups and impl.foldSign. -/
namespace Go.Proofs.YtgbpnepipknjnabDoor
open Go.RowKit

end Go.Proofs.YtgbpnepipknjnabDoor

/- The walk of spec.PutInt. -/
namespace Go.Proofs.YtgbpnepipknjnabDoor
open Go.RowKit

end Go.Proofs.YtgbpnepipknjnabDoor

/- The bytes of an object; the walks of spec.l2PutList and spec.PutObj. -/
namespace Go.Proofs.YtgbpnepipknjnabDoor
open Go.RowKit

end Go.Proofs.YtgbpnepipknjnabDoor

/- Plain mathematics of reading a number: how many groups say that more come, what they hold. -/
namespace Go.Proofs.YtgbpnepipknjnabDoor

end Go.Proofs.YtgbpnepipknjnabDoor

/- The walks of spec.l1In and spec.GetInt. -/
namespace Go.Proofs.YtgbpnepipknjnabDoor
open Go.RowKit


end Go.Proofs.YtgbpnepipknjnabDoor
