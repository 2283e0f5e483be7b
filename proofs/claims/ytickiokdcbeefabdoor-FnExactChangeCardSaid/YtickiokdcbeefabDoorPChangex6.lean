/- Several texts in one, in their order. -/
import Derived.Test.YtickiokdcbeefabDoorProg
import Derived.Test.YtickiokdcbeefabDoorPChangex1
import Derived.Test.YtickiokdcbeefabDoorPChangex5
import Derived.Deep.QuietTactic
import Derived.BigQuiet
import Derived.WalkKit
import Derived.Test.YtickiokdcbeefabDoorPChangex2
/- The walks of spec.l1In and spec.GetInt. -/
namespace Go.Proofs.YtickiokdcbeefabDoor
open Go.RowKit


end Go.Proofs.YtickiokdcbeefabDoor

/- The walks of spec.l2Next and spec.l2List: a reader over bytes. -/
namespace Go.Proofs.YtickiokdcbeefabDoor
open Go.RowKit

end Go.Proofs.YtickiokdcbeefabDoor

/- Plain mathematics: a number comes back of its bytes; cut, it does not. -/
namespace Go.Proofs.YtickiokdcbeefabDoor

end Go.Proofs.YtickiokdcbeefabDoor

/- Plain mathematics: an object comes back of its bytes, and of them alone. -/
namespace Go.Proofs.YtickiokdcbeefabDoor
open Go.RowKit

def noO : ObjV := ⟨0, [], []⟩
end Go.Proofs.YtickiokdcbeefabDoor

/- Plain mathematics of reading an object number by number: what is read is just what is put. -/
namespace Go.Proofs.YtickiokdcbeefabDoor
open Go.RowKit

end Go.Proofs.YtickiokdcbeefabDoor

/- The walk of impl.crcByte. -/
namespace Go.Proofs.YtickiokdcbeefabDoor
open Go.RowKit



end Go.Proofs.YtickiokdcbeefabDoor

/- The walk of impl.Crc: it comes to crcOf. -/
namespace Go.Proofs.YtickiokdcbeefabDoor
open Go.RowKit

end Go.Proofs.YtickiokdcbeefabDoor

/- The walk of impl.appendSum: four bytes of a sum, the lowest first. -/
namespace Go.Proofs.YtickiokdcbeefabDoor
open Go.RowKit

def sumByte (x k : Nat) : Int := ((x / 256 ^ k % 256 : Nat) : Int)
def fourTo (x k : Nat) : List Int := (List.range k).map (sumByte x)
def four (x : Nat) : List Int := fourTo x 4

end Go.Proofs.YtickiokdcbeefabDoor
