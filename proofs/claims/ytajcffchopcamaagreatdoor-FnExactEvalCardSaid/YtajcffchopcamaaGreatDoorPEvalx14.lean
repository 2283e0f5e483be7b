/- Several texts in one, in their order. -/
import Derived.Test.YtajcffchopcamaaGreatDoorPEvalx13
import Derived.Test.YtajcffchopcamaaGreatDoorProg
import Derived.Test.YtajcffchopcamaaGreatDoorPEvalx1
import Derived.WalkKit
/- Plain mathematics of reading an object number by number: what is read is just what is put. -/
namespace Go.Proofs.YtajcffchopcamaaGreatDoor
open Go.RowKit

def Bytes (zs : List Int) : Prop := ∀ z ∈ zs, 0 ≤ z ∧ z < 256
theorem Bytes.drop {zs : List Int} (h : Bytes zs) (p : Nat) : Bytes (zs.drop p) := fun z hz => h z (List.mem_of_mem_drop hz)

end Go.Proofs.YtajcffchopcamaaGreatDoor

/- The walk of impl.crcByte. -/
namespace Go.Proofs.YtajcffchopcamaaGreatDoor
open Go.RowKit



end Go.Proofs.YtajcffchopcamaaGreatDoor

/- The walk of impl.Crc: it comes to crcOf. -/
namespace Go.Proofs.YtajcffchopcamaaGreatDoor
open Go.RowKit

end Go.Proofs.YtajcffchopcamaaGreatDoor

/- The walk of impl.appendSum: four bytes of a sum, the lowest first. -/
namespace Go.Proofs.YtajcffchopcamaaGreatDoor
open Go.RowKit

def sumByte (x k : Nat) : Int := ((x / 256 ^ k % 256 : Nat) : Int)
def fourTo (x k : Nat) : List Int := (List.range k).map (sumByte x)
def four (x : Nat) : List Int := fourTo x 4

end Go.Proofs.YtajcffchopcamaaGreatDoor
