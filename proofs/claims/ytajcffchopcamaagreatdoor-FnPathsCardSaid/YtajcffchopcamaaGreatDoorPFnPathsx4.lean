/- Several texts in one, in their order. -/
import Derived.Test.YtajcffchopcamaaGreatDoorProg
import Derived.Test.YtajcffchopcamaaGreatDoorPFnPathsx2
import Derived.Deep.QuietTactic
import Derived.BigQuiet
import Derived.Test.YtajcffchopcamaaGreatDoorPFnPathsx1
/- The walk of laws.eqIntS. -/
namespace Go.Proofs.YtajcffchopcamaaGreatDoor
open Go.RowKit

end Go.Proofs.YtajcffchopcamaaGreatDoor

/- The walks of laws.markIntS and laws.heldIntS. -/
namespace Go.Proofs.YtajcffchopcamaaGreatDoor
open Go.RowKit

def marksI (k0 : Int) (n : Nat) : List Int := (List.range n).map fun i : Nat => k0 + i

end Go.Proofs.YtajcffchopcamaaGreatDoor

/- The walks of laws.eqObj, markObj, heldObj. -/
namespace Go.Proofs.YtajcffchopcamaaGreatDoor
open Go.RowKit

def markO (o : ObjV) (k0 : Int) : ObjV := ⟨o.kind, marksI k0 o.ints.length, marksI (k0 + o.ints.length) o.refs.length⟩

end Go.Proofs.YtajcffchopcamaaGreatDoor

/- The walks of laws.markByteS and laws.heldByteS. -/
namespace Go.Proofs.YtajcffchopcamaaGreatDoor
open Go.RowKit

def marks (k0 : Int) (n : Nat) : List Int := (List.range n).map fun i : Nat => (k0 + i) % 256

def marked (k0 : Int) (xs : List Int) (k : Nat) : List Int := marks k0 k ++ xs.drop k
end Go.Proofs.YtajcffchopcamaaGreatDoor

/- The walk of laws.toByteS: a new row with the same bytes. -/
namespace Go.Proofs.YtajcffchopcamaaGreatDoor
open Go.RowKit

def part (zs : List Int) (k : Nat) : List Int := zs.take k ++ List.replicate (zs.length - k) 0

end Go.Proofs.YtajcffchopcamaaGreatDoor
