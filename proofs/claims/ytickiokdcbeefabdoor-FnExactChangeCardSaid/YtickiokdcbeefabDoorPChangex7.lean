/- Several texts in one, in their order. -/
import Derived.Test.YtickiokdcbeefabDoorPChangex5
import Derived.Test.YtickiokdcbeefabDoorPChangex6
import Derived.Test.YtickiokdcbeefabDoorProg
import Derived.Test.YtickiokdcbeefabDoorPChangex1
import Derived.Test.YtickiokdcbeefabDoorPChangex2
import Derived.Test.YtickiokdcbeefabDoorPChangex4
/- The walk of impl.putInts: b, and behind it the bytes of each number. -/
namespace Go.Proofs.YtickiokdcbeefabDoor
open Go.RowKit

end Go.Proofs.YtickiokdcbeefabDoor

/- The walk of impl.Frame: it comes to frameOf. -/
namespace Go.Proofs.YtickiokdcbeefabDoor
open Go.RowKit

def frameOf (zs : List Int) : List Int := (putOf zs.length ++ zs) ++ four (crcOf zs)

end Go.Proofs.YtickiokdcbeefabDoor

/- The walks of impl.unfoldSign and impl.joinGroups. -/
namespace Go.Proofs.YtickiokdcbeefabDoor
open Go.RowKit

end Go.Proofs.YtickiokdcbeefabDoor

/- The walk of impl.countGroups. -/
namespace Go.Proofs.YtickiokdcbeefabDoor
open Go.RowKit

end Go.Proofs.YtickiokdcbeefabDoor

/- The walk of impl.scanInt. -/
namespace Go.Proofs.YtickiokdcbeefabDoor
open Go.RowKit

end Go.Proofs.YtickiokdcbeefabDoor

/- What Unframe answers, in plain mathematics; four bytes and the sum that they hold. -/
namespace Go.Proofs.YtickiokdcbeefabDoor
open Go.RowKit

end Go.Proofs.YtickiokdcbeefabDoor

/- Plain mathematics of pages: when they are right, what their bytes are, that they come back of them, and of them alone. -/
namespace Go.Proofs.YtickiokdcbeefabDoor
open Go.RowKit

/-- The lists of these slots are not beyond any machine. -/
def Fit (ss : List SlotA) : Prop := ∀ s ∈ ss, s.v.o.ints.length ≤ 1099511627776 ∧ s.v.o.refs.length ≤ 1099511627776

def slotB (s : SlotV) : Bool := if s.has then okB s.o else (decide (s.o.kind = 0) && (decide (s.o.ints.length = 0) && decide (s.o.refs.length = 0)))
def okP (n : Int) (vs : List SlotV) : Bool := vs.all slotB && inB n 0 1000000
theorem slotB_has {s : SlotV} (h : s.has = true) : slotB s = okB s.o := by unfold slotB; rw [if_pos h]
end Go.Proofs.YtickiokdcbeefabDoor

/- The walks of spec.l3SameSlot (with no slot) and spec.l4Zero. -/
namespace Go.Proofs.YtickiokdcbeefabDoor
open Go.RowKit

end Go.Proofs.YtickiokdcbeefabDoor
