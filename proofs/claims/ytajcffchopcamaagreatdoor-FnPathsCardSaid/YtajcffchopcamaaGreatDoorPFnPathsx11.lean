/- Several texts in one, in their order. -/
import Derived.Test.YtajcffchopcamaaGreatDoorPFnPathsx9
import Derived.Test.YtajcffchopcamaaGreatDoorPFnPathsx10
import Derived.Test.YtajcffchopcamaaGreatDoorProg
import Derived.Test.YtajcffchopcamaaGreatDoorPFnPathsx1
import Derived.WalkKit
/- Plain mathematics: a number comes back of its bytes; cut, it does not. -/
namespace Go.Proofs.YtajcffchopcamaaGreatDoor

end Go.Proofs.YtajcffchopcamaaGreatDoor

/- Plain mathematics: an object comes back of its bytes, and of them alone. -/
namespace Go.Proofs.YtajcffchopcamaaGreatDoor
open Go.RowKit

theorem okB_bd {o : ObjV} (h : okB o = true) : (1 ≤ o.kind ∧ o.kind ≤ 99) ∧ o.ints.length ≤ 5 ∧ o.refs.length ≤ 5 ∧ (∀ z ∈ o.ints, -1000000 ≤ z ∧ z ≤ 1000000) ∧ (∀ z ∈ o.refs, 0 ≤ z ∧ z ≤ 31) := by
  simp [okB, inB] at h
  exact ⟨h.1, h.2.1, h.2.2.1, h.2.2.2.1, h.2.2.2.2⟩

def noO : ObjV := ⟨0, [], []⟩
end Go.Proofs.YtajcffchopcamaaGreatDoor

/- Plain mathematics of reading an object number by number: what is read is just what is put. -/
namespace Go.Proofs.YtajcffchopcamaaGreatDoor
open Go.RowKit

def Bytes (zs : List Int) : Prop := ∀ z ∈ zs, 0 ≤ z ∧ z < 256
theorem Bytes.drop {zs : List Int} (h : Bytes zs) (p : Nat) : Bytes (zs.drop p) := fun z hz => h z (List.mem_of_mem_drop hz)

end Go.Proofs.YtajcffchopcamaaGreatDoor

/- The walk of impl.crcByte. -/
namespace Go.Proofs.YtajcffchopcamaaGreatDoor
open Go.RowKit



end Go.Proofs.YtajcffchopcamaaGreatDoor

/- The walk of impl.Crc: it comes to crcOf. -/
namespace Go.Proofs.YtajcffchopcamaaGreatDoor
open Go.RowKit

end Go.Proofs.YtajcffchopcamaaGreatDoor
