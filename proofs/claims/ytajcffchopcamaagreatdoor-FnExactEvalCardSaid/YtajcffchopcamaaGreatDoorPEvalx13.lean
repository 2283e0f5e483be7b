/- Several texts in one, in their order. -/
import Derived.Test.YtajcffchopcamaaGreatDoorProg
import Derived.Test.YtajcffchopcamaaGreatDoorPEvalx1
import Derived.Test.YtajcffchopcamaaGreatDoorPEvalx12
import Derived.Test.YtajcffchopcamaaGreatDoorPEvalx8
import Derived.Test.YtajcffchopcamaaGreatDoorPEvalx2
import Derived.Deep.QuietTactic
import Derived.BigQuiet
import Derived.Test.YtajcffchopcamaaGreatDoorPEvalx11
/- The walks of spec.l1In and spec.GetInt. -/
namespace Go.Proofs.YtajcffchopcamaaGreatDoor
open Go.RowKit


end Go.Proofs.YtajcffchopcamaaGreatDoor

/- The walks of spec.l2Next and spec.l2List: a reader over bytes. -/
namespace Go.Proofs.YtajcffchopcamaaGreatDoor
open Go.RowKit

end Go.Proofs.YtajcffchopcamaaGreatDoor

/- Plain mathematics: a number comes back of its bytes; cut, it does not. -/
namespace Go.Proofs.YtajcffchopcamaaGreatDoor

end Go.Proofs.YtajcffchopcamaaGreatDoor

/- Plain mathematics: an object comes back of its bytes, and of them alone. -/
namespace Go.Proofs.YtajcffchopcamaaGreatDoor
open Go.RowKit

theorem okB_bd {o : ObjV} (h : okB o = true) : (1 ≤ o.kind ∧ o.kind ≤ 99) ∧ o.ints.length ≤ 5 ∧ o.refs.length ≤ 5 ∧ (∀ z ∈ o.ints, -1000000 ≤ z ∧ z ≤ 1000000) ∧ (∀ z ∈ o.refs, 0 ≤ z ∧ z ≤ 31) := by
  simp [okB, inB] at h
  exact ⟨h.1, h.2.1, h.2.2.1, h.2.2.2.1, h.2.2.2.2⟩

def noO : ObjV := ⟨0, [], []⟩
end Go.Proofs.YtajcffchopcamaaGreatDoor
