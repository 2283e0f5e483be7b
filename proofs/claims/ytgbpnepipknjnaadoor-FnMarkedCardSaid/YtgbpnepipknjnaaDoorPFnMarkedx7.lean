/- Several texts in one, in their order. -/
import Derived.Test.YtgbpnepipknjnaaDoorPFnMarkedx6
import Derived.Deep.RegionHeld3
import Derived.WalkKit
import Derived.Test.YtgbpnepipknjnaaDoorProg
import Derived.Test.YtgbpnepipknjnaaDoorPFnMarkedx1
import Derived.Test.YtgbpnepipknjnaaDoorPFnMarkedx2
import Derived.Deep.QuietTactic
import Derived.BigQuiet
/- The walk of spec.PutInt. -/
namespace Go.Proofs.YtgbpnepipknjnaaDoor
open Go.RowKit

end Go.Proofs.YtgbpnepipknjnaaDoor

/- The bytes of an object; the walks of spec.l2PutList and spec.PutObj. -/
namespace Go.Proofs.YtgbpnepipknjnaaDoor
open Go.RowKit

end Go.Proofs.YtgbpnepipknjnaaDoor

/- Plain mathematics of reading a number: how many groups say that more come, what they hold. -/
namespace Go.Proofs.YtgbpnepipknjnaaDoor

end Go.Proofs.YtgbpnepipknjnaaDoor

/- The walks of spec.l1In and spec.GetInt. -/
namespace Go.Proofs.YtgbpnepipknjnaaDoor
open Go.RowKit


end Go.Proofs.YtgbpnepipknjnaaDoor

/- The walks of spec.l2Next and spec.l2List: a reader over bytes. -/
namespace Go.Proofs.YtgbpnepipknjnaaDoor
open Go.RowKit

end Go.Proofs.YtgbpnepipknjnaaDoor

/- Plain mathematics: a number comes back of its bytes; cut, it does not. -/
namespace Go.Proofs.YtgbpnepipknjnaaDoor

end Go.Proofs.YtgbpnepipknjnaaDoor

/- Plain mathematics: an object comes back of its bytes, and of them alone. -/
namespace Go.Proofs.YtgbpnepipknjnaaDoor
open Go.RowKit

theorem okB_bd {o : ObjV} (h : okB o = true) : (1 ≤ o.kind ∧ o.kind ≤ 99) ∧ o.ints.length ≤ 5 ∧ o.refs.length ≤ 5 ∧ (∀ z ∈ o.ints, -1000000 ≤ z ∧ z ≤ 1000000) ∧ (∀ z ∈ o.refs, 0 ≤ z ∧ z ≤ 31) := by
  simp [okB, inB] at h
  exact ⟨h.1, h.2.1, h.2.2.1, h.2.2.2.1, h.2.2.2.2⟩

def noO : ObjV := ⟨0, [], []⟩
end Go.Proofs.YtgbpnepipknjnaaDoor
