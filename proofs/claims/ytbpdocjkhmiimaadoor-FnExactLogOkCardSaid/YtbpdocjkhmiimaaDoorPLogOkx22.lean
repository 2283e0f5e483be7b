/- Several texts in one, in their order. -/
import Derived.Test.YtbpdocjkhmiimaaDoorPLogOkx16
import Derived.Test.YtbpdocjkhmiimaaDoorPLogOkx17
import Derived.Test.YtbpdocjkhmiimaaDoorPLogOkx21
import Derived.Test.YtbpdocjkhmiimaaDoorPLogOkx13
/- The walk of spec.l1Four. -/
namespace Go.Proofs.YtbpdocjkhmiimaaDoor
open Go.RowKit

end Go.Proofs.YtbpdocjkhmiimaaDoor

/- The walk of spec.Frame: it comes to frameOf. -/
namespace Go.Proofs.YtbpdocjkhmiimaaDoor
open Go.RowKit

end Go.Proofs.YtbpdocjkhmiimaaDoor

/- The walks of spec.l3PutSlot and spec.PutPage. -/
namespace Go.Proofs.YtbpdocjkhmiimaaDoor
open Go.RowKit

theorem flatS_step (ss : List SlotA) (k : Nat) (h : k < ss.length) : ((ss.take (k + 1)).map (·.v)).flatMap putSlotOf = ((ss.take k).map (·.v)).flatMap putSlotOf ++ putSlotOf (ss.getD k zeroS).v := by
  rw [List.take_add_one, List.map_append, List.flatMap_append]
  simp [List.getD, h]

end Go.Proofs.YtbpdocjkhmiimaaDoor
