/- Several texts in one, in their order. -/
import Derived.Test.YtajcffchopcamaaDoorPPathTextx9
import Derived.WalkKit
import Derived.Test.YtajcffchopcamaaDoorProg
import Derived.Test.YtajcffchopcamaaDoorPPathTextx1
/- The walks of laws.markPathStepS and laws.heldPathStepS. -/
namespace Go.Proofs.YtajcffchopcamaaDoor
open Go.RowKit

end Go.Proofs.YtajcffchopcamaaDoor

/- Is a number within bounds? -/
namespace Go.Proofs.YtajcffchopcamaaDoor
def inB (x l m : Int) : Bool := decide (l ≤ x ∧ x ≤ m)
end Go.Proofs.YtajcffchopcamaaDoor

/- The walk of spec.l1In. -/
namespace Go.Proofs.YtajcffchopcamaaDoor
open Go.RowKit

set_option maxHeartbeats 400000 in
theorem l1In_any (x l m : Int) (w : World) : Calls Tryd.prog 29 #[.int .i64 x, .int .i64 l, .int .i64 m] w fun e w' => e = .returned (.bool (inB x l m)) ∧ w' = w := by
  by_cases h1 : l ≤ x
  · by_cases h2 : x ≤ m
    · have HB : Hid (inB x l m = true) := by simp [Hid, inB, h1, h2]
      go_enter Tryd.func29, Tryd.ntmps29
      go_wp2
      go_ret
      exact ⟨ret_bool HB.out.symm, rfl⟩
    · have HB : Hid (inB x l m = false) := by simp [Hid, inB, h2]
      go_enter Tryd.func29, Tryd.ntmps29
      go_wp2
      go_ret
      exact ⟨ret_bool HB.out.symm, rfl⟩
  · have HB : Hid (inB x l m = false) := by simp [Hid, inB, h1]
    go_enter Tryd.func29, Tryd.ntmps29
    go_wp2
    go_ret
    exact ⟨ret_bool HB.out.symm, rfl⟩

end Go.Proofs.YtajcffchopcamaaDoor
