/- Is an object small enough? -/
import Derived.Test.YtdibmepjbabnnacDoorObjLaw
namespace Go.Proofs.YtdibmepjbabnnacDoor
open Go.RowKit

theorem szObj_neg {o : ObjV} {left : Int} (h : szObjOf o left < 0 → False) : left - o.ints.length - o.refs.length ≥ 0 := by
  unfold szObjOf at h
  split at h
  · exact absurd (by omega) h
  · split at h
    · exact absurd (by omega) h
    · omega

theorem szObj_cases (o : ObjV) : szObjOf o 1048576 < 0 ∨ (0 ≤ szObjOf o 1048576 ∧ o.ints.length ≤ 1048576 ∧ o.refs.length ≤ 1048576) := by
  by_cases h : szObjOf o 1048576 < 0
  · exact .inl h
  · have := szObj_neg h
    exact .inr ⟨by omega, by omega, by omega⟩
end Go.Proofs.YtdibmepjbabnnacDoor
