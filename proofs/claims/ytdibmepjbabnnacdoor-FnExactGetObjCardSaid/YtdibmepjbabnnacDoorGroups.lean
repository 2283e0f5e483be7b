/- The walks of impl.appendGroups and impl.foldSign. -/
import Derived.Test.YtdibmepjbabnnacDoorPutMath
import Derived.Test.YtdibmepjbabnnacDoorAppend
namespace Go.Proofs.YtdibmepjbabnnacDoor
open Go.RowKit

theorem step_small (xs pre ys zs : List Int) (m m0 : Nat) (h : groups m0 = pre ++ groups m) (hs : m < 128) (hy : ys = xs ++ pre) (hz : zs = ys ++ [(m : Int)]) : zs = xs ++ groups m0 := by
  rw [hz, hy, h, groups_small m hs, List.append_assoc]
theorem step_big (pre : List Int) (m m0 : Nat) (h : groups m0 = pre ++ groups m) (hs : 128 ≤ m) (hm : m < 2 ^ 64) : groups m0 = (pre ++ [((m % 128 + 128 : Nat) : Int)]) ++ groups (m / 128) := by
  rw [h, groups_big m hs hm]; simp

end Go.Proofs.YtdibmepjbabnnacDoor
