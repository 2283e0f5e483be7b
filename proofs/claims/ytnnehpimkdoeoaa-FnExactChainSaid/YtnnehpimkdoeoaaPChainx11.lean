/- Several texts in one, in their order. -/
import Derived.Test.YtnnehpimkdoeoaaPChainx2
import Derived.Deep.QuietTactic
import Derived.BigQuiet
import Derived.WalkKit
import Derived.Test.YtnnehpimkdoeoaaProg
import Derived.Test.YtnnehpimkdoeoaaPChainx1
/- The walks of spec.l2SameInts, spec.l2Same and spec.SameObj. -/
namespace Go.Proofs.Ytnnehpimkdoeoaa
open Go.RowKit

theorem ne_at {xs ys : List Int} (j : Nat) (h : xs.getD j 0 ≠ ys.getD j 0) : decide (xs = ys) = false := by
  rw [decide_eq_false_iff_not]
  intro e
  exact h (by rw [e])
theorem ne_len {xs ys : List Int} (h : xs.length ≠ ys.length) : decide (xs = ys) = false := by
  rw [decide_eq_false_iff_not]
  intro e
  exact h (by rw [e])
theorem eq_all {xs ys : List Int} (hl : xs.length = ys.length) (h : ∀ t, t < xs.length → xs.getD t 0 = ys.getD t 0) : decide (xs = ys) = true := by
  rw [decide_eq_true_eq]
  apply List.ext_getElem hl
  intro i h1 h2
  have := h i h1
  simpa [List.getD, h1, h2] using this

def sameO (a b : ObjV) : Bool := decide (a.kind = b.kind) && (decide (a.ints = b.ints) && decide (a.refs = b.refs))

end Go.Proofs.Ytnnehpimkdoeoaa

/- Is a number within bounds? -/
namespace Go.Proofs.Ytnnehpimkdoeoaa
def inB (x l m : Int) : Bool := decide (l ≤ x ∧ x ≤ m)
end Go.Proofs.Ytnnehpimkdoeoaa

/- The walk of spec.l1In. -/
namespace Go.Proofs.Ytnnehpimkdoeoaa
open Go.RowKit

end Go.Proofs.Ytnnehpimkdoeoaa
