/- Is a number within bounds? -/
import Derived.WalkKit
namespace Go.Proofs.Ytajcffchopcamaa
def inB (x l m : Int) : Bool := decide (l ≤ x ∧ x ≤ m)
end Go.Proofs.Ytajcffchopcamaa
