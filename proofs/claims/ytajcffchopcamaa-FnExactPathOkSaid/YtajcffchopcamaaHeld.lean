/- What is owned stays so while another row is written; marks by OwnB. -/
import Derived.Test.YtajcffchopcamaaAppend
import Derived.Test.YtajcffchopcamaaMark
import Derived.Test.YtajcffchopcamaaCopy
import Derived.Test.YtajcffchopcamaaEq
import Derived.WalkSmall
namespace Go.Proofs.Ytajcffchopcamaa
open Go.RowKit

theorem OwnB.kept {w w' : World} {base : Nat} {a : Option Addr} {c : Nat} {ys : List Int} {row : Option Nat} (h : OwnB w base a c ys) (hg : w.grownBy w' row)
    (hne : ∀ k, (Value.slice a ys.length c).ownBlock = some k → row ≠ some k) : OwnB w' base a c ys := by
  refine ⟨h.1, h.2.kept hg ?_⟩
  cases hv : (Value.slice a ys.length c).ownBlock with
  | none => exact .inl rfl
  | some k => exact .inr fun e => hne k hv e.symm

theorem OwnB.drewN {w : World} {base : Nat} {a : Option Addr} {c : Nat} {ys : List Int} (h : OwnB w base a c ys) (n : Nat) : OwnB (w.drewN n) base a c ys := h.below (below_drewN (Below.refl _ _) n)

theorem OwnB.lt {w : World} {base : Nat} {a : Option Addr} {c : Nat} {ys : List Int} (h : OwnB w base a c ys) : ∀ k, (Value.slice a ys.length c).ownBlock = some k → base ≤ k ∧ k < w.heap.size := h.2.lt

end Go.Proofs.Ytajcffchopcamaa
