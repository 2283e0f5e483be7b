/- Several texts in one, in their order. -/
import Derived.Test.YtajcffchopcamaaDoorPParsePathx3
import Derived.Test.YtajcffchopcamaaDoorPParsePathx2
import Derived.Deep.AppendLies
import Derived.Laws.AppendOwnNone
/- A box of three cells, filled. -/
namespace Go.Proofs.YtajcffchopcamaaDoor
open Go.RowKit

/-- The facts that a walk wants of a box of three cells. -/
theorem Box.three {w : World} {B : Nat} {x0 x1 x2 : Value} {t : TypeId} (b : Box w B [x0, x1, x2] t) :
    w.cell? ⟨B, 0, none⟩ = some x0 ∧ w.cell? ⟨B, 1, none⟩ = some x1 ∧ w.cell? ⟨B, 2, none⟩ = some x2 ∧ w.frozen? ⟨B, 0, none⟩ = false ∧ w.frozen? ⟨B, 1, none⟩ = false ∧ w.frozen? ⟨B, 2, none⟩ = false :=
  ⟨b.cell 0 _ rfl, b.cell 1 _ rfl, b.cell 2 _ rfl, b.frozen 0, b.frozen 1, b.frozen 2⟩

end Go.Proofs.YtajcffchopcamaaDoor

/- Appending numbers as a step of a region that draws its order; an object in a box of the call. -/
namespace Go.Proofs.YtajcffchopcamaaDoor
open Go.RowKit

theorem Box.grown {w w' : World} {C B : Nat} {vs : List Value} {t : TypeId} (h : Box w C vs t) (hg : w.grownBy w' (some B)) (hne : C ≠ B) : Box w' C vs t := h.block (hg.block C h.lt (fun e => hne (Option.some.inj e)))
end Go.Proofs.YtajcffchopcamaaDoor

/- The walk of laws.toIntS: a new row with the same numbers. -/
namespace Go.Proofs.YtajcffchopcamaaDoor
open Go.RowKit

end Go.Proofs.YtajcffchopcamaaDoor
