/- Several texts in one, in their order. -/
import Derived.Test.YtajcffchopcamaaGreatDoorPEvalx15
import Derived.Test.YtajcffchopcamaaGreatDoorPEvalx13
import Derived.Test.YtajcffchopcamaaGreatDoorPEvalx14
import Derived.Test.YtajcffchopcamaaGreatDoorPEvalx4
import Derived.Test.YtajcffchopcamaaGreatDoorPEvalx11
import Derived.Test.YtajcffchopcamaaGreatDoorPEvalx8
/- The walk of impl.scanInt. -/
namespace Go.Proofs.YtajcffchopcamaaGreatDoor
open Go.RowKit

end Go.Proofs.YtajcffchopcamaaGreatDoor

/- What Unframe answers, in plain mathematics; four bytes and the sum that they hold. -/
namespace Go.Proofs.YtajcffchopcamaaGreatDoor
open Go.RowKit

end Go.Proofs.YtajcffchopcamaaGreatDoor

/- Plain mathematics of pages: when they are right, what their bytes are, that they come back of them, and of them alone. -/
namespace Go.Proofs.YtajcffchopcamaaGreatDoor
open Go.RowKit

/-- The lists of these slots are not beyond any machine. -/
def Fit (ss : List SlotA) : Prop := ∀ s ∈ ss, s.v.o.ints.length ≤ 1099511627776 ∧ s.v.o.refs.length ≤ 1099511627776

def noS : SlotV := ⟨false, noO⟩
def slotB (s : SlotV) : Bool := if s.has then okB s.o else (decide (s.o.kind = 0) && (decide (s.o.ints.length = 0) && decide (s.o.refs.length = 0)))
theorem slotB_has {s : SlotV} (h : s.has = true) : slotB s = okB s.o := by unfold slotB; rw [if_pos h]
end Go.Proofs.YtajcffchopcamaaGreatDoor

/- Views: when one is right. -/
namespace Go.Proofs.YtajcffchopcamaaGreatDoor
open Go.RowKit

def viewB (vs : List SlotV) : Bool := decide (vs.length = 32) && (!(vs.getD 0 noS).has && vs.all slotB)
theorem viewB_len {vs : List SlotV} (h : vs.length ≠ 32) : viewB vs = false := by simp [viewB, h]
theorem viewB_zero {vs : List SlotV} (h : vs.length = 32) : viewB vs = (!(vs.getD 0 noS).has && vs.all slotB) := by simp [viewB, h]
def vsOf (ss : List SlotA) : List SlotV := ss.map SlotA.v
theorem vsOf_len (ss : List SlotA) : (vsOf ss).length = ss.length := by simp [vsOf]
theorem vsOf_at (ss : List SlotA) (k : Nat) : (vsOf ss).getD k noS = (ss.getD k zeroS).v := by
  by_cases h : k < ss.length
  · simp [vsOf, List.getD, h]
  · have h1 : ss[k]? = none := List.getElem?_eq_none (by omega)
    simp [vsOf, List.getD, h1, noS, zeroS, noO]
theorem Fit.one {ss : List SlotA} (h : Fit ss) {k : Nat} (hk : k < ss.length) : Fit [ss.getD k zeroS] := fun s hs => by
  rw [List.mem_singleton.1 hs]
  exact h _ (slotD_mem ss k hk)
theorem Fit.of_short {ss : List SlotA} (h : ∀ r ∈ ss, r.short 1048576) : Fit ss := fun s hs => ⟨Nat.le_trans (h s hs).1 (by decide), Nat.le_trans (h s hs).2 (by decide)⟩
theorem Fit.of_vs {ss ts : List SlotA} (h : Fit ss) (e : ts.map SlotA.v = ss.map SlotA.v) : Fit ts := fun s hs => by
  have : s.v ∈ ts.map SlotA.v := List.mem_map.2 ⟨s, hs, rfl⟩
  rw [e] at this
  obtain ⟨r, hr, hv⟩ := List.mem_map.1 this
  rw [← hv]
  exact h r hr
end Go.Proofs.YtajcffchopcamaaGreatDoor
