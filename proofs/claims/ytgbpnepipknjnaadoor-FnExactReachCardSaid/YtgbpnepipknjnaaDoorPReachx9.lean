/- Several texts in one, in their order. -/
import Derived.Test.YtgbpnepipknjnaaDoorProg
import Derived.Test.YtgbpnepipknjnaaDoorPReachx1
import Derived.Test.YtgbpnepipknjnaaDoorPReachx6
import Derived.Test.YtgbpnepipknjnaaDoorPReachx8
import Derived.Test.YtgbpnepipknjnaaDoorPReachx7
import Derived.Test.YtgbpnepipknjnaaDoorPReachx2
import Derived.Test.YtgbpnepipknjnaaDoorPReachx5
/- The walk of impl.countGroups. -/
namespace Go.Proofs.YtgbpnepipknjnaaDoor
open Go.RowKit

end Go.Proofs.YtgbpnepipknjnaaDoor

/- The walk of impl.scanInt. -/
namespace Go.Proofs.YtgbpnepipknjnaaDoor
open Go.RowKit

end Go.Proofs.YtgbpnepipknjnaaDoor

/- What Unframe answers, in plain mathematics; four bytes and the sum that they hold. -/
namespace Go.Proofs.YtgbpnepipknjnaaDoor
open Go.RowKit

end Go.Proofs.YtgbpnepipknjnaaDoor

/- Plain mathematics of pages: when they are right, what their bytes are, that they come back of them, and of them alone. -/
namespace Go.Proofs.YtgbpnepipknjnaaDoor
open Go.RowKit

/-- The lists of these slots are not beyond any machine. -/
def Fit (ss : List SlotA) : Prop := ∀ s ∈ ss, s.v.o.ints.length ≤ 1099511627776 ∧ s.v.o.refs.length ≤ 1099511627776

def noS : SlotV := ⟨false, noO⟩
def slotB (s : SlotV) : Bool := if s.has then okB s.o else (decide (s.o.kind = 0) && (decide (s.o.ints.length = 0) && decide (s.o.refs.length = 0)))
theorem slotB_has {s : SlotV} (h : s.has = true) : slotB s = okB s.o := by unfold slotB; rw [if_pos h]
end Go.Proofs.YtgbpnepipknjnaaDoor

/- Lists looked through from the front. -/
namespace Go.Proofs.YtgbpnepipknjnaaDoor

theorem take_step {α : Type} (ls : List α) (z : α) (k : Nat) (h : k < ls.length) : ls.take (k + 1) = ls.take k ++ [ls.getD k z] := by
  rw [List.take_succ_eq_append_getElem h]
  simp [List.getD, h]
theorem any_step {α : Type} {p : α → Bool} {ls : List α} {z : α} {k : Nat} (h : k < ls.length) (h0 : (ls.take k).any p = false) (h1 : p (ls.getD k z) = false) : (ls.take (k + 1)).any p = false := by
  rw [take_step ls z k h, List.any_append, h0, List.any_cons, h1]
  rfl
theorem any_end {α : Type} {p : α → Bool} {ls : List α} {k : Nat} (h : ¬ k < ls.length) (h0 : (ls.take k).any p = false) : ls.any p = false := by
  rwa [List.take_of_length_le (by omega)] at h0
theorem all_step {α : Type} {p : α → Bool} {ls : List α} {z : α} {k : Nat} (h : k < ls.length) (h0 : (ls.take k).all p = true) (h1 : p (ls.getD k z) = true) : (ls.take (k + 1)).all p = true := by
  rw [take_step ls z k h, List.all_append, h0, List.all_cons, h1]
  rfl
theorem all_hit {α : Type} {p : α → Bool} {ls : List α} {z : α} {k : Nat} (h : k < ls.length) (h1 : p (ls.getD k z) = false) : ls.all p = false := by
  rw [List.all_eq_false]
  exact ⟨ls.getD k z, by simp [List.getD, h], by rw [h1]; decide⟩
theorem all_end {α : Type} {p : α → Bool} {ls : List α} {k : Nat} (h : ¬ k < ls.length) (h0 : (ls.take k).all p = true) : ls.all p = true := by
  rwa [List.take_of_length_le (by omega)] at h0

/-- The first place of one that is so; -1, where there is none. -/
def placeZ {α : Type} (p : α → Bool) (ls : List α) : Int := match ls.findIdx? p with | some i => i | none => -1
theorem placeZ_hit {α : Type} {p : α → Bool} {ls : List α} {z : α} {k : Nat} (h : k < ls.length) (h0 : (ls.take k).any p = false) (h1 : p (ls.getD k z) = true) : placeZ p ls = k := by
  have e : ls.findIdx? p = some k := by
    rw [List.findIdx?_eq_some_iff_getElem]
    refine ⟨h, by simpa [List.getD, h] using h1, fun j hj => ?_⟩
    have := List.any_eq_false.1 h0 ls[j] (by rw [List.mem_take_iff_getElem]; exact ⟨j, by omega, rfl⟩)
    simpa using this
  rw [placeZ, e]
theorem placeZ_none {α : Type} {p : α → Bool} {ls : List α} (h : ls.any p = false) : placeZ p ls = -1 := by
  have e : ls.findIdx? p = none := by
    rw [List.findIdx?_eq_none_iff]
    intro x hx
    have := List.any_eq_false.1 h x hx
    simpa using this
  rw [placeZ, e]
theorem placeZ_end {α : Type} {p : α → Bool} {ls : List α} {k : Nat} (h : ¬ k < ls.length) (h0 : (ls.take k).any p = false) : placeZ p ls = -1 := placeZ_none (any_end h h0)
end Go.Proofs.YtgbpnepipknjnaaDoor

/- Views: when one is right. -/
namespace Go.Proofs.YtgbpnepipknjnaaDoor
open Go.RowKit

def viewB (vs : List SlotV) : Bool := decide (vs.length = 32) && (!(vs.getD 0 noS).has && vs.all slotB)
theorem viewB_len {vs : List SlotV} (h : vs.length ≠ 32) : viewB vs = false := by simp [viewB, h]
theorem viewB_zero {vs : List SlotV} (h : vs.length = 32) : viewB vs = (!(vs.getD 0 noS).has && vs.all slotB) := by simp [viewB, h]
def vsOf (ss : List SlotA) : List SlotV := ss.map SlotA.v
theorem vsOf_len (ss : List SlotA) : (vsOf ss).length = ss.length := by simp [vsOf]
theorem vsOf_at (ss : List SlotA) (k : Nat) : (vsOf ss).getD k noS = (ss.getD k zeroS).v := by
  by_cases h : k < ss.length
  · simp [vsOf, List.getD, h]
  · have h1 : ss[k]? = none := List.getElem?_eq_none (by omega)
    simp [vsOf, List.getD, h1, noS, zeroS, noO]
theorem Fit.one {ss : List SlotA} (h : Fit ss) {k : Nat} (hk : k < ss.length) : Fit [ss.getD k zeroS] := fun s hs => by
  rw [List.mem_singleton.1 hs]
  exact h _ (slotD_mem ss k hk)
theorem Fit.of_short {ss : List SlotA} (h : ∀ r ∈ ss, r.short 1048576) : Fit ss := fun s hs => ⟨Nat.le_trans (h s hs).1 (by decide), Nat.le_trans (h s hs).2 (by decide)⟩
theorem Fit.of_vs {ss ts : List SlotA} (h : Fit ss) (e : ts.map SlotA.v = ss.map SlotA.v) : Fit ts := fun s hs => by
  have : s.v ∈ ts.map SlotA.v := List.mem_map.2 ⟨s, hs, rfl⟩
  rw [e] at this
  obtain ⟨r, hr, hv⟩ := List.mem_map.1 this
  rw [← hv]
  exact h r hr
end Go.Proofs.YtgbpnepipknjnaaDoor
