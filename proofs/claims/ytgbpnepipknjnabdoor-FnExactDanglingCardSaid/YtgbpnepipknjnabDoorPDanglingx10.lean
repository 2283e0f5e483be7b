/- Several texts in one, in their order. -/
import Derived.Test.YtgbpnepipknjnabDoorPDanglingx9
import Derived.Test.YtgbpnepipknjnabDoorPDanglingx8
import Derived.Test.YtgbpnepipknjnabDoorPDanglingx3
import Derived.Test.YtgbpnepipknjnabDoorPDanglingx6
import Derived.Test.YtgbpnepipknjnabDoorPDanglingx5
/- What Unframe answers, in plain mathematics; four bytes and the sum that they hold. -/
namespace Go.Proofs.YtgbpnepipknjnabDoor
open Go.RowKit

end Go.Proofs.YtgbpnepipknjnabDoor

/- Plain mathematics of pages: when they are right, what their bytes are, that they come back of them, and of them alone. -/
namespace Go.Proofs.YtgbpnepipknjnabDoor
open Go.RowKit

/-- The lists of these slots are not beyond any machine. -/
def Fit (ss : List SlotA) : Prop := ∀ s ∈ ss, s.v.o.ints.length ≤ 1099511627776 ∧ s.v.o.refs.length ≤ 1099511627776

def noS : SlotV := ⟨false, noO⟩
def slotB (s : SlotV) : Bool := if s.has then okB s.o else (decide (s.o.kind = 0) && (decide (s.o.ints.length = 0) && decide (s.o.refs.length = 0)))
theorem slotB_has {s : SlotV} (h : s.has = true) : slotB s = okB s.o := by unfold slotB; rw [if_pos h]
end Go.Proofs.YtgbpnepipknjnabDoor

/- Lists looked through from the front. -/
namespace Go.Proofs.YtgbpnepipknjnabDoor

theorem take_step {α : Type} (ls : List α) (z : α) (k : Nat) (h : k < ls.length) : ls.take (k + 1) = ls.take k ++ [ls.getD k z] := by
  rw [List.take_succ_eq_append_getElem h]
  simp [List.getD, h]
theorem all_step {α : Type} {p : α → Bool} {ls : List α} {z : α} {k : Nat} (h : k < ls.length) (h0 : (ls.take k).all p = true) (h1 : p (ls.getD k z) = true) : (ls.take (k + 1)).all p = true := by
  rw [take_step ls z k h, List.all_append, h0, List.all_cons, h1]
  rfl
theorem all_hit {α : Type} {p : α → Bool} {ls : List α} {z : α} {k : Nat} (h : k < ls.length) (h1 : p (ls.getD k z) = false) : ls.all p = false := by
  rw [List.all_eq_false]
  exact ⟨ls.getD k z, by simp [List.getD, h], by rw [h1]; decide⟩
theorem all_end {α : Type} {p : α → Bool} {ls : List α} {k : Nat} (h : ¬ k < ls.length) (h0 : (ls.take k).all p = true) : ls.all p = true := by
  rwa [List.take_of_length_le (by omega)] at h0

end Go.Proofs.YtgbpnepipknjnabDoor

/- Views: when one is right. -/
namespace Go.Proofs.YtgbpnepipknjnabDoor
open Go.RowKit

def viewB (vs : List SlotV) : Bool := decide (vs.length = 32) && (!(vs.getD 0 noS).has && vs.all slotB)
theorem viewB_len {vs : List SlotV} (h : vs.length ≠ 32) : viewB vs = false := by simp [viewB, h]
theorem viewB_zero {vs : List SlotV} (h : vs.length = 32) : viewB vs = (!(vs.getD 0 noS).has && vs.all slotB) := by simp [viewB, h]
def vsOf (ss : List SlotA) : List SlotV := ss.map SlotA.v
theorem vsOf_len (ss : List SlotA) : (vsOf ss).length = ss.length := by simp [vsOf]
theorem vsOf_at (ss : List SlotA) (k : Nat) : (vsOf ss).getD k noS = (ss.getD k zeroS).v := by
  by_cases h : k < ss.length
  · simp [vsOf, List.getD, h]
  · have h1 : ss[k]? = none := List.getElem?_eq_none (by omega)
    simp [vsOf, List.getD, h1, noS, zeroS, noO]
theorem Fit.one {ss : List SlotA} (h : Fit ss) {k : Nat} (hk : k < ss.length) : Fit [ss.getD k zeroS] := fun s hs => by
  rw [List.mem_singleton.1 hs]
  exact h _ (slotD_mem ss k hk)
theorem Fit.of_short {ss : List SlotA} (h : ∀ r ∈ ss, r.short 1048576) : Fit ss := fun s hs => ⟨Nat.le_trans (h s hs).1 (by decide), Nat.le_trans (h s hs).2 (by decide)⟩
theorem Fit.of_vs {ss ts : List SlotA} (h : Fit ss) (e : ts.map SlotA.v = ss.map SlotA.v) : Fit ts := fun s hs => by
  have : s.v ∈ ts.map SlotA.v := List.mem_map.2 ⟨s, hs, rfl⟩
  rw [e] at this
  obtain ⟨r, hr, hv⟩ := List.mem_map.1 this
  rw [← hv]
  exact h r hr
end Go.Proofs.YtgbpnepipknjnabDoor

/- Marks by a stack of few places: the state, its steps, that they come to an end, and that what is marked is what is reached. -/
namespace Go.Proofs.YtgbpnepipknjnabDoor

def unseenM (S : List Bool) : Nat := S.count false
theorem unseenM_le (S : List Bool) : unseenM S ≤ S.length := List.count_le_length

structure MSt where
  met : List Bool
  stack : List Int
  left : Bool
  anew : Int

def hasM (vs : List SlotV) (r : Int) : Bool := (vs.getD r.toNat noS).has
def refsM (vs : List SlotV) (i : Int) : List Int := (vs.getD i.toNat noS).o.refs
structure GoodM (most : Nat) (st : MSt) : Prop where
  len : st.met.length = 32
  room : st.stack.length ≤ most
  rng : ∀ x ∈ st.stack, 0 ≤ x ∧ x ≤ 31
def sizeM (st : MSt) : Nat := unseenM st.met + st.stack.length
def RngM (vs : List SlotV) : Prop := ∀ i, ∀ r ∈ refsM vs i, 0 ≤ r ∧ r ≤ 31
theorem GoodM.size {most : Nat} {st : MSt} (h : GoodM most st) (hm : most ≤ 40) : sizeM st ≤ 72 := by
  have := unseenM_le st.met
  have := h.len
  have := h.room
  unfold sizeM
  omega

theorem viewB_slot {vs : List SlotV} (h : viewB vs = true) (i : Nat) : slotB (vs.getD i noS) = true := by
  unfold viewB at h
  simp only [Bool.and_eq_true, decide_eq_true_eq] at h
  by_cases hi : i < vs.length
  · exact List.all_eq_true.1 h.2.2 (vs.getD i noS) (by simp [List.getD, hi])
  · have e : vs.getD i noS = noS := by simp [List.getD, List.getElem?_eq_none (by omega : vs.length ≤ i)]
    rw [e]
    rfl
theorem slotB_refs {s : SlotV} (h : slotB s = true) : s.o.refs.length ≤ 5 ∧ ∀ z ∈ s.o.refs, 0 ≤ z ∧ z ≤ 31 := by
  unfold slotB at h
  split at h
  · obtain ⟨_, _, h3, _, h5⟩ := okB_bd h
    exact ⟨h3, h5⟩
  · simp only [Bool.and_eq_true, decide_eq_true_eq] at h
    rw [List.length_eq_zero_iff.1 h.2.2]
    simp
theorem viewB_rng {vs : List SlotV} (h : viewB vs = true) : RngM vs := fun i => (slotB_refs (viewB_slot h i.toNat)).2
theorem viewB_refs {vs : List SlotV} (h : viewB vs = true) (i : Int) : (refsM vs i).length ≤ 5 := (slotB_refs (viewB_slot h i.toNat)).1
theorem viewB_len32 {vs : List SlotV} (h : viewB vs = true) : vs.length = 32 := by
  unfold viewB at h
  simp only [Bool.and_eq_true, decide_eq_true_eq] at h
  exact h.1
end Go.Proofs.YtgbpnepipknjnabDoor

/- Pairs of what is there and what it names that is not. -/
namespace Go.Proofs.YtgbpnepipknjnabDoor
open Go.RowKit

def dangB (vs : List SlotV) (r : Int) : Bool := decide (0 < r) && !hasM vs r
def dangIn (vs : List SlotV) (i : Nat) (F : List Int) : List PairV := (F.filter (dangB vs)).map (fun r => ⟨(i : Int), r⟩)
def dangTo (vs : List SlotV) : Nat → List PairV
  | 0 => []
  | n + 1 => dangTo vs n ++ dangIn vs n (refsM vs n)
def dangV (vs : List SlotV) : List PairV := if viewB vs = true then dangTo vs 32 else []
theorem dangIn_step (vs : List SlotV) (i : Nat) (F : List Int) (k : Nat) (h : k < F.length) : dangIn vs i (F.take (k + 1)) = if dangB vs (F.getD k 0) = true then dangIn vs i (F.take k) ++ [⟨(i : Int), F.getD k 0⟩] else dangIn vs i (F.take k) := by
  unfold dangIn
  rw [take_step F 0 k h, List.filter_append, List.map_append]
  simp only [List.filter_cons, List.filter_nil]
  split
  · rfl
  · simp
theorem dangIn_len (vs : List SlotV) (i : Nat) (F : List Int) : (dangIn vs i F).length ≤ F.length := by
  unfold dangIn
  rw [List.length_map]
  exact List.length_filter_le _ _
theorem dangTo_len {vs : List SlotV} (h : ∀ i, (refsM vs i).length ≤ 5) : ∀ n, (dangTo vs n).length ≤ 5 * n := by
  intro n
  induction n with
  | zero => simp [dangTo]
  | succ n ih =>
    have h1 := dangIn_len vs n (refsM vs n)
    have h2 := h n
    simp only [dangTo, List.length_append]
    omega
theorem dangV_len (vs : List SlotV) : (dangV vs).length ≤ 160 := by
  unfold dangV
  split
  · rename_i h
    exact dangTo_len (viewB_refs h) 32
  · simp
theorem ownD2_lit0 (w : World) : OwnD2 (w.alloc (.cells #[] 43)) w.heap.size (w.heap.size + 1) (some ⟨w.heap.size, 0, none⟩) 0 [] := by
  refine ⟨⟨by simp [cellsD2], .inr ⟨w.heap.size, 0, #[], rfl, Nat.le_refl _, heap_alloc_new w _, Nat.le_refl _, by simp [maxLen], rfl, by simp [cellsD2]⟩⟩, by simp, fun k hk => by cases hk; simp⟩
def DangAns (w : World) (R : List PairV) (e : Ending) (w' : World) : Prop := ∃ a' c', e = .returned (.slice a' R.length c') ∧ OwnD2 w' w.heap.size w'.heap.size a' c' R ∧ Below w.heap.size w w'
/-- A row of pairs that the call makes. -/
structure DgI (w0 w : World) (a : Option Addr) (c : Nat) (L : List PairV) : Prop where
  own : OwnD2 w w0.heap.size w.heap.size a c L
  bel : Below w0.heap.size w0 w
theorem DgI.below {w0 w w' : World} {a : Option Addr} {c : Nat} {L : List PairV} (h : DgI w0 w a c L) (hb : Below w.heap.size w w') : DgI w0 w' a c L := ⟨(h.own.below hb).widen (Nat.le_refl _) hb.size (Nat.le_refl _), h.bel.trans (hb.mono h.bel.size)⟩
theorem DgI.push {w0 w w4 : World} {o : Obj} {a a4 : Option Addr} {c c4 : Nat} {L y4 : List PairV} (h : DgI w0 w a c L) (ho : OwnD2 w4 w0.heap.size w4.heap.size a4 c4 y4) (hg : (w.alloc o).grownBy w4 (Value.slice a L.length c).ownBlock) : DgI w0 w4 a4 c4 y4 := by
  have ha := (Below.refl w.heap.size w).alloc (Nat.le_refl _) o
  exact ⟨ho, (h.bel.trans (ha.mono h.bel.size)).grown hg (Nat.le_trans h.bel.size ha.size) (fun j hj => (h.own.lt j hj).1)⟩
end Go.Proofs.YtgbpnepipknjnabDoor
