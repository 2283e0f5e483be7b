/- Several texts in one, in their order. -/
import Derived.Test.YtnnehpimkdoeoaaPChainx9
import Derived.Test.YtnnehpimkdoeoaaPChainx19
import Derived.Test.YtnnehpimkdoeoaaPChainx8
import Derived.Test.YtnnehpimkdoeoaaPChainx12
/- The walk of spec.FreeSlot. -/
namespace Go.Proofs.Ytnnehpimkdoeoaa
open Go.RowKit

/-- Where the first slot that has nothing is, from k on, among those that are left; -1 if there is none. -/
def freeFrom : List SlotV → Nat → Int
  | [], _ => -1
  | s :: r, k => if s.has then freeFrom r (k + 1) else (k : Int)
def freeOf (vs : List SlotV) : Int := freeFrom vs 0

theorem Box.pslot {w : World} {B : Nat} {v : Value} {ss : List SlotA} {t : TypeId} (b : Box w B (v :: cellsS ss) t) (k : Nat) (hk : k < ss.length) :
    w.cell? ⟨B, 1 + k * 4, none⟩ = some (.bool (ss.getD k zeroS).v.has) ∧ w.cell? ⟨B, 1 + k * 4 + 1, none⟩ = some (.int .i64 (ss.getD k zeroS).v.o.kind) ∧
    w.cell? ⟨B, 1 + k * 4 + 2, none⟩ = some (.slice (ss.getD k zeroS).aI (ss.getD k zeroS).v.o.ints.length (ss.getD k zeroS).cI) ∧ w.cell? ⟨B, 1 + k * 4 + 3, none⟩ = some (.slice (ss.getD k zeroS).aR (ss.getD k zeroS).v.o.refs.length (ss.getD k zeroS).cR) ∧
    (∀ i, w.frozen? ⟨B, i, none⟩ = false) := by
  have key : ∀ j, j < 4 → (v :: cellsS ss)[1 + k * 4 + j]? = (ss.getD k zeroS).cells[j]? := fun j hj => by
    rw [show 1 + k * 4 + j = (k * 4 + j) + 1 by omega, List.getElem?_cons_succ]
    exact cellsS_at ss k j hk hj
  exact ⟨b.cell _ _ (key 0 (by omega)), b.cell _ _ (key 1 (by omega)), b.cell _ _ (key 2 (by omega)), b.cell _ _ (key 3 (by omega)), fun i => b.frozen i⟩

theorem drop_at (ss : List SlotA) (k : Nat) (h : k < ss.length) : (ss.map (·.v)).drop k = (ss.getD k zeroS).v :: (ss.map (·.v)).drop (k + 1) := by
  rw [List.drop_eq_getElem_cons (by simpa using h)]
  simp [List.getD, h]

end Go.Proofs.Ytnnehpimkdoeoaa

/- The walks of spec.l3Slot and spec.PageOk. -/
namespace Go.Proofs.Ytnnehpimkdoeoaa
open Go.RowKit

theorem slotB_of (o : ObjV) (a b c : Bool) (h1 : decide (o.kind = 0) = a) (h2 : decide (o.ints.length = 0) = b) (h3 : decide (o.refs.length = 0) = c) : slotB ⟨false, o⟩ = (a && (b && c)) := by
  rw [← h1, ← h2, ← h3]; rfl

theorem okP_no {n : Int} {ss : List SlotA} (k : Nat) (hk : k < ss.length) (h : slotB (ss.getD k zeroS).v = false) : okP n (ss.map (·.v)) = false := by
  have : (ss.map (·.v)).all slotB = false := by
    rw [List.all_eq_false]
    exact ⟨(ss.getD k zeroS).v, List.mem_map.2 ⟨_, getD_mem hk, rfl⟩, by rw [h]; decide⟩
  simp [okP, this]
theorem okP_all {n : Int} {ss : List SlotA} (h : ∀ j, j < ss.length → slotB (ss.getD j zeroS).v = true) : okP n (ss.map (·.v)) = inB n 0 1000000 := by
  have : (ss.map (·.v)).all slotB = true := by
    rw [List.all_eq_true]
    intro v hv
    obtain ⟨s, hs, rfl⟩ := List.mem_map.1 hv
    obtain ⟨j, hj, rfl⟩ := List.getElem_of_mem hs
    have := h j hj
    simpa [List.getD, hj] using this
  simp [okP, this]

end Go.Proofs.Ytnnehpimkdoeoaa

/- The walk of spec.RecOk. -/
namespace Go.Proofs.Ytnnehpimkdoeoaa
open Go.RowKit

/-- Is the record right? -/
def okR (r : RecV) : Bool :=
  inB r.lsn 1 1000000 && (slotB r.bf && (slotB r.af &&
    (if r.kind == 6 then zeroB r false false false false true && livesB r.lsn r.txs
     else inB r.tx 1 1000 && (inB r.prev 0 (r.lsn - 1) &&
      (if r.kind == 1 then zeroB r true true true false false && inB r.oid 1 31
       else if r.kind == 4 then zeroB r true true false true false && (inB r.oid 1 31 && inB r.next 0 (r.lsn - 1))
       else if r.kind == 2 then zeroB r true false false false false
       else if r.kind == 3 then zeroB r true false false false false
       else if r.kind == 5 then zeroB r true false false false false
       else false)))))

theorem inB_both {x l m : Int} (h : inB x l m = true) : l ≤ x ∧ x ≤ m := by simpa [inB] using h
theorem fifteen {w : World} {B : Nat} {x0 x1 x2 x3 x4 x5 x6 x7 x8 x9 x10 x11 x12 x13 x14 : Value} {t : TypeId} (b : Box w B [x0, x1, x2, x3, x4, x5, x6, x7, x8, x9, x10, x11, x12, x13, x14] t) :
    w.cell? ⟨B, 0, none⟩ = some x0 ∧ w.cell? ⟨B, 1, none⟩ = some x1 ∧ w.cell? ⟨B, 2, none⟩ = some x2 ∧ w.cell? ⟨B, 3, none⟩ = some x3 ∧ w.cell? ⟨B, 4, none⟩ = some x4 ∧ w.cell? ⟨B, 5, none⟩ = some x5 ∧ w.cell? ⟨B, 6, none⟩ = some x6 ∧ w.cell? ⟨B, 7, none⟩ = some x7 ∧ w.cell? ⟨B, 8, none⟩ = some x8 ∧ w.cell? ⟨B, 9, none⟩ = some x9 ∧ w.cell? ⟨B, 10, none⟩ = some x10 ∧ w.cell? ⟨B, 11, none⟩ = some x11 ∧ w.cell? ⟨B, 12, none⟩ = some x12 ∧ w.cell? ⟨B, 13, none⟩ = some x13 ∧ w.cell? ⟨B, 14, none⟩ = some x14 :=
  ⟨b.cell 0 _ rfl, b.cell 1 _ rfl, b.cell 2 _ rfl, b.cell 3 _ rfl, b.cell 4 _ rfl, b.cell 5 _ rfl, b.cell 6 _ rfl, b.cell 7 _ rfl, b.cell 8 _ rfl, b.cell 9 _ rfl, b.cell 10 _ rfl, b.cell 11 _ rfl, b.cell 12 _ rfl, b.cell 13 _ rfl, b.cell 14 _ rfl⟩

end Go.Proofs.Ytnnehpimkdoeoaa
