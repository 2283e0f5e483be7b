/- Several texts in one, in their order. -/
import Derived.Test.YtjaojcgfgkppgaaDoorPiece31
import Derived.Test.YtjaojcgfgkppgaaDoorPiece27
import Derived.Test.YtjaojcgfgkppgaaDoorPiece33
/- Undone: what the model and the landed code make of a record, in common. -/
namespace Go.Proofs.YtjaojcgfgkppgaaDoor
open Go.RowKit

/-- The record that undoes r, if all is right. -/
def backV (r : RecV) (n p : Int) : RecV := ⟨n, r.tx, p, 4, r.oid, noS, r.bf, r.prev, []⟩
def undoV (r : RecV) (n p : Int) : RecV := if okR r = true ∧ r.kind = 1 ∧ okR (backV r n p) = true then backV r n p else noR
theorem undoV_bad {r : RecV} {n p : Int} (h : okR r = false) : undoV r n p = noR := by unfold undoV; rw [if_neg]; rintro ⟨h1, _⟩; rw [h] at h1; cases h1
theorem undoV_kind {r : RecV} {n p : Int} (h : ¬ r.kind = 1) : undoV r n p = noR := by unfold undoV; rw [if_neg]; rintro ⟨_, h1, _⟩; exact h h1
theorem undoV_no {r : RecV} {n p : Int} (h : okR (backV r n p) = false) : undoV r n p = noR := by unfold undoV; rw [if_neg]; rintro ⟨_, _, h1⟩; rw [h] at h1; cases h1
theorem undoV_yes {r : RecV} {n p : Int} (h1 : okR r = true) (h2 : r.kind = 1) (h3 : okR (backV r n p) = true) : undoV r n p = backV r n p := by unfold undoV; rw [if_pos ⟨h1, h2, h3⟩]
theorem noR_bad : okR noR = false := rfl
theorem zero_own (w : World) (lo hi : Nat) (h : hi ≤ w.heap.size) : zeroS.own w lo hi := ⟨ownI_nil _ _ _ h, ownI_nil _ _ _ h, fun k hk => by cases hk⟩
theorem own_zeroR (w : World) (lo hi : Nat) (h : hi ≤ w.heap.size) : zeroR.own w lo hi := ⟨zero_own w lo hi h, zero_own w lo hi h, ownL_nil w lo hi h, by decide⟩
/-- The record that undoes: only its slot has lists. -/
def backA (n tx p oid : Int) (t : SlotA) (x : Int) : RecA := ⟨n, tx, p, 4, oid, zeroS, t, x, [], none, 0⟩
theorem own_backA {w : World} {lo hi : Nat} {t : SlotA} (n tx p oid x : Int) (h : t.own w lo hi) (hh : hi ≤ w.heap.size) : (backA n tx p oid t x).own w lo hi :=
  ⟨zero_own w lo hi hh, h, ownL_nil w lo hi hh, by
    show ([] ++ (t.blocks ++ [])).Nodup
    rw [List.nil_append, List.append_nil]
    exact SlotA.blocks_nodup h⟩
theorem rec_out {w : World} {C : Nat} (q : RecA) (old : List Value) (ho : old.length = 15) (bC : Box w C old 31) :
    ∃ WF, Hid (w.setCells C 0 q.cells = WF) ∧ Within C (C + 1) w WF ∧ WF.heap.size = w.heap.size ∧ Hid (w.there C 0 q.cells.toArray.size) ∧ Hid ((loadVar 31 ⟨C, 0, none⟩).run Tryd.prog WF = .ok (.agg q.cells.toArray) WF) ∧ Box WF C q.cells 31 := by
  obtain ⟨WF, hWF, bF, hwF, hsF⟩ := range_fill [] old q.cells [] (by simpa using bC) (by rw [ho]; rfl)
  have bF' : Box WF C q.cells 31 := by simpa using bF
  exact ⟨WF, hWF, hwF, hsF, bC.there 0 _ (by rw [ho]; show 0 + 15 ≤ 15; decide), rec_load q bF', bF'⟩
theorem rec_info (q : RecA) : (Tryd.prog.info? 31).map (·.size) = some q.cells.length := by show _ = some 15; kernel_rfl
theorem rec_one (q : RecA) : q.cells.toArray.all (·.oneCell') = true := all_oneCell_toArray (oneR q)
end Go.Proofs.YtjaojcgfgkppgaaDoor
