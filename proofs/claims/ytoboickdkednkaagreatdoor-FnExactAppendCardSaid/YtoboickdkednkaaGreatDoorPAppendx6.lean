/- Several texts in one, in their order. -/
import Derived.Test.YtoboickdkednkaaGreatDoorPAppendx5
import Derived.Deep.RegionHeld3
import Derived.Test.YtoboickdkednkaaGreatDoorPAppendx3
import Derived.Deep.CutRange
/- The walks of the kinds, impl.recAt and impl.recOf. -/
namespace Go.Proofs.YtoboickdkednkaaGreatDoor
open Go.RowKit

theorem kind_setDeed (tx prev oid : Int) (b a : SlotA) (w : World) : Calls Tryz.prog 95 #[.agg #[.int .i64 tx, .int .i64 prev, .int .i64 oid, .bool b.v.has, .int .i64 b.v.o.kind, .slice b.aI b.v.o.ints.length b.cI, .slice b.aR b.v.o.refs.length b.cR, .bool a.v.has, .int .i64 a.v.o.kind, .slice a.aI a.v.o.ints.length a.cI, .slice a.aR a.v.o.refs.length a.cR]] w fun e w' => e = .returned (.int .i64 1) ∧ Below w.heap.size w w' := by
  go_enter Tryz.func95, Tryz.ntmps95
  go_wp2
  go_ret
  exact ⟨rfl, (Below.refl _ _).alloc (Nat.le_refl _) _⟩

theorem kind_commitDeed (tx prev : Int) (w : World) : Calls Tryz.prog 97 #[.agg #[.int .i64 tx, .int .i64 prev]] w fun e w' => e = .returned (.int .i64 2) ∧ Below w.heap.size w w' := by
  go_enter Tryz.func97, Tryz.ntmps97
  go_wp2
  go_ret
  exact ⟨rfl, (Below.refl _ _).alloc (Nat.le_refl _) _⟩

theorem kind_abortDeed (tx prev : Int) (w : World) : Calls Tryz.prog 98 #[.agg #[.int .i64 tx, .int .i64 prev]] w fun e w' => e = .returned (.int .i64 3) ∧ Below w.heap.size w w' := by
  go_enter Tryz.func98, Tryz.ntmps98
  go_wp2
  go_ret
  exact ⟨rfl, (Below.refl _ _).alloc (Nat.le_refl _) _⟩

theorem kind_backDeed (tx prev oid : Int) (a : SlotA) (next : Int) (w : World) : Calls Tryz.prog 99 #[.agg #[.int .i64 tx, .int .i64 prev, .int .i64 oid, .bool a.v.has, .int .i64 a.v.o.kind, .slice a.aI a.v.o.ints.length a.cI, .slice a.aR a.v.o.refs.length a.cR, .int .i64 next]] w fun e w' => e = .returned (.int .i64 4) ∧ Below w.heap.size w w' := by
  go_enter Tryz.func99, Tryz.ntmps99
  go_wp2
  go_ret
  exact ⟨rfl, (Below.refl _ _).alloc (Nat.le_refl _) _⟩

theorem kind_endDeed (tx prev : Int) (w : World) : Calls Tryz.prog 100 #[.agg #[.int .i64 tx, .int .i64 prev]] w fun e w' => e = .returned (.int .i64 5) ∧ Below w.heap.size w w' := by
  go_enter Tryz.func100, Tryz.ntmps100
  go_wp2
  go_ret
  exact ⟨rfl, (Below.refl _ _).alloc (Nat.le_refl _) _⟩

theorem kind_checkDeed (ls : List LiveV) (aL : Option Addr) (cL : Nat) (w : World) : Calls Tryz.prog 101 #[.agg #[.slice aL ls.length cL]] w fun e w' => e = .returned (.int .i64 6) ∧ Below w.heap.size w w' := by
  go_enter Tryz.func101, Tryz.ntmps101
  go_wp2
  go_ret
  exact ⟨rfl, (Below.refl _ _).alloc (Nat.le_refl _) _⟩

theorem rec_load {w : World} {B : Nat} (r : RecA) (b : Box w B r.cells 39) : (loadVar 39 ⟨B, 0, none⟩).run Tryz.prog w = .ok (.agg r.cells.toArray) w :=
  run_loadVar_mid (P := Tryz.prog) w B 0 39 r.cells _ (Box.range [] r.cells [] (by simpa using b)) Tryz.underlying39 rfl (by show _ = some 15; kernel_rfl)
/-- A record of these, and nothing else. -/
def recA (n tx prev kind : Int) : RecA := ⟨n, tx, prev, kind, 0, zeroS, zeroS, 0, [], none, 0⟩
set_option maxHeartbeats 1000000 in
set_option maxRecDepth 100000 in
theorem recAt_any (n tx prev kind : Int) (w : World) : Calls Tryz.prog 96 #[.int .i64 n, .agg #[.int .i64 tx, .int .i64 prev], .int .i64 kind] w fun e w' => e = .returned (.agg (recA n tx prev kind).cells.toArray) ∧ Below w.heap.size w w' := by
  obtain ⟨W, hW, b0, b1, hbW, hsW⟩ := boxes2 w [.int .i64 tx, .int .i64 prev] (recA n tx prev kind).cells 132 39
  have HL : Hid (_ = _) := rec_load (recA n tx prev kind) b1
  simp only [recA, RecA.cells, zeroS, List.length_nil] at hW
  clear hsW b0 b1
  go_enter Tryz.func96, Tryz.ntmps96
  go_wp2
  refine bodyPost_ret (v := .agg (recA n tx prev kind).cells.toArray) (results_one Tryz.results96 rfl ?_) rfl ⟨rfl, ?_⟩
  · rw [show _ = W from hW.out]; exact HL.out
  · rw [show _ = W from hW.out]; exact hbW

set_option maxHeartbeats 4000000 in
set_option maxRecDepth 100000 in
theorem recOf_set (n : Int) (tx prev oid : Int) (b a : SlotA) (w : World) :
    Calls Tryz.prog 69 #[.int .i64 n, issetDeed (setD tx prev oid b a)] w fun e w' => e = .returned (.agg (RecA.cells (⟨n, tx, prev, 1, oid, b, a, 0, [], none, 0⟩)).toArray) ∧ Below w.heap.size w w' := by
  obtain ⟨W, hW, b0, b1, hbW, hsW⟩ := boxes2 w [.int .i64 0, .int .i64 0, .int .i64 0, .int .i64 0, .int .i64 0, .bool false, .int .i64 0, .slice none 0 0, .slice none 0 0, .bool false, .int .i64 0, .slice none 0 0, .slice none 0 0, .int .i64 0, .slice none 0 0] [.int .i64 tx, .int .i64 prev, .int .i64 oid, .bool b.v.has, .int .i64 b.v.o.kind, .slice b.aI b.v.o.ints.length b.cI, .slice b.aR b.v.o.refs.length b.cR, .bool a.v.has, .int .i64 a.v.o.kind, .slice a.aI a.v.o.ints.length a.cI, .slice a.aR a.v.o.refs.length a.cR] 39 134
  simp only [issetDeed, setD]
  have a_setDeed := fun W => yes_setDeed W (.agg #[.int .i64 tx, .int .i64 prev, .int .i64 oid, .bool b.v.has, .int .i64 b.v.o.kind, .slice b.aI b.v.o.ints.length b.cI, .slice b.aR b.v.o.refs.length b.cR, .bool a.v.has, .int .i64 a.v.o.kind, .slice a.aI a.v.o.ints.length a.cI, .slice a.aR a.v.o.refs.length a.cR])
  have HB : Hid (∀ u, Below W.heap.size W u → Box u w.heap.size [.int .i64 0, .int .i64 0, .int .i64 0, .int .i64 0, .int .i64 0, .bool false, .int .i64 0, .slice none 0 0, .slice none 0 0, .bool false, .int .i64 0, .slice none 0 0, .slice none 0 0, .int .i64 0, .slice none 0 0] 39 ∧ Box u (w.heap.size + 1) [.int .i64 tx, .int .i64 prev, .int .i64 oid, .bool b.v.has, .int .i64 b.v.o.kind, .slice b.aI b.v.o.ints.length b.cI, .slice b.aR b.v.o.refs.length b.cR, .bool a.v.has, .int .i64 a.v.o.kind, .slice a.aI a.v.o.ints.length a.cI, .slice a.aR a.v.o.refs.length a.cR] 134) := fun u hu => ⟨b0.below hu b0.lt, b1.below hu b1.lt⟩
  have HC : Hid (∀ w', Box w' (w.heap.size + 1) [.int .i64 tx, .int .i64 prev, .int .i64 oid, .bool b.v.has, .int .i64 b.v.o.kind, .slice b.aI b.v.o.ints.length b.cI, .slice b.aR b.v.o.refs.length b.cR, .bool a.v.has, .int .i64 a.v.o.kind, .slice a.aI a.v.o.ints.length a.cI, .slice a.aR a.v.o.refs.length a.cR] 134 → w'.cell? ⟨w.heap.size + 1, 0, none⟩ = some (.int .i64 tx) ∧ w'.cell? ⟨w.heap.size + 1, 1, none⟩ = some (.int .i64 prev) ∧ w'.cell? ⟨w.heap.size + 1, 2, none⟩ = some (.int .i64 oid) ∧ w'.cell? ⟨w.heap.size + 1, 3, none⟩ = some (.bool b.v.has) ∧ w'.cell? ⟨w.heap.size + 1, 4, none⟩ = some (.int .i64 b.v.o.kind) ∧ w'.cell? ⟨w.heap.size + 1, 5, none⟩ = some (.slice b.aI b.v.o.ints.length b.cI) ∧ w'.cell? ⟨w.heap.size + 1, 6, none⟩ = some (.slice b.aR b.v.o.refs.length b.cR) ∧ w'.cell? ⟨w.heap.size + 1, 7, none⟩ = some (.bool a.v.has) ∧ w'.cell? ⟨w.heap.size + 1, 8, none⟩ = some (.int .i64 a.v.o.kind) ∧ w'.cell? ⟨w.heap.size + 1, 9, none⟩ = some (.slice a.aI a.v.o.ints.length a.cI) ∧ w'.cell? ⟨w.heap.size + 1, 10, none⟩ = some (.slice a.aR a.v.o.refs.length a.cR)) := fun w' b => ⟨b.cell 0 _ rfl, b.cell 1 _ rfl, b.cell 2 _ rfl, b.cell 3 _ rfl, b.cell 4 _ rfl, b.cell 5 _ rfl, b.cell 6 _ rfl, b.cell 7 _ rfl, b.cell 8 _ rfl, b.cell 9 _ rfl, b.cell 10 _ rfl⟩
  have hh := HC.out W b1
  have hlt := b1.lt
  have HI : Hid ((Tryz.prog.info? 39).map (·.size) = some 15) := by rw [Hid]; kernel_rfl
  have HO : Hid (_) := all_oneCell_toArray (oneR (⟨n, tx, prev, 1, oid, b, a, 0, [], none, 0⟩))
  clear hsW b0 b1
  go_enter Tryz.func69, Tryz.ntmps69
  go_wp2_with fail
  rw [hW.out]
  clear hW a_setDeed
  refine wp_region_held_drew (S := fun w' => w'.cell? ⟨w.heap.size + 1, 0, none⟩ = some (.int .i64 tx) ∧ w'.cell? ⟨w.heap.size + 1, 1, none⟩ = some (.int .i64 prev) ∧ w'.cell? ⟨w.heap.size + 1, 2, none⟩ = some (.int .i64 oid) ∧ w'.cell? ⟨w.heap.size + 1, 3, none⟩ = some (.bool b.v.has) ∧ w'.cell? ⟨w.heap.size + 1, 4, none⟩ = some (.int .i64 b.v.o.kind) ∧ w'.cell? ⟨w.heap.size + 1, 5, none⟩ = some (.slice b.aI b.v.o.ints.length b.cI) ∧ w'.cell? ⟨w.heap.size + 1, 6, none⟩ = some (.slice b.aR b.v.o.refs.length b.cR) ∧ w'.cell? ⟨w.heap.size + 1, 7, none⟩ = some (.bool a.v.has) ∧ w'.cell? ⟨w.heap.size + 1, 8, none⟩ = some (.int .i64 a.v.o.kind) ∧ w'.cell? ⟨w.heap.size + 1, 9, none⟩ = some (.slice a.aI a.v.o.ints.length a.cI) ∧ w'.cell? ⟨w.heap.size + 1, 10, none⟩ = some (.slice a.aR a.v.o.refs.length a.cR)) (by kernel_rfl) (HC.out _ (HB.out _ (Below.refl _ _).drew).2) (fun hHeld => ?_)
  refine wpAnyH_take (i := 0) (v := .int .i64 n) rfl (by kernel_rfl) (by kernel_rfl) (by kernel_rfl) (fun _ _ _ h => h) (Or.inl ⟨by rfl, ?_⟩) hHeld ?_
  · intro w' hSw
    go_simp <;> rfl
  try simp only [Act.put, List.getElem_toArray, List.getElem_cons_zero, List.setIfInBounds_toArray, List.set_cons_zero, List.set_cons_succ]
  refine wpAnyH_take (i := 1) (v := .pointer (some ⟨w.heap.size + 1, 0, none⟩)) rfl (by kernel_rfl) (by kernel_rfl) (by kernel_rfl) (fun _ _ _ h => h) (Or.inl ⟨by rfl, ?_⟩) hHeld ?_
  · intro w' hSw
    go_simp <;> rfl
  try simp only [Act.put, List.getElem_toArray, List.getElem_cons_zero, List.getElem_cons_succ, List.setIfInBounds_toArray, List.set_cons_zero, List.set_cons_succ]
  refine wpAnyH_take (i := 2) (v := .pointer (some ⟨w.heap.size + 1, 0, none⟩)) rfl (by kernel_rfl) (by kernel_rfl) (by kernel_rfl) (fun _ _ _ h => h) (Or.inl ⟨by rfl, ?_⟩) hHeld ?_
  · intro w' hSw
    go_simp <;> rfl
  try simp only [Act.put, List.getElem_toArray, List.getElem_cons_zero, List.getElem_cons_succ, List.setIfInBounds_toArray, List.set_cons_zero, List.set_cons_succ]
  refine wpAnyH_take (i := 3) (v := .int .i64 tx) rfl (by kernel_rfl) (by kernel_rfl) (by kernel_rfl) (fun _ _ _ h => h) (Or.inl ⟨by rfl, ?_⟩) hHeld ?_
  · intro w' hSw
    go_simp <;> rfl
  try simp only [Act.put, List.getElem_toArray, List.getElem_cons_zero, List.getElem_cons_succ, List.setIfInBounds_toArray, List.set_cons_zero, List.set_cons_succ]
  refine wpAnyH_take (i := 4) (v := .pointer (some ⟨w.heap.size + 1, 0, none⟩)) rfl (by kernel_rfl) (by kernel_rfl) (by kernel_rfl) (fun _ _ _ h => h) (Or.inl ⟨by rfl, ?_⟩) hHeld ?_
  · intro w' hSw
    go_simp <;> rfl
  try simp only [Act.put, List.getElem_toArray, List.getElem_cons_zero, List.getElem_cons_succ, List.setIfInBounds_toArray, List.set_cons_zero, List.set_cons_succ]
  refine wpAnyH_take (i := 5) (v := .pointer (some ⟨w.heap.size + 1, 1, none⟩)) rfl (by kernel_rfl) (by kernel_rfl) (by kernel_rfl) (fun _ _ _ h => h) (Or.inl ⟨by rfl, ?_⟩) hHeld ?_
  · intro w' hSw
    go_simp <;> rfl
  try simp only [Act.put, List.getElem_toArray, List.getElem_cons_zero, List.getElem_cons_succ, List.setIfInBounds_toArray, List.set_cons_zero, List.set_cons_succ]
  refine wpAnyH_take (i := 6) (v := .int .i64 prev) rfl (by kernel_rfl) (by kernel_rfl) (by kernel_rfl) (fun _ _ _ h => h) (Or.inl ⟨by rfl, ?_⟩) hHeld ?_
  · intro w' hSw
    go_simp <;> rfl
  try simp only [Act.put, List.getElem_toArray, List.getElem_cons_zero, List.getElem_cons_succ, List.setIfInBounds_toArray, List.set_cons_zero, List.set_cons_succ]
  refine wpAnyH_take (i := 7) (v := .agg #[.int .i64 tx, .int .i64 prev, .int .i64 oid, .bool b.v.has, .int .i64 b.v.o.kind, .slice b.aI b.v.o.ints.length b.cI, .slice b.aR b.v.o.refs.length b.cR, .bool a.v.has, .int .i64 a.v.o.kind, .slice a.aI a.v.o.ints.length a.cI, .slice a.aR a.v.o.refs.length a.cR]) rfl (by kernel_rfl) (by kernel_rfl) (by kernel_rfl) (fun _ _ _ h => h) (Or.inl ⟨by rfl, ?_⟩) hHeld ?_
  · intro w' hSw
    go_simp <;> rfl
  try simp only [Act.put, List.getElem_toArray, List.getElem_cons_zero, List.getElem_cons_succ, List.setIfInBounds_toArray, List.set_cons_zero, List.set_cons_succ]
  refine wpAnyH_take (i := 9) (v := .pointer (some ⟨w.heap.size + 1, 2, none⟩)) rfl (by kernel_rfl) (by kernel_rfl) (by kernel_rfl) (fun _ _ _ h => h) (Or.inl ⟨by rfl, ?_⟩) hHeld ?_
  · intro w' hSw
    go_simp <;> rfl
  try simp only [Act.put, List.getElem_toArray, List.getElem_cons_zero, List.getElem_cons_succ, List.setIfInBounds_toArray, List.set_cons_zero, List.set_cons_succ]
  refine wpAnyH_take (i := 10) (v := .int .i64 oid) rfl (by kernel_rfl) (by kernel_rfl) (by kernel_rfl) (fun _ _ _ h => h) (Or.inl ⟨by rfl, ?_⟩) hHeld ?_
  · intro w' hSw
    go_simp <;> rfl
  try simp only [Act.put, List.getElem_toArray, List.getElem_cons_zero, List.getElem_cons_succ, List.setIfInBounds_toArray, List.set_cons_zero, List.set_cons_succ]
  refine wpAnyH_take (i := 11) (v := .pointer (some ⟨w.heap.size + 1, 3, none⟩)) rfl (by kernel_rfl) (by kernel_rfl) (by kernel_rfl) (fun _ _ _ h => h) (Or.inl ⟨by rfl, ?_⟩) hHeld ?_
  · intro w' hSw
    go_simp <;> rfl
  try simp only [Act.put, List.getElem_toArray, List.getElem_cons_zero, List.getElem_cons_succ, List.setIfInBounds_toArray, List.set_cons_zero, List.set_cons_succ]
  refine wpAnyH_take (i := 12) (v := .agg #[.bool b.v.has, .int .i64 b.v.o.kind, .slice b.aI b.v.o.ints.length b.cI, .slice b.aR b.v.o.refs.length b.cR]) rfl (by kernel_rfl) (by kernel_rfl) (by kernel_rfl) (fun _ _ _ h => h) (Or.inl ⟨by rfl, ?_⟩) hHeld ?_
  · intro w' hSw
    go_simp <;> rfl
  try simp only [Act.put, List.getElem_toArray, List.getElem_cons_zero, List.getElem_cons_succ, List.setIfInBounds_toArray, List.set_cons_zero, List.set_cons_succ]
  refine wpAnyH_take (i := 13) (v := .pointer (some ⟨w.heap.size + 1, 7, none⟩)) rfl (by kernel_rfl) (by kernel_rfl) (by kernel_rfl) (fun _ _ _ h => h) (Or.inl ⟨by rfl, ?_⟩) hHeld ?_
  · intro w' hSw
    go_simp <;> rfl
  try simp only [Act.put, List.getElem_toArray, List.getElem_cons_zero, List.getElem_cons_succ, List.setIfInBounds_toArray, List.set_cons_zero, List.set_cons_succ]
  refine wpAnyH_take (i := 14) (v := .agg #[.bool a.v.has, .int .i64 a.v.o.kind, .slice a.aI a.v.o.ints.length a.cI, .slice a.aR a.v.o.refs.length a.cR]) rfl (by kernel_rfl) (by kernel_rfl) (by kernel_rfl) (fun _ _ _ h => h) (Or.inl ⟨by rfl, ?_⟩) hHeld ?_
  · intro w' hSw
    go_simp <;> rfl
  try simp only [Act.put, List.getElem_toArray, List.getElem_cons_zero, List.getElem_cons_succ, List.setIfInBounds_toArray, List.set_cons_zero, List.set_cons_succ]
  refine wpAnyH_ready (rs := [8]) (by kernel_rfl) (by simp) ?_
  refine AllReadyH.cons rfl (fun K hK => ?_) AllReadyH.nil
  go_simp
  refine (kind_setDeed tx prev oid b a _).mono ?_
  rintro e u1 ⟨rfl, hb1⟩
  have hB1 : Below W.heap.size W u1 := ((Below.refl _ _).drew).trans hb1
  refine hK.out _ _ (HC.out _ (HB.out _ hB1).2) (fun hHeld => ?_)
  clear hK K
  try simp only [Act.put, List.getElem_toArray, List.getElem_cons_zero, List.getElem_cons_succ, List.setIfInBounds_toArray, List.set_cons_zero, List.set_cons_succ]
  have hBL := hB1
  refine wpAnyH_take (i := 15) (v := .agg (RecA.cells (⟨n, tx, prev, 1, oid, b, a, 0, [], none, 0⟩)).toArray) rfl (by kernel_rfl) (by kernel_rfl) (by kernel_rfl) (fun _ _ _ h => h) (Or.inl ⟨by rfl, ?_⟩) hHeld ?_
  · intro w' hSw
    go_simp <;> rfl
  try simp only [Act.put, List.getElem_toArray, List.getElem_cons_zero, List.getElem_cons_succ, List.setIfInBounds_toArray, List.set_cons_zero, List.set_cons_succ]
  obtain ⟨WF, hWF, bF, hwF, hsF⟩ := range_fill [] [.int .i64 0, .int .i64 0, .int .i64 0, .int .i64 0, .int .i64 0, .bool false, .int .i64 0, .slice none 0 0, .slice none 0 0, .bool false, .int .i64 0, .slice none 0 0, .slice none 0 0, .int .i64 0, .slice none 0 0] (RecA.cells (⟨n, tx, prev, 1, oid, b, a, 0, [], none, 0⟩)) [] (by simpa using (HB.out _ hBL).1) rfl
  have HF : Hid (Below w.heap.size w WF) := (hbW.trans (hBL.mono hbW.size)).trans (hwF.below (by omega) (by have := hBL.size; omega))
  have HLD : Hid (_ = _) := rec_load (⟨n, tx, prev, 1, oid, b, a, 0, [], none, 0⟩) (by simpa using bF)
  have HS : Hid (WF.cell? ⟨w.heap.size + 1, 0, none⟩ = some (.int .i64 tx) ∧ WF.cell? ⟨w.heap.size + 1, 1, none⟩ = some (.int .i64 prev) ∧ WF.cell? ⟨w.heap.size + 1, 2, none⟩ = some (.int .i64 oid) ∧ WF.cell? ⟨w.heap.size + 1, 3, none⟩ = some (.bool b.v.has) ∧ WF.cell? ⟨w.heap.size + 1, 4, none⟩ = some (.int .i64 b.v.o.kind) ∧ WF.cell? ⟨w.heap.size + 1, 5, none⟩ = some (.slice b.aI b.v.o.ints.length b.cI) ∧ WF.cell? ⟨w.heap.size + 1, 6, none⟩ = some (.slice b.aR b.v.o.refs.length b.cR) ∧ WF.cell? ⟨w.heap.size + 1, 7, none⟩ = some (.bool a.v.has) ∧ WF.cell? ⟨w.heap.size + 1, 8, none⟩ = some (.int .i64 a.v.o.kind) ∧ WF.cell? ⟨w.heap.size + 1, 9, none⟩ = some (.slice a.aI a.v.o.ints.length a.cI) ∧ WF.cell? ⟨w.heap.size + 1, 10, none⟩ = some (.slice a.aR a.v.o.refs.length a.cR)) := HC.out _ ((HB.out _ hBL).2.within hwF (by omega))
  refine wpAnyH_ready (rs := [16]) (by kernel_rfl) (by simp) ?_
  refine AllReadyH.cons rfl (fun K hK => ?_) AllReadyH.nil
  rw [if_pos (by rfl)]
  refine wp_store_mid 39 (.tmp 4) (.tmp 30) rfl w.heap.size 0 (RecA.cells (⟨n, tx, prev, 1, oid, b, a, 0, [], none, 0⟩)).toArray rfl rfl ((HB.out _ hBL).1.there 0 _ (by show 0 + 15 ≤ 15; decide)) HI.out HO.out ?_
  have HW : Hid (u1.setCells w.heap.size 0 (RecA.cells (⟨n, tx, prev, 1, oid, b, a, 0, [], none, 0⟩)).toArray.toList = WF) := hWF.out
  rw [HW.out]
  refine hK.out _ _ HS.out (fun hHeld => ?_)
  refine wpAnyH_done (by kernel_rfl) ?_ _
  clear hwF hWF HW hK K HS
  go_wp2
  exact bodyPost_ret (v := .agg (RecA.cells (⟨n, tx, prev, 1, oid, b, a, 0, [], none, 0⟩)).toArray) (results_one Tryz.results69 rfl HLD.out) rfl ⟨rfl, HF.out⟩

set_option maxHeartbeats 4000000 in
set_option maxRecDepth 100000 in
theorem recOf_commit (n : Int) (tx prev : Int) (w : World) :
    Calls Tryz.prog 69 #[.int .i64 n, iscommitDeed (linkD tx prev)] w fun e w' => e = .returned (.agg (RecA.cells (recA n tx prev 2)).toArray) ∧ Below w.heap.size w w' := by
  obtain ⟨W, hW, b0, b1, hbW, hsW⟩ := boxes2 w [.int .i64 0, .int .i64 0, .int .i64 0, .int .i64 0, .int .i64 0, .bool false, .int .i64 0, .slice none 0 0, .slice none 0 0, .bool false, .int .i64 0, .slice none 0 0, .slice none 0 0, .int .i64 0, .slice none 0 0] [.int .i64 tx, .int .i64 prev] 39 136
  simp only [iscommitDeed, linkD]
  have a_setDeed := fun W => no_setDeed W 136 (.agg #[.int .i64 tx, .int .i64 prev]) (by decide)
  have a_commitDeed := fun W => yes_commitDeed W (.agg #[.int .i64 tx, .int .i64 prev])
  have HB : Hid (∀ u, Below W.heap.size W u → Box u w.heap.size [.int .i64 0, .int .i64 0, .int .i64 0, .int .i64 0, .int .i64 0, .bool false, .int .i64 0, .slice none 0 0, .slice none 0 0, .bool false, .int .i64 0, .slice none 0 0, .slice none 0 0, .int .i64 0, .slice none 0 0] 39 ∧ Box u (w.heap.size + 1) [.int .i64 tx, .int .i64 prev] 136) := fun u hu => ⟨b0.below hu b0.lt, b1.below hu b1.lt⟩
  have HC : Hid (∀ w', Box w' (w.heap.size + 1) [.int .i64 tx, .int .i64 prev] 136 → w'.cell? ⟨w.heap.size + 1, 0, none⟩ = some (.int .i64 tx) ∧ w'.cell? ⟨w.heap.size + 1, 1, none⟩ = some (.int .i64 prev)) := fun w' b => ⟨b.cell 0 _ rfl, b.cell 1 _ rfl⟩
  have hh := HC.out W b1
  have hlt := b1.lt
  have HI : Hid ((Tryz.prog.info? 39).map (·.size) = some 15) := by rw [Hid]; kernel_rfl
  have HO : Hid (_) := all_oneCell_toArray (oneR (recA n tx prev 2))
  clear hsW b0 b1
  go_enter Tryz.func69, Tryz.ntmps69
  go_wp2_with fail
  rw [hW.out]
  clear hW a_setDeed a_commitDeed
  refine wp_region_held_drew (S := fun w' => w'.cell? ⟨w.heap.size + 1, 0, none⟩ = some (.int .i64 tx) ∧ w'.cell? ⟨w.heap.size + 1, 1, none⟩ = some (.int .i64 prev)) (by kernel_rfl) (HC.out _ (HB.out _ (Below.refl _ _).drew).2) (fun hHeld => ?_)
  refine wpAnyH_take (i := 0) (v := .int .i64 n) rfl (by kernel_rfl) (by kernel_rfl) (by kernel_rfl) (fun _ _ _ h => h) (Or.inl ⟨by rfl, ?_⟩) hHeld ?_
  · intro w' hSw
    go_simp <;> rfl
  try simp only [Act.put, List.getElem_toArray, List.getElem_cons_zero, List.setIfInBounds_toArray, List.set_cons_zero, List.set_cons_succ]
  refine wpAnyH_take (i := 1) (v := .pointer (some ⟨w.heap.size + 1, 0, none⟩)) rfl (by kernel_rfl) (by kernel_rfl) (by kernel_rfl) (fun _ _ _ h => h) (Or.inl ⟨by rfl, ?_⟩) hHeld ?_
  · intro w' hSw
    go_simp <;> rfl
  try simp only [Act.put, List.getElem_toArray, List.getElem_cons_zero, List.getElem_cons_succ, List.setIfInBounds_toArray, List.set_cons_zero, List.set_cons_succ]
  refine wpAnyH_take (i := 2) (v := .agg #[.int .i64 tx, .int .i64 prev]) rfl (by kernel_rfl) (by kernel_rfl) (by kernel_rfl) (fun _ _ _ h => h) (Or.inl ⟨by rfl, ?_⟩) hHeld ?_
  · intro w' hSw
    go_simp <;> rfl
  try simp only [Act.put, List.getElem_toArray, List.getElem_cons_zero, List.getElem_cons_succ, List.setIfInBounds_toArray, List.set_cons_zero, List.set_cons_succ]
  refine wpAnyH_take (i := 3) (v := .agg #[.int .i64 tx, .int .i64 prev]) rfl (by kernel_rfl) (by kernel_rfl) (by kernel_rfl) (fun _ _ _ h => h) (Or.inl ⟨by rfl, ?_⟩) hHeld ?_
  · intro w' hSw
    go_simp <;> rfl
  try simp only [Act.put, List.getElem_toArray, List.getElem_cons_zero, List.getElem_cons_succ, List.setIfInBounds_toArray, List.set_cons_zero, List.set_cons_succ]
  refine wpAnyH_ready (rs := [4]) (by kernel_rfl) (by simp) ?_
  refine AllReadyH.cons rfl (fun K hK => ?_) AllReadyH.nil
  go_simp
  refine (kind_commitDeed tx prev _).mono ?_
  rintro e u1 ⟨rfl, hb1⟩
  have hB1 : Below W.heap.size W u1 := ((Below.refl _ _).drew).trans hb1
  refine hK.out _ _ (HC.out _ (HB.out _ hB1).2) (fun hHeld => ?_)
  clear hK K
  try simp only [Act.put, List.getElem_toArray, List.getElem_cons_zero, List.getElem_cons_succ, List.setIfInBounds_toArray, List.set_cons_zero, List.set_cons_succ]
  refine wpAnyH_ready (rs := [5]) (by kernel_rfl) (by simp) ?_
  refine AllReadyH.cons rfl (fun K hK => ?_) AllReadyH.nil
  go_simp
  refine (recAt_any n tx prev 2 _).mono ?_
  rintro e u2 ⟨rfl, hb2⟩
  have hBL : Below W.heap.size W u2 := hB1.trans (hb2.mono hB1.size)
  refine hK.out _ _ (HC.out _ (HB.out _ hBL).2) (fun hHeld => ?_)
  clear hK K
  try simp only [Act.put, List.getElem_toArray, List.getElem_cons_zero, List.getElem_cons_succ, List.setIfInBounds_toArray, List.set_cons_zero, List.set_cons_succ]
  obtain ⟨WF, hWF, bF, hwF, hsF⟩ := range_fill [] [.int .i64 0, .int .i64 0, .int .i64 0, .int .i64 0, .int .i64 0, .bool false, .int .i64 0, .slice none 0 0, .slice none 0 0, .bool false, .int .i64 0, .slice none 0 0, .slice none 0 0, .int .i64 0, .slice none 0 0] (RecA.cells (recA n tx prev 2)) [] (by simpa using (HB.out _ hBL).1) rfl
  have HF : Hid (Below w.heap.size w WF) := (hbW.trans (hBL.mono hbW.size)).trans (hwF.below (by omega) (by have := hBL.size; omega))
  have HLD : Hid (_ = _) := rec_load (recA n tx prev 2) (by simpa using bF)
  have HS : Hid (WF.cell? ⟨w.heap.size + 1, 0, none⟩ = some (.int .i64 tx) ∧ WF.cell? ⟨w.heap.size + 1, 1, none⟩ = some (.int .i64 prev)) := HC.out _ ((HB.out _ hBL).2.within hwF (by omega))
  refine wpAnyH_ready (rs := [6]) (by kernel_rfl) (by simp) ?_
  refine AllReadyH.cons rfl (fun K hK => ?_) AllReadyH.nil
  rw [if_pos (by rfl)]
  refine wp_store_mid 39 (.tmp 4) (.tmp 39) rfl w.heap.size 0 (RecA.cells (recA n tx prev 2)).toArray rfl rfl ((HB.out _ hBL).1.there 0 _ (by show 0 + 15 ≤ 15; decide)) HI.out HO.out ?_
  have HW : Hid (u2.setCells w.heap.size 0 (RecA.cells (recA n tx prev 2)).toArray.toList = WF) := hWF.out
  rw [HW.out]
  refine hK.out _ _ HS.out (fun hHeld => ?_)
  refine wpAnyH_done (by kernel_rfl) ?_ _
  clear hwF hWF HW hK K HS
  go_wp2
  exact bodyPost_ret (v := .agg (RecA.cells (recA n tx prev 2)).toArray) (results_one Tryz.results69 rfl HLD.out) rfl ⟨rfl, HF.out⟩

set_option maxHeartbeats 4000000 in
set_option maxRecDepth 100000 in
theorem recOf_abort (n : Int) (tx prev : Int) (w : World) :
    Calls Tryz.prog 69 #[.int .i64 n, isabortDeed (linkD tx prev)] w fun e w' => e = .returned (.agg (RecA.cells (recA n tx prev 3)).toArray) ∧ Below w.heap.size w w' := by
  obtain ⟨W, hW, b0, b1, hbW, hsW⟩ := boxes2 w [.int .i64 0, .int .i64 0, .int .i64 0, .int .i64 0, .int .i64 0, .bool false, .int .i64 0, .slice none 0 0, .slice none 0 0, .bool false, .int .i64 0, .slice none 0 0, .slice none 0 0, .int .i64 0, .slice none 0 0] [.int .i64 tx, .int .i64 prev] 39 137
  simp only [isabortDeed, linkD]
  have a_setDeed := fun W => no_setDeed W 137 (.agg #[.int .i64 tx, .int .i64 prev]) (by decide)
  have a_commitDeed := fun W => no_commitDeed W 137 (.agg #[.int .i64 tx, .int .i64 prev]) (by decide)
  have a_abortDeed := fun W => yes_abortDeed W (.agg #[.int .i64 tx, .int .i64 prev])
  have HB : Hid (∀ u, Below W.heap.size W u → Box u w.heap.size [.int .i64 0, .int .i64 0, .int .i64 0, .int .i64 0, .int .i64 0, .bool false, .int .i64 0, .slice none 0 0, .slice none 0 0, .bool false, .int .i64 0, .slice none 0 0, .slice none 0 0, .int .i64 0, .slice none 0 0] 39 ∧ Box u (w.heap.size + 1) [.int .i64 tx, .int .i64 prev] 137) := fun u hu => ⟨b0.below hu b0.lt, b1.below hu b1.lt⟩
  have HC : Hid (∀ w', Box w' (w.heap.size + 1) [.int .i64 tx, .int .i64 prev] 137 → w'.cell? ⟨w.heap.size + 1, 0, none⟩ = some (.int .i64 tx) ∧ w'.cell? ⟨w.heap.size + 1, 1, none⟩ = some (.int .i64 prev)) := fun w' b => ⟨b.cell 0 _ rfl, b.cell 1 _ rfl⟩
  have hh := HC.out W b1
  have hlt := b1.lt
  have HI : Hid ((Tryz.prog.info? 39).map (·.size) = some 15) := by rw [Hid]; kernel_rfl
  have HO : Hid (_) := all_oneCell_toArray (oneR (recA n tx prev 3))
  clear hsW b0 b1
  go_enter Tryz.func69, Tryz.ntmps69
  go_wp2_with fail
  rw [hW.out]
  clear hW a_setDeed a_commitDeed a_abortDeed
  refine wp_region_held_drew (S := fun w' => w'.cell? ⟨w.heap.size + 1, 0, none⟩ = some (.int .i64 tx) ∧ w'.cell? ⟨w.heap.size + 1, 1, none⟩ = some (.int .i64 prev)) (by kernel_rfl) (HC.out _ (HB.out _ (Below.refl _ _).drew).2) (fun hHeld => ?_)
  refine wpAnyH_take (i := 0) (v := .int .i64 n) rfl (by kernel_rfl) (by kernel_rfl) (by kernel_rfl) (fun _ _ _ h => h) (Or.inl ⟨by rfl, ?_⟩) hHeld ?_
  · intro w' hSw
    go_simp <;> rfl
  try simp only [Act.put, List.getElem_toArray, List.getElem_cons_zero, List.setIfInBounds_toArray, List.set_cons_zero, List.set_cons_succ]
  refine wpAnyH_take (i := 1) (v := .pointer (some ⟨w.heap.size + 1, 0, none⟩)) rfl (by kernel_rfl) (by kernel_rfl) (by kernel_rfl) (fun _ _ _ h => h) (Or.inl ⟨by rfl, ?_⟩) hHeld ?_
  · intro w' hSw
    go_simp <;> rfl
  try simp only [Act.put, List.getElem_toArray, List.getElem_cons_zero, List.getElem_cons_succ, List.setIfInBounds_toArray, List.set_cons_zero, List.set_cons_succ]
  refine wpAnyH_take (i := 2) (v := .agg #[.int .i64 tx, .int .i64 prev]) rfl (by kernel_rfl) (by kernel_rfl) (by kernel_rfl) (fun _ _ _ h => h) (Or.inl ⟨by rfl, ?_⟩) hHeld ?_
  · intro w' hSw
    go_simp <;> rfl
  try simp only [Act.put, List.getElem_toArray, List.getElem_cons_zero, List.getElem_cons_succ, List.setIfInBounds_toArray, List.set_cons_zero, List.set_cons_succ]
  refine wpAnyH_take (i := 3) (v := .agg #[.int .i64 tx, .int .i64 prev]) rfl (by kernel_rfl) (by kernel_rfl) (by kernel_rfl) (fun _ _ _ h => h) (Or.inl ⟨by rfl, ?_⟩) hHeld ?_
  · intro w' hSw
    go_simp <;> rfl
  try simp only [Act.put, List.getElem_toArray, List.getElem_cons_zero, List.getElem_cons_succ, List.setIfInBounds_toArray, List.set_cons_zero, List.set_cons_succ]
  refine wpAnyH_ready (rs := [4]) (by kernel_rfl) (by simp) ?_
  refine AllReadyH.cons rfl (fun K hK => ?_) AllReadyH.nil
  go_simp
  refine (kind_abortDeed tx prev _).mono ?_
  rintro e u1 ⟨rfl, hb1⟩
  have hB1 : Below W.heap.size W u1 := ((Below.refl _ _).drew).trans hb1
  refine hK.out _ _ (HC.out _ (HB.out _ hB1).2) (fun hHeld => ?_)
  clear hK K
  try simp only [Act.put, List.getElem_toArray, List.getElem_cons_zero, List.getElem_cons_succ, List.setIfInBounds_toArray, List.set_cons_zero, List.set_cons_succ]
  refine wpAnyH_ready (rs := [5]) (by kernel_rfl) (by simp) ?_
  refine AllReadyH.cons rfl (fun K hK => ?_) AllReadyH.nil
  go_simp
  refine (recAt_any n tx prev 3 _).mono ?_
  rintro e u2 ⟨rfl, hb2⟩
  have hBL : Below W.heap.size W u2 := hB1.trans (hb2.mono hB1.size)
  refine hK.out _ _ (HC.out _ (HB.out _ hBL).2) (fun hHeld => ?_)
  clear hK K
  try simp only [Act.put, List.getElem_toArray, List.getElem_cons_zero, List.getElem_cons_succ, List.setIfInBounds_toArray, List.set_cons_zero, List.set_cons_succ]
  obtain ⟨WF, hWF, bF, hwF, hsF⟩ := range_fill [] [.int .i64 0, .int .i64 0, .int .i64 0, .int .i64 0, .int .i64 0, .bool false, .int .i64 0, .slice none 0 0, .slice none 0 0, .bool false, .int .i64 0, .slice none 0 0, .slice none 0 0, .int .i64 0, .slice none 0 0] (RecA.cells (recA n tx prev 3)) [] (by simpa using (HB.out _ hBL).1) rfl
  have HF : Hid (Below w.heap.size w WF) := (hbW.trans (hBL.mono hbW.size)).trans (hwF.below (by omega) (by have := hBL.size; omega))
  have HLD : Hid (_ = _) := rec_load (recA n tx prev 3) (by simpa using bF)
  have HS : Hid (WF.cell? ⟨w.heap.size + 1, 0, none⟩ = some (.int .i64 tx) ∧ WF.cell? ⟨w.heap.size + 1, 1, none⟩ = some (.int .i64 prev)) := HC.out _ ((HB.out _ hBL).2.within hwF (by omega))
  refine wpAnyH_ready (rs := [6]) (by kernel_rfl) (by simp) ?_
  refine AllReadyH.cons rfl (fun K hK => ?_) AllReadyH.nil
  rw [if_pos (by rfl)]
  refine wp_store_mid 39 (.tmp 4) (.tmp 48) rfl w.heap.size 0 (RecA.cells (recA n tx prev 3)).toArray rfl rfl ((HB.out _ hBL).1.there 0 _ (by show 0 + 15 ≤ 15; decide)) HI.out HO.out ?_
  have HW : Hid (u2.setCells w.heap.size 0 (RecA.cells (recA n tx prev 3)).toArray.toList = WF) := hWF.out
  rw [HW.out]
  refine hK.out _ _ HS.out (fun hHeld => ?_)
  refine wpAnyH_done (by kernel_rfl) ?_ _
  clear hwF hWF HW hK K HS
  go_wp2
  exact bodyPost_ret (v := .agg (RecA.cells (recA n tx prev 3)).toArray) (results_one Tryz.results69 rfl HLD.out) rfl ⟨rfl, HF.out⟩

set_option maxHeartbeats 4000000 in
set_option maxRecDepth 100000 in
theorem recOf_back (n : Int) (tx prev oid : Int) (a : SlotA) (next : Int) (w : World) :
    Calls Tryz.prog 69 #[.int .i64 n, isbackDeed (backD tx prev oid a next)] w fun e w' => e = .returned (.agg (RecA.cells (⟨n, tx, prev, 4, oid, zeroS, a, next, [], none, 0⟩)).toArray) ∧ Below w.heap.size w w' := by
  obtain ⟨W, hW, b0, b1, hbW, hsW⟩ := boxes2 w [.int .i64 0, .int .i64 0, .int .i64 0, .int .i64 0, .int .i64 0, .bool false, .int .i64 0, .slice none 0 0, .slice none 0 0, .bool false, .int .i64 0, .slice none 0 0, .slice none 0 0, .int .i64 0, .slice none 0 0] [.int .i64 tx, .int .i64 prev, .int .i64 oid, .bool a.v.has, .int .i64 a.v.o.kind, .slice a.aI a.v.o.ints.length a.cI, .slice a.aR a.v.o.refs.length a.cR, .int .i64 next] 39 139
  simp only [isbackDeed, backD]
  have a_setDeed := fun W => no_setDeed W 139 (.agg #[.int .i64 tx, .int .i64 prev, .int .i64 oid, .bool a.v.has, .int .i64 a.v.o.kind, .slice a.aI a.v.o.ints.length a.cI, .slice a.aR a.v.o.refs.length a.cR, .int .i64 next]) (by decide)
  have a_commitDeed := fun W => no_commitDeed W 139 (.agg #[.int .i64 tx, .int .i64 prev, .int .i64 oid, .bool a.v.has, .int .i64 a.v.o.kind, .slice a.aI a.v.o.ints.length a.cI, .slice a.aR a.v.o.refs.length a.cR, .int .i64 next]) (by decide)
  have a_abortDeed := fun W => no_abortDeed W 139 (.agg #[.int .i64 tx, .int .i64 prev, .int .i64 oid, .bool a.v.has, .int .i64 a.v.o.kind, .slice a.aI a.v.o.ints.length a.cI, .slice a.aR a.v.o.refs.length a.cR, .int .i64 next]) (by decide)
  have a_backDeed := fun W => yes_backDeed W (.agg #[.int .i64 tx, .int .i64 prev, .int .i64 oid, .bool a.v.has, .int .i64 a.v.o.kind, .slice a.aI a.v.o.ints.length a.cI, .slice a.aR a.v.o.refs.length a.cR, .int .i64 next])
  have HB : Hid (∀ u, Below W.heap.size W u → Box u w.heap.size [.int .i64 0, .int .i64 0, .int .i64 0, .int .i64 0, .int .i64 0, .bool false, .int .i64 0, .slice none 0 0, .slice none 0 0, .bool false, .int .i64 0, .slice none 0 0, .slice none 0 0, .int .i64 0, .slice none 0 0] 39 ∧ Box u (w.heap.size + 1) [.int .i64 tx, .int .i64 prev, .int .i64 oid, .bool a.v.has, .int .i64 a.v.o.kind, .slice a.aI a.v.o.ints.length a.cI, .slice a.aR a.v.o.refs.length a.cR, .int .i64 next] 139) := fun u hu => ⟨b0.below hu b0.lt, b1.below hu b1.lt⟩
  have HC : Hid (∀ w', Box w' (w.heap.size + 1) [.int .i64 tx, .int .i64 prev, .int .i64 oid, .bool a.v.has, .int .i64 a.v.o.kind, .slice a.aI a.v.o.ints.length a.cI, .slice a.aR a.v.o.refs.length a.cR, .int .i64 next] 139 → w'.cell? ⟨w.heap.size + 1, 0, none⟩ = some (.int .i64 tx) ∧ w'.cell? ⟨w.heap.size + 1, 1, none⟩ = some (.int .i64 prev) ∧ w'.cell? ⟨w.heap.size + 1, 2, none⟩ = some (.int .i64 oid) ∧ w'.cell? ⟨w.heap.size + 1, 3, none⟩ = some (.bool a.v.has) ∧ w'.cell? ⟨w.heap.size + 1, 4, none⟩ = some (.int .i64 a.v.o.kind) ∧ w'.cell? ⟨w.heap.size + 1, 5, none⟩ = some (.slice a.aI a.v.o.ints.length a.cI) ∧ w'.cell? ⟨w.heap.size + 1, 6, none⟩ = some (.slice a.aR a.v.o.refs.length a.cR) ∧ w'.cell? ⟨w.heap.size + 1, 7, none⟩ = some (.int .i64 next)) := fun w' b => ⟨b.cell 0 _ rfl, b.cell 1 _ rfl, b.cell 2 _ rfl, b.cell 3 _ rfl, b.cell 4 _ rfl, b.cell 5 _ rfl, b.cell 6 _ rfl, b.cell 7 _ rfl⟩
  have hh := HC.out W b1
  have hlt := b1.lt
  have HI : Hid ((Tryz.prog.info? 39).map (·.size) = some 15) := by rw [Hid]; kernel_rfl
  have HO : Hid (_) := all_oneCell_toArray (oneR (⟨n, tx, prev, 4, oid, zeroS, a, next, [], none, 0⟩))
  clear hsW b0 b1
  go_enter Tryz.func69, Tryz.ntmps69
  go_wp2_with fail
  rw [hW.out]
  clear hW a_setDeed a_commitDeed a_abortDeed a_backDeed
  refine wp_region_held_drew (S := fun w' => w'.cell? ⟨w.heap.size + 1, 0, none⟩ = some (.int .i64 tx) ∧ w'.cell? ⟨w.heap.size + 1, 1, none⟩ = some (.int .i64 prev) ∧ w'.cell? ⟨w.heap.size + 1, 2, none⟩ = some (.int .i64 oid) ∧ w'.cell? ⟨w.heap.size + 1, 3, none⟩ = some (.bool a.v.has) ∧ w'.cell? ⟨w.heap.size + 1, 4, none⟩ = some (.int .i64 a.v.o.kind) ∧ w'.cell? ⟨w.heap.size + 1, 5, none⟩ = some (.slice a.aI a.v.o.ints.length a.cI) ∧ w'.cell? ⟨w.heap.size + 1, 6, none⟩ = some (.slice a.aR a.v.o.refs.length a.cR) ∧ w'.cell? ⟨w.heap.size + 1, 7, none⟩ = some (.int .i64 next)) (by kernel_rfl) (HC.out _ (HB.out _ (Below.refl _ _).drew).2) (fun hHeld => ?_)
  refine wpAnyH_take (i := 0) (v := .int .i64 n) rfl (by kernel_rfl) (by kernel_rfl) (by kernel_rfl) (fun _ _ _ h => h) (Or.inl ⟨by rfl, ?_⟩) hHeld ?_
  · intro w' hSw
    go_simp <;> rfl
  try simp only [Act.put, List.getElem_toArray, List.getElem_cons_zero, List.setIfInBounds_toArray, List.set_cons_zero, List.set_cons_succ]
  refine wpAnyH_take (i := 1) (v := .pointer (some ⟨w.heap.size + 1, 0, none⟩)) rfl (by kernel_rfl) (by kernel_rfl) (by kernel_rfl) (fun _ _ _ h => h) (Or.inl ⟨by rfl, ?_⟩) hHeld ?_
  · intro w' hSw
    go_simp <;> rfl
  try simp only [Act.put, List.getElem_toArray, List.getElem_cons_zero, List.getElem_cons_succ, List.setIfInBounds_toArray, List.set_cons_zero, List.set_cons_succ]
  refine wpAnyH_take (i := 2) (v := .pointer (some ⟨w.heap.size + 1, 0, none⟩)) rfl (by kernel_rfl) (by kernel_rfl) (by kernel_rfl) (fun _ _ _ h => h) (Or.inl ⟨by rfl, ?_⟩) hHeld ?_
  · intro w' hSw
    go_simp <;> rfl
  try simp only [Act.put, List.getElem_toArray, List.getElem_cons_zero, List.getElem_cons_succ, List.setIfInBounds_toArray, List.set_cons_zero, List.set_cons_succ]
  refine wpAnyH_take (i := 3) (v := .int .i64 tx) rfl (by kernel_rfl) (by kernel_rfl) (by kernel_rfl) (fun _ _ _ h => h) (Or.inl ⟨by rfl, ?_⟩) hHeld ?_
  · intro w' hSw
    go_simp <;> rfl
  try simp only [Act.put, List.getElem_toArray, List.getElem_cons_zero, List.getElem_cons_succ, List.setIfInBounds_toArray, List.set_cons_zero, List.set_cons_succ]
  refine wpAnyH_take (i := 4) (v := .pointer (some ⟨w.heap.size + 1, 0, none⟩)) rfl (by kernel_rfl) (by kernel_rfl) (by kernel_rfl) (fun _ _ _ h => h) (Or.inl ⟨by rfl, ?_⟩) hHeld ?_
  · intro w' hSw
    go_simp <;> rfl
  try simp only [Act.put, List.getElem_toArray, List.getElem_cons_zero, List.getElem_cons_succ, List.setIfInBounds_toArray, List.set_cons_zero, List.set_cons_succ]
  refine wpAnyH_take (i := 5) (v := .pointer (some ⟨w.heap.size + 1, 1, none⟩)) rfl (by kernel_rfl) (by kernel_rfl) (by kernel_rfl) (fun _ _ _ h => h) (Or.inl ⟨by rfl, ?_⟩) hHeld ?_
  · intro w' hSw
    go_simp <;> rfl
  try simp only [Act.put, List.getElem_toArray, List.getElem_cons_zero, List.getElem_cons_succ, List.setIfInBounds_toArray, List.set_cons_zero, List.set_cons_succ]
  refine wpAnyH_take (i := 6) (v := .int .i64 prev) rfl (by kernel_rfl) (by kernel_rfl) (by kernel_rfl) (fun _ _ _ h => h) (Or.inl ⟨by rfl, ?_⟩) hHeld ?_
  · intro w' hSw
    go_simp <;> rfl
  try simp only [Act.put, List.getElem_toArray, List.getElem_cons_zero, List.getElem_cons_succ, List.setIfInBounds_toArray, List.set_cons_zero, List.set_cons_succ]
  refine wpAnyH_take (i := 7) (v := .agg #[.int .i64 tx, .int .i64 prev, .int .i64 oid, .bool a.v.has, .int .i64 a.v.o.kind, .slice a.aI a.v.o.ints.length a.cI, .slice a.aR a.v.o.refs.length a.cR, .int .i64 next]) rfl (by kernel_rfl) (by kernel_rfl) (by kernel_rfl) (fun _ _ _ h => h) (Or.inl ⟨by rfl, ?_⟩) hHeld ?_
  · intro w' hSw
    go_simp <;> rfl
  try simp only [Act.put, List.getElem_toArray, List.getElem_cons_zero, List.getElem_cons_succ, List.setIfInBounds_toArray, List.set_cons_zero, List.set_cons_succ]
  refine wpAnyH_take (i := 9) (v := .pointer (some ⟨w.heap.size + 1, 2, none⟩)) rfl (by kernel_rfl) (by kernel_rfl) (by kernel_rfl) (fun _ _ _ h => h) (Or.inl ⟨by rfl, ?_⟩) hHeld ?_
  · intro w' hSw
    go_simp <;> rfl
  try simp only [Act.put, List.getElem_toArray, List.getElem_cons_zero, List.getElem_cons_succ, List.setIfInBounds_toArray, List.set_cons_zero, List.set_cons_succ]
  refine wpAnyH_take (i := 10) (v := .int .i64 oid) rfl (by kernel_rfl) (by kernel_rfl) (by kernel_rfl) (fun _ _ _ h => h) (Or.inl ⟨by rfl, ?_⟩) hHeld ?_
  · intro w' hSw
    go_simp <;> rfl
  try simp only [Act.put, List.getElem_toArray, List.getElem_cons_zero, List.getElem_cons_succ, List.setIfInBounds_toArray, List.set_cons_zero, List.set_cons_succ]
  refine wpAnyH_take (i := 11) (v := .pointer (some ⟨w.heap.size + 1, 3, none⟩)) rfl (by kernel_rfl) (by kernel_rfl) (by kernel_rfl) (fun _ _ _ h => h) (Or.inl ⟨by rfl, ?_⟩) hHeld ?_
  · intro w' hSw
    go_simp <;> rfl
  try simp only [Act.put, List.getElem_toArray, List.getElem_cons_zero, List.getElem_cons_succ, List.setIfInBounds_toArray, List.set_cons_zero, List.set_cons_succ]
  refine wpAnyH_take (i := 12) (v := .agg #[.bool a.v.has, .int .i64 a.v.o.kind, .slice a.aI a.v.o.ints.length a.cI, .slice a.aR a.v.o.refs.length a.cR]) rfl (by kernel_rfl) (by kernel_rfl) (by kernel_rfl) (fun _ _ _ h => h) (Or.inl ⟨by rfl, ?_⟩) hHeld ?_
  · intro w' hSw
    go_simp <;> rfl
  try simp only [Act.put, List.getElem_toArray, List.getElem_cons_zero, List.getElem_cons_succ, List.setIfInBounds_toArray, List.set_cons_zero, List.set_cons_succ]
  refine wpAnyH_take (i := 13) (v := .pointer (some ⟨w.heap.size + 1, 7, none⟩)) rfl (by kernel_rfl) (by kernel_rfl) (by kernel_rfl) (fun _ _ _ h => h) (Or.inl ⟨by rfl, ?_⟩) hHeld ?_
  · intro w' hSw
    go_simp <;> rfl
  try simp only [Act.put, List.getElem_toArray, List.getElem_cons_zero, List.getElem_cons_succ, List.setIfInBounds_toArray, List.set_cons_zero, List.set_cons_succ]
  refine wpAnyH_take (i := 14) (v := .int .i64 next) rfl (by kernel_rfl) (by kernel_rfl) (by kernel_rfl) (fun _ _ _ h => h) (Or.inl ⟨by rfl, ?_⟩) hHeld ?_
  · intro w' hSw
    go_simp <;> rfl
  try simp only [Act.put, List.getElem_toArray, List.getElem_cons_zero, List.getElem_cons_succ, List.setIfInBounds_toArray, List.set_cons_zero, List.set_cons_succ]
  refine wpAnyH_ready (rs := [8]) (by kernel_rfl) (by simp) ?_
  refine AllReadyH.cons rfl (fun K hK => ?_) AllReadyH.nil
  go_simp
  refine (kind_backDeed tx prev oid a next _).mono ?_
  rintro e u1 ⟨rfl, hb1⟩
  have hB1 : Below W.heap.size W u1 := ((Below.refl _ _).drew).trans hb1
  refine hK.out _ _ (HC.out _ (HB.out _ hB1).2) (fun hHeld => ?_)
  clear hK K
  try simp only [Act.put, List.getElem_toArray, List.getElem_cons_zero, List.getElem_cons_succ, List.setIfInBounds_toArray, List.set_cons_zero, List.set_cons_succ]
  have hBL := hB1
  refine wpAnyH_take (i := 15) (v := .agg (RecA.cells (⟨n, tx, prev, 4, oid, zeroS, a, next, [], none, 0⟩)).toArray) rfl (by kernel_rfl) (by kernel_rfl) (by kernel_rfl) (fun _ _ _ h => h) (Or.inl ⟨by rfl, ?_⟩) hHeld ?_
  · intro w' hSw
    go_simp <;> rfl
  try simp only [Act.put, List.getElem_toArray, List.getElem_cons_zero, List.getElem_cons_succ, List.setIfInBounds_toArray, List.set_cons_zero, List.set_cons_succ]
  obtain ⟨WF, hWF, bF, hwF, hsF⟩ := range_fill [] [.int .i64 0, .int .i64 0, .int .i64 0, .int .i64 0, .int .i64 0, .bool false, .int .i64 0, .slice none 0 0, .slice none 0 0, .bool false, .int .i64 0, .slice none 0 0, .slice none 0 0, .int .i64 0, .slice none 0 0] (RecA.cells (⟨n, tx, prev, 4, oid, zeroS, a, next, [], none, 0⟩)) [] (by simpa using (HB.out _ hBL).1) rfl
  have HF : Hid (Below w.heap.size w WF) := (hbW.trans (hBL.mono hbW.size)).trans (hwF.below (by omega) (by have := hBL.size; omega))
  have HLD : Hid (_ = _) := rec_load (⟨n, tx, prev, 4, oid, zeroS, a, next, [], none, 0⟩) (by simpa using bF)
  have HS : Hid (WF.cell? ⟨w.heap.size + 1, 0, none⟩ = some (.int .i64 tx) ∧ WF.cell? ⟨w.heap.size + 1, 1, none⟩ = some (.int .i64 prev) ∧ WF.cell? ⟨w.heap.size + 1, 2, none⟩ = some (.int .i64 oid) ∧ WF.cell? ⟨w.heap.size + 1, 3, none⟩ = some (.bool a.v.has) ∧ WF.cell? ⟨w.heap.size + 1, 4, none⟩ = some (.int .i64 a.v.o.kind) ∧ WF.cell? ⟨w.heap.size + 1, 5, none⟩ = some (.slice a.aI a.v.o.ints.length a.cI) ∧ WF.cell? ⟨w.heap.size + 1, 6, none⟩ = some (.slice a.aR a.v.o.refs.length a.cR) ∧ WF.cell? ⟨w.heap.size + 1, 7, none⟩ = some (.int .i64 next)) := HC.out _ ((HB.out _ hBL).2.within hwF (by omega))
  refine wpAnyH_ready (rs := [16]) (by kernel_rfl) (by simp) ?_
  refine AllReadyH.cons rfl (fun K hK => ?_) AllReadyH.nil
  rw [if_pos (by rfl)]
  refine wp_store_mid 39 (.tmp 4) (.tmp 67) rfl w.heap.size 0 (RecA.cells (⟨n, tx, prev, 4, oid, zeroS, a, next, [], none, 0⟩)).toArray rfl rfl ((HB.out _ hBL).1.there 0 _ (by show 0 + 15 ≤ 15; decide)) HI.out HO.out ?_
  have HW : Hid (u1.setCells w.heap.size 0 (RecA.cells (⟨n, tx, prev, 4, oid, zeroS, a, next, [], none, 0⟩)).toArray.toList = WF) := hWF.out
  rw [HW.out]
  refine hK.out _ _ HS.out (fun hHeld => ?_)
  refine wpAnyH_done (by kernel_rfl) ?_ _
  clear hwF hWF HW hK K HS
  go_wp2
  exact bodyPost_ret (v := .agg (RecA.cells (⟨n, tx, prev, 4, oid, zeroS, a, next, [], none, 0⟩)).toArray) (results_one Tryz.results69 rfl HLD.out) rfl ⟨rfl, HF.out⟩

set_option maxHeartbeats 4000000 in
set_option maxRecDepth 100000 in
theorem recOf_end (n : Int) (tx prev : Int) (w : World) :
    Calls Tryz.prog 69 #[.int .i64 n, isendDeed (linkD tx prev)] w fun e w' => e = .returned (.agg (RecA.cells (recA n tx prev 5)).toArray) ∧ Below w.heap.size w w' := by
  obtain ⟨W, hW, b0, b1, hbW, hsW⟩ := boxes2 w [.int .i64 0, .int .i64 0, .int .i64 0, .int .i64 0, .int .i64 0, .bool false, .int .i64 0, .slice none 0 0, .slice none 0 0, .bool false, .int .i64 0, .slice none 0 0, .slice none 0 0, .int .i64 0, .slice none 0 0] [.int .i64 tx, .int .i64 prev] 39 140
  simp only [isendDeed, linkD]
  have a_setDeed := fun W => no_setDeed W 140 (.agg #[.int .i64 tx, .int .i64 prev]) (by decide)
  have a_commitDeed := fun W => no_commitDeed W 140 (.agg #[.int .i64 tx, .int .i64 prev]) (by decide)
  have a_abortDeed := fun W => no_abortDeed W 140 (.agg #[.int .i64 tx, .int .i64 prev]) (by decide)
  have a_backDeed := fun W => no_backDeed W 140 (.agg #[.int .i64 tx, .int .i64 prev]) (by decide)
  have a_endDeed := fun W => yes_endDeed W (.agg #[.int .i64 tx, .int .i64 prev])
  have HB : Hid (∀ u, Below W.heap.size W u → Box u w.heap.size [.int .i64 0, .int .i64 0, .int .i64 0, .int .i64 0, .int .i64 0, .bool false, .int .i64 0, .slice none 0 0, .slice none 0 0, .bool false, .int .i64 0, .slice none 0 0, .slice none 0 0, .int .i64 0, .slice none 0 0] 39 ∧ Box u (w.heap.size + 1) [.int .i64 tx, .int .i64 prev] 140) := fun u hu => ⟨b0.below hu b0.lt, b1.below hu b1.lt⟩
  have HC : Hid (∀ w', Box w' (w.heap.size + 1) [.int .i64 tx, .int .i64 prev] 140 → w'.cell? ⟨w.heap.size + 1, 0, none⟩ = some (.int .i64 tx) ∧ w'.cell? ⟨w.heap.size + 1, 1, none⟩ = some (.int .i64 prev)) := fun w' b => ⟨b.cell 0 _ rfl, b.cell 1 _ rfl⟩
  have hh := HC.out W b1
  have hlt := b1.lt
  have HI : Hid ((Tryz.prog.info? 39).map (·.size) = some 15) := by rw [Hid]; kernel_rfl
  have HO : Hid (_) := all_oneCell_toArray (oneR (recA n tx prev 5))
  clear hsW b0 b1
  go_enter Tryz.func69, Tryz.ntmps69
  go_wp2_with fail
  rw [hW.out]
  clear hW a_setDeed a_commitDeed a_abortDeed a_backDeed a_endDeed
  refine wp_region_held_drew (S := fun w' => w'.cell? ⟨w.heap.size + 1, 0, none⟩ = some (.int .i64 tx) ∧ w'.cell? ⟨w.heap.size + 1, 1, none⟩ = some (.int .i64 prev)) (by kernel_rfl) (HC.out _ (HB.out _ (Below.refl _ _).drew).2) (fun hHeld => ?_)
  refine wpAnyH_take (i := 0) (v := .int .i64 n) rfl (by kernel_rfl) (by kernel_rfl) (by kernel_rfl) (fun _ _ _ h => h) (Or.inl ⟨by rfl, ?_⟩) hHeld ?_
  · intro w' hSw
    go_simp <;> rfl
  try simp only [Act.put, List.getElem_toArray, List.getElem_cons_zero, List.setIfInBounds_toArray, List.set_cons_zero, List.set_cons_succ]
  refine wpAnyH_take (i := 1) (v := .pointer (some ⟨w.heap.size + 1, 0, none⟩)) rfl (by kernel_rfl) (by kernel_rfl) (by kernel_rfl) (fun _ _ _ h => h) (Or.inl ⟨by rfl, ?_⟩) hHeld ?_
  · intro w' hSw
    go_simp <;> rfl
  try simp only [Act.put, List.getElem_toArray, List.getElem_cons_zero, List.getElem_cons_succ, List.setIfInBounds_toArray, List.set_cons_zero, List.set_cons_succ]
  refine wpAnyH_take (i := 2) (v := .agg #[.int .i64 tx, .int .i64 prev]) rfl (by kernel_rfl) (by kernel_rfl) (by kernel_rfl) (fun _ _ _ h => h) (Or.inl ⟨by rfl, ?_⟩) hHeld ?_
  · intro w' hSw
    go_simp <;> rfl
  try simp only [Act.put, List.getElem_toArray, List.getElem_cons_zero, List.getElem_cons_succ, List.setIfInBounds_toArray, List.set_cons_zero, List.set_cons_succ]
  refine wpAnyH_take (i := 3) (v := .agg #[.int .i64 tx, .int .i64 prev]) rfl (by kernel_rfl) (by kernel_rfl) (by kernel_rfl) (fun _ _ _ h => h) (Or.inl ⟨by rfl, ?_⟩) hHeld ?_
  · intro w' hSw
    go_simp <;> rfl
  try simp only [Act.put, List.getElem_toArray, List.getElem_cons_zero, List.getElem_cons_succ, List.setIfInBounds_toArray, List.set_cons_zero, List.set_cons_succ]
  refine wpAnyH_ready (rs := [4]) (by kernel_rfl) (by simp) ?_
  refine AllReadyH.cons rfl (fun K hK => ?_) AllReadyH.nil
  go_simp
  refine (kind_endDeed tx prev _).mono ?_
  rintro e u1 ⟨rfl, hb1⟩
  have hB1 : Below W.heap.size W u1 := ((Below.refl _ _).drew).trans hb1
  refine hK.out _ _ (HC.out _ (HB.out _ hB1).2) (fun hHeld => ?_)
  clear hK K
  try simp only [Act.put, List.getElem_toArray, List.getElem_cons_zero, List.getElem_cons_succ, List.setIfInBounds_toArray, List.set_cons_zero, List.set_cons_succ]
  refine wpAnyH_ready (rs := [5]) (by kernel_rfl) (by simp) ?_
  refine AllReadyH.cons rfl (fun K hK => ?_) AllReadyH.nil
  go_simp
  refine (recAt_any n tx prev 5 _).mono ?_
  rintro e u2 ⟨rfl, hb2⟩
  have hBL : Below W.heap.size W u2 := hB1.trans (hb2.mono hB1.size)
  refine hK.out _ _ (HC.out _ (HB.out _ hBL).2) (fun hHeld => ?_)
  clear hK K
  try simp only [Act.put, List.getElem_toArray, List.getElem_cons_zero, List.getElem_cons_succ, List.setIfInBounds_toArray, List.set_cons_zero, List.set_cons_succ]
  obtain ⟨WF, hWF, bF, hwF, hsF⟩ := range_fill [] [.int .i64 0, .int .i64 0, .int .i64 0, .int .i64 0, .int .i64 0, .bool false, .int .i64 0, .slice none 0 0, .slice none 0 0, .bool false, .int .i64 0, .slice none 0 0, .slice none 0 0, .int .i64 0, .slice none 0 0] (RecA.cells (recA n tx prev 5)) [] (by simpa using (HB.out _ hBL).1) rfl
  have HF : Hid (Below w.heap.size w WF) := (hbW.trans (hBL.mono hbW.size)).trans (hwF.below (by omega) (by have := hBL.size; omega))
  have HLD : Hid (_ = _) := rec_load (recA n tx prev 5) (by simpa using bF)
  have HS : Hid (WF.cell? ⟨w.heap.size + 1, 0, none⟩ = some (.int .i64 tx) ∧ WF.cell? ⟨w.heap.size + 1, 1, none⟩ = some (.int .i64 prev)) := HC.out _ ((HB.out _ hBL).2.within hwF (by omega))
  refine wpAnyH_ready (rs := [6]) (by kernel_rfl) (by simp) ?_
  refine AllReadyH.cons rfl (fun K hK => ?_) AllReadyH.nil
  rw [if_pos (by rfl)]
  refine wp_store_mid 39 (.tmp 4) (.tmp 76) rfl w.heap.size 0 (RecA.cells (recA n tx prev 5)).toArray rfl rfl ((HB.out _ hBL).1.there 0 _ (by show 0 + 15 ≤ 15; decide)) HI.out HO.out ?_
  have HW : Hid (u2.setCells w.heap.size 0 (RecA.cells (recA n tx prev 5)).toArray.toList = WF) := hWF.out
  rw [HW.out]
  refine hK.out _ _ HS.out (fun hHeld => ?_)
  refine wpAnyH_done (by kernel_rfl) ?_ _
  clear hwF hWF HW hK K HS
  go_wp2
  exact bodyPost_ret (v := .agg (RecA.cells (recA n tx prev 5)).toArray) (results_one Tryz.results69 rfl HLD.out) rfl ⟨rfl, HF.out⟩

set_option maxHeartbeats 4000000 in
set_option maxRecDepth 100000 in
theorem recOf_check (n : Int) (ls : List LiveV) (aL : Option Addr) (cL : Nat) (w : World) :
    Calls Tryz.prog 69 #[.int .i64 n, ischeckDeed (checkD ls aL cL)] w fun e w' => e = .returned (.agg (RecA.cells (⟨n, 0, 0, 6, 0, zeroS, zeroS, 0, ls, aL, cL⟩)).toArray) ∧ Below w.heap.size w w' := by
  obtain ⟨W, hW, b0, b1, hbW, hsW⟩ := boxes2 w [.int .i64 0, .int .i64 0, .int .i64 0, .int .i64 0, .int .i64 0, .bool false, .int .i64 0, .slice none 0 0, .slice none 0 0, .bool false, .int .i64 0, .slice none 0 0, .slice none 0 0, .int .i64 0, .slice none 0 0] [.slice aL ls.length cL] 39 142
  simp only [ischeckDeed, checkD]
  have a_setDeed := fun W => no_setDeed W 142 (.agg #[.slice aL ls.length cL]) (by decide)
  have a_commitDeed := fun W => no_commitDeed W 142 (.agg #[.slice aL ls.length cL]) (by decide)
  have a_abortDeed := fun W => no_abortDeed W 142 (.agg #[.slice aL ls.length cL]) (by decide)
  have a_backDeed := fun W => no_backDeed W 142 (.agg #[.slice aL ls.length cL]) (by decide)
  have a_endDeed := fun W => no_endDeed W 142 (.agg #[.slice aL ls.length cL]) (by decide)
  have a_checkDeed := fun W => yes_checkDeed W (.agg #[.slice aL ls.length cL])
  have HB : Hid (∀ u, Below W.heap.size W u → Box u w.heap.size [.int .i64 0, .int .i64 0, .int .i64 0, .int .i64 0, .int .i64 0, .bool false, .int .i64 0, .slice none 0 0, .slice none 0 0, .bool false, .int .i64 0, .slice none 0 0, .slice none 0 0, .int .i64 0, .slice none 0 0] 39 ∧ Box u (w.heap.size + 1) [.slice aL ls.length cL] 142) := fun u hu => ⟨b0.below hu b0.lt, b1.below hu b1.lt⟩
  have HC : Hid (∀ w', Box w' (w.heap.size + 1) [.slice aL ls.length cL] 142 → w'.cell? ⟨w.heap.size + 1, 0, none⟩ = some (.slice aL ls.length cL)) := fun w' b => b.cell 0 _ rfl
  have hh := HC.out W b1
  have hlt := b1.lt
  have HI : Hid ((Tryz.prog.info? 39).map (·.size) = some 15) := by rw [Hid]; kernel_rfl
  have HO : Hid (_) := all_oneCell_toArray (oneR (⟨n, 0, 0, 6, 0, zeroS, zeroS, 0, ls, aL, cL⟩))
  clear hsW b0 b1
  go_enter Tryz.func69, Tryz.ntmps69
  go_wp2_with fail
  rw [hW.out]
  clear hW a_setDeed a_commitDeed a_abortDeed a_backDeed a_endDeed a_checkDeed
  refine wp_region_held_drew (S := fun w' => w'.cell? ⟨w.heap.size + 1, 0, none⟩ = some (.slice aL ls.length cL)) (by kernel_rfl) (HC.out _ (HB.out _ (Below.refl _ _).drew).2) (fun hHeld => ?_)
  refine wpAnyH_take (i := 0) (v := .int .i64 n) rfl (by kernel_rfl) (by kernel_rfl) (by kernel_rfl) (fun _ _ _ h => h) (Or.inl ⟨by rfl, ?_⟩) hHeld ?_
  · intro w' hSw
    go_simp <;> rfl
  try simp only [Act.put, List.getElem_toArray, List.getElem_cons_zero, List.setIfInBounds_toArray, List.set_cons_zero, List.set_cons_succ]
  refine wpAnyH_take (i := 1) (v := .agg #[.slice aL ls.length cL]) rfl (by kernel_rfl) (by kernel_rfl) (by kernel_rfl) (fun _ _ _ h => h) (Or.inl ⟨by rfl, ?_⟩) hHeld ?_
  · intro w' hSw
    go_simp <;> rfl
  try simp only [Act.put, List.getElem_toArray, List.getElem_cons_zero, List.getElem_cons_succ, List.setIfInBounds_toArray, List.set_cons_zero, List.set_cons_succ]
  refine wpAnyH_take (i := 3) (v := .pointer (some ⟨w.heap.size + 1, 0, none⟩)) rfl (by kernel_rfl) (by kernel_rfl) (by kernel_rfl) (fun _ _ _ h => h) (Or.inl ⟨by rfl, ?_⟩) hHeld ?_
  · intro w' hSw
    go_simp <;> rfl
  try simp only [Act.put, List.getElem_toArray, List.getElem_cons_zero, List.getElem_cons_succ, List.setIfInBounds_toArray, List.set_cons_zero, List.set_cons_succ]
  refine wpAnyH_take (i := 4) (v := .slice aL ls.length cL) rfl (by kernel_rfl) (by kernel_rfl) (by kernel_rfl) (fun _ _ _ h => h) (Or.inl ⟨by rfl, ?_⟩) hHeld ?_
  · intro w' hSw
    go_simp <;> rfl
  try simp only [Act.put, List.getElem_toArray, List.getElem_cons_zero, List.getElem_cons_succ, List.setIfInBounds_toArray, List.set_cons_zero, List.set_cons_succ]
  refine wpAnyH_ready (rs := [2]) (by kernel_rfl) (by simp) ?_
  refine AllReadyH.cons rfl (fun K hK => ?_) AllReadyH.nil
  go_simp
  refine (kind_checkDeed ls aL cL _).mono ?_
  rintro e u1 ⟨rfl, hb1⟩
  have hB1 : Below W.heap.size W u1 := ((Below.refl _ _).drew).trans hb1
  refine hK.out _ _ (HC.out _ (HB.out _ hB1).2) (fun hHeld => ?_)
  clear hK K
  try simp only [Act.put, List.getElem_toArray, List.getElem_cons_zero, List.getElem_cons_succ, List.setIfInBounds_toArray, List.set_cons_zero, List.set_cons_succ]
  have hBL := hB1
  refine wpAnyH_take (i := 5) (v := .agg (RecA.cells (⟨n, 0, 0, 6, 0, zeroS, zeroS, 0, ls, aL, cL⟩)).toArray) rfl (by kernel_rfl) (by kernel_rfl) (by kernel_rfl) (fun _ _ _ h => h) (Or.inl ⟨by rfl, ?_⟩) hHeld ?_
  · intro w' hSw
    go_simp <;> rfl
  try simp only [Act.put, List.getElem_toArray, List.getElem_cons_zero, List.getElem_cons_succ, List.setIfInBounds_toArray, List.set_cons_zero, List.set_cons_succ]
  obtain ⟨WF, hWF, bF, hwF, hsF⟩ := range_fill [] [.int .i64 0, .int .i64 0, .int .i64 0, .int .i64 0, .int .i64 0, .bool false, .int .i64 0, .slice none 0 0, .slice none 0 0, .bool false, .int .i64 0, .slice none 0 0, .slice none 0 0, .int .i64 0, .slice none 0 0] (RecA.cells (⟨n, 0, 0, 6, 0, zeroS, zeroS, 0, ls, aL, cL⟩)) [] (by simpa using (HB.out _ hBL).1) rfl
  have HF : Hid (Below w.heap.size w WF) := (hbW.trans (hBL.mono hbW.size)).trans (hwF.below (by omega) (by have := hBL.size; omega))
  have HLD : Hid (_ = _) := rec_load (⟨n, 0, 0, 6, 0, zeroS, zeroS, 0, ls, aL, cL⟩) (by simpa using bF)
  have HS : Hid (WF.cell? ⟨w.heap.size + 1, 0, none⟩ = some (.slice aL ls.length cL)) := HC.out _ ((HB.out _ hBL).2.within hwF (by omega))
  refine wpAnyH_ready (rs := [6]) (by kernel_rfl) (by simp) ?_
  refine AllReadyH.cons rfl (fun K hK => ?_) AllReadyH.nil
  rw [if_pos (by rfl)]
  refine wp_store_mid 39 (.tmp 4) (.tmp 85) rfl w.heap.size 0 (RecA.cells (⟨n, 0, 0, 6, 0, zeroS, zeroS, 0, ls, aL, cL⟩)).toArray rfl rfl ((HB.out _ hBL).1.there 0 _ (by show 0 + 15 ≤ 15; decide)) HI.out HO.out ?_
  have HW : Hid (u1.setCells w.heap.size 0 (RecA.cells (⟨n, 0, 0, 6, 0, zeroS, zeroS, 0, ls, aL, cL⟩)).toArray.toList = WF) := hWF.out
  rw [HW.out]
  refine hK.out _ _ HS.out (fun hHeld => ?_)
  refine wpAnyH_done (by kernel_rfl) ?_ _
  clear hwF hWF HW hK K HS
  go_wp2
  exact bodyPost_ret (v := .agg (RecA.cells (⟨n, 0, 0, 6, 0, zeroS, zeroS, 0, ls, aL, cL⟩)).toArray) (results_one Tryz.results69 rfl HLD.out) rfl ⟨rfl, HF.out⟩

set_option maxHeartbeats 1000000 in
set_option maxRecDepth 100000 in
theorem recOf_nil (n : Int) (w : World) : Calls Tryz.prog 69 #[.int .i64 n, .nilIface] w fun e w' => e = .returned (.agg (recA 0 0 0 0).cells.toArray) ∧ Below w.heap.size w w' := by
  obtain ⟨W, hW, b1, hbW, hsW⟩ := boxes1 w (recA 0 0 0 0).cells 39
  have HL : Hid (_ = _) := rec_load (recA 0 0 0 0) b1
  simp only [recA, RecA.cells, zeroS, List.length_nil] at hW
  clear hsW b1
  have a_setDeed := nil_setDeed
  have a_commitDeed := nil_commitDeed
  have a_abortDeed := nil_abortDeed
  have a_backDeed := nil_backDeed
  have a_endDeed := nil_endDeed
  have a_checkDeed := nil_checkDeed
  go_enter Tryz.func69, Tryz.ntmps69
  go_wp2
  refine bodyPost_ret (v := .agg (recA 0 0 0 0).cells.toArray) (results_one Tryz.results69 rfl ?_) rfl ⟨rfl, ?_⟩
  · rw [show _ = W from hW.out]; exact HL.out
  · rw [show _ = W from hW.out]; exact hbW

end Go.Proofs.YtoboickdkednkaaGreatDoor

/- Undone: what the model and the landed code make of a record, in common. -/
namespace Go.Proofs.YtoboickdkednkaaGreatDoor
open Go.RowKit

theorem zero_own (w : World) (lo hi : Nat) (h : hi ≤ w.heap.size) : zeroS.own w lo hi := ⟨ownI_nil _ _ _ h, ownI_nil _ _ _ h, fun k hk => by cases hk⟩
theorem own_zeroR (w : World) (lo hi : Nat) (h : hi ≤ w.heap.size) : zeroR.own w lo hi := ⟨zero_own w lo hi h, zero_own w lo hi h, ownL_nil w lo hi h, by decide⟩
theorem rec_out {w : World} {C : Nat} (q : RecA) (old : List Value) (ho : old.length = 15) (bC : Box w C old 39) :
    ∃ WF, Hid (w.setCells C 0 q.cells = WF) ∧ Within C (C + 1) w WF ∧ WF.heap.size = w.heap.size ∧ Hid (w.there C 0 q.cells.toArray.size) ∧ Hid ((loadVar 39 ⟨C, 0, none⟩).run Tryz.prog WF = .ok (.agg q.cells.toArray) WF) ∧ Box WF C q.cells 39 := by
  obtain ⟨WF, hWF, bF, hwF, hsF⟩ := range_fill [] old q.cells [] (by simpa using bC) (by rw [ho]; rfl)
  have bF' : Box WF C q.cells 39 := by simpa using bF
  exact ⟨WF, hWF, hwF, hsF, bC.there 0 _ (by rw [ho]; show 0 + 15 ≤ 15; decide), rec_load q bF', bF'⟩
theorem rec_info (q : RecA) : (Tryz.prog.info? 39).map (·.size) = some q.cells.length := by show _ = some 15; kernel_rfl
theorem rec_one (q : RecA) : q.cells.toArray.all (·.oneCell') = true := all_oneCell_toArray (oneR q)
end Go.Proofs.YtoboickdkednkaaGreatDoor

/- The walk of spec.l5CopyRec. -/
namespace Go.Proofs.YtoboickdkednkaaGreatDoor
open Go.RowKit

/-- A record whose three lists are new. -/
def RecA.with (r : RecA) (t1 t2 : SlotA) (aL : Option Addr) (cL : Nat) : RecA := ⟨r.lsn, r.tx, r.prev, r.kind, r.oid, t1, t2, r.next, r.txs, aL, cL⟩
theorem with_v {r : RecA} {t1 t2 : SlotA} {aL : Option Addr} {cL : Nat} (h1 : t1.v = r.bf.v) (h2 : t2.v = r.af.v) : (r.with t1 t2 aL cL).v = r.v := by simp only [RecA.with, RecA.v, h1, h2]
theorem ownL_lit {w W : World} (h : w.alloc (.cells #[] 112) = W) : OwnL W w.heap.size W.heap.size (some ⟨w.heap.size, 0, none⟩) 0 [] := by
  subst h
  refine ⟨World.ownsRow_lit (size := 3) w #[] 0 (Nat.le_refl _) (by simp [maxLen]) rfl, Nat.le_refl _, fun k hk => ?_⟩
  simp [Value.ownBlock] at hk
  rw [World.size_alloc]
  omega

set_option maxHeartbeats 4000000 in
set_option maxRecDepth 100000 in
theorem l5CopyRec_own (r : RecA) (w : World) (hr : r.reads w) (hl : r.short 1099511627776) (hc : r.aL = none → r.cL = 0) :
    Calls Tryz.prog 44 #[.agg r.cells.toArray] w fun e w' => ∃ t : RecA, e = .returned (.agg t.cells.toArray) ∧ Hid (t.v = r.v) ∧ t.own w' w.heap.size w'.heap.size ∧ Below w.heap.size w w' := by
  obtain ⟨W, hW, b0, b1, hbW, hsW⟩ := boxes2 w r.cells [.int .i64 0, .int .i64 0, .int .i64 0, .int .i64 0, .int .i64 0, .bool false, .int .i64 0, .slice none 0 0, .slice none 0 0, .bool false, .int .i64 0, .slice none 0 0, .slice none 0 0, .int .i64 0, .slice none 0 0] 39 39
  have hs0 : w.heap.size + 1 < W.heap.size := by omega
  clear hsW
  have C1 := l3CopySlot_own r.bf W (ReadsO.below hr.bf hbW) hl.bf.1 hl.bf.2
  have HC : Hid (r.aL = none → r.cL = 0) := hc
  have HWV : Hid (∀ (t1 t2 : SlotA) (aL : Option Addr) (cL : Nat), t1.v = r.bf.v → t2.v = r.af.v → (r.with t1 t2 aL cL).v = r.v) := fun t1 t2 aL cL h1 h2 => with_v h1 h2
  have HWC : Hid (∀ (t1 t2 : SlotA) (aL : Option Addr) (cL : Nat), (r.with t1 t2 aL cL).cells = [.int .i64 r.lsn, .int .i64 r.tx, .int .i64 r.prev, .int .i64 r.kind, .int .i64 r.oid, .bool t1.v.has, .int .i64 t1.v.o.kind, .slice t1.aI t1.v.o.ints.length t1.cI, .slice t1.aR t1.v.o.refs.length t1.cR, .bool t2.v.has, .int .i64 t2.v.o.kind, .slice t2.aI t2.v.o.ints.length t2.cI, .slice t2.aR t2.v.o.refs.length t2.cR, .int .i64 r.next, .slice aL r.txs.length cL]) := fun _ _ _ _ => rfl
  simp only [RecA.cells] at b0 hW ⊢
  simp only [SlotA.cells] at C1
  clear hc
  go_enter Tryz.func44, Tryz.ntmps44
  go_wp2_with fail
  rw [hW.out]
  clear hW
  refine C1.mono ?_
  clear C1
  rintro e w1 ⟨t1, rfl, hv1, ho1, hb1⟩
  have b01 := b0.below hb1 b0.lt
  have b11 := b1.below hb1 b1.lt
  have hs1 := hb1.size
  clear b0 b1
  have x5 := b01.cell 5 _ rfl
  have xf5 := b01.frozen 5
  have x6 := b01.cell 6 _ rfl
  have xf6 := b01.frozen 6
  have x7 := b01.cell 7 _ rfl
  have xf7 := b01.frozen 7
  have x8 := b01.cell 8 _ rfl
  have xf8 := b01.frozen 8
  obtain ⟨W2, hW2, b02, hw2, hs2⟩ := box_quad b01 5 6 7 8 (.bool t1.v.has) (.int .i64 t1.v.o.kind) (.slice t1.aI t1.v.o.ints.length t1.cI) (.slice t1.aR t1.v.o.refs.length t1.cR)
  have hs2a := Nat.le_of_eq hs2
  have hs2b := Nat.le_of_eq hs2.symm
  clear hs2
  simp only [List.set] at b02
  have b12 := b11.within hw2 (by omega)
  have hB2 : Below w.heap.size w W2 := (hbW.trans (hb1.mono (by omega))).trans (hw2.below (by omega) (by omega))
  have ho2 := OwnO.within ho1 hw2 (.inr (by omega))
  have C2 := l3CopySlot_own r.af W2 (ReadsO.below hr.af hB2) hl.af.1 hl.af.2
  simp only [SlotA.cells] at C2
  clear b01 b11 hw2 ho1
  go_upto_region 2 with fail
  rw [hW2.out]
  clear x5 x6 x7 x8 xf5 xf6 xf7 xf8 hW2
  have y9 := b02.cell 9 _ rfl
  have y10 := b02.cell 10 _ rfl
  have y11 := b02.cell 11 _ rfl
  have y12 := b02.cell 12 _ rfl
  go_wp2_with fail
  refine C2.mono ?_
  clear C2 y9 y10 y11 y12
  rintro e w3 ⟨t2, rfl, hv2, ho3, hb3⟩
  have b03 := b02.below hb3 b02.lt
  have b13 := b12.below hb3 b12.lt
  have hs3 := hb3.size
  have ho23 := OwnO.below ho2 hb3
  clear b02 b12 ho2
  have x9 := b03.cell 9 _ rfl
  have xf9 := b03.frozen 9
  have x10 := b03.cell 10 _ rfl
  have xf10 := b03.frozen 10
  have x11 := b03.cell 11 _ rfl
  have xf11 := b03.frozen 11
  have x12 := b03.cell 12 _ rfl
  have xf12 := b03.frozen 12
  obtain ⟨W4, hW4, b04, hw4, hs4⟩ := box_quad b03 9 10 11 12 (.bool t2.v.has) (.int .i64 t2.v.o.kind) (.slice t2.aI t2.v.o.ints.length t2.cI) (.slice t2.aR t2.v.o.refs.length t2.cR)
  have hs4a := Nat.le_of_eq hs4
  have hs4b := Nat.le_of_eq hs4.symm
  clear hs4
  simp only [List.set] at b04
  have b14 := b13.within hw4 (by omega)
  have hB4 : Below w.heap.size w W4 := (hB2.trans (hb3.mono (by omega))).trans (hw4.below (by omega) (by omega))
  have hoA4 := OwnO.within ho23 hw4 (.inr (by omega))
  have hoB4 := OwnO.within ho3 hw4 (.inr (by omega))
  clear b03 b13 hw4 ho3 ho23 hb3
  go_upto_region 3 with fail
  rw [hW4.out]
  clear x9 x10 x11 x12 xf9 xf10 xf11 xf12 hW4
  obtain ⟨W5, hW5, bE, hb5, hs5⟩ := boxes1 W4 [] 112
  have hs5a := Nat.le_of_eq hs5
  have hs5b := Nat.le_of_eq hs5.symm
  clear hs5
  have hW5' : W4.alloc (.cells #[] 112) = W5 := hW5.out
  have HW5 : Hid (W4.alloc (.cells #[] 112) = W5) := hW5'
  have oE := ownL_lit hW5'
  clear bE hW5 hW5'
  have b05 := b04.below hb5 b04.lt
  have b15 := b14.below hb5 b14.lt
  have hoA5 := OwnO.below hoA4 hb5
  have hoB5 := OwnO.below hoB4 hb5
  have hB5 : Below w.heap.size w W5 := hB4.trans (hb5.mono (by omega))
  have k14 := b05.cell 14 _ rfl
  have k14' : (W4.alloc (.cells #[] 112)).cell? ⟨w.heap.size, 14, none⟩ = some (.slice r.aL r.txs.length r.cL) := by rw [HW5.out]; exact k14
  have hA1 : ([] : List LiveV).length + r.txs.length ≤ 1099511627776 := by have := hl.txs; simp only [List.length_nil]; omega
  have hrt : ReadsL W5 r.aL r.txs := hr.txs.below hB5
  have hs5' := hb5.size
  clear b04 b14 hoA4 hoB4
  have HNC : Hid (r.aL = none → r.cL = 0) := HC.out
  go_wp2_with (at_builtin; refine append_lives rfl _ _ rfl W4.heap.size _ (some ⟨W4.heap.size, 0, none⟩) 0 [] rfl (by rw [HW5.out]; exact oE) r.aL r.cL r.txs rfl (by rw [HW5.out]; exact hrt) HNC.out hA1 (by rw [HW5.out]; omega) ?_)
  intro aL cL ys w6 hys o6 g6
  rw [HW5.out] at g6
  have hw6 : Within W4.heap.size W5.heap.size W5 w6 := Within.of_grown g6 (fun j hj => oE.lt j hj)
  have hs6 := hw6.size
  have b06 := b05.within hw6 (by omega)
  have b16 := b15.within hw6 (by omega)
  have hoA6 := OwnO.within hoA5 hw6 (.inl (by omega))
  have hoB6 := OwnO.within hoB5 hw6 (.inl (by omega))
  have hB6 : Below w.heap.size w w6 := hB5.trans (hw6.below (by omega) (by omega))
  obtain rfl : ys = r.txs := hys.out.trans (List.nil_append _)
  clear hys g6 hw6 oE b05 b15 hoA5 hoB5 k14 k14' hrt HW5
  have HAP : Hid ((t1.blocks ++ (t2.blocks ++ (Value.slice aL r.txs.length cL).ownBlock.toList)).Nodup) := rec_apart (c := W4.heap.size) (OwnO.widen hoA6 (Nat.le_refl _) (show _ ≤ W2.heap.size by omega) (by omega)) (OwnO.widen hoB6 (Nat.le_refl _) (show _ ≤ W4.heap.size by omega) (by omega)) o6 (by omega)
  have x14 := b06.cell 14 _ rfl
  have f14 := b06.frozen 14
  obtain ⟨W7, hW7, b07, hw7, hs7⟩ := box_set b06 14 (.slice aL r.txs.length cL)
  have hs7a := Nat.le_of_eq hs7
  have hs7b := Nat.le_of_eq hs7.symm
  clear hs7
  simp only [List.set] at b07
  have b17 := b16.within hw7 (by omega)
  have b07' : Box W7 w.heap.size (r.with t1 t2 aL cL).cells 39 := by rw [HWC.out]; exact b07
  have hoA7 := OwnO.within hoA6 hw7 (.inr (by omega))
  have hoB7 := OwnO.within hoB6 hw7 (.inr (by omega))
  have o7 := o6.within hw7 (.inr (by omega))
  have hB7 : Below w.heap.size w W7 := hB6.trans (hw7.below (by omega) (by omega))
  clear hw7 b06 b16 hoA6 hoB6 o6
  go_upto_region 4 with fail
  rw [hW7.out]
  clear x14 f14 hW7
  obtain ⟨WF, hWF, hwF, hsF, HTF, HLF, bF⟩ := rec_out (r.with t1 t2 aL cL) _ rfl b17
  have hsFa := Nat.le_of_eq hsF
  have hsFb := Nat.le_of_eq hsF.symm
  clear hsF
  have hoF : (r.with t1 t2 aL cL).own WF w.heap.size WF.heap.size := ⟨OwnO.widen (OwnO.within hoA7 hwF (.inr (by omega))) (by omega) (by omega) (Nat.le_refl _), OwnO.widen (OwnO.within hoB7 hwF (.inr (by omega))) (by omega) (by omega) (Nat.le_refl _), (o7.within hwF (.inr (by omega))).widen (by omega) (by omega) (Nat.le_refl _), HAP.out⟩
  have hbF : Below w.heap.size w WF := hB7.trans (hwF.below (by omega) (by omega))
  have HF : Hid (_ ∧ _ ∧ _) := ⟨HWV.out t1 t2 aL cL hv1.out hv2.out, hoF, hbF⟩
  have rT : W7.rangeAt w.heap.size 0 (r.with t1 t2 aL cL).cells := Box.range [] _ [] (by simpa using b07')
  clear hoF hbF bF hwF b07 b07' b17 hoA7 hoB7 o7 HAP HWC HWV
  generalize r.with t1 t2 aL cL = TT at *
  go_wp2_with (first | (guard_target = wpList _ _ _ (Oper.mk (some 16) _ _ _ _ _ :: _) _ _; refine wpList_load_mid rfl 39 (.tmp 1) rfl w.heap.size 0 rfl TT.cells _ rT Tryz.underlying39 rfl (rec_info _) ?_) | (guard_target = wpList _ _ _ (Oper.mk none (Op.store _ (Operand.tmp 2) _) _ _ _ _ :: _) _ _; refine wpList_store_mid rfl 39 (.tmp 2) (.tmp 16) rfl (w.heap.size + 1) 0 TT.cells.toArray rfl rfl HTF.out (rec_info _) (rec_one _) ?_) | fail)
  rw [hWF.out]
  exact bodyPost_ret (v := .agg TT.cells.toArray) (results_one Tryz.results44 rfl HLF.out) rfl ⟨TT, rfl, HF.out.1, HF.out.2.1, HF.out.2.2⟩
end Go.Proofs.YtoboickdkednkaaGreatDoor

/- Rows of records: what they are, what a walk reads and owns of them. -/
namespace Go.Proofs.YtoboickdkednkaaGreatDoor
open Go.RowKit

def cellsRs (rs : List RecA) : List Value := rs.flatMap RecA.cells
theorem cellsR_len (r : RecA) : r.cells.length = 15 := rfl
theorem cellsRs_len (rs : List RecA) : (cellsRs rs).length = rs.length * 15 := by
  induction rs with
  | nil => rfl
  | cons s r ih => simp only [cellsRs, List.flatMap_cons, List.length_append, cellsR_len, List.length_cons] at *; omega
theorem cellsRs_app (a b : List RecA) : cellsRs (a ++ b) = cellsRs a ++ cellsRs b := by simp [cellsRs]
theorem cellsRs_cons (r : RecA) (b : List RecA) : cellsRs (r :: b) = r.cells ++ cellsRs b := by simp [cellsRs]
theorem cellsRs_at (rs : List RecA) (k j : Nat) (hk : k < rs.length) (hj : j < 15) : (cellsRs rs)[k * 15 + j]? = (rs.getD k zeroR).cells[j]? := by
  induction rs generalizing k with
  | nil => simp at hk
  | cons s r ih =>
    rw [cellsRs_cons]
    cases k with
    | zero => rw [List.getElem?_append_left (by rw [cellsR_len]; omega)]; simp
    | succ k =>
      rw [List.getElem?_append_right (by rw [cellsR_len]; omega), cellsR_len]
      have := ih k (by simpa using hk)
      rw [show (k + 1) * 15 + j - 15 = k * 15 + j by omega, this]
      simp
theorem recD_mem (rs : List RecA) (k : Nat) (hk : k < rs.length) : rs.getD k zeroR ∈ rs := by
  have e : rs.getD k zeroR = rs[k] := by simp [List.getD, hk]
  rw [e]
  exact List.getElem_mem hk

theorem rangeAt_below {w w' : World} {b o n : Nat} {cs : List Value} (h : w.rangeAt b o cs) (hb : Below n w w') (hn : b < n) : w'.rangeAt b o cs := fun j v hv => (hb.cell (p := ⟨b, o + j, none⟩) hn).trans (h j v hv)
theorem rangeAt_block {w w' : World} {b o : Nat} {cs : List Value} (h : w.rangeAt b o cs) (hb : w'.heap[b]? = w.heap[b]?) : w'.rangeAt b o cs := fun j v hv => by
  have := h j v hv
  simp only [World.cell?, hb] at this ⊢
  exact this
theorem rangeR_lt {w : World} {b o : Nat} {r : RecA} (h : w.rangeAt b o r.cells) : b < w.heap.size := block_lt (h 0 _ rfl)

/-- The slice at a reads these. -/
def ReadsRs (w : World) (a : Option Addr) (rs : List RecA) : Prop := rs ≠ [] → ∃ b off, a = some ⟨b, off, none⟩ ∧ ∀ k, k < rs.length → w.rangeAt b (off + k * 15) (rs.getD k zeroR).cells ∧ (rs.getD k zeroR).reads w
theorem ReadsRs.nil (w : World) (a : Option Addr) : ReadsRs w a [] := fun h => absurd rfl h
theorem ReadsRs.below {w w' : World} {a : Option Addr} {rs : List RecA} (h : ReadsRs w a rs) (hb : Below w.heap.size w w') : ReadsRs w' a rs := by
  intro hne
  obtain ⟨b, off, ha, hc⟩ := h hne
  refine ⟨b, off, ha, fun k hk => ?_⟩
  obtain ⟨h0, h1⟩ := hc k hk
  exact ⟨rangeAt_below h0 hb (rangeR_lt h0), h1.below hb⟩
theorem ReadsRs.cases {w : World} {a : Option Addr} {rs : List RecA} (h : ReadsRs w a rs) : rs = [] ∨ ∃ b off, a = some ⟨b, off, none⟩ ∧ 0 < rs.length ∧ ∀ k, k < rs.length → w.rangeAt b (off + k * 15) (rs.getD k zeroR).cells ∧ (rs.getD k zeroR).reads w := by
  by_cases e : rs = []
  · exact .inl e
  · obtain ⟨b, off, ha, hc⟩ := h e
    exact .inr ⟨b, off, ha, List.length_pos_iff.2 e, hc⟩

/-- The slice at a, of capacity c, owns these, and what hangs at them; all of it lies from lo up to hi, no two rows are one. -/
structure OwnRs (w : World) (lo hi : Nat) (a : Option Addr) (c : Nat) (rs : List RecA) : Prop where
  row : w.ownsRow lo 39 15 (.slice a rs.length c) rs.length (cellsRs rs)
  top : hi ≤ w.heap.size
  blk : ∀ k, (Value.slice a rs.length c).ownBlock = some k → k < hi
  each : ∀ r ∈ rs, r.own w lo hi
  apart : ((Value.slice a rs.length c).ownBlock.toList ++ rs.flatMap RecA.blocks).Nodup

def blocksRs (a : Option Addr) (c : Nat) (rs : List RecA) : List Nat := (Value.slice a rs.length c).ownBlock.toList ++ rs.flatMap RecA.blocks
theorem OwnRs.blocks_lt {w : World} {lo hi : Nat} {a : Option Addr} {c : Nat} {rs : List RecA} (h : OwnRs w lo hi a c rs) : ∀ k ∈ blocksRs a c rs, lo ≤ k ∧ k < hi := by
  intro k hk
  simp only [blocksRs, List.mem_append, List.mem_flatMap, Option.mem_toList] at hk
  rcases hk with h1 | ⟨r, hr, h1⟩
  · exact ⟨(h.row.lt k h1).1, h.blk k h1⟩
  · exact (h.each r hr).blocks_lt k h1
theorem RecA.own.touch {w w' : World} {lo hi : Nat} {r : RecA} {bl : List Nat} (h : r.own w lo hi) (ht : Touch bl w w') (hd : ∀ k ∈ r.blocks, k ∉ bl) : r.own w' lo hi :=
  ⟨SlotA.touch h.bf ht (fun k hk => hd k (List.mem_append.2 (.inl hk))), SlotA.touch h.af ht (fun k hk => hd k (List.mem_append.2 (.inr (List.mem_append.2 (.inl hk))))), h.txs.touch ht (fun k hk => hd k (List.mem_append.2 (.inr (List.mem_append.2 (.inr (Option.mem_toList.2 hk)))))), h.apart⟩
theorem OwnRs.touch {w w' : World} {lo hi : Nat} {a : Option Addr} {c : Nat} {rs : List RecA} {bl : List Nat} (h : OwnRs w lo hi a c rs) (ht : Touch bl w w') (hd : ∀ k ∈ blocksRs a c rs, k ∉ bl) : OwnRs w' lo hi a c rs :=
  ⟨ownsRow_block h.row (fun k hk => ht.block k (h.row.lt k hk).2 (hd k (List.mem_append.2 (.inl (Option.mem_toList.2 hk))))), Nat.le_trans h.top ht.size, h.blk, fun r hr => (h.each r hr).touch ht (fun k hk => hd k (List.mem_append.2 (.inr (List.mem_flatMap.2 ⟨r, hr, hk⟩)))), h.apart⟩
theorem OwnRs.within {w w' : World} {lo hi l r : Nat} {a : Option Addr} {c : Nat} {rs : List RecA} (h : OwnRs w lo hi a c rs) (hw : Within l r w w') (hd : hi ≤ l ∨ r ≤ lo) : OwnRs w' lo hi a c rs :=
  ⟨ownsRow_block h.row (fun k hk => hw.block k (by have := h.blk k hk; have := h.top; omega) (by have := h.blk k hk; have := (h.row.lt k hk).1; omega)), Nat.le_trans h.top hw.size, h.blk, fun x hx => (h.each x hx).within hw hd, h.apart⟩
theorem OwnRs.below {w w' : World} {lo hi : Nat} {a : Option Addr} {c : Nat} {rs : List RecA} (h : OwnRs w lo hi a c rs) (hb : Below w.heap.size w w') : OwnRs w' lo hi a c rs :=
  h.within (Within.of_below (lo := w.heap.size) (hi := w.heap.size) hb) (.inl h.top)
theorem OwnRs.widen {w : World} {lo hi lo' hi' : Nat} {a : Option Addr} {c : Nat} {rs : List RecA} (h : OwnRs w lo hi a c rs) (h1 : lo' ≤ lo) (h2 : hi ≤ hi') (h3 : hi' ≤ w.heap.size) : OwnRs w lo' hi' a c rs :=
  ⟨ownsRow_base h.row (fun k hk => by have := (h.row.lt k hk).1; omega), h3, fun k hk => by have := h.blk k hk; omega, fun x hx => (h.each x hx).widen h1 h2 h3, h.apart⟩
theorem ownRs_nil (w : World) (lo hi : Nat) (h : hi ≤ w.heap.size) : OwnRs w lo hi none 0 [] := ⟨⟨by simp [cellsRs], .inl ⟨rfl, rfl⟩⟩, h, (fun k hk => by cases hk), (fun r hr => by simp at hr), by simp [Value.ownBlock]⟩
theorem OwnRs.nocap {w : World} {lo hi : Nat} {a : Option Addr} {c : Nat} {rs : List RecA} (h : OwnRs w lo hi a c rs) : a = none → c = 0 := by
  intro ha
  rcases h.row.2 with ⟨hv, _⟩ | ⟨g, cap, cur, hv, _⟩
  · simp only [Value.slice.injEq] at hv; exact hv.2.2
  · simp [ha] at hv
/-- One of a row that lies in block g. -/
theorem row_rec {w : World} {base g n cap : Nat} {rs : List RecA} (h : w.ownsRow base 39 15 (.slice (some ⟨g, 0, none⟩) n cap) n (cellsRs rs)) (hn : rs.length = n) (k : Nat) (hk : k < n) :
    w.rangeAt g (k * 15) (rs.getD k zeroR).cells ∧ w.there g (k * 15) 15 := by
  refine ⟨fun j v hv => ?_, fun j hj => ?_⟩
  · have hj : j < 15 := by have := (List.getElem?_eq_some_iff.1 hv).1; rwa [cellsR_len] at this
    rw [h.cellAt (k * 15 + j) (by omega), cellsRs_at rs k j (by omega) hj, hv]
  · refine ⟨?_, h.frozenAt _⟩
    rw [h.cellAt (k * 15 + j) (by omega), cellsRs_at rs k j (by omega) hj, List.getElem?_eq_getElem (by rw [cellsR_len]; omega)]
    rfl
theorem OwnRs.reads {w : World} {lo hi : Nat} {a : Option Addr} {c : Nat} {rs : List RecA} (h : OwnRs w lo hi a c rs) : ReadsRs w a rs := by
  intro hne
  rcases h.row.2 with ⟨_, h0⟩ | ⟨g, cap', cur, hv, hb, hg, hr⟩
  · exact absurd (List.length_eq_zero_iff.1 h0) hne
  · simp only [Value.slice.injEq] at hv
    obtain ⟨rfl, _, rfl⟩ := hv
    refine ⟨g, 0, rfl, fun k hk => ?_⟩
    rw [Nat.zero_add]
    exact ⟨(row_rec h.row rfl k hk).1, (h.each _ (recD_mem rs k hk)).reads⟩
/-- A stretch of a row's cells stored. -/
theorem row_setCells {base g n cap sz : Nat} {e : TypeId} (cs : List Value) : ∀ (pre old post : List Value) (w : World), w.ownsRow base e sz (.slice (some ⟨g, 0, none⟩) n cap) n (pre ++ (old ++ post)) → old.length = cs.length →
    (w.setCells g pre.length cs).ownsRow base e sz (.slice (some ⟨g, 0, none⟩) n cap) n (pre ++ (cs ++ post)) ∧ w.grownBy (w.setCells g pre.length cs) (some g) := by
  induction cs with
  | nil => intro pre old post w h hl; obtain rfl := List.length_eq_zero_iff.1 hl; exact ⟨h, World.grownBy.refl _ _⟩
  | cons c cr ih =>
    intro pre old post w h hl
    obtain ⟨x, r, rfl⟩ : ∃ x r, old = x :: r := by
      cases old with
      | nil => simp at hl
      | cons x r => exact ⟨x, r, rfl⟩
    have hs := h.stored pre.length c
    rw [List.set_append_right _ _ (Nat.le_refl _), Nat.sub_self] at hs
    simp only [List.cons_append, List.set_cons_zero] at hs
    have := ih (pre ++ [c]) r post (w.setCell ⟨g, pre.length, none⟩ c) (by simpa using hs.1) (by simpa using hl)
    simp only [List.length_append, List.length_singleton] at this
    rw [World.setCells]
    exact ⟨by simpa using this.1, grownBy_trans hs.2 this.2⟩
theorem setCells_heap (B : Nat) : ∀ (vs : List Value) (o : Nat) (w : World), (w.setCells B o vs).heap.size = w.heap.size := by
  intro vs
  induction vs with
  | nil => intro o w; rfl
  | cons v r ih => intro o w; rw [World.setCells, ih]; simp

/-- A record of the row stored: q, which is owned elsewhere. -/
theorem OwnRs.fill {w : World} {lo hi g c : Nat} {A B : List RecA} {z : RecA} (h : OwnRs w lo hi (some ⟨g, 0, none⟩) c (A ++ z :: B)) (q : RecA) {l u : Nat} (hq : q.own w l u) (hl : hi ≤ l) (hlo : lo ≤ hi) (hu : u ≤ w.heap.size) :
    ∃ W, Hid (w.setCells g (A.length * 15) q.cells = W) ∧ OwnRs W lo (max hi u) (some ⟨g, 0, none⟩) c (A ++ q :: B) ∧ Touch [g] w W ∧ W.heap.size = w.heap.size := by
  have hrow := h.row
  rw [cellsRs_app, cellsRs_cons, List.length_append, List.length_cons] at hrow
  have hg : lo ≤ g ∧ g < hi := ⟨(hrow.lt g rfl).1, h.blk g rfl⟩
  obtain ⟨h1, h2⟩ := row_setCells q.cells (cellsRs A) z.cells (cellsRs B) w hrow rfl
  rw [cellsRs_len] at h1 h2
  have ht : Touch [g] w (w.setCells g (A.length * 15) q.cells) := Touch.of_grown h2 (fun k hk => by cases hk; simp)
  have hap := h.apart
  simp only [List.flatMap_append, List.flatMap_cons, Value.ownBlock, Option.toList, List.singleton_append, List.nodup_cons, List.nodup_append, List.mem_append, not_or] at hap
  obtain ⟨⟨n1, n2, n3⟩, a1, ⟨a2, a3, a4⟩, a5⟩ := hap
  have hqb := hq.blocks_lt
  have hA : ∀ x ∈ A.flatMap RecA.blocks, lo ≤ x ∧ x < hi := fun x hx => by
    obtain ⟨r, hr, hx⟩ := List.mem_flatMap.1 hx
    exact (h.each r (by simp [hr])).blocks_lt x hx
  have hB : ∀ x ∈ B.flatMap RecA.blocks, lo ≤ x ∧ x < hi := fun x hx => by
    obtain ⟨r, hr, hx⟩ := List.mem_flatMap.1 hx
    exact (h.each r (by simp [hr])).blocks_lt x hx
  have hsz := setCells_heap g q.cells (A.length * 15) w
  refine ⟨_, rfl, ⟨?_, ?_, fun k hk => ?_, fun r hr => ?_, ?_⟩, ht, hsz⟩
  · rw [cellsRs_app, cellsRs_cons, List.length_append, List.length_cons]
    exact h1
  · rw [hsz]
    have := h.top
    omega
  · cases hk
    show g < max hi u
    omega
  · rcases List.mem_append.1 hr with hr | hr
    · exact ((h.each r (by simp [hr])).touch ht (fun k hk hk' => n1 (by rw [← List.mem_singleton.1 hk']; exact List.mem_flatMap.2 ⟨r, hr, hk⟩))).widen (Nat.le_refl _) (by omega) (by rw [hsz]; have := h.top; omega)
    · rcases List.mem_cons.1 hr with rfl | hr
      · exact (hq.touch ht (fun k hk hk' => by have := hqb k hk; have := List.mem_singleton.1 hk'; omega)).widen (by omega) (by omega) (by rw [hsz]; have := h.top; omega)
      · exact ((h.each r (by simp [hr])).touch ht (fun k hk hk' => n3 (by rw [← List.mem_singleton.1 hk']; exact List.mem_flatMap.2 ⟨r, hr, hk⟩))).widen (Nat.le_refl _) (by omega) (by rw [hsz]; have := h.top; omega)
  · simp only [List.flatMap_append, List.flatMap_cons, Value.ownBlock, Option.toList, List.singleton_append, List.nodup_cons, List.nodup_append, List.mem_append, not_or]
    refine ⟨⟨n1, fun hk => by have := hqb g hk; omega, n3⟩, a1, ⟨hq.apart, a3, fun x hx y hy e => by have := hqb x hx; have := hB y hy; omega⟩, fun x hx y hy e => ?_⟩
    rcases hy with hy | hy
    · have := hqb y hy; have := hA x hx; omega
    · exact a5 x hx y (.inr hy) e
end Go.Proofs.YtoboickdkednkaaGreatDoor

/- Appending a record that is read to a row that the call owns. -/
namespace Go.Proofs.YtoboickdkednkaaGreatDoor
open Go.RowKit

theorem Tryz.infoRec : (Tryz.prog.info? 39).map (fun i => (i.zero, i.size, i.bytes)) = some (some (.agg zeroR.cells.toArray), 15, 200) := by kernel_rfl

theorem ownsRow_at {w : World} {base : Nat} {e : TypeId} {size n : Nat} {v : Value} {xs : List Value} (h : w.ownsRow base e size v n xs) {k : Nat} (hk : v.ownBlock = some k) : ∃ cur, w.heap[k]? = some (.cells cur e (0, 0)) := by
  rcases h.2 with ⟨rfl, _⟩ | ⟨g, cap, cur, rfl, _, hg, _⟩
  · cases hk
  · cases hk
    exact ⟨cur, hg⟩
/-- A row of records is none of the rows that hang at a record: their kinds differ. -/
theorem row_apart {w : World} {base lo hi n : Nat} {v : Value} {xs : List Value} {r : RecA} (h : w.ownsRow base 39 15 v n xs) (hr : r.own w lo hi) : ∀ k, v.ownBlock = some k → k ∉ r.blocks := by
  intro k hk hm
  obtain ⟨cur, hc⟩ := ownsRow_at h hk
  simp only [RecA.blocks, SlotA.blocks, List.mem_append, Option.mem_toList] at hm
  have no : ∀ {b2 s2 n2 : Nat} {e2 : TypeId} {v2 : Value} {x2 : List Value}, w.ownsRow b2 e2 s2 v2 n2 x2 → v2.ownBlock = some k → e2 = 39 := by
    intro b2 s2 n2 e2 v2 x2 h2 hk2
    obtain ⟨cur2, hc2⟩ := ownsRow_at h2 hk2
    rw [hc] at hc2
    simp only [Option.some.injEq, Obj.cells.injEq] at hc2
    exact hc2.2.1.symm
  rcases hm with (h1 | h1) | (h1 | h1) | h1
  · have := no hr.bf.ints.1 h1; cases this
  · have := no hr.bf.refs.1 h1; cases this
  · have := no hr.af.ints.1 h1; cases this
  · have := no hr.af.refs.1 h1; cases this
  · have := no hr.txs.1 h1; cases this

theorem append_rec {w : World} {ops : Array Oper} {rest : List Oper} {o : Oper} {act : Act} {Q : Exit → Act → World → Prop} (hgd : o.guard = none) (s x : Operand)
    (ho : o.op = .call { callee := .builtin .append, args := #[s, x], argTypes := #[24, 24] })
    (lo hi : Nat) (a : Option Addr) (c : Nat) (rs : List RecA) (hs : act.eval s = .slice a rs.length c) (hown : OwnRs w lo hi a c rs)
    (b off : Nat) (sc : Nat) (q : RecA) (hx : act.eval x = .slice (some ⟨b, off, none⟩) 1 sc) (hr : w.rangeAt b off q.cells) (l u : Nat) (hq : q.own w l u) (hl : hi ≤ l) (hu : u ≤ w.heap.size)
    (hb : rs.length + 1 ≤ 68719476736) (hlo : lo ≤ hi)
    (h : ∀ a' c' w', OwnRs w' lo w'.heap.size a' c' (rs ++ [q]) → w.grownBy w' (Value.slice a rs.length c).ownBlock → wpList Tryz.prog ops Q rest (act.put o.dst (.slice a' (rs ++ [q]).length c')) w') :
    wpList Tryz.prog ops Q (o :: rest) act w := by
  obtain ⟨i0, hi0, hz0, hz1, hz2⟩ := info_parts Tryz.infoRec
  have hqb := hq.blocks_lt
  have htop := hown.top
  refine wpList_append_own w hgd s x 24 ho lo 39 i0 (.agg zeroR.cells.toArray) 15 200 Tryz.underlying24 hi0 hz0 hz1 hz2 rfl (by decide) _ _ _ hs hown.row ⟨b, off, none⟩ 1 sc q.cells hx (by rfl) ?_ (oneR q) (by simp only [maxLen]; omega) (by omega) (by omega) (fun v' w' h1 h2 _ => ?_)
  · intro j v hj
    rw [Addr_add]
    exact hr j v hj
  · have e : cellsRs rs ++ q.cells = cellsRs (rs ++ [q]) := by rw [cellsRs_app, cellsRs_cons]; simp [cellsRs]
    have e2 : rs.length + 1 = (rs ++ [q]).length := by simp
    rw [e, e2] at h1
    have sh : ∃ a' c', v' = .slice a' (rs ++ [q]).length c' := by
      rcases h1.2 with ⟨rfl, h0⟩ | ⟨g, cap, cur, rfl, _⟩
      · simp at h0
      · exact ⟨_, _, rfl⟩
    obtain ⟨a', c', rfl⟩ := sh
    have hsz := h2.size
    have ht : Touch (Value.slice a rs.length c).ownBlock.toList w w' := Touch.of_grown h2 (fun k hk => Option.mem_toList.2 hk)
    have hrow := h1.lt
    have hold : ∀ r ∈ rs, r.own w' lo w'.heap.size := fun r hr => ((hown.each r hr).touch ht (fun k hk hk' => (List.nodup_append.1 hown.apart).2.2 k hk' k (List.mem_flatMap.2 ⟨r, hr, hk⟩) rfl)).widen (Nat.le_refl _) (by omega) (Nat.le_refl _)
    have hnew : q.own w' lo w'.heap.size := (hq.touch ht (fun k hk hk' => by have := hqb k hk; have := hown.blk k (Option.mem_toList.1 hk'); omega)).widen (by omega) (by omega) (Nat.le_refl _)
    refine h a' c' w' ⟨h1, Nat.le_refl _, fun k hk => (hrow k hk).2, fun r hr => ?_, ?_⟩ h2
    · rcases List.mem_append.1 hr with hr | hr
      · exact hold r hr
      · obtain rfl := List.mem_singleton.1 hr
        exact hnew
    · rw [List.flatMap_append, List.nodup_append, List.nodup_append]
      have hap := (List.nodup_append.1 hown.apart).2.1
      have hin : ∀ x ∈ rs.flatMap RecA.blocks, lo ≤ x ∧ x < hi := fun x hx => by
        obtain ⟨r, hr, hx⟩ := List.mem_flatMap.1 hx
        exact (hown.each r hr).blocks_lt x hx
      refine ⟨by cases (Value.slice a' (rs ++ [q]).length c').ownBlock <;> simp, ⟨hap, by simpa using hq.apart, fun x hx y hy e => ?_⟩, fun x hx y hy e => ?_⟩
      · have := hin x hx
        simp only [List.flatMap_cons, List.flatMap_nil, List.append_nil] at hy
        have := hqb y hy
        omega
      · have hx' := Option.mem_toList.1 hx
        subst e
        rcases List.mem_append.1 hy with hy | hy
        · obtain ⟨r, hr, hy⟩ := List.mem_flatMap.1 hy
          exact row_apart h1 (hold r hr) x hx' hy
        · simp only [List.flatMap_cons, List.flatMap_nil, List.append_nil] at hy
          exact row_apart h1 hnew x hx' hy
end Go.Proofs.YtoboickdkednkaaGreatDoor

/- Appending a record as a step of a region that draws its order. -/
namespace Go.Proofs.YtoboickdkednkaaGreatDoor
open Go.RowKit

theorem run_append_rec {w : World} (ty : TypeId) (lo hi : Nat) (a : Option Addr) (c : Nat) (rs : List RecA) (hown : OwnRs w lo hi a c rs)
    (b off : Nat) (sc : Nat) (q : RecA) (hr : w.rangeAt b off q.cells) (l u : Nat) (hq : q.own w l u) (hl : hi ≤ l) (hu : u ≤ w.heap.size)
    (hb : rs.length + 1 ≤ 68719476736) (hlo : lo ≤ hi) :
    ∃ a' c' w', (Builtin.append_ #[24, 24] ty #[.slice a rs.length c, .slice (some ⟨b, off, none⟩) 1 sc]).run Tryz.prog w = .ok (.slice a' (rs ++ [q]).length c') w' ∧ OwnRs w' lo w'.heap.size a' c' (rs ++ [q]) ∧ w.grownBy w' (Value.slice a rs.length c).ownBlock := by
  obtain ⟨i0, hi0, hz0, hz1, hz2⟩ := info_parts Tryz.infoRec
  have hqb := hq.blocks_lt
  have htop := hown.top
  obtain ⟨v', w', hrun, h1, h2, _, _⟩ := run_append_own_at (P := Tryz.prog) w lo 24 ty 39 i0 (.agg zeroR.cells.toArray) 15 200 Tryz.underlying24 hi0 hz0 hz1 hz2 rfl (by decide) _ _ _ hown.row ⟨b, off, none⟩ 1 sc q.cells (by rfl) (by
    intro j v hj
    rw [Addr_add]
    exact hr j v hj) (oneR q) (by simp only [maxLen]; omega) (by omega) (by omega)
  have e : cellsRs rs ++ q.cells = cellsRs (rs ++ [q]) := by rw [cellsRs_app, cellsRs_cons]; simp [cellsRs]
  have e2 : rs.length + 1 = (rs ++ [q]).length := by simp
  rw [e, e2] at h1
  have sh : ∃ a' c', v' = .slice a' (rs ++ [q]).length c' := by
    rcases h1.2 with ⟨rfl, h0⟩ | ⟨g, cap, cur, rfl, _⟩
    · simp at h0
    · exact ⟨_, _, rfl⟩
  obtain ⟨a', c', rfl⟩ := sh
  have hsz := h2.size
  have ht : Touch (Value.slice a rs.length c).ownBlock.toList w w' := Touch.of_grown h2 (fun k hk => Option.mem_toList.2 hk)
  have hrow := h1.lt
  have hold : ∀ r ∈ rs, r.own w' lo w'.heap.size := fun r hr => ((hown.each r hr).touch ht (fun k hk hk' => (List.nodup_append.1 hown.apart).2.2 k hk' k (List.mem_flatMap.2 ⟨r, hr, hk⟩) rfl)).widen (Nat.le_refl _) (by omega) (Nat.le_refl _)
  have hnew : q.own w' lo w'.heap.size := (hq.touch ht (fun k hk hk' => by have := hqb k hk; have := hown.blk k (Option.mem_toList.1 hk'); omega)).widen (by omega) (by omega) (Nat.le_refl _)
  refine ⟨a', c', w', hrun, ⟨h1, Nat.le_refl _, fun k hk => (hrow k hk).2, fun r hr => ?_, ?_⟩, h2⟩
  · rcases List.mem_append.1 hr with hr | hr
    · exact hold r hr
    · obtain rfl := List.mem_singleton.1 hr
      exact hnew
  · rw [List.flatMap_append, List.nodup_append, List.nodup_append]
    have hap := (List.nodup_append.1 hown.apart).2.1
    have hin : ∀ x ∈ rs.flatMap RecA.blocks, lo ≤ x ∧ x < hi := fun x hx => by
      obtain ⟨r, hr, hx⟩ := List.mem_flatMap.1 hx
      exact (hown.each r hr).blocks_lt x hx
    refine ⟨by cases (Value.slice a' (rs ++ [q]).length c').ownBlock <;> simp, ⟨hap, by simpa using hq.apart, fun x hx y hy e => ?_⟩, fun x hx y hy e => ?_⟩
    · have := hin x hx
      simp only [List.flatMap_cons, List.flatMap_nil, List.append_nil] at hy
      have := hqb y hy
      omega
    · have hx' := Option.mem_toList.1 hx
      subst e
      rcases List.mem_append.1 hy with hy | hy
      · obtain ⟨r, hr, hy⟩ := List.mem_flatMap.1 hy
        exact row_apart h1 (hold r hr) x hx' hy
      · simp only [List.flatMap_cons, List.flatMap_nil, List.append_nil] at hy
        exact row_apart h1 hnew x hx' hy

theorem step_append_rec {w : World} {ops : Array Oper} {o : Oper} {act : Act} {K : Act → World → Prop} {Q : Exit → Act → World → Prop} {E : Prop} (hgd : o.guard = none) (s x : Operand)
    (ho : o.op = .call { callee := .builtin .append, args := #[s, x], argTypes := #[24, 24] })
    (lo hi : Nat) (a : Option Addr) (c : Nat) (rs : List RecA) (hs : act.eval s = .slice a rs.length c) (hown : OwnRs w lo hi a c rs)
    (b off : Nat) (sc : Nat) (q : RecA) (hx : act.eval x = .slice (some ⟨b, off, none⟩) 1 sc) (hr : w.rangeAt b off q.cells) (l u : Nat) (hq : q.own w l u) (hl : hi ≤ l) (hu : u ≤ w.heap.size)
    (hb : rs.length + 1 ≤ 68719476736) (hlo : lo ≤ hi)
    (h : ∀ a' c' w', OwnRs w' lo w'.heap.size a' c' (rs ++ [q]) → w.grownBy w' (Value.slice a rs.length c).ownBlock → K (act.put o.dst (.slice a' (rs ++ [q]).length c')) w') :
    if Region.wanted o (yielded ops act.tmps) = true then Oper.wp Tryz.prog o act w K Q else E := by
  have hw : Region.wanted o (yielded ops act.tmps) = true := by simp [Region.wanted, hgd]
  rw [if_pos hw]
  obtain ⟨a', c', w', hrun, h2, h3⟩ := run_append_rec (w := w) o.type lo hi a c rs hown b off sc q hr l u hq hl hu hb hlo
  unfold Oper.wp
  simp [execOp, ho, resolve, invoke, builtin, hs, hx, hrun, Result.andThen]
  have := h a' c' w' h2 h3
  rw [List.length_append, List.length_singleton] at this
  exact this
end Go.Proofs.YtoboickdkednkaaGreatDoor

/- Logs: what they are, what a walk reads and owns of them. -/
namespace Go.Proofs.YtoboickdkednkaaGreatDoor
open Go.RowKit

structure LogV where
  recs : List RecV
  sure : Int
/-- A log, and where its row lies. -/
structure LogA where
  recs : List RecA
  sure : Int
  a : Option Addr
  c : Nat
def LogA.v (l : LogA) : LogV := ⟨l.recs.map RecA.v, l.sure⟩
def LogA.cells (l : LogA) : List Value := [.slice l.a l.recs.length l.c, .int .i64 l.sure]
def LogA.reads (w : World) (l : LogA) : Prop := ReadsRs w l.a l.recs
def LogA.own (w : World) (lo hi : Nat) (l : LogA) : Prop := OwnRs w lo hi l.a l.c l.recs
structure LogA.short (l : LogA) (m : Nat) : Prop where
  len : l.recs.length ≤ m
  each : ∀ r ∈ l.recs, r.short m
theorem LogA.short.at {l : LogA} {m : Nat} (h : l.short m) (k : Nat) (hk : k < l.recs.length) : (l.recs.getD k zeroR).short m := h.each _ (recD_mem _ k hk)
theorem mapV_len {rs ts : List RecA} (h : ts.map RecA.v = rs.map RecA.v) : ts.length = rs.length := by simpa using congrArg List.length h
theorem mapV_at {rs ts : List RecA} (h : ts.map RecA.v = rs.map RecA.v) (k : Nat) (hk : k < rs.length) : (ts.getD k zeroR).v = (rs.getD k zeroR).v := by
  have hk' : k < ts.length := by rw [mapV_len h]; exact hk
  have := congrArg (fun x => x[k]?) h
  simpa [List.getD, hk, hk'] using this
theorem mapV_all {rs ts : List RecA} (h : ts.map RecA.v = rs.map RecA.v) (P : RecA → Prop) (hP : ∀ a b : RecA, a.v = b.v → P b → P a) (hall : ∀ r ∈ rs, P r) : ∀ r ∈ ts, P r := by
  intro r hr
  obtain ⟨k, hk, rfl⟩ := List.getElem_of_mem hr
  have hk' : k < rs.length := by rw [← mapV_len h]; exact hk
  have e := mapV_at h k hk'
  refine hP _ (rs.getD k zeroR) ?_ (hall _ (recD_mem rs k hk'))
  rw [← e]
  simp [List.getD, hk]
theorem LogA.short_of {l t : LogA} {m : Nat} (h : t.v = l.v) (hl : l.short m) : t.short m := by
  simp only [LogA.v, LogV.mk.injEq] at h
  exact ⟨by rw [mapV_len h.1]; exact hl.len, mapV_all h.1 (fun r => r.short m) (fun a b e hb => Go.Proofs.YtoboickdkednkaaGreatDoor.short_of e hb) hl.each⟩
theorem LogA.short_wide {l : LogA} (hl : l.short 1048576) : l.short 1099511627776 := ⟨by have := hl.len; omega, fun r hr => Go.Proofs.YtoboickdkednkaaGreatDoor.short_wide (hl.each r hr)⟩
end Go.Proofs.YtoboickdkednkaaGreatDoor
