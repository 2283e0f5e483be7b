/- Several texts in one, in their order. -/
import Derived.Test.YtickiokdcbeefaaGreatDoorPFnLogsx14
import Derived.Deep.RegionHeld3
import Derived.Test.YtickiokdcbeefaaGreatDoorPFnLogsx13
import Derived.Test.YtickiokdcbeefaaGreatDoorPFnLogsx8
/- The walks of the kinds, impl.recAt and impl.recOf. -/
namespace Go.Proofs.YtickiokdcbeefaaGreatDoor
open Go.RowKit

theorem kind_setDeed (tx prev oid : Int) (b a : SlotA) (w : World) : Calls Tryz.prog 82 #[.agg #[.int .i64 tx, .int .i64 prev, .int .i64 oid, .bool b.v.has, .int .i64 b.v.o.kind, .slice b.aI b.v.o.ints.length b.cI, .slice b.aR b.v.o.refs.length b.cR, .bool a.v.has, .int .i64 a.v.o.kind, .slice a.aI a.v.o.ints.length a.cI, .slice a.aR a.v.o.refs.length a.cR]] w fun e w' => e = .returned (.int .i64 1) ∧ Below w.heap.size w w' := by
  go_enter Tryz.func82, Tryz.ntmps82
  go_wp2
  go_ret
  exact ⟨rfl, (Below.refl _ _).alloc (Nat.le_refl _) _⟩

theorem kind_commitDeed (tx prev : Int) (w : World) : Calls Tryz.prog 84 #[.agg #[.int .i64 tx, .int .i64 prev]] w fun e w' => e = .returned (.int .i64 2) ∧ Below w.heap.size w w' := by
  go_enter Tryz.func84, Tryz.ntmps84
  go_wp2
  go_ret
  exact ⟨rfl, (Below.refl _ _).alloc (Nat.le_refl _) _⟩

theorem kind_abortDeed (tx prev : Int) (w : World) : Calls Tryz.prog 85 #[.agg #[.int .i64 tx, .int .i64 prev]] w fun e w' => e = .returned (.int .i64 3) ∧ Below w.heap.size w w' := by
  go_enter Tryz.func85, Tryz.ntmps85
  go_wp2
  go_ret
  exact ⟨rfl, (Below.refl _ _).alloc (Nat.le_refl _) _⟩

theorem kind_backDeed (tx prev oid : Int) (a : SlotA) (next : Int) (w : World) : Calls Tryz.prog 86 #[.agg #[.int .i64 tx, .int .i64 prev, .int .i64 oid, .bool a.v.has, .int .i64 a.v.o.kind, .slice a.aI a.v.o.ints.length a.cI, .slice a.aR a.v.o.refs.length a.cR, .int .i64 next]] w fun e w' => e = .returned (.int .i64 4) ∧ Below w.heap.size w w' := by
  go_enter Tryz.func86, Tryz.ntmps86
  go_wp2
  go_ret
  exact ⟨rfl, (Below.refl _ _).alloc (Nat.le_refl _) _⟩

theorem kind_endDeed (tx prev : Int) (w : World) : Calls Tryz.prog 87 #[.agg #[.int .i64 tx, .int .i64 prev]] w fun e w' => e = .returned (.int .i64 5) ∧ Below w.heap.size w w' := by
  go_enter Tryz.func87, Tryz.ntmps87
  go_wp2
  go_ret
  exact ⟨rfl, (Below.refl _ _).alloc (Nat.le_refl _) _⟩

theorem kind_checkDeed (ls : List LiveV) (aL : Option Addr) (cL : Nat) (w : World) : Calls Tryz.prog 88 #[.agg #[.slice aL ls.length cL]] w fun e w' => e = .returned (.int .i64 6) ∧ Below w.heap.size w w' := by
  go_enter Tryz.func88, Tryz.ntmps88
  go_wp2
  go_ret
  exact ⟨rfl, (Below.refl _ _).alloc (Nat.le_refl _) _⟩

theorem rec_load {w : World} {B : Nat} (r : RecA) (b : Box w B r.cells 42) : (loadVar 42 ⟨B, 0, none⟩).run Tryz.prog w = .ok (.agg r.cells.toArray) w :=
  run_loadVar_mid (P := Tryz.prog) w B 0 42 r.cells _ (Box.range [] r.cells [] (by simpa using b)) Tryz.underlying42 rfl (by show _ = some 15; kernel_rfl)
/-- A record of these, and nothing else. -/
def recA (n tx prev kind : Int) : RecA := ⟨n, tx, prev, kind, 0, zeroS, zeroS, 0, [], none, 0⟩
set_option maxHeartbeats 1000000 in
set_option maxRecDepth 100000 in
theorem recAt_any (n tx prev kind : Int) (w : World) : Calls Tryz.prog 83 #[.int .i64 n, .agg #[.int .i64 tx, .int .i64 prev], .int .i64 kind] w fun e w' => e = .returned (.agg (recA n tx prev kind).cells.toArray) ∧ Below w.heap.size w w' := by
  obtain ⟨W, hW, b0, b1, hbW, hsW⟩ := boxes2 w [.int .i64 tx, .int .i64 prev] (recA n tx prev kind).cells 112 42
  have HL : Hid (_ = _) := rec_load (recA n tx prev kind) b1
  simp only [recA, RecA.cells, zeroS, List.length_nil] at hW
  clear hsW b0 b1
  go_enter Tryz.func83, Tryz.ntmps83
  go_wp2
  refine bodyPost_ret (v := .agg (recA n tx prev kind).cells.toArray) (results_one Tryz.results83 rfl ?_) rfl ⟨rfl, ?_⟩
  · rw [show _ = W from hW.out]; exact HL.out
  · rw [show _ = W from hW.out]; exact hbW

set_option maxHeartbeats 4000000 in
set_option maxRecDepth 100000 in
theorem recOf_set (n : Int) (tx prev oid : Int) (b a : SlotA) (w : World) :
    Calls Tryz.prog 57 #[.int .i64 n, issetDeed (setD tx prev oid b a)] w fun e w' => e = .returned (.agg (RecA.cells (⟨n, tx, prev, 1, oid, b, a, 0, [], none, 0⟩)).toArray) ∧ Below w.heap.size w w' := by
  obtain ⟨W, hW, b0, b1, hbW, hsW⟩ := boxes2 w [.int .i64 0, .int .i64 0, .int .i64 0, .int .i64 0, .int .i64 0, .bool false, .int .i64 0, .slice none 0 0, .slice none 0 0, .bool false, .int .i64 0, .slice none 0 0, .slice none 0 0, .int .i64 0, .slice none 0 0] [.int .i64 tx, .int .i64 prev, .int .i64 oid, .bool b.v.has, .int .i64 b.v.o.kind, .slice b.aI b.v.o.ints.length b.cI, .slice b.aR b.v.o.refs.length b.cR, .bool a.v.has, .int .i64 a.v.o.kind, .slice a.aI a.v.o.ints.length a.cI, .slice a.aR a.v.o.refs.length a.cR] 42 114
  simp only [issetDeed, setD]
  have a_setDeed := fun W => yes_setDeed W (.agg #[.int .i64 tx, .int .i64 prev, .int .i64 oid, .bool b.v.has, .int .i64 b.v.o.kind, .slice b.aI b.v.o.ints.length b.cI, .slice b.aR b.v.o.refs.length b.cR, .bool a.v.has, .int .i64 a.v.o.kind, .slice a.aI a.v.o.ints.length a.cI, .slice a.aR a.v.o.refs.length a.cR])
  have HB : Hid (∀ u, Below W.heap.size W u → Box u w.heap.size [.int .i64 0, .int .i64 0, .int .i64 0, .int .i64 0, .int .i64 0, .bool false, .int .i64 0, .slice none 0 0, .slice none 0 0, .bool false, .int .i64 0, .slice none 0 0, .slice none 0 0, .int .i64 0, .slice none 0 0] 42 ∧ Box u (w.heap.size + 1) [.int .i64 tx, .int .i64 prev, .int .i64 oid, .bool b.v.has, .int .i64 b.v.o.kind, .slice b.aI b.v.o.ints.length b.cI, .slice b.aR b.v.o.refs.length b.cR, .bool a.v.has, .int .i64 a.v.o.kind, .slice a.aI a.v.o.ints.length a.cI, .slice a.aR a.v.o.refs.length a.cR] 114) := fun u hu => ⟨b0.below hu b0.lt, b1.below hu b1.lt⟩
  have HC : Hid (∀ w', Box w' (w.heap.size + 1) [.int .i64 tx, .int .i64 prev, .int .i64 oid, .bool b.v.has, .int .i64 b.v.o.kind, .slice b.aI b.v.o.ints.length b.cI, .slice b.aR b.v.o.refs.length b.cR, .bool a.v.has, .int .i64 a.v.o.kind, .slice a.aI a.v.o.ints.length a.cI, .slice a.aR a.v.o.refs.length a.cR] 114 → w'.cell? ⟨w.heap.size + 1, 0, none⟩ = some (.int .i64 tx) ∧ w'.cell? ⟨w.heap.size + 1, 1, none⟩ = some (.int .i64 prev) ∧ w'.cell? ⟨w.heap.size + 1, 2, none⟩ = some (.int .i64 oid) ∧ w'.cell? ⟨w.heap.size + 1, 3, none⟩ = some (.bool b.v.has) ∧ w'.cell? ⟨w.heap.size + 1, 4, none⟩ = some (.int .i64 b.v.o.kind) ∧ w'.cell? ⟨w.heap.size + 1, 5, none⟩ = some (.slice b.aI b.v.o.ints.length b.cI) ∧ w'.cell? ⟨w.heap.size + 1, 6, none⟩ = some (.slice b.aR b.v.o.refs.length b.cR) ∧ w'.cell? ⟨w.heap.size + 1, 7, none⟩ = some (.bool a.v.has) ∧ w'.cell? ⟨w.heap.size + 1, 8, none⟩ = some (.int .i64 a.v.o.kind) ∧ w'.cell? ⟨w.heap.size + 1, 9, none⟩ = some (.slice a.aI a.v.o.ints.length a.cI) ∧ w'.cell? ⟨w.heap.size + 1, 10, none⟩ = some (.slice a.aR a.v.o.refs.length a.cR)) := fun w' b => ⟨b.cell 0 _ rfl, b.cell 1 _ rfl, b.cell 2 _ rfl, b.cell 3 _ rfl, b.cell 4 _ rfl, b.cell 5 _ rfl, b.cell 6 _ rfl, b.cell 7 _ rfl, b.cell 8 _ rfl, b.cell 9 _ rfl, b.cell 10 _ rfl⟩
  have hh := HC.out W b1
  have hlt := b1.lt
  have HI : Hid ((Tryz.prog.info? 42).map (·.size) = some 15) := by rw [Hid]; kernel_rfl
  have HO : Hid (_) := all_oneCell_toArray (oneR (⟨n, tx, prev, 1, oid, b, a, 0, [], none, 0⟩))
  clear hsW b0 b1
  go_enter Tryz.func57, Tryz.ntmps57
  go_wp2_with fail
  rw [hW.out]
  clear hW a_setDeed
  refine wp_region_held_drew (S := fun w' => w'.cell? ⟨w.heap.size + 1, 0, none⟩ = some (.int .i64 tx) ∧ w'.cell? ⟨w.heap.size + 1, 1, none⟩ = some (.int .i64 prev) ∧ w'.cell? ⟨w.heap.size + 1, 2, none⟩ = some (.int .i64 oid) ∧ w'.cell? ⟨w.heap.size + 1, 3, none⟩ = some (.bool b.v.has) ∧ w'.cell? ⟨w.heap.size + 1, 4, none⟩ = some (.int .i64 b.v.o.kind) ∧ w'.cell? ⟨w.heap.size + 1, 5, none⟩ = some (.slice b.aI b.v.o.ints.length b.cI) ∧ w'.cell? ⟨w.heap.size + 1, 6, none⟩ = some (.slice b.aR b.v.o.refs.length b.cR) ∧ w'.cell? ⟨w.heap.size + 1, 7, none⟩ = some (.bool a.v.has) ∧ w'.cell? ⟨w.heap.size + 1, 8, none⟩ = some (.int .i64 a.v.o.kind) ∧ w'.cell? ⟨w.heap.size + 1, 9, none⟩ = some (.slice a.aI a.v.o.ints.length a.cI) ∧ w'.cell? ⟨w.heap.size + 1, 10, none⟩ = some (.slice a.aR a.v.o.refs.length a.cR)) (by kernel_rfl) (HC.out _ (HB.out _ (Below.refl _ _).drew).2) (fun hHeld => ?_)
  refine wpAnyH_take (i := 0) (v := .int .i64 n) rfl (by kernel_rfl) (by kernel_rfl) (by kernel_rfl) (fun _ _ _ h => h) (Or.inl ⟨by rfl, ?_⟩) hHeld ?_
  · intro w' hSw
    go_simp <;> rfl
  try simp only [Act.put, List.getElem_toArray, List.getElem_cons_zero, List.setIfInBounds_toArray, List.set_cons_zero, List.set_cons_succ]
  refine wpAnyH_take (i := 1) (v := .pointer (some ⟨w.heap.size + 1, 0, none⟩)) rfl (by kernel_rfl) (by kernel_rfl) (by kernel_rfl) (fun _ _ _ h => h) (Or.inl ⟨by rfl, ?_⟩) hHeld ?_
  · intro w' hSw
    go_simp <;> rfl
  try simp only [Act.put, List.getElem_toArray, List.getElem_cons_zero, List.getElem_cons_succ, List.setIfInBounds_toArray, List.set_cons_zero, List.set_cons_succ]
  refine wpAnyH_take (i := 2) (v := .pointer (some ⟨w.heap.size + 1, 0, none⟩)) rfl (by kernel_rfl) (by kernel_rfl) (by kernel_rfl) (fun _ _ _ h => h) (Or.inl ⟨by rfl, ?_⟩) hHeld ?_
  · intro w' hSw
    go_simp <;> rfl
  try simp only [Act.put, List.getElem_toArray, List.getElem_cons_zero, List.getElem_cons_succ, List.setIfInBounds_toArray, List.set_cons_zero, List.set_cons_succ]
  refine wpAnyH_take (i := 3) (v := .int .i64 tx) rfl (by kernel_rfl) (by kernel_rfl) (by kernel_rfl) (fun _ _ _ h => h) (Or.inl ⟨by rfl, ?_⟩) hHeld ?_
  · intro w' hSw
    go_simp <;> rfl
  try simp only [Act.put, List.getElem_toArray, List.getElem_cons_zero, List.getElem_cons_succ, List.setIfInBounds_toArray, List.set_cons_zero, List.set_cons_succ]
  refine wpAnyH_take (i := 4) (v := .pointer (some ⟨w.heap.size + 1, 0, none⟩)) rfl (by kernel_rfl) (by kernel_rfl) (by kernel_rfl) (fun _ _ _ h => h) (Or.inl ⟨by rfl, ?_⟩) hHeld ?_
  · intro w' hSw
    go_simp <;> rfl
  try simp only [Act.put, List.getElem_toArray, List.getElem_cons_zero, List.getElem_cons_succ, List.setIfInBounds_toArray, List.set_cons_zero, List.set_cons_succ]
  refine wpAnyH_take (i := 5) (v := .pointer (some ⟨w.heap.size + 1, 1, none⟩)) rfl (by kernel_rfl) (by kernel_rfl) (by kernel_rfl) (fun _ _ _ h => h) (Or.inl ⟨by rfl, ?_⟩) hHeld ?_
  · intro w' hSw
    go_simp <;> rfl
  try simp only [Act.put, List.getElem_toArray, List.getElem_cons_zero, List.getElem_cons_succ, List.setIfInBounds_toArray, List.set_cons_zero, List.set_cons_succ]
  refine wpAnyH_take (i := 6) (v := .int .i64 prev) rfl (by kernel_rfl) (by kernel_rfl) (by kernel_rfl) (fun _ _ _ h => h) (Or.inl ⟨by rfl, ?_⟩) hHeld ?_
  · intro w' hSw
    go_simp <;> rfl
  try simp only [Act.put, List.getElem_toArray, List.getElem_cons_zero, List.getElem_cons_succ, List.setIfInBounds_toArray, List.set_cons_zero, List.set_cons_succ]
  refine wpAnyH_take (i := 7) (v := .agg #[.int .i64 tx, .int .i64 prev, .int .i64 oid, .bool b.v.has, .int .i64 b.v.o.kind, .slice b.aI b.v.o.ints.length b.cI, .slice b.aR b.v.o.refs.length b.cR, .bool a.v.has, .int .i64 a.v.o.kind, .slice a.aI a.v.o.ints.length a.cI, .slice a.aR a.v.o.refs.length a.cR]) rfl (by kernel_rfl) (by kernel_rfl) (by kernel_rfl) (fun _ _ _ h => h) (Or.inl ⟨by rfl, ?_⟩) hHeld ?_
  · intro w' hSw
    go_simp <;> rfl
  try simp only [Act.put, List.getElem_toArray, List.getElem_cons_zero, List.getElem_cons_succ, List.setIfInBounds_toArray, List.set_cons_zero, List.set_cons_succ]
  refine wpAnyH_take (i := 9) (v := .pointer (some ⟨w.heap.size + 1, 2, none⟩)) rfl (by kernel_rfl) (by kernel_rfl) (by kernel_rfl) (fun _ _ _ h => h) (Or.inl ⟨by rfl, ?_⟩) hHeld ?_
  · intro w' hSw
    go_simp <;> rfl
  try simp only [Act.put, List.getElem_toArray, List.getElem_cons_zero, List.getElem_cons_succ, List.setIfInBounds_toArray, List.set_cons_zero, List.set_cons_succ]
  refine wpAnyH_take (i := 10) (v := .int .i64 oid) rfl (by kernel_rfl) (by kernel_rfl) (by kernel_rfl) (fun _ _ _ h => h) (Or.inl ⟨by rfl, ?_⟩) hHeld ?_
  · intro w' hSw
    go_simp <;> rfl
  try simp only [Act.put, List.getElem_toArray, List.getElem_cons_zero, List.getElem_cons_succ, List.setIfInBounds_toArray, List.set_cons_zero, List.set_cons_succ]
  refine wpAnyH_take (i := 11) (v := .pointer (some ⟨w.heap.size + 1, 3, none⟩)) rfl (by kernel_rfl) (by kernel_rfl) (by kernel_rfl) (fun _ _ _ h => h) (Or.inl ⟨by rfl, ?_⟩) hHeld ?_
  · intro w' hSw
    go_simp <;> rfl
  try simp only [Act.put, List.getElem_toArray, List.getElem_cons_zero, List.getElem_cons_succ, List.setIfInBounds_toArray, List.set_cons_zero, List.set_cons_succ]
  refine wpAnyH_take (i := 12) (v := .agg #[.bool b.v.has, .int .i64 b.v.o.kind, .slice b.aI b.v.o.ints.length b.cI, .slice b.aR b.v.o.refs.length b.cR]) rfl (by kernel_rfl) (by kernel_rfl) (by kernel_rfl) (fun _ _ _ h => h) (Or.inl ⟨by rfl, ?_⟩) hHeld ?_
  · intro w' hSw
    go_simp <;> rfl
  try simp only [Act.put, List.getElem_toArray, List.getElem_cons_zero, List.getElem_cons_succ, List.setIfInBounds_toArray, List.set_cons_zero, List.set_cons_succ]
  refine wpAnyH_take (i := 13) (v := .pointer (some ⟨w.heap.size + 1, 7, none⟩)) rfl (by kernel_rfl) (by kernel_rfl) (by kernel_rfl) (fun _ _ _ h => h) (Or.inl ⟨by rfl, ?_⟩) hHeld ?_
  · intro w' hSw
    go_simp <;> rfl
  try simp only [Act.put, List.getElem_toArray, List.getElem_cons_zero, List.getElem_cons_succ, List.setIfInBounds_toArray, List.set_cons_zero, List.set_cons_succ]
  refine wpAnyH_take (i := 14) (v := .agg #[.bool a.v.has, .int .i64 a.v.o.kind, .slice a.aI a.v.o.ints.length a.cI, .slice a.aR a.v.o.refs.length a.cR]) rfl (by kernel_rfl) (by kernel_rfl) (by kernel_rfl) (fun _ _ _ h => h) (Or.inl ⟨by rfl, ?_⟩) hHeld ?_
  · intro w' hSw
    go_simp <;> rfl
  try simp only [Act.put, List.getElem_toArray, List.getElem_cons_zero, List.getElem_cons_succ, List.setIfInBounds_toArray, List.set_cons_zero, List.set_cons_succ]
  refine wpAnyH_ready (rs := [8]) (by kernel_rfl) (by simp) ?_
  refine AllReadyH.cons rfl (fun K hK => ?_) AllReadyH.nil
  go_simp
  refine (kind_setDeed tx prev oid b a _).mono ?_
  rintro e u1 ⟨rfl, hb1⟩
  have hB1 : Below W.heap.size W u1 := ((Below.refl _ _).drew).trans hb1
  refine hK.out _ _ (HC.out _ (HB.out _ hB1).2) (fun hHeld => ?_)
  clear hK K
  try simp only [Act.put, List.getElem_toArray, List.getElem_cons_zero, List.getElem_cons_succ, List.setIfInBounds_toArray, List.set_cons_zero, List.set_cons_succ]
  have hBL := hB1
  refine wpAnyH_take (i := 15) (v := .agg (RecA.cells (⟨n, tx, prev, 1, oid, b, a, 0, [], none, 0⟩)).toArray) rfl (by kernel_rfl) (by kernel_rfl) (by kernel_rfl) (fun _ _ _ h => h) (Or.inl ⟨by rfl, ?_⟩) hHeld ?_
  · intro w' hSw
    go_simp <;> rfl
  try simp only [Act.put, List.getElem_toArray, List.getElem_cons_zero, List.getElem_cons_succ, List.setIfInBounds_toArray, List.set_cons_zero, List.set_cons_succ]
  obtain ⟨WF, hWF, bF, hwF, hsF⟩ := range_fill [] [.int .i64 0, .int .i64 0, .int .i64 0, .int .i64 0, .int .i64 0, .bool false, .int .i64 0, .slice none 0 0, .slice none 0 0, .bool false, .int .i64 0, .slice none 0 0, .slice none 0 0, .int .i64 0, .slice none 0 0] (RecA.cells (⟨n, tx, prev, 1, oid, b, a, 0, [], none, 0⟩)) [] (by simpa using (HB.out _ hBL).1) rfl
  have HF : Hid (Below w.heap.size w WF) := (hbW.trans (hBL.mono hbW.size)).trans (hwF.below (by omega) (by have := hBL.size; omega))
  have HLD : Hid (_ = _) := rec_load (⟨n, tx, prev, 1, oid, b, a, 0, [], none, 0⟩) (by simpa using bF)
  have HS : Hid (WF.cell? ⟨w.heap.size + 1, 0, none⟩ = some (.int .i64 tx) ∧ WF.cell? ⟨w.heap.size + 1, 1, none⟩ = some (.int .i64 prev) ∧ WF.cell? ⟨w.heap.size + 1, 2, none⟩ = some (.int .i64 oid) ∧ WF.cell? ⟨w.heap.size + 1, 3, none⟩ = some (.bool b.v.has) ∧ WF.cell? ⟨w.heap.size + 1, 4, none⟩ = some (.int .i64 b.v.o.kind) ∧ WF.cell? ⟨w.heap.size + 1, 5, none⟩ = some (.slice b.aI b.v.o.ints.length b.cI) ∧ WF.cell? ⟨w.heap.size + 1, 6, none⟩ = some (.slice b.aR b.v.o.refs.length b.cR) ∧ WF.cell? ⟨w.heap.size + 1, 7, none⟩ = some (.bool a.v.has) ∧ WF.cell? ⟨w.heap.size + 1, 8, none⟩ = some (.int .i64 a.v.o.kind) ∧ WF.cell? ⟨w.heap.size + 1, 9, none⟩ = some (.slice a.aI a.v.o.ints.length a.cI) ∧ WF.cell? ⟨w.heap.size + 1, 10, none⟩ = some (.slice a.aR a.v.o.refs.length a.cR)) := HC.out _ ((HB.out _ hBL).2.within hwF (by omega))
  refine wpAnyH_ready (rs := [16]) (by kernel_rfl) (by simp) ?_
  refine AllReadyH.cons rfl (fun K hK => ?_) AllReadyH.nil
  rw [if_pos (by rfl)]
  refine wp_store_mid 42 (.tmp 4) (.tmp 30) rfl w.heap.size 0 (RecA.cells (⟨n, tx, prev, 1, oid, b, a, 0, [], none, 0⟩)).toArray rfl rfl ((HB.out _ hBL).1.there 0 _ (by show 0 + 15 ≤ 15; decide)) HI.out HO.out ?_
  have HW : Hid (u1.setCells w.heap.size 0 (RecA.cells (⟨n, tx, prev, 1, oid, b, a, 0, [], none, 0⟩)).toArray.toList = WF) := hWF.out
  rw [HW.out]
  refine hK.out _ _ HS.out (fun hHeld => ?_)
  refine wpAnyH_done (by kernel_rfl) ?_ _
  clear hwF hWF HW hK K HS
  go_wp2
  exact bodyPost_ret (v := .agg (RecA.cells (⟨n, tx, prev, 1, oid, b, a, 0, [], none, 0⟩)).toArray) (results_one Tryz.results57 rfl HLD.out) rfl ⟨rfl, HF.out⟩

set_option maxHeartbeats 4000000 in
set_option maxRecDepth 100000 in
theorem recOf_commit (n : Int) (tx prev : Int) (w : World) :
    Calls Tryz.prog 57 #[.int .i64 n, iscommitDeed (linkD tx prev)] w fun e w' => e = .returned (.agg (RecA.cells (recA n tx prev 2)).toArray) ∧ Below w.heap.size w w' := by
  obtain ⟨W, hW, b0, b1, hbW, hsW⟩ := boxes2 w [.int .i64 0, .int .i64 0, .int .i64 0, .int .i64 0, .int .i64 0, .bool false, .int .i64 0, .slice none 0 0, .slice none 0 0, .bool false, .int .i64 0, .slice none 0 0, .slice none 0 0, .int .i64 0, .slice none 0 0] [.int .i64 tx, .int .i64 prev] 42 116
  simp only [iscommitDeed, linkD]
  have a_setDeed := fun W => no_setDeed W 116 (.agg #[.int .i64 tx, .int .i64 prev]) (by decide)
  have a_commitDeed := fun W => yes_commitDeed W (.agg #[.int .i64 tx, .int .i64 prev])
  have HB : Hid (∀ u, Below W.heap.size W u → Box u w.heap.size [.int .i64 0, .int .i64 0, .int .i64 0, .int .i64 0, .int .i64 0, .bool false, .int .i64 0, .slice none 0 0, .slice none 0 0, .bool false, .int .i64 0, .slice none 0 0, .slice none 0 0, .int .i64 0, .slice none 0 0] 42 ∧ Box u (w.heap.size + 1) [.int .i64 tx, .int .i64 prev] 116) := fun u hu => ⟨b0.below hu b0.lt, b1.below hu b1.lt⟩
  have HC : Hid (∀ w', Box w' (w.heap.size + 1) [.int .i64 tx, .int .i64 prev] 116 → w'.cell? ⟨w.heap.size + 1, 0, none⟩ = some (.int .i64 tx) ∧ w'.cell? ⟨w.heap.size + 1, 1, none⟩ = some (.int .i64 prev)) := fun w' b => ⟨b.cell 0 _ rfl, b.cell 1 _ rfl⟩
  have hh := HC.out W b1
  have hlt := b1.lt
  have HI : Hid ((Tryz.prog.info? 42).map (·.size) = some 15) := by rw [Hid]; kernel_rfl
  have HO : Hid (_) := all_oneCell_toArray (oneR (recA n tx prev 2))
  clear hsW b0 b1
  go_enter Tryz.func57, Tryz.ntmps57
  go_wp2_with fail
  rw [hW.out]
  clear hW a_setDeed a_commitDeed
  refine wp_region_held_drew (S := fun w' => w'.cell? ⟨w.heap.size + 1, 0, none⟩ = some (.int .i64 tx) ∧ w'.cell? ⟨w.heap.size + 1, 1, none⟩ = some (.int .i64 prev)) (by kernel_rfl) (HC.out _ (HB.out _ (Below.refl _ _).drew).2) (fun hHeld => ?_)
  refine wpAnyH_take (i := 0) (v := .int .i64 n) rfl (by kernel_rfl) (by kernel_rfl) (by kernel_rfl) (fun _ _ _ h => h) (Or.inl ⟨by rfl, ?_⟩) hHeld ?_
  · intro w' hSw
    go_simp <;> rfl
  try simp only [Act.put, List.getElem_toArray, List.getElem_cons_zero, List.setIfInBounds_toArray, List.set_cons_zero, List.set_cons_succ]
  refine wpAnyH_take (i := 1) (v := .pointer (some ⟨w.heap.size + 1, 0, none⟩)) rfl (by kernel_rfl) (by kernel_rfl) (by kernel_rfl) (fun _ _ _ h => h) (Or.inl ⟨by rfl, ?_⟩) hHeld ?_
  · intro w' hSw
    go_simp <;> rfl
  try simp only [Act.put, List.getElem_toArray, List.getElem_cons_zero, List.getElem_cons_succ, List.setIfInBounds_toArray, List.set_cons_zero, List.set_cons_succ]
  refine wpAnyH_take (i := 2) (v := .agg #[.int .i64 tx, .int .i64 prev]) rfl (by kernel_rfl) (by kernel_rfl) (by kernel_rfl) (fun _ _ _ h => h) (Or.inl ⟨by rfl, ?_⟩) hHeld ?_
  · intro w' hSw
    go_simp <;> rfl
  try simp only [Act.put, List.getElem_toArray, List.getElem_cons_zero, List.getElem_cons_succ, List.setIfInBounds_toArray, List.set_cons_zero, List.set_cons_succ]
  refine wpAnyH_take (i := 3) (v := .agg #[.int .i64 tx, .int .i64 prev]) rfl (by kernel_rfl) (by kernel_rfl) (by kernel_rfl) (fun _ _ _ h => h) (Or.inl ⟨by rfl, ?_⟩) hHeld ?_
  · intro w' hSw
    go_simp <;> rfl
  try simp only [Act.put, List.getElem_toArray, List.getElem_cons_zero, List.getElem_cons_succ, List.setIfInBounds_toArray, List.set_cons_zero, List.set_cons_succ]
  refine wpAnyH_ready (rs := [4]) (by kernel_rfl) (by simp) ?_
  refine AllReadyH.cons rfl (fun K hK => ?_) AllReadyH.nil
  go_simp
  refine (kind_commitDeed tx prev _).mono ?_
  rintro e u1 ⟨rfl, hb1⟩
  have hB1 : Below W.heap.size W u1 := ((Below.refl _ _).drew).trans hb1
  refine hK.out _ _ (HC.out _ (HB.out _ hB1).2) (fun hHeld => ?_)
  clear hK K
  try simp only [Act.put, List.getElem_toArray, List.getElem_cons_zero, List.getElem_cons_succ, List.setIfInBounds_toArray, List.set_cons_zero, List.set_cons_succ]
  refine wpAnyH_ready (rs := [5]) (by kernel_rfl) (by simp) ?_
  refine AllReadyH.cons rfl (fun K hK => ?_) AllReadyH.nil
  go_simp
  refine (recAt_any n tx prev 2 _).mono ?_
  rintro e u2 ⟨rfl, hb2⟩
  have hBL : Below W.heap.size W u2 := hB1.trans (hb2.mono hB1.size)
  refine hK.out _ _ (HC.out _ (HB.out _ hBL).2) (fun hHeld => ?_)
  clear hK K
  try simp only [Act.put, List.getElem_toArray, List.getElem_cons_zero, List.getElem_cons_succ, List.setIfInBounds_toArray, List.set_cons_zero, List.set_cons_succ]
  obtain ⟨WF, hWF, bF, hwF, hsF⟩ := range_fill [] [.int .i64 0, .int .i64 0, .int .i64 0, .int .i64 0, .int .i64 0, .bool false, .int .i64 0, .slice none 0 0, .slice none 0 0, .bool false, .int .i64 0, .slice none 0 0, .slice none 0 0, .int .i64 0, .slice none 0 0] (RecA.cells (recA n tx prev 2)) [] (by simpa using (HB.out _ hBL).1) rfl
  have HF : Hid (Below w.heap.size w WF) := (hbW.trans (hBL.mono hbW.size)).trans (hwF.below (by omega) (by have := hBL.size; omega))
  have HLD : Hid (_ = _) := rec_load (recA n tx prev 2) (by simpa using bF)
  have HS : Hid (WF.cell? ⟨w.heap.size + 1, 0, none⟩ = some (.int .i64 tx) ∧ WF.cell? ⟨w.heap.size + 1, 1, none⟩ = some (.int .i64 prev)) := HC.out _ ((HB.out _ hBL).2.within hwF (by omega))
  refine wpAnyH_ready (rs := [6]) (by kernel_rfl) (by simp) ?_
  refine AllReadyH.cons rfl (fun K hK => ?_) AllReadyH.nil
  rw [if_pos (by rfl)]
  refine wp_store_mid 42 (.tmp 4) (.tmp 39) rfl w.heap.size 0 (RecA.cells (recA n tx prev 2)).toArray rfl rfl ((HB.out _ hBL).1.there 0 _ (by show 0 + 15 ≤ 15; decide)) HI.out HO.out ?_
  have HW : Hid (u2.setCells w.heap.size 0 (RecA.cells (recA n tx prev 2)).toArray.toList = WF) := hWF.out
  rw [HW.out]
  refine hK.out _ _ HS.out (fun hHeld => ?_)
  refine wpAnyH_done (by kernel_rfl) ?_ _
  clear hwF hWF HW hK K HS
  go_wp2
  exact bodyPost_ret (v := .agg (RecA.cells (recA n tx prev 2)).toArray) (results_one Tryz.results57 rfl HLD.out) rfl ⟨rfl, HF.out⟩

set_option maxHeartbeats 4000000 in
set_option maxRecDepth 100000 in
theorem recOf_abort (n : Int) (tx prev : Int) (w : World) :
    Calls Tryz.prog 57 #[.int .i64 n, isabortDeed (linkD tx prev)] w fun e w' => e = .returned (.agg (RecA.cells (recA n tx prev 3)).toArray) ∧ Below w.heap.size w w' := by
  obtain ⟨W, hW, b0, b1, hbW, hsW⟩ := boxes2 w [.int .i64 0, .int .i64 0, .int .i64 0, .int .i64 0, .int .i64 0, .bool false, .int .i64 0, .slice none 0 0, .slice none 0 0, .bool false, .int .i64 0, .slice none 0 0, .slice none 0 0, .int .i64 0, .slice none 0 0] [.int .i64 tx, .int .i64 prev] 42 117
  simp only [isabortDeed, linkD]
  have a_setDeed := fun W => no_setDeed W 117 (.agg #[.int .i64 tx, .int .i64 prev]) (by decide)
  have a_commitDeed := fun W => no_commitDeed W 117 (.agg #[.int .i64 tx, .int .i64 prev]) (by decide)
  have a_abortDeed := fun W => yes_abortDeed W (.agg #[.int .i64 tx, .int .i64 prev])
  have HB : Hid (∀ u, Below W.heap.size W u → Box u w.heap.size [.int .i64 0, .int .i64 0, .int .i64 0, .int .i64 0, .int .i64 0, .bool false, .int .i64 0, .slice none 0 0, .slice none 0 0, .bool false, .int .i64 0, .slice none 0 0, .slice none 0 0, .int .i64 0, .slice none 0 0] 42 ∧ Box u (w.heap.size + 1) [.int .i64 tx, .int .i64 prev] 117) := fun u hu => ⟨b0.below hu b0.lt, b1.below hu b1.lt⟩
  have HC : Hid (∀ w', Box w' (w.heap.size + 1) [.int .i64 tx, .int .i64 prev] 117 → w'.cell? ⟨w.heap.size + 1, 0, none⟩ = some (.int .i64 tx) ∧ w'.cell? ⟨w.heap.size + 1, 1, none⟩ = some (.int .i64 prev)) := fun w' b => ⟨b.cell 0 _ rfl, b.cell 1 _ rfl⟩
  have hh := HC.out W b1
  have hlt := b1.lt
  have HI : Hid ((Tryz.prog.info? 42).map (·.size) = some 15) := by rw [Hid]; kernel_rfl
  have HO : Hid (_) := all_oneCell_toArray (oneR (recA n tx prev 3))
  clear hsW b0 b1
  go_enter Tryz.func57, Tryz.ntmps57
  go_wp2_with fail
  rw [hW.out]
  clear hW a_setDeed a_commitDeed a_abortDeed
  refine wp_region_held_drew (S := fun w' => w'.cell? ⟨w.heap.size + 1, 0, none⟩ = some (.int .i64 tx) ∧ w'.cell? ⟨w.heap.size + 1, 1, none⟩ = some (.int .i64 prev)) (by kernel_rfl) (HC.out _ (HB.out _ (Below.refl _ _).drew).2) (fun hHeld => ?_)
  refine wpAnyH_take (i := 0) (v := .int .i64 n) rfl (by kernel_rfl) (by kernel_rfl) (by kernel_rfl) (fun _ _ _ h => h) (Or.inl ⟨by rfl, ?_⟩) hHeld ?_
  · intro w' hSw
    go_simp <;> rfl
  try simp only [Act.put, List.getElem_toArray, List.getElem_cons_zero, List.setIfInBounds_toArray, List.set_cons_zero, List.set_cons_succ]
  refine wpAnyH_take (i := 1) (v := .pointer (some ⟨w.heap.size + 1, 0, none⟩)) rfl (by kernel_rfl) (by kernel_rfl) (by kernel_rfl) (fun _ _ _ h => h) (Or.inl ⟨by rfl, ?_⟩) hHeld ?_
  · intro w' hSw
    go_simp <;> rfl
  try simp only [Act.put, List.getElem_toArray, List.getElem_cons_zero, List.getElem_cons_succ, List.setIfInBounds_toArray, List.set_cons_zero, List.set_cons_succ]
  refine wpAnyH_take (i := 2) (v := .agg #[.int .i64 tx, .int .i64 prev]) rfl (by kernel_rfl) (by kernel_rfl) (by kernel_rfl) (fun _ _ _ h => h) (Or.inl ⟨by rfl, ?_⟩) hHeld ?_
  · intro w' hSw
    go_simp <;> rfl
  try simp only [Act.put, List.getElem_toArray, List.getElem_cons_zero, List.getElem_cons_succ, List.setIfInBounds_toArray, List.set_cons_zero, List.set_cons_succ]
  refine wpAnyH_take (i := 3) (v := .agg #[.int .i64 tx, .int .i64 prev]) rfl (by kernel_rfl) (by kernel_rfl) (by kernel_rfl) (fun _ _ _ h => h) (Or.inl ⟨by rfl, ?_⟩) hHeld ?_
  · intro w' hSw
    go_simp <;> rfl
  try simp only [Act.put, List.getElem_toArray, List.getElem_cons_zero, List.getElem_cons_succ, List.setIfInBounds_toArray, List.set_cons_zero, List.set_cons_succ]
  refine wpAnyH_ready (rs := [4]) (by kernel_rfl) (by simp) ?_
  refine AllReadyH.cons rfl (fun K hK => ?_) AllReadyH.nil
  go_simp
  refine (kind_abortDeed tx prev _).mono ?_
  rintro e u1 ⟨rfl, hb1⟩
  have hB1 : Below W.heap.size W u1 := ((Below.refl _ _).drew).trans hb1
  refine hK.out _ _ (HC.out _ (HB.out _ hB1).2) (fun hHeld => ?_)
  clear hK K
  try simp only [Act.put, List.getElem_toArray, List.getElem_cons_zero, List.getElem_cons_succ, List.setIfInBounds_toArray, List.set_cons_zero, List.set_cons_succ]
  refine wpAnyH_ready (rs := [5]) (by kernel_rfl) (by simp) ?_
  refine AllReadyH.cons rfl (fun K hK => ?_) AllReadyH.nil
  go_simp
  refine (recAt_any n tx prev 3 _).mono ?_
  rintro e u2 ⟨rfl, hb2⟩
  have hBL : Below W.heap.size W u2 := hB1.trans (hb2.mono hB1.size)
  refine hK.out _ _ (HC.out _ (HB.out _ hBL).2) (fun hHeld => ?_)
  clear hK K
  try simp only [Act.put, List.getElem_toArray, List.getElem_cons_zero, List.getElem_cons_succ, List.setIfInBounds_toArray, List.set_cons_zero, List.set_cons_succ]
  obtain ⟨WF, hWF, bF, hwF, hsF⟩ := range_fill [] [.int .i64 0, .int .i64 0, .int .i64 0, .int .i64 0, .int .i64 0, .bool false, .int .i64 0, .slice none 0 0, .slice none 0 0, .bool false, .int .i64 0, .slice none 0 0, .slice none 0 0, .int .i64 0, .slice none 0 0] (RecA.cells (recA n tx prev 3)) [] (by simpa using (HB.out _ hBL).1) rfl
  have HF : Hid (Below w.heap.size w WF) := (hbW.trans (hBL.mono hbW.size)).trans (hwF.below (by omega) (by have := hBL.size; omega))
  have HLD : Hid (_ = _) := rec_load (recA n tx prev 3) (by simpa using bF)
  have HS : Hid (WF.cell? ⟨w.heap.size + 1, 0, none⟩ = some (.int .i64 tx) ∧ WF.cell? ⟨w.heap.size + 1, 1, none⟩ = some (.int .i64 prev)) := HC.out _ ((HB.out _ hBL).2.within hwF (by omega))
  refine wpAnyH_ready (rs := [6]) (by kernel_rfl) (by simp) ?_
  refine AllReadyH.cons rfl (fun K hK => ?_) AllReadyH.nil
  rw [if_pos (by rfl)]
  refine wp_store_mid 42 (.tmp 4) (.tmp 48) rfl w.heap.size 0 (RecA.cells (recA n tx prev 3)).toArray rfl rfl ((HB.out _ hBL).1.there 0 _ (by show 0 + 15 ≤ 15; decide)) HI.out HO.out ?_
  have HW : Hid (u2.setCells w.heap.size 0 (RecA.cells (recA n tx prev 3)).toArray.toList = WF) := hWF.out
  rw [HW.out]
  refine hK.out _ _ HS.out (fun hHeld => ?_)
  refine wpAnyH_done (by kernel_rfl) ?_ _
  clear hwF hWF HW hK K HS
  go_wp2
  exact bodyPost_ret (v := .agg (RecA.cells (recA n tx prev 3)).toArray) (results_one Tryz.results57 rfl HLD.out) rfl ⟨rfl, HF.out⟩

set_option maxHeartbeats 4000000 in
set_option maxRecDepth 100000 in
theorem recOf_back (n : Int) (tx prev oid : Int) (a : SlotA) (next : Int) (w : World) :
    Calls Tryz.prog 57 #[.int .i64 n, isbackDeed (backD tx prev oid a next)] w fun e w' => e = .returned (.agg (RecA.cells (⟨n, tx, prev, 4, oid, zeroS, a, next, [], none, 0⟩)).toArray) ∧ Below w.heap.size w w' := by
  obtain ⟨W, hW, b0, b1, hbW, hsW⟩ := boxes2 w [.int .i64 0, .int .i64 0, .int .i64 0, .int .i64 0, .int .i64 0, .bool false, .int .i64 0, .slice none 0 0, .slice none 0 0, .bool false, .int .i64 0, .slice none 0 0, .slice none 0 0, .int .i64 0, .slice none 0 0] [.int .i64 tx, .int .i64 prev, .int .i64 oid, .bool a.v.has, .int .i64 a.v.o.kind, .slice a.aI a.v.o.ints.length a.cI, .slice a.aR a.v.o.refs.length a.cR, .int .i64 next] 42 119
  simp only [isbackDeed, backD]
  have a_setDeed := fun W => no_setDeed W 119 (.agg #[.int .i64 tx, .int .i64 prev, .int .i64 oid, .bool a.v.has, .int .i64 a.v.o.kind, .slice a.aI a.v.o.ints.length a.cI, .slice a.aR a.v.o.refs.length a.cR, .int .i64 next]) (by decide)
  have a_commitDeed := fun W => no_commitDeed W 119 (.agg #[.int .i64 tx, .int .i64 prev, .int .i64 oid, .bool a.v.has, .int .i64 a.v.o.kind, .slice a.aI a.v.o.ints.length a.cI, .slice a.aR a.v.o.refs.length a.cR, .int .i64 next]) (by decide)
  have a_abortDeed := fun W => no_abortDeed W 119 (.agg #[.int .i64 tx, .int .i64 prev, .int .i64 oid, .bool a.v.has, .int .i64 a.v.o.kind, .slice a.aI a.v.o.ints.length a.cI, .slice a.aR a.v.o.refs.length a.cR, .int .i64 next]) (by decide)
  have a_backDeed := fun W => yes_backDeed W (.agg #[.int .i64 tx, .int .i64 prev, .int .i64 oid, .bool a.v.has, .int .i64 a.v.o.kind, .slice a.aI a.v.o.ints.length a.cI, .slice a.aR a.v.o.refs.length a.cR, .int .i64 next])
  have HB : Hid (∀ u, Below W.heap.size W u → Box u w.heap.size [.int .i64 0, .int .i64 0, .int .i64 0, .int .i64 0, .int .i64 0, .bool false, .int .i64 0, .slice none 0 0, .slice none 0 0, .bool false, .int .i64 0, .slice none 0 0, .slice none 0 0, .int .i64 0, .slice none 0 0] 42 ∧ Box u (w.heap.size + 1) [.int .i64 tx, .int .i64 prev, .int .i64 oid, .bool a.v.has, .int .i64 a.v.o.kind, .slice a.aI a.v.o.ints.length a.cI, .slice a.aR a.v.o.refs.length a.cR, .int .i64 next] 119) := fun u hu => ⟨b0.below hu b0.lt, b1.below hu b1.lt⟩
  have HC : Hid (∀ w', Box w' (w.heap.size + 1) [.int .i64 tx, .int .i64 prev, .int .i64 oid, .bool a.v.has, .int .i64 a.v.o.kind, .slice a.aI a.v.o.ints.length a.cI, .slice a.aR a.v.o.refs.length a.cR, .int .i64 next] 119 → w'.cell? ⟨w.heap.size + 1, 0, none⟩ = some (.int .i64 tx) ∧ w'.cell? ⟨w.heap.size + 1, 1, none⟩ = some (.int .i64 prev) ∧ w'.cell? ⟨w.heap.size + 1, 2, none⟩ = some (.int .i64 oid) ∧ w'.cell? ⟨w.heap.size + 1, 3, none⟩ = some (.bool a.v.has) ∧ w'.cell? ⟨w.heap.size + 1, 4, none⟩ = some (.int .i64 a.v.o.kind) ∧ w'.cell? ⟨w.heap.size + 1, 5, none⟩ = some (.slice a.aI a.v.o.ints.length a.cI) ∧ w'.cell? ⟨w.heap.size + 1, 6, none⟩ = some (.slice a.aR a.v.o.refs.length a.cR) ∧ w'.cell? ⟨w.heap.size + 1, 7, none⟩ = some (.int .i64 next)) := fun w' b => ⟨b.cell 0 _ rfl, b.cell 1 _ rfl, b.cell 2 _ rfl, b.cell 3 _ rfl, b.cell 4 _ rfl, b.cell 5 _ rfl, b.cell 6 _ rfl, b.cell 7 _ rfl⟩
  have hh := HC.out W b1
  have hlt := b1.lt
  have HI : Hid ((Tryz.prog.info? 42).map (·.size) = some 15) := by rw [Hid]; kernel_rfl
  have HO : Hid (_) := all_oneCell_toArray (oneR (⟨n, tx, prev, 4, oid, zeroS, a, next, [], none, 0⟩))
  clear hsW b0 b1
  go_enter Tryz.func57, Tryz.ntmps57
  go_wp2_with fail
  rw [hW.out]
  clear hW a_setDeed a_commitDeed a_abortDeed a_backDeed
  refine wp_region_held_drew (S := fun w' => w'.cell? ⟨w.heap.size + 1, 0, none⟩ = some (.int .i64 tx) ∧ w'.cell? ⟨w.heap.size + 1, 1, none⟩ = some (.int .i64 prev) ∧ w'.cell? ⟨w.heap.size + 1, 2, none⟩ = some (.int .i64 oid) ∧ w'.cell? ⟨w.heap.size + 1, 3, none⟩ = some (.bool a.v.has) ∧ w'.cell? ⟨w.heap.size + 1, 4, none⟩ = some (.int .i64 a.v.o.kind) ∧ w'.cell? ⟨w.heap.size + 1, 5, none⟩ = some (.slice a.aI a.v.o.ints.length a.cI) ∧ w'.cell? ⟨w.heap.size + 1, 6, none⟩ = some (.slice a.aR a.v.o.refs.length a.cR) ∧ w'.cell? ⟨w.heap.size + 1, 7, none⟩ = some (.int .i64 next)) (by kernel_rfl) (HC.out _ (HB.out _ (Below.refl _ _).drew).2) (fun hHeld => ?_)
  refine wpAnyH_take (i := 0) (v := .int .i64 n) rfl (by kernel_rfl) (by kernel_rfl) (by kernel_rfl) (fun _ _ _ h => h) (Or.inl ⟨by rfl, ?_⟩) hHeld ?_
  · intro w' hSw
    go_simp <;> rfl
  try simp only [Act.put, List.getElem_toArray, List.getElem_cons_zero, List.setIfInBounds_toArray, List.set_cons_zero, List.set_cons_succ]
  refine wpAnyH_take (i := 1) (v := .pointer (some ⟨w.heap.size + 1, 0, none⟩)) rfl (by kernel_rfl) (by kernel_rfl) (by kernel_rfl) (fun _ _ _ h => h) (Or.inl ⟨by rfl, ?_⟩) hHeld ?_
  · intro w' hSw
    go_simp <;> rfl
  try simp only [Act.put, List.getElem_toArray, List.getElem_cons_zero, List.getElem_cons_succ, List.setIfInBounds_toArray, List.set_cons_zero, List.set_cons_succ]
  refine wpAnyH_take (i := 2) (v := .pointer (some ⟨w.heap.size + 1, 0, none⟩)) rfl (by kernel_rfl) (by kernel_rfl) (by kernel_rfl) (fun _ _ _ h => h) (Or.inl ⟨by rfl, ?_⟩) hHeld ?_
  · intro w' hSw
    go_simp <;> rfl
  try simp only [Act.put, List.getElem_toArray, List.getElem_cons_zero, List.getElem_cons_succ, List.setIfInBounds_toArray, List.set_cons_zero, List.set_cons_succ]
  refine wpAnyH_take (i := 3) (v := .int .i64 tx) rfl (by kernel_rfl) (by kernel_rfl) (by kernel_rfl) (fun _ _ _ h => h) (Or.inl ⟨by rfl, ?_⟩) hHeld ?_
  · intro w' hSw
    go_simp <;> rfl
  try simp only [Act.put, List.getElem_toArray, List.getElem_cons_zero, List.getElem_cons_succ, List.setIfInBounds_toArray, List.set_cons_zero, List.set_cons_succ]
  refine wpAnyH_take (i := 4) (v := .pointer (some ⟨w.heap.size + 1, 0, none⟩)) rfl (by kernel_rfl) (by kernel_rfl) (by kernel_rfl) (fun _ _ _ h => h) (Or.inl ⟨by rfl, ?_⟩) hHeld ?_
  · intro w' hSw
    go_simp <;> rfl
  try simp only [Act.put, List.getElem_toArray, List.getElem_cons_zero, List.getElem_cons_succ, List.setIfInBounds_toArray, List.set_cons_zero, List.set_cons_succ]
  refine wpAnyH_take (i := 5) (v := .pointer (some ⟨w.heap.size + 1, 1, none⟩)) rfl (by kernel_rfl) (by kernel_rfl) (by kernel_rfl) (fun _ _ _ h => h) (Or.inl ⟨by rfl, ?_⟩) hHeld ?_
  · intro w' hSw
    go_simp <;> rfl
  try simp only [Act.put, List.getElem_toArray, List.getElem_cons_zero, List.getElem_cons_succ, List.setIfInBounds_toArray, List.set_cons_zero, List.set_cons_succ]
  refine wpAnyH_take (i := 6) (v := .int .i64 prev) rfl (by kernel_rfl) (by kernel_rfl) (by kernel_rfl) (fun _ _ _ h => h) (Or.inl ⟨by rfl, ?_⟩) hHeld ?_
  · intro w' hSw
    go_simp <;> rfl
  try simp only [Act.put, List.getElem_toArray, List.getElem_cons_zero, List.getElem_cons_succ, List.setIfInBounds_toArray, List.set_cons_zero, List.set_cons_succ]
  refine wpAnyH_take (i := 7) (v := .agg #[.int .i64 tx, .int .i64 prev, .int .i64 oid, .bool a.v.has, .int .i64 a.v.o.kind, .slice a.aI a.v.o.ints.length a.cI, .slice a.aR a.v.o.refs.length a.cR, .int .i64 next]) rfl (by kernel_rfl) (by kernel_rfl) (by kernel_rfl) (fun _ _ _ h => h) (Or.inl ⟨by rfl, ?_⟩) hHeld ?_
  · intro w' hSw
    go_simp <;> rfl
  try simp only [Act.put, List.getElem_toArray, List.getElem_cons_zero, List.getElem_cons_succ, List.setIfInBounds_toArray, List.set_cons_zero, List.set_cons_succ]
  refine wpAnyH_take (i := 9) (v := .pointer (some ⟨w.heap.size + 1, 2, none⟩)) rfl (by kernel_rfl) (by kernel_rfl) (by kernel_rfl) (fun _ _ _ h => h) (Or.inl ⟨by rfl, ?_⟩) hHeld ?_
  · intro w' hSw
    go_simp <;> rfl
  try simp only [Act.put, List.getElem_toArray, List.getElem_cons_zero, List.getElem_cons_succ, List.setIfInBounds_toArray, List.set_cons_zero, List.set_cons_succ]
  refine wpAnyH_take (i := 10) (v := .int .i64 oid) rfl (by kernel_rfl) (by kernel_rfl) (by kernel_rfl) (fun _ _ _ h => h) (Or.inl ⟨by rfl, ?_⟩) hHeld ?_
  · intro w' hSw
    go_simp <;> rfl
  try simp only [Act.put, List.getElem_toArray, List.getElem_cons_zero, List.getElem_cons_succ, List.setIfInBounds_toArray, List.set_cons_zero, List.set_cons_succ]
  refine wpAnyH_take (i := 11) (v := .pointer (some ⟨w.heap.size + 1, 3, none⟩)) rfl (by kernel_rfl) (by kernel_rfl) (by kernel_rfl) (fun _ _ _ h => h) (Or.inl ⟨by rfl, ?_⟩) hHeld ?_
  · intro w' hSw
    go_simp <;> rfl
  try simp only [Act.put, List.getElem_toArray, List.getElem_cons_zero, List.getElem_cons_succ, List.setIfInBounds_toArray, List.set_cons_zero, List.set_cons_succ]
  refine wpAnyH_take (i := 12) (v := .agg #[.bool a.v.has, .int .i64 a.v.o.kind, .slice a.aI a.v.o.ints.length a.cI, .slice a.aR a.v.o.refs.length a.cR]) rfl (by kernel_rfl) (by kernel_rfl) (by kernel_rfl) (fun _ _ _ h => h) (Or.inl ⟨by rfl, ?_⟩) hHeld ?_
  · intro w' hSw
    go_simp <;> rfl
  try simp only [Act.put, List.getElem_toArray, List.getElem_cons_zero, List.getElem_cons_succ, List.setIfInBounds_toArray, List.set_cons_zero, List.set_cons_succ]
  refine wpAnyH_take (i := 13) (v := .pointer (some ⟨w.heap.size + 1, 7, none⟩)) rfl (by kernel_rfl) (by kernel_rfl) (by kernel_rfl) (fun _ _ _ h => h) (Or.inl ⟨by rfl, ?_⟩) hHeld ?_
  · intro w' hSw
    go_simp <;> rfl
  try simp only [Act.put, List.getElem_toArray, List.getElem_cons_zero, List.getElem_cons_succ, List.setIfInBounds_toArray, List.set_cons_zero, List.set_cons_succ]
  refine wpAnyH_take (i := 14) (v := .int .i64 next) rfl (by kernel_rfl) (by kernel_rfl) (by kernel_rfl) (fun _ _ _ h => h) (Or.inl ⟨by rfl, ?_⟩) hHeld ?_
  · intro w' hSw
    go_simp <;> rfl
  try simp only [Act.put, List.getElem_toArray, List.getElem_cons_zero, List.getElem_cons_succ, List.setIfInBounds_toArray, List.set_cons_zero, List.set_cons_succ]
  refine wpAnyH_ready (rs := [8]) (by kernel_rfl) (by simp) ?_
  refine AllReadyH.cons rfl (fun K hK => ?_) AllReadyH.nil
  go_simp
  refine (kind_backDeed tx prev oid a next _).mono ?_
  rintro e u1 ⟨rfl, hb1⟩
  have hB1 : Below W.heap.size W u1 := ((Below.refl _ _).drew).trans hb1
  refine hK.out _ _ (HC.out _ (HB.out _ hB1).2) (fun hHeld => ?_)
  clear hK K
  try simp only [Act.put, List.getElem_toArray, List.getElem_cons_zero, List.getElem_cons_succ, List.setIfInBounds_toArray, List.set_cons_zero, List.set_cons_succ]
  have hBL := hB1
  refine wpAnyH_take (i := 15) (v := .agg (RecA.cells (⟨n, tx, prev, 4, oid, zeroS, a, next, [], none, 0⟩)).toArray) rfl (by kernel_rfl) (by kernel_rfl) (by kernel_rfl) (fun _ _ _ h => h) (Or.inl ⟨by rfl, ?_⟩) hHeld ?_
  · intro w' hSw
    go_simp <;> rfl
  try simp only [Act.put, List.getElem_toArray, List.getElem_cons_zero, List.getElem_cons_succ, List.setIfInBounds_toArray, List.set_cons_zero, List.set_cons_succ]
  obtain ⟨WF, hWF, bF, hwF, hsF⟩ := range_fill [] [.int .i64 0, .int .i64 0, .int .i64 0, .int .i64 0, .int .i64 0, .bool false, .int .i64 0, .slice none 0 0, .slice none 0 0, .bool false, .int .i64 0, .slice none 0 0, .slice none 0 0, .int .i64 0, .slice none 0 0] (RecA.cells (⟨n, tx, prev, 4, oid, zeroS, a, next, [], none, 0⟩)) [] (by simpa using (HB.out _ hBL).1) rfl
  have HF : Hid (Below w.heap.size w WF) := (hbW.trans (hBL.mono hbW.size)).trans (hwF.below (by omega) (by have := hBL.size; omega))
  have HLD : Hid (_ = _) := rec_load (⟨n, tx, prev, 4, oid, zeroS, a, next, [], none, 0⟩) (by simpa using bF)
  have HS : Hid (WF.cell? ⟨w.heap.size + 1, 0, none⟩ = some (.int .i64 tx) ∧ WF.cell? ⟨w.heap.size + 1, 1, none⟩ = some (.int .i64 prev) ∧ WF.cell? ⟨w.heap.size + 1, 2, none⟩ = some (.int .i64 oid) ∧ WF.cell? ⟨w.heap.size + 1, 3, none⟩ = some (.bool a.v.has) ∧ WF.cell? ⟨w.heap.size + 1, 4, none⟩ = some (.int .i64 a.v.o.kind) ∧ WF.cell? ⟨w.heap.size + 1, 5, none⟩ = some (.slice a.aI a.v.o.ints.length a.cI) ∧ WF.cell? ⟨w.heap.size + 1, 6, none⟩ = some (.slice a.aR a.v.o.refs.length a.cR) ∧ WF.cell? ⟨w.heap.size + 1, 7, none⟩ = some (.int .i64 next)) := HC.out _ ((HB.out _ hBL).2.within hwF (by omega))
  refine wpAnyH_ready (rs := [16]) (by kernel_rfl) (by simp) ?_
  refine AllReadyH.cons rfl (fun K hK => ?_) AllReadyH.nil
  rw [if_pos (by rfl)]
  refine wp_store_mid 42 (.tmp 4) (.tmp 67) rfl w.heap.size 0 (RecA.cells (⟨n, tx, prev, 4, oid, zeroS, a, next, [], none, 0⟩)).toArray rfl rfl ((HB.out _ hBL).1.there 0 _ (by show 0 + 15 ≤ 15; decide)) HI.out HO.out ?_
  have HW : Hid (u1.setCells w.heap.size 0 (RecA.cells (⟨n, tx, prev, 4, oid, zeroS, a, next, [], none, 0⟩)).toArray.toList = WF) := hWF.out
  rw [HW.out]
  refine hK.out _ _ HS.out (fun hHeld => ?_)
  refine wpAnyH_done (by kernel_rfl) ?_ _
  clear hwF hWF HW hK K HS
  go_wp2
  exact bodyPost_ret (v := .agg (RecA.cells (⟨n, tx, prev, 4, oid, zeroS, a, next, [], none, 0⟩)).toArray) (results_one Tryz.results57 rfl HLD.out) rfl ⟨rfl, HF.out⟩

set_option maxHeartbeats 4000000 in
set_option maxRecDepth 100000 in
theorem recOf_end (n : Int) (tx prev : Int) (w : World) :
    Calls Tryz.prog 57 #[.int .i64 n, isendDeed (linkD tx prev)] w fun e w' => e = .returned (.agg (RecA.cells (recA n tx prev 5)).toArray) ∧ Below w.heap.size w w' := by
  obtain ⟨W, hW, b0, b1, hbW, hsW⟩ := boxes2 w [.int .i64 0, .int .i64 0, .int .i64 0, .int .i64 0, .int .i64 0, .bool false, .int .i64 0, .slice none 0 0, .slice none 0 0, .bool false, .int .i64 0, .slice none 0 0, .slice none 0 0, .int .i64 0, .slice none 0 0] [.int .i64 tx, .int .i64 prev] 42 120
  simp only [isendDeed, linkD]
  have a_setDeed := fun W => no_setDeed W 120 (.agg #[.int .i64 tx, .int .i64 prev]) (by decide)
  have a_commitDeed := fun W => no_commitDeed W 120 (.agg #[.int .i64 tx, .int .i64 prev]) (by decide)
  have a_abortDeed := fun W => no_abortDeed W 120 (.agg #[.int .i64 tx, .int .i64 prev]) (by decide)
  have a_backDeed := fun W => no_backDeed W 120 (.agg #[.int .i64 tx, .int .i64 prev]) (by decide)
  have a_endDeed := fun W => yes_endDeed W (.agg #[.int .i64 tx, .int .i64 prev])
  have HB : Hid (∀ u, Below W.heap.size W u → Box u w.heap.size [.int .i64 0, .int .i64 0, .int .i64 0, .int .i64 0, .int .i64 0, .bool false, .int .i64 0, .slice none 0 0, .slice none 0 0, .bool false, .int .i64 0, .slice none 0 0, .slice none 0 0, .int .i64 0, .slice none 0 0] 42 ∧ Box u (w.heap.size + 1) [.int .i64 tx, .int .i64 prev] 120) := fun u hu => ⟨b0.below hu b0.lt, b1.below hu b1.lt⟩
  have HC : Hid (∀ w', Box w' (w.heap.size + 1) [.int .i64 tx, .int .i64 prev] 120 → w'.cell? ⟨w.heap.size + 1, 0, none⟩ = some (.int .i64 tx) ∧ w'.cell? ⟨w.heap.size + 1, 1, none⟩ = some (.int .i64 prev)) := fun w' b => ⟨b.cell 0 _ rfl, b.cell 1 _ rfl⟩
  have hh := HC.out W b1
  have hlt := b1.lt
  have HI : Hid ((Tryz.prog.info? 42).map (·.size) = some 15) := by rw [Hid]; kernel_rfl
  have HO : Hid (_) := all_oneCell_toArray (oneR (recA n tx prev 5))
  clear hsW b0 b1
  go_enter Tryz.func57, Tryz.ntmps57
  go_wp2_with fail
  rw [hW.out]
  clear hW a_setDeed a_commitDeed a_abortDeed a_backDeed a_endDeed
  refine wp_region_held_drew (S := fun w' => w'.cell? ⟨w.heap.size + 1, 0, none⟩ = some (.int .i64 tx) ∧ w'.cell? ⟨w.heap.size + 1, 1, none⟩ = some (.int .i64 prev)) (by kernel_rfl) (HC.out _ (HB.out _ (Below.refl _ _).drew).2) (fun hHeld => ?_)
  refine wpAnyH_take (i := 0) (v := .int .i64 n) rfl (by kernel_rfl) (by kernel_rfl) (by kernel_rfl) (fun _ _ _ h => h) (Or.inl ⟨by rfl, ?_⟩) hHeld ?_
  · intro w' hSw
    go_simp <;> rfl
  try simp only [Act.put, List.getElem_toArray, List.getElem_cons_zero, List.setIfInBounds_toArray, List.set_cons_zero, List.set_cons_succ]
  refine wpAnyH_take (i := 1) (v := .pointer (some ⟨w.heap.size + 1, 0, none⟩)) rfl (by kernel_rfl) (by kernel_rfl) (by kernel_rfl) (fun _ _ _ h => h) (Or.inl ⟨by rfl, ?_⟩) hHeld ?_
  · intro w' hSw
    go_simp <;> rfl
  try simp only [Act.put, List.getElem_toArray, List.getElem_cons_zero, List.getElem_cons_succ, List.setIfInBounds_toArray, List.set_cons_zero, List.set_cons_succ]
  refine wpAnyH_take (i := 2) (v := .agg #[.int .i64 tx, .int .i64 prev]) rfl (by kernel_rfl) (by kernel_rfl) (by kernel_rfl) (fun _ _ _ h => h) (Or.inl ⟨by rfl, ?_⟩) hHeld ?_
  · intro w' hSw
    go_simp <;> rfl
  try simp only [Act.put, List.getElem_toArray, List.getElem_cons_zero, List.getElem_cons_succ, List.setIfInBounds_toArray, List.set_cons_zero, List.set_cons_succ]
  refine wpAnyH_take (i := 3) (v := .agg #[.int .i64 tx, .int .i64 prev]) rfl (by kernel_rfl) (by kernel_rfl) (by kernel_rfl) (fun _ _ _ h => h) (Or.inl ⟨by rfl, ?_⟩) hHeld ?_
  · intro w' hSw
    go_simp <;> rfl
  try simp only [Act.put, List.getElem_toArray, List.getElem_cons_zero, List.getElem_cons_succ, List.setIfInBounds_toArray, List.set_cons_zero, List.set_cons_succ]
  refine wpAnyH_ready (rs := [4]) (by kernel_rfl) (by simp) ?_
  refine AllReadyH.cons rfl (fun K hK => ?_) AllReadyH.nil
  go_simp
  refine (kind_endDeed tx prev _).mono ?_
  rintro e u1 ⟨rfl, hb1⟩
  have hB1 : Below W.heap.size W u1 := ((Below.refl _ _).drew).trans hb1
  refine hK.out _ _ (HC.out _ (HB.out _ hB1).2) (fun hHeld => ?_)
  clear hK K
  try simp only [Act.put, List.getElem_toArray, List.getElem_cons_zero, List.getElem_cons_succ, List.setIfInBounds_toArray, List.set_cons_zero, List.set_cons_succ]
  refine wpAnyH_ready (rs := [5]) (by kernel_rfl) (by simp) ?_
  refine AllReadyH.cons rfl (fun K hK => ?_) AllReadyH.nil
  go_simp
  refine (recAt_any n tx prev 5 _).mono ?_
  rintro e u2 ⟨rfl, hb2⟩
  have hBL : Below W.heap.size W u2 := hB1.trans (hb2.mono hB1.size)
  refine hK.out _ _ (HC.out _ (HB.out _ hBL).2) (fun hHeld => ?_)
  clear hK K
  try simp only [Act.put, List.getElem_toArray, List.getElem_cons_zero, List.getElem_cons_succ, List.setIfInBounds_toArray, List.set_cons_zero, List.set_cons_succ]
  obtain ⟨WF, hWF, bF, hwF, hsF⟩ := range_fill [] [.int .i64 0, .int .i64 0, .int .i64 0, .int .i64 0, .int .i64 0, .bool false, .int .i64 0, .slice none 0 0, .slice none 0 0, .bool false, .int .i64 0, .slice none 0 0, .slice none 0 0, .int .i64 0, .slice none 0 0] (RecA.cells (recA n tx prev 5)) [] (by simpa using (HB.out _ hBL).1) rfl
  have HF : Hid (Below w.heap.size w WF) := (hbW.trans (hBL.mono hbW.size)).trans (hwF.below (by omega) (by have := hBL.size; omega))
  have HLD : Hid (_ = _) := rec_load (recA n tx prev 5) (by simpa using bF)
  have HS : Hid (WF.cell? ⟨w.heap.size + 1, 0, none⟩ = some (.int .i64 tx) ∧ WF.cell? ⟨w.heap.size + 1, 1, none⟩ = some (.int .i64 prev)) := HC.out _ ((HB.out _ hBL).2.within hwF (by omega))
  refine wpAnyH_ready (rs := [6]) (by kernel_rfl) (by simp) ?_
  refine AllReadyH.cons rfl (fun K hK => ?_) AllReadyH.nil
  rw [if_pos (by rfl)]
  refine wp_store_mid 42 (.tmp 4) (.tmp 76) rfl w.heap.size 0 (RecA.cells (recA n tx prev 5)).toArray rfl rfl ((HB.out _ hBL).1.there 0 _ (by show 0 + 15 ≤ 15; decide)) HI.out HO.out ?_
  have HW : Hid (u2.setCells w.heap.size 0 (RecA.cells (recA n tx prev 5)).toArray.toList = WF) := hWF.out
  rw [HW.out]
  refine hK.out _ _ HS.out (fun hHeld => ?_)
  refine wpAnyH_done (by kernel_rfl) ?_ _
  clear hwF hWF HW hK K HS
  go_wp2
  exact bodyPost_ret (v := .agg (RecA.cells (recA n tx prev 5)).toArray) (results_one Tryz.results57 rfl HLD.out) rfl ⟨rfl, HF.out⟩

set_option maxHeartbeats 4000000 in
set_option maxRecDepth 100000 in
theorem recOf_check (n : Int) (ls : List LiveV) (aL : Option Addr) (cL : Nat) (w : World) :
    Calls Tryz.prog 57 #[.int .i64 n, ischeckDeed (checkD ls aL cL)] w fun e w' => e = .returned (.agg (RecA.cells (⟨n, 0, 0, 6, 0, zeroS, zeroS, 0, ls, aL, cL⟩)).toArray) ∧ Below w.heap.size w w' := by
  obtain ⟨W, hW, b0, b1, hbW, hsW⟩ := boxes2 w [.int .i64 0, .int .i64 0, .int .i64 0, .int .i64 0, .int .i64 0, .bool false, .int .i64 0, .slice none 0 0, .slice none 0 0, .bool false, .int .i64 0, .slice none 0 0, .slice none 0 0, .int .i64 0, .slice none 0 0] [.slice aL ls.length cL] 42 122
  simp only [ischeckDeed, checkD]
  have a_setDeed := fun W => no_setDeed W 122 (.agg #[.slice aL ls.length cL]) (by decide)
  have a_commitDeed := fun W => no_commitDeed W 122 (.agg #[.slice aL ls.length cL]) (by decide)
  have a_abortDeed := fun W => no_abortDeed W 122 (.agg #[.slice aL ls.length cL]) (by decide)
  have a_backDeed := fun W => no_backDeed W 122 (.agg #[.slice aL ls.length cL]) (by decide)
  have a_endDeed := fun W => no_endDeed W 122 (.agg #[.slice aL ls.length cL]) (by decide)
  have a_checkDeed := fun W => yes_checkDeed W (.agg #[.slice aL ls.length cL])
  have HB : Hid (∀ u, Below W.heap.size W u → Box u w.heap.size [.int .i64 0, .int .i64 0, .int .i64 0, .int .i64 0, .int .i64 0, .bool false, .int .i64 0, .slice none 0 0, .slice none 0 0, .bool false, .int .i64 0, .slice none 0 0, .slice none 0 0, .int .i64 0, .slice none 0 0] 42 ∧ Box u (w.heap.size + 1) [.slice aL ls.length cL] 122) := fun u hu => ⟨b0.below hu b0.lt, b1.below hu b1.lt⟩
  have HC : Hid (∀ w', Box w' (w.heap.size + 1) [.slice aL ls.length cL] 122 → w'.cell? ⟨w.heap.size + 1, 0, none⟩ = some (.slice aL ls.length cL)) := fun w' b => b.cell 0 _ rfl
  have hh := HC.out W b1
  have hlt := b1.lt
  have HI : Hid ((Tryz.prog.info? 42).map (·.size) = some 15) := by rw [Hid]; kernel_rfl
  have HO : Hid (_) := all_oneCell_toArray (oneR (⟨n, 0, 0, 6, 0, zeroS, zeroS, 0, ls, aL, cL⟩))
  clear hsW b0 b1
  go_enter Tryz.func57, Tryz.ntmps57
  go_wp2_with fail
  rw [hW.out]
  clear hW a_setDeed a_commitDeed a_abortDeed a_backDeed a_endDeed a_checkDeed
  refine wp_region_held_drew (S := fun w' => w'.cell? ⟨w.heap.size + 1, 0, none⟩ = some (.slice aL ls.length cL)) (by kernel_rfl) (HC.out _ (HB.out _ (Below.refl _ _).drew).2) (fun hHeld => ?_)
  refine wpAnyH_take (i := 0) (v := .int .i64 n) rfl (by kernel_rfl) (by kernel_rfl) (by kernel_rfl) (fun _ _ _ h => h) (Or.inl ⟨by rfl, ?_⟩) hHeld ?_
  · intro w' hSw
    go_simp <;> rfl
  try simp only [Act.put, List.getElem_toArray, List.getElem_cons_zero, List.setIfInBounds_toArray, List.set_cons_zero, List.set_cons_succ]
  refine wpAnyH_take (i := 1) (v := .agg #[.slice aL ls.length cL]) rfl (by kernel_rfl) (by kernel_rfl) (by kernel_rfl) (fun _ _ _ h => h) (Or.inl ⟨by rfl, ?_⟩) hHeld ?_
  · intro w' hSw
    go_simp <;> rfl
  try simp only [Act.put, List.getElem_toArray, List.getElem_cons_zero, List.getElem_cons_succ, List.setIfInBounds_toArray, List.set_cons_zero, List.set_cons_succ]
  refine wpAnyH_take (i := 3) (v := .pointer (some ⟨w.heap.size + 1, 0, none⟩)) rfl (by kernel_rfl) (by kernel_rfl) (by kernel_rfl) (fun _ _ _ h => h) (Or.inl ⟨by rfl, ?_⟩) hHeld ?_
  · intro w' hSw
    go_simp <;> rfl
  try simp only [Act.put, List.getElem_toArray, List.getElem_cons_zero, List.getElem_cons_succ, List.setIfInBounds_toArray, List.set_cons_zero, List.set_cons_succ]
  refine wpAnyH_take (i := 4) (v := .slice aL ls.length cL) rfl (by kernel_rfl) (by kernel_rfl) (by kernel_rfl) (fun _ _ _ h => h) (Or.inl ⟨by rfl, ?_⟩) hHeld ?_
  · intro w' hSw
    go_simp <;> rfl
  try simp only [Act.put, List.getElem_toArray, List.getElem_cons_zero, List.getElem_cons_succ, List.setIfInBounds_toArray, List.set_cons_zero, List.set_cons_succ]
  refine wpAnyH_ready (rs := [2]) (by kernel_rfl) (by simp) ?_
  refine AllReadyH.cons rfl (fun K hK => ?_) AllReadyH.nil
  go_simp
  refine (kind_checkDeed ls aL cL _).mono ?_
  rintro e u1 ⟨rfl, hb1⟩
  have hB1 : Below W.heap.size W u1 := ((Below.refl _ _).drew).trans hb1
  refine hK.out _ _ (HC.out _ (HB.out _ hB1).2) (fun hHeld => ?_)
  clear hK K
  try simp only [Act.put, List.getElem_toArray, List.getElem_cons_zero, List.getElem_cons_succ, List.setIfInBounds_toArray, List.set_cons_zero, List.set_cons_succ]
  have hBL := hB1
  refine wpAnyH_take (i := 5) (v := .agg (RecA.cells (⟨n, 0, 0, 6, 0, zeroS, zeroS, 0, ls, aL, cL⟩)).toArray) rfl (by kernel_rfl) (by kernel_rfl) (by kernel_rfl) (fun _ _ _ h => h) (Or.inl ⟨by rfl, ?_⟩) hHeld ?_
  · intro w' hSw
    go_simp <;> rfl
  try simp only [Act.put, List.getElem_toArray, List.getElem_cons_zero, List.getElem_cons_succ, List.setIfInBounds_toArray, List.set_cons_zero, List.set_cons_succ]
  obtain ⟨WF, hWF, bF, hwF, hsF⟩ := range_fill [] [.int .i64 0, .int .i64 0, .int .i64 0, .int .i64 0, .int .i64 0, .bool false, .int .i64 0, .slice none 0 0, .slice none 0 0, .bool false, .int .i64 0, .slice none 0 0, .slice none 0 0, .int .i64 0, .slice none 0 0] (RecA.cells (⟨n, 0, 0, 6, 0, zeroS, zeroS, 0, ls, aL, cL⟩)) [] (by simpa using (HB.out _ hBL).1) rfl
  have HF : Hid (Below w.heap.size w WF) := (hbW.trans (hBL.mono hbW.size)).trans (hwF.below (by omega) (by have := hBL.size; omega))
  have HLD : Hid (_ = _) := rec_load (⟨n, 0, 0, 6, 0, zeroS, zeroS, 0, ls, aL, cL⟩) (by simpa using bF)
  have HS : Hid (WF.cell? ⟨w.heap.size + 1, 0, none⟩ = some (.slice aL ls.length cL)) := HC.out _ ((HB.out _ hBL).2.within hwF (by omega))
  refine wpAnyH_ready (rs := [6]) (by kernel_rfl) (by simp) ?_
  refine AllReadyH.cons rfl (fun K hK => ?_) AllReadyH.nil
  rw [if_pos (by rfl)]
  refine wp_store_mid 42 (.tmp 4) (.tmp 85) rfl w.heap.size 0 (RecA.cells (⟨n, 0, 0, 6, 0, zeroS, zeroS, 0, ls, aL, cL⟩)).toArray rfl rfl ((HB.out _ hBL).1.there 0 _ (by show 0 + 15 ≤ 15; decide)) HI.out HO.out ?_
  have HW : Hid (u1.setCells w.heap.size 0 (RecA.cells (⟨n, 0, 0, 6, 0, zeroS, zeroS, 0, ls, aL, cL⟩)).toArray.toList = WF) := hWF.out
  rw [HW.out]
  refine hK.out _ _ HS.out (fun hHeld => ?_)
  refine wpAnyH_done (by kernel_rfl) ?_ _
  clear hwF hWF HW hK K HS
  go_wp2
  exact bodyPost_ret (v := .agg (RecA.cells (⟨n, 0, 0, 6, 0, zeroS, zeroS, 0, ls, aL, cL⟩)).toArray) (results_one Tryz.results57 rfl HLD.out) rfl ⟨rfl, HF.out⟩

set_option maxHeartbeats 1000000 in
set_option maxRecDepth 100000 in
theorem recOf_nil (n : Int) (w : World) : Calls Tryz.prog 57 #[.int .i64 n, .nilIface] w fun e w' => e = .returned (.agg (recA 0 0 0 0).cells.toArray) ∧ Below w.heap.size w w' := by
  obtain ⟨W, hW, b1, hbW, hsW⟩ := boxes1 w (recA 0 0 0 0).cells 42
  have HL : Hid (_ = _) := rec_load (recA 0 0 0 0) b1
  simp only [recA, RecA.cells, zeroS, List.length_nil] at hW
  clear hsW b1
  have a_setDeed := nil_setDeed
  have a_commitDeed := nil_commitDeed
  have a_abortDeed := nil_abortDeed
  have a_backDeed := nil_backDeed
  have a_endDeed := nil_endDeed
  have a_checkDeed := nil_checkDeed
  go_enter Tryz.func57, Tryz.ntmps57
  go_wp2
  refine bodyPost_ret (v := .agg (recA 0 0 0 0).cells.toArray) (results_one Tryz.results57 rfl ?_) rfl ⟨rfl, ?_⟩
  · rw [show _ = W from hW.out]; exact HL.out
  · rw [show _ = W from hW.out]; exact hbW

end Go.Proofs.YtickiokdcbeefaaGreatDoor

/- Undone: what the model and the landed code make of a record, in common. -/
namespace Go.Proofs.YtickiokdcbeefaaGreatDoor
open Go.RowKit

/-- The record that undoes r, if all is right. -/
def backV (r : RecV) (n p : Int) : RecV := ⟨n, r.tx, p, 4, r.oid, noS, r.bf, r.prev, []⟩
def undoV (r : RecV) (n p : Int) : RecV := if okR r = true ∧ r.kind = 1 ∧ okR (backV r n p) = true then backV r n p else noR
theorem undoV_bad {r : RecV} {n p : Int} (h : okR r = false) : undoV r n p = noR := by unfold undoV; rw [if_neg]; rintro ⟨h1, _⟩; rw [h] at h1; cases h1
theorem undoV_kind {r : RecV} {n p : Int} (h : ¬ r.kind = 1) : undoV r n p = noR := by unfold undoV; rw [if_neg]; rintro ⟨_, h1, _⟩; exact h h1
theorem undoV_no {r : RecV} {n p : Int} (h : okR (backV r n p) = false) : undoV r n p = noR := by unfold undoV; rw [if_neg]; rintro ⟨_, _, h1⟩; rw [h] at h1; cases h1
theorem undoV_yes {r : RecV} {n p : Int} (h1 : okR r = true) (h2 : r.kind = 1) (h3 : okR (backV r n p) = true) : undoV r n p = backV r n p := by unfold undoV; rw [if_pos ⟨h1, h2, h3⟩]
theorem zero_own (w : World) (lo hi : Nat) (h : hi ≤ w.heap.size) : zeroS.own w lo hi := ⟨ownI_nil _ _ _ h, ownI_nil _ _ _ h, fun k hk => by cases hk⟩
theorem own_zeroR (w : World) (lo hi : Nat) (h : hi ≤ w.heap.size) : zeroR.own w lo hi := ⟨zero_own w lo hi h, zero_own w lo hi h, ownL_nil w lo hi h, by decide⟩
/-- The record that undoes: only its slot has lists. -/
def backA (n tx p oid : Int) (t : SlotA) (x : Int) : RecA := ⟨n, tx, p, 4, oid, zeroS, t, x, [], none, 0⟩
theorem own_backA {w : World} {lo hi : Nat} {t : SlotA} (n tx p oid x : Int) (h : t.own w lo hi) (hh : hi ≤ w.heap.size) : (backA n tx p oid t x).own w lo hi :=
  ⟨zero_own w lo hi hh, h, ownL_nil w lo hi hh, by
    show ([] ++ (t.blocks ++ [])).Nodup
    rw [List.nil_append, List.append_nil]
    exact SlotA.blocks_nodup h⟩
theorem rec_out {w : World} {C : Nat} (q : RecA) (old : List Value) (ho : old.length = 15) (bC : Box w C old 42) :
    ∃ WF, Hid (w.setCells C 0 q.cells = WF) ∧ Within C (C + 1) w WF ∧ WF.heap.size = w.heap.size ∧ Hid (w.there C 0 q.cells.toArray.size) ∧ Hid ((loadVar 42 ⟨C, 0, none⟩).run Tryz.prog WF = .ok (.agg q.cells.toArray) WF) ∧ Box WF C q.cells 42 := by
  obtain ⟨WF, hWF, bF, hwF, hsF⟩ := range_fill [] old q.cells [] (by simpa using bC) (by rw [ho]; rfl)
  have bF' : Box WF C q.cells 42 := by simpa using bF
  exact ⟨WF, hWF, hwF, hsF, bC.there 0 _ (by rw [ho]; show 0 + 15 ≤ 15; decide), rec_load q bF', bF'⟩
theorem rec_info (q : RecA) : (Tryz.prog.info? 42).map (·.size) = some q.cells.length := by show _ = some 15; kernel_rfl
theorem rec_one (q : RecA) : q.cells.toArray.all (·.oneCell') = true := all_oneCell_toArray (oneR q)
end Go.Proofs.YtickiokdcbeefaaGreatDoor

/- Appending a record that is read to a row that the call owns. -/
namespace Go.Proofs.YtickiokdcbeefaaGreatDoor
open Go.RowKit

theorem Tryz.infoRec : (Tryz.prog.info? 42).map (fun i => (i.zero, i.size, i.bytes)) = some (some (.agg zeroR.cells.toArray), 15, 200) := by kernel_rfl

theorem ownsRow_at {w : World} {base : Nat} {e : TypeId} {size n : Nat} {v : Value} {xs : List Value} (h : w.ownsRow base e size v n xs) {k : Nat} (hk : v.ownBlock = some k) : ∃ cur, w.heap[k]? = some (.cells cur e (0, 0)) := by
  rcases h.2 with ⟨rfl, _⟩ | ⟨g, cap, cur, rfl, _, hg, _⟩
  · cases hk
  · cases hk
    exact ⟨cur, hg⟩
/-- A row of records is none of the rows that hang at a record: their kinds differ. -/
theorem row_apart {w : World} {base lo hi n : Nat} {v : Value} {xs : List Value} {r : RecA} (h : w.ownsRow base 42 15 v n xs) (hr : r.own w lo hi) : ∀ k, v.ownBlock = some k → k ∉ r.blocks := by
  intro k hk hm
  obtain ⟨cur, hc⟩ := ownsRow_at h hk
  simp only [RecA.blocks, SlotA.blocks, List.mem_append, Option.mem_toList] at hm
  have no : ∀ {b2 s2 n2 : Nat} {e2 : TypeId} {v2 : Value} {x2 : List Value}, w.ownsRow b2 e2 s2 v2 n2 x2 → v2.ownBlock = some k → e2 = 42 := by
    intro b2 s2 n2 e2 v2 x2 h2 hk2
    obtain ⟨cur2, hc2⟩ := ownsRow_at h2 hk2
    rw [hc] at hc2
    simp only [Option.some.injEq, Obj.cells.injEq] at hc2
    exact hc2.2.1.symm
  rcases hm with (h1 | h1) | (h1 | h1) | h1
  · have := no hr.bf.ints.1 h1; cases this
  · have := no hr.bf.refs.1 h1; cases this
  · have := no hr.af.ints.1 h1; cases this
  · have := no hr.af.refs.1 h1; cases this
  · have := no hr.txs.1 h1; cases this

end Go.Proofs.YtickiokdcbeefaaGreatDoor

/- Appending a seat that is read to a row that the call owns. -/
namespace Go.Proofs.YtickiokdcbeefaaGreatDoor
open Go.RowKit

theorem Tryz.infoSeat : (Tryz.prog.info? 176).map (fun i => (i.zero, i.size, i.bytes)) = some (some (.agg zeroSt.cells.toArray), 20, 280) := by kernel_rfl

/-- A row of records is none of the rows that hang at a record: their kinds differ. -/
theorem rowSt_apart {w : World} {base lo hi n : Nat} {v : Value} {xs : List Value} {r : SeatA} (h : w.ownsRow base 176 20 v n xs) (hr : r.own w lo hi) : ∀ k, v.ownBlock = some k → k ∉ r.blocks := by
  intro k hk hm
  obtain ⟨cur, hc⟩ := ownsRow_at h hk
  have no : ∀ {b2 s2 n2 : Nat} {e2 : TypeId} {v2 : Value} {x2 : List Value}, w.ownsRow b2 e2 s2 v2 n2 x2 → v2.ownBlock = some k → e2 = 176 := by
    intro b2 s2 n2 e2 v2 x2 h2 hk2
    obtain ⟨cur2, hc2⟩ := ownsRow_at h2 hk2
    rw [hc] at hc2
    simp only [Option.some.injEq, Obj.cells.injEq] at hc2
    exact hc2.2.1.symm
  obtain ⟨x, hx, hm⟩ := List.mem_flatMap.1 hm
  simp only [SlotA.blocks, List.mem_append, Option.mem_toList] at hm
  rcases hm with h1 | h1
  · have := no (hr.each x hx).ints.1 h1; cases this
  · have := no (hr.each x hx).refs.1 h1; cases this

end Go.Proofs.YtickiokdcbeefaaGreatDoor

/- Logs: what they are, what a walk reads and owns of them. -/
namespace Go.Proofs.YtickiokdcbeefaaGreatDoor
open Go.RowKit

structure LogV where
  recs : List RecV
  sure : Int
/-- A log, and where its row lies. -/
structure LogA where
  recs : List RecA
  sure : Int
  a : Option Addr
  c : Nat
def LogA.v (l : LogA) : LogV := ⟨l.recs.map RecA.v, l.sure⟩
def LogA.cells (l : LogA) : List Value := [.slice l.a l.recs.length l.c, .int .i64 l.sure]
def LogA.reads (w : World) (l : LogA) : Prop := ReadsRs w l.a l.recs
def LogA.own (w : World) (lo hi : Nat) (l : LogA) : Prop := OwnRs w lo hi l.a l.c l.recs
structure LogA.short (l : LogA) (m : Nat) : Prop where
  len : l.recs.length ≤ m
  each : ∀ r ∈ l.recs, r.short m
theorem LogA.short.at {l : LogA} {m : Nat} (h : l.short m) (k : Nat) (hk : k < l.recs.length) : (l.recs.getD k zeroR).short m := h.each _ (recD_mem _ k hk)
theorem mapV_len {rs ts : List RecA} (h : ts.map RecA.v = rs.map RecA.v) : ts.length = rs.length := by simpa using congrArg List.length h
theorem mapV_at {rs ts : List RecA} (h : ts.map RecA.v = rs.map RecA.v) (k : Nat) (hk : k < rs.length) : (ts.getD k zeroR).v = (rs.getD k zeroR).v := by
  have hk' : k < ts.length := by rw [mapV_len h]; exact hk
  have := congrArg (fun x => x[k]?) h
  simpa [List.getD, hk, hk'] using this
theorem mapV_all {rs ts : List RecA} (h : ts.map RecA.v = rs.map RecA.v) (P : RecA → Prop) (hP : ∀ a b : RecA, a.v = b.v → P b → P a) (hall : ∀ r ∈ rs, P r) : ∀ r ∈ ts, P r := by
  intro r hr
  obtain ⟨k, hk, rfl⟩ := List.getElem_of_mem hr
  have hk' : k < rs.length := by rw [← mapV_len h]; exact hk
  have e := mapV_at h k hk'
  refine hP _ (rs.getD k zeroR) ?_ (hall _ (recD_mem rs k hk'))
  rw [← e]
  simp [List.getD, hk]
theorem LogA.short_of {l t : LogA} {m : Nat} (h : t.v = l.v) (hl : l.short m) : t.short m := by
  simp only [LogA.v, LogV.mk.injEq] at h
  exact ⟨by rw [mapV_len h.1]; exact hl.len, mapV_all h.1 (fun r => r.short m) (fun a b e hb => Go.Proofs.YtickiokdcbeefaaGreatDoor.short_of e hb) hl.each⟩
theorem LogA.short_wide {l : LogA} (hl : l.short 1048576) : l.short 1099511627776 := ⟨by have := hl.len; omega, fun r hr => Go.Proofs.YtickiokdcbeefaaGreatDoor.short_wide (hl.each r hr)⟩
end Go.Proofs.YtickiokdcbeefaaGreatDoor
