/- Several texts in one, in their order. -/
import Derived.Test.YtjaojcgfgkppgaaGreatDoorPart10
import Derived.Deep.RegionHeld3
import Derived.Test.YtjaojcgfgkppgaaGreatDoorPart7
import Derived.Deep.QuietTactic
import Derived.BigQuiet
/- The walks of the kinds, impl.recAt and impl.recOf. -/
namespace Go.Proofs.YtjaojcgfgkppgaaGreatDoor
open Go.RowKit

theorem kind_setDeed (tx prev oid : Int) (b a : SlotA) (w : World) : Calls Tryz.prog 90 #[.agg #[.int .i64 tx, .int .i64 prev, .int .i64 oid, .bool b.v.has, .int .i64 b.v.o.kind, .slice b.aI b.v.o.ints.length b.cI, .slice b.aR b.v.o.refs.length b.cR, .bool a.v.has, .int .i64 a.v.o.kind, .slice a.aI a.v.o.ints.length a.cI, .slice a.aR a.v.o.refs.length a.cR]] w fun e w' => e = .returned (.int .i64 1) ∧ Below w.heap.size w w' := by
  go_enter Tryz.func90, Tryz.ntmps90
  go_wp2
  go_ret
  exact ⟨rfl, (Below.refl _ _).alloc (Nat.le_refl _) _⟩

theorem kind_commitDeed (tx prev : Int) (w : World) : Calls Tryz.prog 92 #[.agg #[.int .i64 tx, .int .i64 prev]] w fun e w' => e = .returned (.int .i64 2) ∧ Below w.heap.size w w' := by
  go_enter Tryz.func92, Tryz.ntmps92
  go_wp2
  go_ret
  exact ⟨rfl, (Below.refl _ _).alloc (Nat.le_refl _) _⟩

theorem kind_abortDeed (tx prev : Int) (w : World) : Calls Tryz.prog 93 #[.agg #[.int .i64 tx, .int .i64 prev]] w fun e w' => e = .returned (.int .i64 3) ∧ Below w.heap.size w w' := by
  go_enter Tryz.func93, Tryz.ntmps93
  go_wp2
  go_ret
  exact ⟨rfl, (Below.refl _ _).alloc (Nat.le_refl _) _⟩

theorem kind_backDeed (tx prev oid : Int) (a : SlotA) (next : Int) (w : World) : Calls Tryz.prog 94 #[.agg #[.int .i64 tx, .int .i64 prev, .int .i64 oid, .bool a.v.has, .int .i64 a.v.o.kind, .slice a.aI a.v.o.ints.length a.cI, .slice a.aR a.v.o.refs.length a.cR, .int .i64 next]] w fun e w' => e = .returned (.int .i64 4) ∧ Below w.heap.size w w' := by
  go_enter Tryz.func94, Tryz.ntmps94
  go_wp2
  go_ret
  exact ⟨rfl, (Below.refl _ _).alloc (Nat.le_refl _) _⟩

theorem kind_endDeed (tx prev : Int) (w : World) : Calls Tryz.prog 95 #[.agg #[.int .i64 tx, .int .i64 prev]] w fun e w' => e = .returned (.int .i64 5) ∧ Below w.heap.size w w' := by
  go_enter Tryz.func95, Tryz.ntmps95
  go_wp2
  go_ret
  exact ⟨rfl, (Below.refl _ _).alloc (Nat.le_refl _) _⟩

theorem kind_checkDeed (ls : List LiveV) (aL : Option Addr) (cL : Nat) (w : World) : Calls Tryz.prog 96 #[.agg #[.slice aL ls.length cL]] w fun e w' => e = .returned (.int .i64 6) ∧ Below w.heap.size w w' := by
  go_enter Tryz.func96, Tryz.ntmps96
  go_wp2
  go_ret
  exact ⟨rfl, (Below.refl _ _).alloc (Nat.le_refl _) _⟩

theorem rec_load {w : World} {B : Nat} (r : RecA) (b : Box w B r.cells 30) : (loadVar 30 ⟨B, 0, none⟩).run Tryz.prog w = .ok (.agg r.cells.toArray) w :=
  run_loadVar_mid (P := Tryz.prog) w B 0 30 r.cells _ (Box.range [] r.cells [] (by simpa using b)) Tryz.underlying30 rfl (by show _ = some 15; kernel_rfl)
/-- A record of these, and nothing else. -/
def recA (n tx prev kind : Int) : RecA := ⟨n, tx, prev, kind, 0, zeroS, zeroS, 0, [], none, 0⟩
set_option maxHeartbeats 1000000 in
set_option maxRecDepth 100000 in
theorem recAt_any (n tx prev kind : Int) (w : World) : Calls Tryz.prog 91 #[.int .i64 n, .agg #[.int .i64 tx, .int .i64 prev], .int .i64 kind] w fun e w' => e = .returned (.agg (recA n tx prev kind).cells.toArray) ∧ Below w.heap.size w w' := by
  obtain ⟨W, hW, b0, b1, hbW, hsW⟩ := boxes2 w [.int .i64 tx, .int .i64 prev] (recA n tx prev kind).cells 117 30
  have HL : Hid (_ = _) := rec_load (recA n tx prev kind) b1
  simp only [recA, RecA.cells, zeroS, List.length_nil] at hW
  clear hsW b0 b1
  go_enter Tryz.func91, Tryz.ntmps91
  go_wp2
  refine bodyPost_ret (v := .agg (recA n tx prev kind).cells.toArray) (results_one Tryz.results91 rfl ?_) rfl ⟨rfl, ?_⟩
  · rw [show _ = W from hW.out]; exact HL.out
  · rw [show _ = W from hW.out]; exact hbW

set_option maxHeartbeats 4000000 in
set_option maxRecDepth 100000 in
theorem recOf_set (n : Int) (tx prev oid : Int) (b a : SlotA) (w : World) :
    Calls Tryz.prog 64 #[.int .i64 n, issetDeed (setD tx prev oid b a)] w fun e w' => e = .returned (.agg (RecA.cells (⟨n, tx, prev, 1, oid, b, a, 0, [], none, 0⟩)).toArray) ∧ Below w.heap.size w w' := by
  obtain ⟨W, hW, b0, b1, hbW, hsW⟩ := boxes2 w [.int .i64 0, .int .i64 0, .int .i64 0, .int .i64 0, .int .i64 0, .bool false, .int .i64 0, .slice none 0 0, .slice none 0 0, .bool false, .int .i64 0, .slice none 0 0, .slice none 0 0, .int .i64 0, .slice none 0 0] [.int .i64 tx, .int .i64 prev, .int .i64 oid, .bool b.v.has, .int .i64 b.v.o.kind, .slice b.aI b.v.o.ints.length b.cI, .slice b.aR b.v.o.refs.length b.cR, .bool a.v.has, .int .i64 a.v.o.kind, .slice a.aI a.v.o.ints.length a.cI, .slice a.aR a.v.o.refs.length a.cR] 30 119
  simp only [issetDeed, setD]
  have a_setDeed := fun W => yes_setDeed W (.agg #[.int .i64 tx, .int .i64 prev, .int .i64 oid, .bool b.v.has, .int .i64 b.v.o.kind, .slice b.aI b.v.o.ints.length b.cI, .slice b.aR b.v.o.refs.length b.cR, .bool a.v.has, .int .i64 a.v.o.kind, .slice a.aI a.v.o.ints.length a.cI, .slice a.aR a.v.o.refs.length a.cR])
  have HB : Hid (∀ u, Below W.heap.size W u → Box u w.heap.size [.int .i64 0, .int .i64 0, .int .i64 0, .int .i64 0, .int .i64 0, .bool false, .int .i64 0, .slice none 0 0, .slice none 0 0, .bool false, .int .i64 0, .slice none 0 0, .slice none 0 0, .int .i64 0, .slice none 0 0] 30 ∧ Box u (w.heap.size + 1) [.int .i64 tx, .int .i64 prev, .int .i64 oid, .bool b.v.has, .int .i64 b.v.o.kind, .slice b.aI b.v.o.ints.length b.cI, .slice b.aR b.v.o.refs.length b.cR, .bool a.v.has, .int .i64 a.v.o.kind, .slice a.aI a.v.o.ints.length a.cI, .slice a.aR a.v.o.refs.length a.cR] 119) := fun u hu => ⟨b0.below hu b0.lt, b1.below hu b1.lt⟩
  have HC : Hid (∀ w', Box w' (w.heap.size + 1) [.int .i64 tx, .int .i64 prev, .int .i64 oid, .bool b.v.has, .int .i64 b.v.o.kind, .slice b.aI b.v.o.ints.length b.cI, .slice b.aR b.v.o.refs.length b.cR, .bool a.v.has, .int .i64 a.v.o.kind, .slice a.aI a.v.o.ints.length a.cI, .slice a.aR a.v.o.refs.length a.cR] 119 → w'.cell? ⟨w.heap.size + 1, 0, none⟩ = some (.int .i64 tx) ∧ w'.cell? ⟨w.heap.size + 1, 1, none⟩ = some (.int .i64 prev) ∧ w'.cell? ⟨w.heap.size + 1, 2, none⟩ = some (.int .i64 oid) ∧ w'.cell? ⟨w.heap.size + 1, 3, none⟩ = some (.bool b.v.has) ∧ w'.cell? ⟨w.heap.size + 1, 4, none⟩ = some (.int .i64 b.v.o.kind) ∧ w'.cell? ⟨w.heap.size + 1, 5, none⟩ = some (.slice b.aI b.v.o.ints.length b.cI) ∧ w'.cell? ⟨w.heap.size + 1, 6, none⟩ = some (.slice b.aR b.v.o.refs.length b.cR) ∧ w'.cell? ⟨w.heap.size + 1, 7, none⟩ = some (.bool a.v.has) ∧ w'.cell? ⟨w.heap.size + 1, 8, none⟩ = some (.int .i64 a.v.o.kind) ∧ w'.cell? ⟨w.heap.size + 1, 9, none⟩ = some (.slice a.aI a.v.o.ints.length a.cI) ∧ w'.cell? ⟨w.heap.size + 1, 10, none⟩ = some (.slice a.aR a.v.o.refs.length a.cR)) := fun w' b => ⟨b.cell 0 _ rfl, b.cell 1 _ rfl, b.cell 2 _ rfl, b.cell 3 _ rfl, b.cell 4 _ rfl, b.cell 5 _ rfl, b.cell 6 _ rfl, b.cell 7 _ rfl, b.cell 8 _ rfl, b.cell 9 _ rfl, b.cell 10 _ rfl⟩
  have hh := HC.out W b1
  have hlt := b1.lt
  have HI : Hid ((Tryz.prog.info? 30).map (·.size) = some 15) := by rw [Hid]; kernel_rfl
  have HO : Hid (_) := all_oneCell_toArray (oneR (⟨n, tx, prev, 1, oid, b, a, 0, [], none, 0⟩))
  clear hsW b0 b1
  go_enter Tryz.func64, Tryz.ntmps64
  go_wp2_with fail
  rw [hW.out]
  clear hW a_setDeed
  refine wp_region_held_drew (S := fun w' => w'.cell? ⟨w.heap.size + 1, 0, none⟩ = some (.int .i64 tx) ∧ w'.cell? ⟨w.heap.size + 1, 1, none⟩ = some (.int .i64 prev) ∧ w'.cell? ⟨w.heap.size + 1, 2, none⟩ = some (.int .i64 oid) ∧ w'.cell? ⟨w.heap.size + 1, 3, none⟩ = some (.bool b.v.has) ∧ w'.cell? ⟨w.heap.size + 1, 4, none⟩ = some (.int .i64 b.v.o.kind) ∧ w'.cell? ⟨w.heap.size + 1, 5, none⟩ = some (.slice b.aI b.v.o.ints.length b.cI) ∧ w'.cell? ⟨w.heap.size + 1, 6, none⟩ = some (.slice b.aR b.v.o.refs.length b.cR) ∧ w'.cell? ⟨w.heap.size + 1, 7, none⟩ = some (.bool a.v.has) ∧ w'.cell? ⟨w.heap.size + 1, 8, none⟩ = some (.int .i64 a.v.o.kind) ∧ w'.cell? ⟨w.heap.size + 1, 9, none⟩ = some (.slice a.aI a.v.o.ints.length a.cI) ∧ w'.cell? ⟨w.heap.size + 1, 10, none⟩ = some (.slice a.aR a.v.o.refs.length a.cR)) (by kernel_rfl) (HC.out _ (HB.out _ (Below.refl _ _).drew).2) (fun hHeld => ?_)
  refine wpAnyH_take (i := 0) (v := .int .i64 n) rfl (by kernel_rfl) (by kernel_rfl) (by kernel_rfl) (fun _ _ _ h => h) (Or.inl ⟨by rfl, ?_⟩) hHeld ?_
  · intro w' hSw
    go_simp <;> rfl
  try simp only [Act.put, List.getElem_toArray, List.getElem_cons_zero, List.setIfInBounds_toArray, List.set_cons_zero, List.set_cons_succ]
  refine wpAnyH_take (i := 1) (v := .pointer (some ⟨w.heap.size + 1, 0, none⟩)) rfl (by kernel_rfl) (by kernel_rfl) (by kernel_rfl) (fun _ _ _ h => h) (Or.inl ⟨by rfl, ?_⟩) hHeld ?_
  · intro w' hSw
    go_simp <;> rfl
  try simp only [Act.put, List.getElem_toArray, List.getElem_cons_zero, List.getElem_cons_succ, List.setIfInBounds_toArray, List.set_cons_zero, List.set_cons_succ]
  refine wpAnyH_take (i := 2) (v := .pointer (some ⟨w.heap.size + 1, 0, none⟩)) rfl (by kernel_rfl) (by kernel_rfl) (by kernel_rfl) (fun _ _ _ h => h) (Or.inl ⟨by rfl, ?_⟩) hHeld ?_
  · intro w' hSw
    go_simp <;> rfl
  try simp only [Act.put, List.getElem_toArray, List.getElem_cons_zero, List.getElem_cons_succ, List.setIfInBounds_toArray, List.set_cons_zero, List.set_cons_succ]
  refine wpAnyH_take (i := 3) (v := .int .i64 tx) rfl (by kernel_rfl) (by kernel_rfl) (by kernel_rfl) (fun _ _ _ h => h) (Or.inl ⟨by rfl, ?_⟩) hHeld ?_
  · intro w' hSw
    go_simp <;> rfl
  try simp only [Act.put, List.getElem_toArray, List.getElem_cons_zero, List.getElem_cons_succ, List.setIfInBounds_toArray, List.set_cons_zero, List.set_cons_succ]
  refine wpAnyH_take (i := 4) (v := .pointer (some ⟨w.heap.size + 1, 0, none⟩)) rfl (by kernel_rfl) (by kernel_rfl) (by kernel_rfl) (fun _ _ _ h => h) (Or.inl ⟨by rfl, ?_⟩) hHeld ?_
  · intro w' hSw
    go_simp <;> rfl
  try simp only [Act.put, List.getElem_toArray, List.getElem_cons_zero, List.getElem_cons_succ, List.setIfInBounds_toArray, List.set_cons_zero, List.set_cons_succ]
  refine wpAnyH_take (i := 5) (v := .pointer (some ⟨w.heap.size + 1, 1, none⟩)) rfl (by kernel_rfl) (by kernel_rfl) (by kernel_rfl) (fun _ _ _ h => h) (Or.inl ⟨by rfl, ?_⟩) hHeld ?_
  · intro w' hSw
    go_simp <;> rfl
  try simp only [Act.put, List.getElem_toArray, List.getElem_cons_zero, List.getElem_cons_succ, List.setIfInBounds_toArray, List.set_cons_zero, List.set_cons_succ]
  refine wpAnyH_take (i := 6) (v := .int .i64 prev) rfl (by kernel_rfl) (by kernel_rfl) (by kernel_rfl) (fun _ _ _ h => h) (Or.inl ⟨by rfl, ?_⟩) hHeld ?_
  · intro w' hSw
    go_simp <;> rfl
  try simp only [Act.put, List.getElem_toArray, List.getElem_cons_zero, List.getElem_cons_succ, List.setIfInBounds_toArray, List.set_cons_zero, List.set_cons_succ]
  refine wpAnyH_take (i := 7) (v := .agg #[.int .i64 tx, .int .i64 prev, .int .i64 oid, .bool b.v.has, .int .i64 b.v.o.kind, .slice b.aI b.v.o.ints.length b.cI, .slice b.aR b.v.o.refs.length b.cR, .bool a.v.has, .int .i64 a.v.o.kind, .slice a.aI a.v.o.ints.length a.cI, .slice a.aR a.v.o.refs.length a.cR]) rfl (by kernel_rfl) (by kernel_rfl) (by kernel_rfl) (fun _ _ _ h => h) (Or.inl ⟨by rfl, ?_⟩) hHeld ?_
  · intro w' hSw
    go_simp <;> rfl
  try simp only [Act.put, List.getElem_toArray, List.getElem_cons_zero, List.getElem_cons_succ, List.setIfInBounds_toArray, List.set_cons_zero, List.set_cons_succ]
  refine wpAnyH_take (i := 9) (v := .pointer (some ⟨w.heap.size + 1, 2, none⟩)) rfl (by kernel_rfl) (by kernel_rfl) (by kernel_rfl) (fun _ _ _ h => h) (Or.inl ⟨by rfl, ?_⟩) hHeld ?_
  · intro w' hSw
    go_simp <;> rfl
  try simp only [Act.put, List.getElem_toArray, List.getElem_cons_zero, List.getElem_cons_succ, List.setIfInBounds_toArray, List.set_cons_zero, List.set_cons_succ]
  refine wpAnyH_take (i := 10) (v := .int .i64 oid) rfl (by kernel_rfl) (by kernel_rfl) (by kernel_rfl) (fun _ _ _ h => h) (Or.inl ⟨by rfl, ?_⟩) hHeld ?_
  · intro w' hSw
    go_simp <;> rfl
  try simp only [Act.put, List.getElem_toArray, List.getElem_cons_zero, List.getElem_cons_succ, List.setIfInBounds_toArray, List.set_cons_zero, List.set_cons_succ]
  refine wpAnyH_take (i := 11) (v := .pointer (some ⟨w.heap.size + 1, 3, none⟩)) rfl (by kernel_rfl) (by kernel_rfl) (by kernel_rfl) (fun _ _ _ h => h) (Or.inl ⟨by rfl, ?_⟩) hHeld ?_
  · intro w' hSw
    go_simp <;> rfl
  try simp only [Act.put, List.getElem_toArray, List.getElem_cons_zero, List.getElem_cons_succ, List.setIfInBounds_toArray, List.set_cons_zero, List.set_cons_succ]
  refine wpAnyH_take (i := 12) (v := .agg #[.bool b.v.has, .int .i64 b.v.o.kind, .slice b.aI b.v.o.ints.length b.cI, .slice b.aR b.v.o.refs.length b.cR]) rfl (by kernel_rfl) (by kernel_rfl) (by kernel_rfl) (fun _ _ _ h => h) (Or.inl ⟨by rfl, ?_⟩) hHeld ?_
  · intro w' hSw
    go_simp <;> rfl
  try simp only [Act.put, List.getElem_toArray, List.getElem_cons_zero, List.getElem_cons_succ, List.setIfInBounds_toArray, List.set_cons_zero, List.set_cons_succ]
  refine wpAnyH_take (i := 13) (v := .pointer (some ⟨w.heap.size + 1, 7, none⟩)) rfl (by kernel_rfl) (by kernel_rfl) (by kernel_rfl) (fun _ _ _ h => h) (Or.inl ⟨by rfl, ?_⟩) hHeld ?_
  · intro w' hSw
    go_simp <;> rfl
  try simp only [Act.put, List.getElem_toArray, List.getElem_cons_zero, List.getElem_cons_succ, List.setIfInBounds_toArray, List.set_cons_zero, List.set_cons_succ]
  refine wpAnyH_take (i := 14) (v := .agg #[.bool a.v.has, .int .i64 a.v.o.kind, .slice a.aI a.v.o.ints.length a.cI, .slice a.aR a.v.o.refs.length a.cR]) rfl (by kernel_rfl) (by kernel_rfl) (by kernel_rfl) (fun _ _ _ h => h) (Or.inl ⟨by rfl, ?_⟩) hHeld ?_
  · intro w' hSw
    go_simp <;> rfl
  try simp only [Act.put, List.getElem_toArray, List.getElem_cons_zero, List.getElem_cons_succ, List.setIfInBounds_toArray, List.set_cons_zero, List.set_cons_succ]
  refine wpAnyH_ready (rs := [8]) (by kernel_rfl) (by simp) ?_
  refine AllReadyH.cons rfl (fun K hK => ?_) AllReadyH.nil
  go_simp
  refine (kind_setDeed tx prev oid b a _).mono ?_
  rintro e u1 ⟨rfl, hb1⟩
  have hB1 : Below W.heap.size W u1 := ((Below.refl _ _).drew).trans hb1
  refine hK.out _ _ (HC.out _ (HB.out _ hB1).2) (fun hHeld => ?_)
  clear hK K
  try simp only [Act.put, List.getElem_toArray, List.getElem_cons_zero, List.getElem_cons_succ, List.setIfInBounds_toArray, List.set_cons_zero, List.set_cons_succ]
  have hBL := hB1
  refine wpAnyH_take (i := 15) (v := .agg (RecA.cells (⟨n, tx, prev, 1, oid, b, a, 0, [], none, 0⟩)).toArray) rfl (by kernel_rfl) (by kernel_rfl) (by kernel_rfl) (fun _ _ _ h => h) (Or.inl ⟨by rfl, ?_⟩) hHeld ?_
  · intro w' hSw
    go_simp <;> rfl
  try simp only [Act.put, List.getElem_toArray, List.getElem_cons_zero, List.getElem_cons_succ, List.setIfInBounds_toArray, List.set_cons_zero, List.set_cons_succ]
  obtain ⟨WF, hWF, bF, hwF, hsF⟩ := range_fill [] [.int .i64 0, .int .i64 0, .int .i64 0, .int .i64 0, .int .i64 0, .bool false, .int .i64 0, .slice none 0 0, .slice none 0 0, .bool false, .int .i64 0, .slice none 0 0, .slice none 0 0, .int .i64 0, .slice none 0 0] (RecA.cells (⟨n, tx, prev, 1, oid, b, a, 0, [], none, 0⟩)) [] (by simpa using (HB.out _ hBL).1) rfl
  have HF : Hid (Below w.heap.size w WF) := (hbW.trans (hBL.mono hbW.size)).trans (hwF.below (by omega) (by have := hBL.size; omega))
  have HLD : Hid (_ = _) := rec_load (⟨n, tx, prev, 1, oid, b, a, 0, [], none, 0⟩) (by simpa using bF)
  have HS : Hid (WF.cell? ⟨w.heap.size + 1, 0, none⟩ = some (.int .i64 tx) ∧ WF.cell? ⟨w.heap.size + 1, 1, none⟩ = some (.int .i64 prev) ∧ WF.cell? ⟨w.heap.size + 1, 2, none⟩ = some (.int .i64 oid) ∧ WF.cell? ⟨w.heap.size + 1, 3, none⟩ = some (.bool b.v.has) ∧ WF.cell? ⟨w.heap.size + 1, 4, none⟩ = some (.int .i64 b.v.o.kind) ∧ WF.cell? ⟨w.heap.size + 1, 5, none⟩ = some (.slice b.aI b.v.o.ints.length b.cI) ∧ WF.cell? ⟨w.heap.size + 1, 6, none⟩ = some (.slice b.aR b.v.o.refs.length b.cR) ∧ WF.cell? ⟨w.heap.size + 1, 7, none⟩ = some (.bool a.v.has) ∧ WF.cell? ⟨w.heap.size + 1, 8, none⟩ = some (.int .i64 a.v.o.kind) ∧ WF.cell? ⟨w.heap.size + 1, 9, none⟩ = some (.slice a.aI a.v.o.ints.length a.cI) ∧ WF.cell? ⟨w.heap.size + 1, 10, none⟩ = some (.slice a.aR a.v.o.refs.length a.cR)) := HC.out _ ((HB.out _ hBL).2.within hwF (by omega))
  refine wpAnyH_ready (rs := [16]) (by kernel_rfl) (by simp) ?_
  refine AllReadyH.cons rfl (fun K hK => ?_) AllReadyH.nil
  rw [if_pos (by rfl)]
  refine wp_store_mid 30 (.tmp 4) (.tmp 30) rfl w.heap.size 0 (RecA.cells (⟨n, tx, prev, 1, oid, b, a, 0, [], none, 0⟩)).toArray rfl rfl ((HB.out _ hBL).1.there 0 _ (by show 0 + 15 ≤ 15; decide)) HI.out HO.out ?_
  have HW : Hid (u1.setCells w.heap.size 0 (RecA.cells (⟨n, tx, prev, 1, oid, b, a, 0, [], none, 0⟩)).toArray.toList = WF) := hWF.out
  rw [HW.out]
  refine hK.out _ _ HS.out (fun hHeld => ?_)
  refine wpAnyH_done (by kernel_rfl) ?_ _
  clear hwF hWF HW hK K HS
  go_wp2
  exact bodyPost_ret (v := .agg (RecA.cells (⟨n, tx, prev, 1, oid, b, a, 0, [], none, 0⟩)).toArray) (results_one Tryz.results64 rfl HLD.out) rfl ⟨rfl, HF.out⟩

set_option maxHeartbeats 4000000 in
set_option maxRecDepth 100000 in
theorem recOf_commit (n : Int) (tx prev : Int) (w : World) :
    Calls Tryz.prog 64 #[.int .i64 n, iscommitDeed (linkD tx prev)] w fun e w' => e = .returned (.agg (RecA.cells (recA n tx prev 2)).toArray) ∧ Below w.heap.size w w' := by
  obtain ⟨W, hW, b0, b1, hbW, hsW⟩ := boxes2 w [.int .i64 0, .int .i64 0, .int .i64 0, .int .i64 0, .int .i64 0, .bool false, .int .i64 0, .slice none 0 0, .slice none 0 0, .bool false, .int .i64 0, .slice none 0 0, .slice none 0 0, .int .i64 0, .slice none 0 0] [.int .i64 tx, .int .i64 prev] 30 123
  simp only [iscommitDeed, linkD]
  have a_setDeed := fun W => no_setDeed W 123 (.agg #[.int .i64 tx, .int .i64 prev]) (by decide)
  have a_commitDeed := fun W => yes_commitDeed W (.agg #[.int .i64 tx, .int .i64 prev])
  have HB : Hid (∀ u, Below W.heap.size W u → Box u w.heap.size [.int .i64 0, .int .i64 0, .int .i64 0, .int .i64 0, .int .i64 0, .bool false, .int .i64 0, .slice none 0 0, .slice none 0 0, .bool false, .int .i64 0, .slice none 0 0, .slice none 0 0, .int .i64 0, .slice none 0 0] 30 ∧ Box u (w.heap.size + 1) [.int .i64 tx, .int .i64 prev] 123) := fun u hu => ⟨b0.below hu b0.lt, b1.below hu b1.lt⟩
  have HC : Hid (∀ w', Box w' (w.heap.size + 1) [.int .i64 tx, .int .i64 prev] 123 → w'.cell? ⟨w.heap.size + 1, 0, none⟩ = some (.int .i64 tx) ∧ w'.cell? ⟨w.heap.size + 1, 1, none⟩ = some (.int .i64 prev)) := fun w' b => ⟨b.cell 0 _ rfl, b.cell 1 _ rfl⟩
  have hh := HC.out W b1
  have hlt := b1.lt
  have HI : Hid ((Tryz.prog.info? 30).map (·.size) = some 15) := by rw [Hid]; kernel_rfl
  have HO : Hid (_) := all_oneCell_toArray (oneR (recA n tx prev 2))
  clear hsW b0 b1
  go_enter Tryz.func64, Tryz.ntmps64
  go_wp2_with fail
  rw [hW.out]
  clear hW a_setDeed a_commitDeed
  refine wp_region_held_drew (S := fun w' => w'.cell? ⟨w.heap.size + 1, 0, none⟩ = some (.int .i64 tx) ∧ w'.cell? ⟨w.heap.size + 1, 1, none⟩ = some (.int .i64 prev)) (by kernel_rfl) (HC.out _ (HB.out _ (Below.refl _ _).drew).2) (fun hHeld => ?_)
  refine wpAnyH_take (i := 0) (v := .int .i64 n) rfl (by kernel_rfl) (by kernel_rfl) (by kernel_rfl) (fun _ _ _ h => h) (Or.inl ⟨by rfl, ?_⟩) hHeld ?_
  · intro w' hSw
    go_simp <;> rfl
  try simp only [Act.put, List.getElem_toArray, List.getElem_cons_zero, List.setIfInBounds_toArray, List.set_cons_zero, List.set_cons_succ]
  refine wpAnyH_take (i := 1) (v := .pointer (some ⟨w.heap.size + 1, 0, none⟩)) rfl (by kernel_rfl) (by kernel_rfl) (by kernel_rfl) (fun _ _ _ h => h) (Or.inl ⟨by rfl, ?_⟩) hHeld ?_
  · intro w' hSw
    go_simp <;> rfl
  try simp only [Act.put, List.getElem_toArray, List.getElem_cons_zero, List.getElem_cons_succ, List.setIfInBounds_toArray, List.set_cons_zero, List.set_cons_succ]
  refine wpAnyH_take (i := 2) (v := .agg #[.int .i64 tx, .int .i64 prev]) rfl (by kernel_rfl) (by kernel_rfl) (by kernel_rfl) (fun _ _ _ h => h) (Or.inl ⟨by rfl, ?_⟩) hHeld ?_
  · intro w' hSw
    go_simp <;> rfl
  try simp only [Act.put, List.getElem_toArray, List.getElem_cons_zero, List.getElem_cons_succ, List.setIfInBounds_toArray, List.set_cons_zero, List.set_cons_succ]
  refine wpAnyH_take (i := 3) (v := .agg #[.int .i64 tx, .int .i64 prev]) rfl (by kernel_rfl) (by kernel_rfl) (by kernel_rfl) (fun _ _ _ h => h) (Or.inl ⟨by rfl, ?_⟩) hHeld ?_
  · intro w' hSw
    go_simp <;> rfl
  try simp only [Act.put, List.getElem_toArray, List.getElem_cons_zero, List.getElem_cons_succ, List.setIfInBounds_toArray, List.set_cons_zero, List.set_cons_succ]
  refine wpAnyH_ready (rs := [4]) (by kernel_rfl) (by simp) ?_
  refine AllReadyH.cons rfl (fun K hK => ?_) AllReadyH.nil
  go_simp
  refine (kind_commitDeed tx prev _).mono ?_
  rintro e u1 ⟨rfl, hb1⟩
  have hB1 : Below W.heap.size W u1 := ((Below.refl _ _).drew).trans hb1
  refine hK.out _ _ (HC.out _ (HB.out _ hB1).2) (fun hHeld => ?_)
  clear hK K
  try simp only [Act.put, List.getElem_toArray, List.getElem_cons_zero, List.getElem_cons_succ, List.setIfInBounds_toArray, List.set_cons_zero, List.set_cons_succ]
  refine wpAnyH_ready (rs := [5]) (by kernel_rfl) (by simp) ?_
  refine AllReadyH.cons rfl (fun K hK => ?_) AllReadyH.nil
  go_simp
  refine (recAt_any n tx prev 2 _).mono ?_
  rintro e u2 ⟨rfl, hb2⟩
  have hBL : Below W.heap.size W u2 := hB1.trans (hb2.mono hB1.size)
  refine hK.out _ _ (HC.out _ (HB.out _ hBL).2) (fun hHeld => ?_)
  clear hK K
  try simp only [Act.put, List.getElem_toArray, List.getElem_cons_zero, List.getElem_cons_succ, List.setIfInBounds_toArray, List.set_cons_zero, List.set_cons_succ]
  obtain ⟨WF, hWF, bF, hwF, hsF⟩ := range_fill [] [.int .i64 0, .int .i64 0, .int .i64 0, .int .i64 0, .int .i64 0, .bool false, .int .i64 0, .slice none 0 0, .slice none 0 0, .bool false, .int .i64 0, .slice none 0 0, .slice none 0 0, .int .i64 0, .slice none 0 0] (RecA.cells (recA n tx prev 2)) [] (by simpa using (HB.out _ hBL).1) rfl
  have HF : Hid (Below w.heap.size w WF) := (hbW.trans (hBL.mono hbW.size)).trans (hwF.below (by omega) (by have := hBL.size; omega))
  have HLD : Hid (_ = _) := rec_load (recA n tx prev 2) (by simpa using bF)
  have HS : Hid (WF.cell? ⟨w.heap.size + 1, 0, none⟩ = some (.int .i64 tx) ∧ WF.cell? ⟨w.heap.size + 1, 1, none⟩ = some (.int .i64 prev)) := HC.out _ ((HB.out _ hBL).2.within hwF (by omega))
  refine wpAnyH_ready (rs := [6]) (by kernel_rfl) (by simp) ?_
  refine AllReadyH.cons rfl (fun K hK => ?_) AllReadyH.nil
  rw [if_pos (by rfl)]
  refine wp_store_mid 30 (.tmp 4) (.tmp 39) rfl w.heap.size 0 (RecA.cells (recA n tx prev 2)).toArray rfl rfl ((HB.out _ hBL).1.there 0 _ (by show 0 + 15 ≤ 15; decide)) HI.out HO.out ?_
  have HW : Hid (u2.setCells w.heap.size 0 (RecA.cells (recA n tx prev 2)).toArray.toList = WF) := hWF.out
  rw [HW.out]
  refine hK.out _ _ HS.out (fun hHeld => ?_)
  refine wpAnyH_done (by kernel_rfl) ?_ _
  clear hwF hWF HW hK K HS
  go_wp2
  exact bodyPost_ret (v := .agg (RecA.cells (recA n tx prev 2)).toArray) (results_one Tryz.results64 rfl HLD.out) rfl ⟨rfl, HF.out⟩

set_option maxHeartbeats 4000000 in
set_option maxRecDepth 100000 in
theorem recOf_abort (n : Int) (tx prev : Int) (w : World) :
    Calls Tryz.prog 64 #[.int .i64 n, isabortDeed (linkD tx prev)] w fun e w' => e = .returned (.agg (RecA.cells (recA n tx prev 3)).toArray) ∧ Below w.heap.size w w' := by
  obtain ⟨W, hW, b0, b1, hbW, hsW⟩ := boxes2 w [.int .i64 0, .int .i64 0, .int .i64 0, .int .i64 0, .int .i64 0, .bool false, .int .i64 0, .slice none 0 0, .slice none 0 0, .bool false, .int .i64 0, .slice none 0 0, .slice none 0 0, .int .i64 0, .slice none 0 0] [.int .i64 tx, .int .i64 prev] 30 124
  simp only [isabortDeed, linkD]
  have a_setDeed := fun W => no_setDeed W 124 (.agg #[.int .i64 tx, .int .i64 prev]) (by decide)
  have a_commitDeed := fun W => no_commitDeed W 124 (.agg #[.int .i64 tx, .int .i64 prev]) (by decide)
  have a_abortDeed := fun W => yes_abortDeed W (.agg #[.int .i64 tx, .int .i64 prev])
  have HB : Hid (∀ u, Below W.heap.size W u → Box u w.heap.size [.int .i64 0, .int .i64 0, .int .i64 0, .int .i64 0, .int .i64 0, .bool false, .int .i64 0, .slice none 0 0, .slice none 0 0, .bool false, .int .i64 0, .slice none 0 0, .slice none 0 0, .int .i64 0, .slice none 0 0] 30 ∧ Box u (w.heap.size + 1) [.int .i64 tx, .int .i64 prev] 124) := fun u hu => ⟨b0.below hu b0.lt, b1.below hu b1.lt⟩
  have HC : Hid (∀ w', Box w' (w.heap.size + 1) [.int .i64 tx, .int .i64 prev] 124 → w'.cell? ⟨w.heap.size + 1, 0, none⟩ = some (.int .i64 tx) ∧ w'.cell? ⟨w.heap.size + 1, 1, none⟩ = some (.int .i64 prev)) := fun w' b => ⟨b.cell 0 _ rfl, b.cell 1 _ rfl⟩
  have hh := HC.out W b1
  have hlt := b1.lt
  have HI : Hid ((Tryz.prog.info? 30).map (·.size) = some 15) := by rw [Hid]; kernel_rfl
  have HO : Hid (_) := all_oneCell_toArray (oneR (recA n tx prev 3))
  clear hsW b0 b1
  go_enter Tryz.func64, Tryz.ntmps64
  go_wp2_with fail
  rw [hW.out]
  clear hW a_setDeed a_commitDeed a_abortDeed
  refine wp_region_held_drew (S := fun w' => w'.cell? ⟨w.heap.size + 1, 0, none⟩ = some (.int .i64 tx) ∧ w'.cell? ⟨w.heap.size + 1, 1, none⟩ = some (.int .i64 prev)) (by kernel_rfl) (HC.out _ (HB.out _ (Below.refl _ _).drew).2) (fun hHeld => ?_)
  refine wpAnyH_take (i := 0) (v := .int .i64 n) rfl (by kernel_rfl) (by kernel_rfl) (by kernel_rfl) (fun _ _ _ h => h) (Or.inl ⟨by rfl, ?_⟩) hHeld ?_
  · intro w' hSw
    go_simp <;> rfl
  try simp only [Act.put, List.getElem_toArray, List.getElem_cons_zero, List.setIfInBounds_toArray, List.set_cons_zero, List.set_cons_succ]
  refine wpAnyH_take (i := 1) (v := .pointer (some ⟨w.heap.size + 1, 0, none⟩)) rfl (by kernel_rfl) (by kernel_rfl) (by kernel_rfl) (fun _ _ _ h => h) (Or.inl ⟨by rfl, ?_⟩) hHeld ?_
  · intro w' hSw
    go_simp <;> rfl
  try simp only [Act.put, List.getElem_toArray, List.getElem_cons_zero, List.getElem_cons_succ, List.setIfInBounds_toArray, List.set_cons_zero, List.set_cons_succ]
  refine wpAnyH_take (i := 2) (v := .agg #[.int .i64 tx, .int .i64 prev]) rfl (by kernel_rfl) (by kernel_rfl) (by kernel_rfl) (fun _ _ _ h => h) (Or.inl ⟨by rfl, ?_⟩) hHeld ?_
  · intro w' hSw
    go_simp <;> rfl
  try simp only [Act.put, List.getElem_toArray, List.getElem_cons_zero, List.getElem_cons_succ, List.setIfInBounds_toArray, List.set_cons_zero, List.set_cons_succ]
  refine wpAnyH_take (i := 3) (v := .agg #[.int .i64 tx, .int .i64 prev]) rfl (by kernel_rfl) (by kernel_rfl) (by kernel_rfl) (fun _ _ _ h => h) (Or.inl ⟨by rfl, ?_⟩) hHeld ?_
  · intro w' hSw
    go_simp <;> rfl
  try simp only [Act.put, List.getElem_toArray, List.getElem_cons_zero, List.getElem_cons_succ, List.setIfInBounds_toArray, List.set_cons_zero, List.set_cons_succ]
  refine wpAnyH_ready (rs := [4]) (by kernel_rfl) (by simp) ?_
  refine AllReadyH.cons rfl (fun K hK => ?_) AllReadyH.nil
  go_simp
  refine (kind_abortDeed tx prev _).mono ?_
  rintro e u1 ⟨rfl, hb1⟩
  have hB1 : Below W.heap.size W u1 := ((Below.refl _ _).drew).trans hb1
  refine hK.out _ _ (HC.out _ (HB.out _ hB1).2) (fun hHeld => ?_)
  clear hK K
  try simp only [Act.put, List.getElem_toArray, List.getElem_cons_zero, List.getElem_cons_succ, List.setIfInBounds_toArray, List.set_cons_zero, List.set_cons_succ]
  refine wpAnyH_ready (rs := [5]) (by kernel_rfl) (by simp) ?_
  refine AllReadyH.cons rfl (fun K hK => ?_) AllReadyH.nil
  go_simp
  refine (recAt_any n tx prev 3 _).mono ?_
  rintro e u2 ⟨rfl, hb2⟩
  have hBL : Below W.heap.size W u2 := hB1.trans (hb2.mono hB1.size)
  refine hK.out _ _ (HC.out _ (HB.out _ hBL).2) (fun hHeld => ?_)
  clear hK K
  try simp only [Act.put, List.getElem_toArray, List.getElem_cons_zero, List.getElem_cons_succ, List.setIfInBounds_toArray, List.set_cons_zero, List.set_cons_succ]
  obtain ⟨WF, hWF, bF, hwF, hsF⟩ := range_fill [] [.int .i64 0, .int .i64 0, .int .i64 0, .int .i64 0, .int .i64 0, .bool false, .int .i64 0, .slice none 0 0, .slice none 0 0, .bool false, .int .i64 0, .slice none 0 0, .slice none 0 0, .int .i64 0, .slice none 0 0] (RecA.cells (recA n tx prev 3)) [] (by simpa using (HB.out _ hBL).1) rfl
  have HF : Hid (Below w.heap.size w WF) := (hbW.trans (hBL.mono hbW.size)).trans (hwF.below (by omega) (by have := hBL.size; omega))
  have HLD : Hid (_ = _) := rec_load (recA n tx prev 3) (by simpa using bF)
  have HS : Hid (WF.cell? ⟨w.heap.size + 1, 0, none⟩ = some (.int .i64 tx) ∧ WF.cell? ⟨w.heap.size + 1, 1, none⟩ = some (.int .i64 prev)) := HC.out _ ((HB.out _ hBL).2.within hwF (by omega))
  refine wpAnyH_ready (rs := [6]) (by kernel_rfl) (by simp) ?_
  refine AllReadyH.cons rfl (fun K hK => ?_) AllReadyH.nil
  rw [if_pos (by rfl)]
  refine wp_store_mid 30 (.tmp 4) (.tmp 48) rfl w.heap.size 0 (RecA.cells (recA n tx prev 3)).toArray rfl rfl ((HB.out _ hBL).1.there 0 _ (by show 0 + 15 ≤ 15; decide)) HI.out HO.out ?_
  have HW : Hid (u2.setCells w.heap.size 0 (RecA.cells (recA n tx prev 3)).toArray.toList = WF) := hWF.out
  rw [HW.out]
  refine hK.out _ _ HS.out (fun hHeld => ?_)
  refine wpAnyH_done (by kernel_rfl) ?_ _
  clear hwF hWF HW hK K HS
  go_wp2
  exact bodyPost_ret (v := .agg (RecA.cells (recA n tx prev 3)).toArray) (results_one Tryz.results64 rfl HLD.out) rfl ⟨rfl, HF.out⟩

set_option maxHeartbeats 4000000 in
set_option maxRecDepth 100000 in
theorem recOf_back (n : Int) (tx prev oid : Int) (a : SlotA) (next : Int) (w : World) :
    Calls Tryz.prog 64 #[.int .i64 n, isbackDeed (backD tx prev oid a next)] w fun e w' => e = .returned (.agg (RecA.cells (⟨n, tx, prev, 4, oid, zeroS, a, next, [], none, 0⟩)).toArray) ∧ Below w.heap.size w w' := by
  obtain ⟨W, hW, b0, b1, hbW, hsW⟩ := boxes2 w [.int .i64 0, .int .i64 0, .int .i64 0, .int .i64 0, .int .i64 0, .bool false, .int .i64 0, .slice none 0 0, .slice none 0 0, .bool false, .int .i64 0, .slice none 0 0, .slice none 0 0, .int .i64 0, .slice none 0 0] [.int .i64 tx, .int .i64 prev, .int .i64 oid, .bool a.v.has, .int .i64 a.v.o.kind, .slice a.aI a.v.o.ints.length a.cI, .slice a.aR a.v.o.refs.length a.cR, .int .i64 next] 30 121
  simp only [isbackDeed, backD]
  have a_setDeed := fun W => no_setDeed W 121 (.agg #[.int .i64 tx, .int .i64 prev, .int .i64 oid, .bool a.v.has, .int .i64 a.v.o.kind, .slice a.aI a.v.o.ints.length a.cI, .slice a.aR a.v.o.refs.length a.cR, .int .i64 next]) (by decide)
  have a_commitDeed := fun W => no_commitDeed W 121 (.agg #[.int .i64 tx, .int .i64 prev, .int .i64 oid, .bool a.v.has, .int .i64 a.v.o.kind, .slice a.aI a.v.o.ints.length a.cI, .slice a.aR a.v.o.refs.length a.cR, .int .i64 next]) (by decide)
  have a_abortDeed := fun W => no_abortDeed W 121 (.agg #[.int .i64 tx, .int .i64 prev, .int .i64 oid, .bool a.v.has, .int .i64 a.v.o.kind, .slice a.aI a.v.o.ints.length a.cI, .slice a.aR a.v.o.refs.length a.cR, .int .i64 next]) (by decide)
  have a_backDeed := fun W => yes_backDeed W (.agg #[.int .i64 tx, .int .i64 prev, .int .i64 oid, .bool a.v.has, .int .i64 a.v.o.kind, .slice a.aI a.v.o.ints.length a.cI, .slice a.aR a.v.o.refs.length a.cR, .int .i64 next])
  have HB : Hid (∀ u, Below W.heap.size W u → Box u w.heap.size [.int .i64 0, .int .i64 0, .int .i64 0, .int .i64 0, .int .i64 0, .bool false, .int .i64 0, .slice none 0 0, .slice none 0 0, .bool false, .int .i64 0, .slice none 0 0, .slice none 0 0, .int .i64 0, .slice none 0 0] 30 ∧ Box u (w.heap.size + 1) [.int .i64 tx, .int .i64 prev, .int .i64 oid, .bool a.v.has, .int .i64 a.v.o.kind, .slice a.aI a.v.o.ints.length a.cI, .slice a.aR a.v.o.refs.length a.cR, .int .i64 next] 121) := fun u hu => ⟨b0.below hu b0.lt, b1.below hu b1.lt⟩
  have HC : Hid (∀ w', Box w' (w.heap.size + 1) [.int .i64 tx, .int .i64 prev, .int .i64 oid, .bool a.v.has, .int .i64 a.v.o.kind, .slice a.aI a.v.o.ints.length a.cI, .slice a.aR a.v.o.refs.length a.cR, .int .i64 next] 121 → w'.cell? ⟨w.heap.size + 1, 0, none⟩ = some (.int .i64 tx) ∧ w'.cell? ⟨w.heap.size + 1, 1, none⟩ = some (.int .i64 prev) ∧ w'.cell? ⟨w.heap.size + 1, 2, none⟩ = some (.int .i64 oid) ∧ w'.cell? ⟨w.heap.size + 1, 3, none⟩ = some (.bool a.v.has) ∧ w'.cell? ⟨w.heap.size + 1, 4, none⟩ = some (.int .i64 a.v.o.kind) ∧ w'.cell? ⟨w.heap.size + 1, 5, none⟩ = some (.slice a.aI a.v.o.ints.length a.cI) ∧ w'.cell? ⟨w.heap.size + 1, 6, none⟩ = some (.slice a.aR a.v.o.refs.length a.cR) ∧ w'.cell? ⟨w.heap.size + 1, 7, none⟩ = some (.int .i64 next)) := fun w' b => ⟨b.cell 0 _ rfl, b.cell 1 _ rfl, b.cell 2 _ rfl, b.cell 3 _ rfl, b.cell 4 _ rfl, b.cell 5 _ rfl, b.cell 6 _ rfl, b.cell 7 _ rfl⟩
  have hh := HC.out W b1
  have hlt := b1.lt
  have HI : Hid ((Tryz.prog.info? 30).map (·.size) = some 15) := by rw [Hid]; kernel_rfl
  have HO : Hid (_) := all_oneCell_toArray (oneR (⟨n, tx, prev, 4, oid, zeroS, a, next, [], none, 0⟩))
  clear hsW b0 b1
  go_enter Tryz.func64, Tryz.ntmps64
  go_wp2_with fail
  rw [hW.out]
  clear hW a_setDeed a_commitDeed a_abortDeed a_backDeed
  refine wp_region_held_drew (S := fun w' => w'.cell? ⟨w.heap.size + 1, 0, none⟩ = some (.int .i64 tx) ∧ w'.cell? ⟨w.heap.size + 1, 1, none⟩ = some (.int .i64 prev) ∧ w'.cell? ⟨w.heap.size + 1, 2, none⟩ = some (.int .i64 oid) ∧ w'.cell? ⟨w.heap.size + 1, 3, none⟩ = some (.bool a.v.has) ∧ w'.cell? ⟨w.heap.size + 1, 4, none⟩ = some (.int .i64 a.v.o.kind) ∧ w'.cell? ⟨w.heap.size + 1, 5, none⟩ = some (.slice a.aI a.v.o.ints.length a.cI) ∧ w'.cell? ⟨w.heap.size + 1, 6, none⟩ = some (.slice a.aR a.v.o.refs.length a.cR) ∧ w'.cell? ⟨w.heap.size + 1, 7, none⟩ = some (.int .i64 next)) (by kernel_rfl) (HC.out _ (HB.out _ (Below.refl _ _).drew).2) (fun hHeld => ?_)
  refine wpAnyH_take (i := 0) (v := .int .i64 n) rfl (by kernel_rfl) (by kernel_rfl) (by kernel_rfl) (fun _ _ _ h => h) (Or.inl ⟨by rfl, ?_⟩) hHeld ?_
  · intro w' hSw
    go_simp <;> rfl
  try simp only [Act.put, List.getElem_toArray, List.getElem_cons_zero, List.setIfInBounds_toArray, List.set_cons_zero, List.set_cons_succ]
  refine wpAnyH_take (i := 1) (v := .pointer (some ⟨w.heap.size + 1, 0, none⟩)) rfl (by kernel_rfl) (by kernel_rfl) (by kernel_rfl) (fun _ _ _ h => h) (Or.inl ⟨by rfl, ?_⟩) hHeld ?_
  · intro w' hSw
    go_simp <;> rfl
  try simp only [Act.put, List.getElem_toArray, List.getElem_cons_zero, List.getElem_cons_succ, List.setIfInBounds_toArray, List.set_cons_zero, List.set_cons_succ]
  refine wpAnyH_take (i := 2) (v := .pointer (some ⟨w.heap.size + 1, 0, none⟩)) rfl (by kernel_rfl) (by kernel_rfl) (by kernel_rfl) (fun _ _ _ h => h) (Or.inl ⟨by rfl, ?_⟩) hHeld ?_
  · intro w' hSw
    go_simp <;> rfl
  try simp only [Act.put, List.getElem_toArray, List.getElem_cons_zero, List.getElem_cons_succ, List.setIfInBounds_toArray, List.set_cons_zero, List.set_cons_succ]
  refine wpAnyH_take (i := 3) (v := .int .i64 tx) rfl (by kernel_rfl) (by kernel_rfl) (by kernel_rfl) (fun _ _ _ h => h) (Or.inl ⟨by rfl, ?_⟩) hHeld ?_
  · intro w' hSw
    go_simp <;> rfl
  try simp only [Act.put, List.getElem_toArray, List.getElem_cons_zero, List.getElem_cons_succ, List.setIfInBounds_toArray, List.set_cons_zero, List.set_cons_succ]
  refine wpAnyH_take (i := 4) (v := .pointer (some ⟨w.heap.size + 1, 0, none⟩)) rfl (by kernel_rfl) (by kernel_rfl) (by kernel_rfl) (fun _ _ _ h => h) (Or.inl ⟨by rfl, ?_⟩) hHeld ?_
  · intro w' hSw
    go_simp <;> rfl
  try simp only [Act.put, List.getElem_toArray, List.getElem_cons_zero, List.getElem_cons_succ, List.setIfInBounds_toArray, List.set_cons_zero, List.set_cons_succ]
  refine wpAnyH_take (i := 5) (v := .pointer (some ⟨w.heap.size + 1, 1, none⟩)) rfl (by kernel_rfl) (by kernel_rfl) (by kernel_rfl) (fun _ _ _ h => h) (Or.inl ⟨by rfl, ?_⟩) hHeld ?_
  · intro w' hSw
    go_simp <;> rfl
  try simp only [Act.put, List.getElem_toArray, List.getElem_cons_zero, List.getElem_cons_succ, List.setIfInBounds_toArray, List.set_cons_zero, List.set_cons_succ]
  refine wpAnyH_take (i := 6) (v := .int .i64 prev) rfl (by kernel_rfl) (by kernel_rfl) (by kernel_rfl) (fun _ _ _ h => h) (Or.inl ⟨by rfl, ?_⟩) hHeld ?_
  · intro w' hSw
    go_simp <;> rfl
  try simp only [Act.put, List.getElem_toArray, List.getElem_cons_zero, List.getElem_cons_succ, List.setIfInBounds_toArray, List.set_cons_zero, List.set_cons_succ]
  refine wpAnyH_take (i := 7) (v := .agg #[.int .i64 tx, .int .i64 prev, .int .i64 oid, .bool a.v.has, .int .i64 a.v.o.kind, .slice a.aI a.v.o.ints.length a.cI, .slice a.aR a.v.o.refs.length a.cR, .int .i64 next]) rfl (by kernel_rfl) (by kernel_rfl) (by kernel_rfl) (fun _ _ _ h => h) (Or.inl ⟨by rfl, ?_⟩) hHeld ?_
  · intro w' hSw
    go_simp <;> rfl
  try simp only [Act.put, List.getElem_toArray, List.getElem_cons_zero, List.getElem_cons_succ, List.setIfInBounds_toArray, List.set_cons_zero, List.set_cons_succ]
  refine wpAnyH_take (i := 9) (v := .pointer (some ⟨w.heap.size + 1, 2, none⟩)) rfl (by kernel_rfl) (by kernel_rfl) (by kernel_rfl) (fun _ _ _ h => h) (Or.inl ⟨by rfl, ?_⟩) hHeld ?_
  · intro w' hSw
    go_simp <;> rfl
  try simp only [Act.put, List.getElem_toArray, List.getElem_cons_zero, List.getElem_cons_succ, List.setIfInBounds_toArray, List.set_cons_zero, List.set_cons_succ]
  refine wpAnyH_take (i := 10) (v := .int .i64 oid) rfl (by kernel_rfl) (by kernel_rfl) (by kernel_rfl) (fun _ _ _ h => h) (Or.inl ⟨by rfl, ?_⟩) hHeld ?_
  · intro w' hSw
    go_simp <;> rfl
  try simp only [Act.put, List.getElem_toArray, List.getElem_cons_zero, List.getElem_cons_succ, List.setIfInBounds_toArray, List.set_cons_zero, List.set_cons_succ]
  refine wpAnyH_take (i := 11) (v := .pointer (some ⟨w.heap.size + 1, 3, none⟩)) rfl (by kernel_rfl) (by kernel_rfl) (by kernel_rfl) (fun _ _ _ h => h) (Or.inl ⟨by rfl, ?_⟩) hHeld ?_
  · intro w' hSw
    go_simp <;> rfl
  try simp only [Act.put, List.getElem_toArray, List.getElem_cons_zero, List.getElem_cons_succ, List.setIfInBounds_toArray, List.set_cons_zero, List.set_cons_succ]
  refine wpAnyH_take (i := 12) (v := .agg #[.bool a.v.has, .int .i64 a.v.o.kind, .slice a.aI a.v.o.ints.length a.cI, .slice a.aR a.v.o.refs.length a.cR]) rfl (by kernel_rfl) (by kernel_rfl) (by kernel_rfl) (fun _ _ _ h => h) (Or.inl ⟨by rfl, ?_⟩) hHeld ?_
  · intro w' hSw
    go_simp <;> rfl
  try simp only [Act.put, List.getElem_toArray, List.getElem_cons_zero, List.getElem_cons_succ, List.setIfInBounds_toArray, List.set_cons_zero, List.set_cons_succ]
  refine wpAnyH_take (i := 13) (v := .pointer (some ⟨w.heap.size + 1, 7, none⟩)) rfl (by kernel_rfl) (by kernel_rfl) (by kernel_rfl) (fun _ _ _ h => h) (Or.inl ⟨by rfl, ?_⟩) hHeld ?_
  · intro w' hSw
    go_simp <;> rfl
  try simp only [Act.put, List.getElem_toArray, List.getElem_cons_zero, List.getElem_cons_succ, List.setIfInBounds_toArray, List.set_cons_zero, List.set_cons_succ]
  refine wpAnyH_take (i := 14) (v := .int .i64 next) rfl (by kernel_rfl) (by kernel_rfl) (by kernel_rfl) (fun _ _ _ h => h) (Or.inl ⟨by rfl, ?_⟩) hHeld ?_
  · intro w' hSw
    go_simp <;> rfl
  try simp only [Act.put, List.getElem_toArray, List.getElem_cons_zero, List.getElem_cons_succ, List.setIfInBounds_toArray, List.set_cons_zero, List.set_cons_succ]
  refine wpAnyH_ready (rs := [8]) (by kernel_rfl) (by simp) ?_
  refine AllReadyH.cons rfl (fun K hK => ?_) AllReadyH.nil
  go_simp
  refine (kind_backDeed tx prev oid a next _).mono ?_
  rintro e u1 ⟨rfl, hb1⟩
  have hB1 : Below W.heap.size W u1 := ((Below.refl _ _).drew).trans hb1
  refine hK.out _ _ (HC.out _ (HB.out _ hB1).2) (fun hHeld => ?_)
  clear hK K
  try simp only [Act.put, List.getElem_toArray, List.getElem_cons_zero, List.getElem_cons_succ, List.setIfInBounds_toArray, List.set_cons_zero, List.set_cons_succ]
  have hBL := hB1
  refine wpAnyH_take (i := 15) (v := .agg (RecA.cells (⟨n, tx, prev, 4, oid, zeroS, a, next, [], none, 0⟩)).toArray) rfl (by kernel_rfl) (by kernel_rfl) (by kernel_rfl) (fun _ _ _ h => h) (Or.inl ⟨by rfl, ?_⟩) hHeld ?_
  · intro w' hSw
    go_simp <;> rfl
  try simp only [Act.put, List.getElem_toArray, List.getElem_cons_zero, List.getElem_cons_succ, List.setIfInBounds_toArray, List.set_cons_zero, List.set_cons_succ]
  obtain ⟨WF, hWF, bF, hwF, hsF⟩ := range_fill [] [.int .i64 0, .int .i64 0, .int .i64 0, .int .i64 0, .int .i64 0, .bool false, .int .i64 0, .slice none 0 0, .slice none 0 0, .bool false, .int .i64 0, .slice none 0 0, .slice none 0 0, .int .i64 0, .slice none 0 0] (RecA.cells (⟨n, tx, prev, 4, oid, zeroS, a, next, [], none, 0⟩)) [] (by simpa using (HB.out _ hBL).1) rfl
  have HF : Hid (Below w.heap.size w WF) := (hbW.trans (hBL.mono hbW.size)).trans (hwF.below (by omega) (by have := hBL.size; omega))
  have HLD : Hid (_ = _) := rec_load (⟨n, tx, prev, 4, oid, zeroS, a, next, [], none, 0⟩) (by simpa using bF)
  have HS : Hid (WF.cell? ⟨w.heap.size + 1, 0, none⟩ = some (.int .i64 tx) ∧ WF.cell? ⟨w.heap.size + 1, 1, none⟩ = some (.int .i64 prev) ∧ WF.cell? ⟨w.heap.size + 1, 2, none⟩ = some (.int .i64 oid) ∧ WF.cell? ⟨w.heap.size + 1, 3, none⟩ = some (.bool a.v.has) ∧ WF.cell? ⟨w.heap.size + 1, 4, none⟩ = some (.int .i64 a.v.o.kind) ∧ WF.cell? ⟨w.heap.size + 1, 5, none⟩ = some (.slice a.aI a.v.o.ints.length a.cI) ∧ WF.cell? ⟨w.heap.size + 1, 6, none⟩ = some (.slice a.aR a.v.o.refs.length a.cR) ∧ WF.cell? ⟨w.heap.size + 1, 7, none⟩ = some (.int .i64 next)) := HC.out _ ((HB.out _ hBL).2.within hwF (by omega))
  refine wpAnyH_ready (rs := [16]) (by kernel_rfl) (by simp) ?_
  refine AllReadyH.cons rfl (fun K hK => ?_) AllReadyH.nil
  rw [if_pos (by rfl)]
  refine wp_store_mid 30 (.tmp 4) (.tmp 67) rfl w.heap.size 0 (RecA.cells (⟨n, tx, prev, 4, oid, zeroS, a, next, [], none, 0⟩)).toArray rfl rfl ((HB.out _ hBL).1.there 0 _ (by show 0 + 15 ≤ 15; decide)) HI.out HO.out ?_
  have HW : Hid (u1.setCells w.heap.size 0 (RecA.cells (⟨n, tx, prev, 4, oid, zeroS, a, next, [], none, 0⟩)).toArray.toList = WF) := hWF.out
  rw [HW.out]
  refine hK.out _ _ HS.out (fun hHeld => ?_)
  refine wpAnyH_done (by kernel_rfl) ?_ _
  clear hwF hWF HW hK K HS
  go_wp2
  exact bodyPost_ret (v := .agg (RecA.cells (⟨n, tx, prev, 4, oid, zeroS, a, next, [], none, 0⟩)).toArray) (results_one Tryz.results64 rfl HLD.out) rfl ⟨rfl, HF.out⟩

set_option maxHeartbeats 4000000 in
set_option maxRecDepth 100000 in
theorem recOf_end (n : Int) (tx prev : Int) (w : World) :
    Calls Tryz.prog 64 #[.int .i64 n, isendDeed (linkD tx prev)] w fun e w' => e = .returned (.agg (RecA.cells (recA n tx prev 5)).toArray) ∧ Below w.heap.size w w' := by
  obtain ⟨W, hW, b0, b1, hbW, hsW⟩ := boxes2 w [.int .i64 0, .int .i64 0, .int .i64 0, .int .i64 0, .int .i64 0, .bool false, .int .i64 0, .slice none 0 0, .slice none 0 0, .bool false, .int .i64 0, .slice none 0 0, .slice none 0 0, .int .i64 0, .slice none 0 0] [.int .i64 tx, .int .i64 prev] 30 125
  simp only [isendDeed, linkD]
  have a_setDeed := fun W => no_setDeed W 125 (.agg #[.int .i64 tx, .int .i64 prev]) (by decide)
  have a_commitDeed := fun W => no_commitDeed W 125 (.agg #[.int .i64 tx, .int .i64 prev]) (by decide)
  have a_abortDeed := fun W => no_abortDeed W 125 (.agg #[.int .i64 tx, .int .i64 prev]) (by decide)
  have a_backDeed := fun W => no_backDeed W 125 (.agg #[.int .i64 tx, .int .i64 prev]) (by decide)
  have a_endDeed := fun W => yes_endDeed W (.agg #[.int .i64 tx, .int .i64 prev])
  have HB : Hid (∀ u, Below W.heap.size W u → Box u w.heap.size [.int .i64 0, .int .i64 0, .int .i64 0, .int .i64 0, .int .i64 0, .bool false, .int .i64 0, .slice none 0 0, .slice none 0 0, .bool false, .int .i64 0, .slice none 0 0, .slice none 0 0, .int .i64 0, .slice none 0 0] 30 ∧ Box u (w.heap.size + 1) [.int .i64 tx, .int .i64 prev] 125) := fun u hu => ⟨b0.below hu b0.lt, b1.below hu b1.lt⟩
  have HC : Hid (∀ w', Box w' (w.heap.size + 1) [.int .i64 tx, .int .i64 prev] 125 → w'.cell? ⟨w.heap.size + 1, 0, none⟩ = some (.int .i64 tx) ∧ w'.cell? ⟨w.heap.size + 1, 1, none⟩ = some (.int .i64 prev)) := fun w' b => ⟨b.cell 0 _ rfl, b.cell 1 _ rfl⟩
  have hh := HC.out W b1
  have hlt := b1.lt
  have HI : Hid ((Tryz.prog.info? 30).map (·.size) = some 15) := by rw [Hid]; kernel_rfl
  have HO : Hid (_) := all_oneCell_toArray (oneR (recA n tx prev 5))
  clear hsW b0 b1
  go_enter Tryz.func64, Tryz.ntmps64
  go_wp2_with fail
  rw [hW.out]
  clear hW a_setDeed a_commitDeed a_abortDeed a_backDeed a_endDeed
  refine wp_region_held_drew (S := fun w' => w'.cell? ⟨w.heap.size + 1, 0, none⟩ = some (.int .i64 tx) ∧ w'.cell? ⟨w.heap.size + 1, 1, none⟩ = some (.int .i64 prev)) (by kernel_rfl) (HC.out _ (HB.out _ (Below.refl _ _).drew).2) (fun hHeld => ?_)
  refine wpAnyH_take (i := 0) (v := .int .i64 n) rfl (by kernel_rfl) (by kernel_rfl) (by kernel_rfl) (fun _ _ _ h => h) (Or.inl ⟨by rfl, ?_⟩) hHeld ?_
  · intro w' hSw
    go_simp <;> rfl
  try simp only [Act.put, List.getElem_toArray, List.getElem_cons_zero, List.setIfInBounds_toArray, List.set_cons_zero, List.set_cons_succ]
  refine wpAnyH_take (i := 1) (v := .pointer (some ⟨w.heap.size + 1, 0, none⟩)) rfl (by kernel_rfl) (by kernel_rfl) (by kernel_rfl) (fun _ _ _ h => h) (Or.inl ⟨by rfl, ?_⟩) hHeld ?_
  · intro w' hSw
    go_simp <;> rfl
  try simp only [Act.put, List.getElem_toArray, List.getElem_cons_zero, List.getElem_cons_succ, List.setIfInBounds_toArray, List.set_cons_zero, List.set_cons_succ]
  refine wpAnyH_take (i := 2) (v := .agg #[.int .i64 tx, .int .i64 prev]) rfl (by kernel_rfl) (by kernel_rfl) (by kernel_rfl) (fun _ _ _ h => h) (Or.inl ⟨by rfl, ?_⟩) hHeld ?_
  · intro w' hSw
    go_simp <;> rfl
  try simp only [Act.put, List.getElem_toArray, List.getElem_cons_zero, List.getElem_cons_succ, List.setIfInBounds_toArray, List.set_cons_zero, List.set_cons_succ]
  refine wpAnyH_take (i := 3) (v := .agg #[.int .i64 tx, .int .i64 prev]) rfl (by kernel_rfl) (by kernel_rfl) (by kernel_rfl) (fun _ _ _ h => h) (Or.inl ⟨by rfl, ?_⟩) hHeld ?_
  · intro w' hSw
    go_simp <;> rfl
  try simp only [Act.put, List.getElem_toArray, List.getElem_cons_zero, List.getElem_cons_succ, List.setIfInBounds_toArray, List.set_cons_zero, List.set_cons_succ]
  refine wpAnyH_ready (rs := [4]) (by kernel_rfl) (by simp) ?_
  refine AllReadyH.cons rfl (fun K hK => ?_) AllReadyH.nil
  go_simp
  refine (kind_endDeed tx prev _).mono ?_
  rintro e u1 ⟨rfl, hb1⟩
  have hB1 : Below W.heap.size W u1 := ((Below.refl _ _).drew).trans hb1
  refine hK.out _ _ (HC.out _ (HB.out _ hB1).2) (fun hHeld => ?_)
  clear hK K
  try simp only [Act.put, List.getElem_toArray, List.getElem_cons_zero, List.getElem_cons_succ, List.setIfInBounds_toArray, List.set_cons_zero, List.set_cons_succ]
  refine wpAnyH_ready (rs := [5]) (by kernel_rfl) (by simp) ?_
  refine AllReadyH.cons rfl (fun K hK => ?_) AllReadyH.nil
  go_simp
  refine (recAt_any n tx prev 5 _).mono ?_
  rintro e u2 ⟨rfl, hb2⟩
  have hBL : Below W.heap.size W u2 := hB1.trans (hb2.mono hB1.size)
  refine hK.out _ _ (HC.out _ (HB.out _ hBL).2) (fun hHeld => ?_)
  clear hK K
  try simp only [Act.put, List.getElem_toArray, List.getElem_cons_zero, List.getElem_cons_succ, List.setIfInBounds_toArray, List.set_cons_zero, List.set_cons_succ]
  obtain ⟨WF, hWF, bF, hwF, hsF⟩ := range_fill [] [.int .i64 0, .int .i64 0, .int .i64 0, .int .i64 0, .int .i64 0, .bool false, .int .i64 0, .slice none 0 0, .slice none 0 0, .bool false, .int .i64 0, .slice none 0 0, .slice none 0 0, .int .i64 0, .slice none 0 0] (RecA.cells (recA n tx prev 5)) [] (by simpa using (HB.out _ hBL).1) rfl
  have HF : Hid (Below w.heap.size w WF) := (hbW.trans (hBL.mono hbW.size)).trans (hwF.below (by omega) (by have := hBL.size; omega))
  have HLD : Hid (_ = _) := rec_load (recA n tx prev 5) (by simpa using bF)
  have HS : Hid (WF.cell? ⟨w.heap.size + 1, 0, none⟩ = some (.int .i64 tx) ∧ WF.cell? ⟨w.heap.size + 1, 1, none⟩ = some (.int .i64 prev)) := HC.out _ ((HB.out _ hBL).2.within hwF (by omega))
  refine wpAnyH_ready (rs := [6]) (by kernel_rfl) (by simp) ?_
  refine AllReadyH.cons rfl (fun K hK => ?_) AllReadyH.nil
  rw [if_pos (by rfl)]
  refine wp_store_mid 30 (.tmp 4) (.tmp 76) rfl w.heap.size 0 (RecA.cells (recA n tx prev 5)).toArray rfl rfl ((HB.out _ hBL).1.there 0 _ (by show 0 + 15 ≤ 15; decide)) HI.out HO.out ?_
  have HW : Hid (u2.setCells w.heap.size 0 (RecA.cells (recA n tx prev 5)).toArray.toList = WF) := hWF.out
  rw [HW.out]
  refine hK.out _ _ HS.out (fun hHeld => ?_)
  refine wpAnyH_done (by kernel_rfl) ?_ _
  clear hwF hWF HW hK K HS
  go_wp2
  exact bodyPost_ret (v := .agg (RecA.cells (recA n tx prev 5)).toArray) (results_one Tryz.results64 rfl HLD.out) rfl ⟨rfl, HF.out⟩

set_option maxHeartbeats 4000000 in
set_option maxRecDepth 100000 in
theorem recOf_check (n : Int) (ls : List LiveV) (aL : Option Addr) (cL : Nat) (w : World) :
    Calls Tryz.prog 64 #[.int .i64 n, ischeckDeed (checkD ls aL cL)] w fun e w' => e = .returned (.agg (RecA.cells (⟨n, 0, 0, 6, 0, zeroS, zeroS, 0, ls, aL, cL⟩)).toArray) ∧ Below w.heap.size w w' := by
  obtain ⟨W, hW, b0, b1, hbW, hsW⟩ := boxes2 w [.int .i64 0, .int .i64 0, .int .i64 0, .int .i64 0, .int .i64 0, .bool false, .int .i64 0, .slice none 0 0, .slice none 0 0, .bool false, .int .i64 0, .slice none 0 0, .slice none 0 0, .int .i64 0, .slice none 0 0] [.slice aL ls.length cL] 30 127
  simp only [ischeckDeed, checkD]
  have a_setDeed := fun W => no_setDeed W 127 (.agg #[.slice aL ls.length cL]) (by decide)
  have a_commitDeed := fun W => no_commitDeed W 127 (.agg #[.slice aL ls.length cL]) (by decide)
  have a_abortDeed := fun W => no_abortDeed W 127 (.agg #[.slice aL ls.length cL]) (by decide)
  have a_backDeed := fun W => no_backDeed W 127 (.agg #[.slice aL ls.length cL]) (by decide)
  have a_endDeed := fun W => no_endDeed W 127 (.agg #[.slice aL ls.length cL]) (by decide)
  have a_checkDeed := fun W => yes_checkDeed W (.agg #[.slice aL ls.length cL])
  have HB : Hid (∀ u, Below W.heap.size W u → Box u w.heap.size [.int .i64 0, .int .i64 0, .int .i64 0, .int .i64 0, .int .i64 0, .bool false, .int .i64 0, .slice none 0 0, .slice none 0 0, .bool false, .int .i64 0, .slice none 0 0, .slice none 0 0, .int .i64 0, .slice none 0 0] 30 ∧ Box u (w.heap.size + 1) [.slice aL ls.length cL] 127) := fun u hu => ⟨b0.below hu b0.lt, b1.below hu b1.lt⟩
  have HC : Hid (∀ w', Box w' (w.heap.size + 1) [.slice aL ls.length cL] 127 → w'.cell? ⟨w.heap.size + 1, 0, none⟩ = some (.slice aL ls.length cL)) := fun w' b => b.cell 0 _ rfl
  have hh := HC.out W b1
  have hlt := b1.lt
  have HI : Hid ((Tryz.prog.info? 30).map (·.size) = some 15) := by rw [Hid]; kernel_rfl
  have HO : Hid (_) := all_oneCell_toArray (oneR (⟨n, 0, 0, 6, 0, zeroS, zeroS, 0, ls, aL, cL⟩))
  clear hsW b0 b1
  go_enter Tryz.func64, Tryz.ntmps64
  go_wp2_with fail
  rw [hW.out]
  clear hW a_setDeed a_commitDeed a_abortDeed a_backDeed a_endDeed a_checkDeed
  refine wp_region_held_drew (S := fun w' => w'.cell? ⟨w.heap.size + 1, 0, none⟩ = some (.slice aL ls.length cL)) (by kernel_rfl) (HC.out _ (HB.out _ (Below.refl _ _).drew).2) (fun hHeld => ?_)
  refine wpAnyH_take (i := 0) (v := .int .i64 n) rfl (by kernel_rfl) (by kernel_rfl) (by kernel_rfl) (fun _ _ _ h => h) (Or.inl ⟨by rfl, ?_⟩) hHeld ?_
  · intro w' hSw
    go_simp <;> rfl
  try simp only [Act.put, List.getElem_toArray, List.getElem_cons_zero, List.setIfInBounds_toArray, List.set_cons_zero, List.set_cons_succ]
  refine wpAnyH_take (i := 1) (v := .agg #[.slice aL ls.length cL]) rfl (by kernel_rfl) (by kernel_rfl) (by kernel_rfl) (fun _ _ _ h => h) (Or.inl ⟨by rfl, ?_⟩) hHeld ?_
  · intro w' hSw
    go_simp <;> rfl
  try simp only [Act.put, List.getElem_toArray, List.getElem_cons_zero, List.getElem_cons_succ, List.setIfInBounds_toArray, List.set_cons_zero, List.set_cons_succ]
  refine wpAnyH_take (i := 3) (v := .pointer (some ⟨w.heap.size + 1, 0, none⟩)) rfl (by kernel_rfl) (by kernel_rfl) (by kernel_rfl) (fun _ _ _ h => h) (Or.inl ⟨by rfl, ?_⟩) hHeld ?_
  · intro w' hSw
    go_simp <;> rfl
  try simp only [Act.put, List.getElem_toArray, List.getElem_cons_zero, List.getElem_cons_succ, List.setIfInBounds_toArray, List.set_cons_zero, List.set_cons_succ]
  refine wpAnyH_take (i := 4) (v := .slice aL ls.length cL) rfl (by kernel_rfl) (by kernel_rfl) (by kernel_rfl) (fun _ _ _ h => h) (Or.inl ⟨by rfl, ?_⟩) hHeld ?_
  · intro w' hSw
    go_simp <;> rfl
  try simp only [Act.put, List.getElem_toArray, List.getElem_cons_zero, List.getElem_cons_succ, List.setIfInBounds_toArray, List.set_cons_zero, List.set_cons_succ]
  refine wpAnyH_ready (rs := [2]) (by kernel_rfl) (by simp) ?_
  refine AllReadyH.cons rfl (fun K hK => ?_) AllReadyH.nil
  go_simp
  refine (kind_checkDeed ls aL cL _).mono ?_
  rintro e u1 ⟨rfl, hb1⟩
  have hB1 : Below W.heap.size W u1 := ((Below.refl _ _).drew).trans hb1
  refine hK.out _ _ (HC.out _ (HB.out _ hB1).2) (fun hHeld => ?_)
  clear hK K
  try simp only [Act.put, List.getElem_toArray, List.getElem_cons_zero, List.getElem_cons_succ, List.setIfInBounds_toArray, List.set_cons_zero, List.set_cons_succ]
  have hBL := hB1
  refine wpAnyH_take (i := 5) (v := .agg (RecA.cells (⟨n, 0, 0, 6, 0, zeroS, zeroS, 0, ls, aL, cL⟩)).toArray) rfl (by kernel_rfl) (by kernel_rfl) (by kernel_rfl) (fun _ _ _ h => h) (Or.inl ⟨by rfl, ?_⟩) hHeld ?_
  · intro w' hSw
    go_simp <;> rfl
  try simp only [Act.put, List.getElem_toArray, List.getElem_cons_zero, List.getElem_cons_succ, List.setIfInBounds_toArray, List.set_cons_zero, List.set_cons_succ]
  obtain ⟨WF, hWF, bF, hwF, hsF⟩ := range_fill [] [.int .i64 0, .int .i64 0, .int .i64 0, .int .i64 0, .int .i64 0, .bool false, .int .i64 0, .slice none 0 0, .slice none 0 0, .bool false, .int .i64 0, .slice none 0 0, .slice none 0 0, .int .i64 0, .slice none 0 0] (RecA.cells (⟨n, 0, 0, 6, 0, zeroS, zeroS, 0, ls, aL, cL⟩)) [] (by simpa using (HB.out _ hBL).1) rfl
  have HF : Hid (Below w.heap.size w WF) := (hbW.trans (hBL.mono hbW.size)).trans (hwF.below (by omega) (by have := hBL.size; omega))
  have HLD : Hid (_ = _) := rec_load (⟨n, 0, 0, 6, 0, zeroS, zeroS, 0, ls, aL, cL⟩) (by simpa using bF)
  have HS : Hid (WF.cell? ⟨w.heap.size + 1, 0, none⟩ = some (.slice aL ls.length cL)) := HC.out _ ((HB.out _ hBL).2.within hwF (by omega))
  refine wpAnyH_ready (rs := [6]) (by kernel_rfl) (by simp) ?_
  refine AllReadyH.cons rfl (fun K hK => ?_) AllReadyH.nil
  rw [if_pos (by rfl)]
  refine wp_store_mid 30 (.tmp 4) (.tmp 85) rfl w.heap.size 0 (RecA.cells (⟨n, 0, 0, 6, 0, zeroS, zeroS, 0, ls, aL, cL⟩)).toArray rfl rfl ((HB.out _ hBL).1.there 0 _ (by show 0 + 15 ≤ 15; decide)) HI.out HO.out ?_
  have HW : Hid (u1.setCells w.heap.size 0 (RecA.cells (⟨n, 0, 0, 6, 0, zeroS, zeroS, 0, ls, aL, cL⟩)).toArray.toList = WF) := hWF.out
  rw [HW.out]
  refine hK.out _ _ HS.out (fun hHeld => ?_)
  refine wpAnyH_done (by kernel_rfl) ?_ _
  clear hwF hWF HW hK K HS
  go_wp2
  exact bodyPost_ret (v := .agg (RecA.cells (⟨n, 0, 0, 6, 0, zeroS, zeroS, 0, ls, aL, cL⟩)).toArray) (results_one Tryz.results64 rfl HLD.out) rfl ⟨rfl, HF.out⟩

set_option maxHeartbeats 1000000 in
set_option maxRecDepth 100000 in
theorem recOf_nil (n : Int) (w : World) : Calls Tryz.prog 64 #[.int .i64 n, .nilIface] w fun e w' => e = .returned (.agg (recA 0 0 0 0).cells.toArray) ∧ Below w.heap.size w w' := by
  obtain ⟨W, hW, b1, hbW, hsW⟩ := boxes1 w (recA 0 0 0 0).cells 30
  have HL : Hid (_ = _) := rec_load (recA 0 0 0 0) b1
  simp only [recA, RecA.cells, zeroS, List.length_nil] at hW
  clear hsW b1
  have a_setDeed := nil_setDeed
  have a_commitDeed := nil_commitDeed
  have a_abortDeed := nil_abortDeed
  have a_backDeed := nil_backDeed
  have a_endDeed := nil_endDeed
  have a_checkDeed := nil_checkDeed
  go_enter Tryz.func64, Tryz.ntmps64
  go_wp2
  refine bodyPost_ret (v := .agg (recA 0 0 0 0).cells.toArray) (results_one Tryz.results64 rfl ?_) rfl ⟨rfl, ?_⟩
  · rw [show _ = W from hW.out]; exact HL.out
  · rw [show _ = W from hW.out]; exact hbW

end Go.Proofs.YtjaojcgfgkppgaaGreatDoor

/- The walks of slices.Equal over what is under way, impl.sameSlot and impl.sameRec. -/
namespace Go.Proofs.YtjaojcgfgkppgaaGreatDoor
open Go.RowKit

def sameL (a b : LiveV) : Bool := decide (a.tx = b.tx) && (decide (a.last = b.last) && (a.aborts == b.aborts))
theorem sameL_iff {a b : LiveV} : sameL a b = true ↔ a = b := by
  obtain ⟨a1, a2, a3⟩ := a
  obtain ⟨b1, b2, b3⟩ := b
  simp [sameL]
def sameLs (xs ys : List LiveV) : Bool := decide (xs.length = ys.length) && (List.range xs.length).all fun k => sameL (xs.getD k zeroL) (ys.getD k zeroL)
theorem sameLs_len {xs ys : List LiveV} (h : ¬ xs.length = ys.length) : sameLs xs ys = false := by simp [sameLs, h]
theorem sameLs_no {xs ys : List LiveV} (k : Nat) (hk : k < xs.length) (h : sameL (xs.getD k zeroL) (ys.getD k zeroL) = false) : sameLs xs ys = false := by
  have : ((List.range xs.length).all fun k => sameL (xs.getD k zeroL) (ys.getD k zeroL)) = false := by
    rw [List.all_eq_false]
    exact ⟨k, List.mem_range.2 hk, by rw [h]; decide⟩
  unfold sameLs
  rw [this, Bool.and_false]
theorem sameLs_all {xs ys : List LiveV} (hl : xs.length = ys.length) (h : ∀ k, k < xs.length → sameL (xs.getD k zeroL) (ys.getD k zeroL) = true) : sameLs xs ys = true := by
  have : ((List.range xs.length).all fun k => sameL (xs.getD k zeroL) (ys.getD k zeroL)) = true := by
    rw [List.all_eq_true]
    exact fun k hk => h k (List.mem_range.1 hk)
  unfold sameLs
  rw [this, Bool.and_true]
  exact decide_eq_true hl
theorem sameLs_refl (xs : List LiveV) : sameLs xs xs = true := sameLs_all rfl (fun _ _ => sameL_iff.2 rfl)
theorem sameLs_nil (xs : List LiveV) : sameLs [] xs = decide (xs.length = 0) := by
  cases xs with
  | nil => rfl
  | cons x r => rw [sameLs_len (by simp)]; simp

theorem run_neq_live (a b : LiveV) (w : World) : (binOp .neq 66 (.agg #[.int .i64 a.tx, .int .i64 a.last, .bool a.aborts]) (.agg #[.int .i64 b.tx, .int .i64 b.last, .bool b.aborts])).run Tryz.prog w = .ok (.bool (!sameL a b)) w := by
  obtain ⟨a1, a2, a3⟩ := a
  obtain ⟨b1, b2, b3⟩ := b
  have hp : Tryz.prog.stoodInHeld 66 = false := by kernel_rfl
  by_cases h1 : a1 = b1 <;> by_cases h2 : a2 = b2 <;> cases a3 <;> cases b3 <;> go_simp <;> simp_all [sameL]

set_option maxHeartbeats 2000000 in
set_option maxRecDepth 100000 in
theorem equalLives_any (a b : Option Addr) (ca cb : Nat) (xs ys : List LiveV) (w : World) (ha : ReadsL w a xs) (hb : ReadsL w b ys) (hl : xs.length ≤ 1099511627776) (hl2 : ys.length ≤ 1099511627776) :
    Calls Tryz.prog 89 #[.slice a xs.length ca, .slice b ys.length cb] w fun e w' => e = .returned (.bool (sameLs xs ys)) ∧ ∃ n, w' = w.drewN n := by
  by_cases hle : xs.length = ys.length
  case neg =>
    have HE : Hid (_ = _) := sameLs_len hle
    have hle' : ((xs.length : Int) == (ys.length : Int)) = false := by simp; omega
    go_enter Tryz.func89, Tryz.ntmps89
    go_wp2
    go_ret
    exact ⟨ret_bool HE.out.symm, 0, rfl⟩
  case pos =>
  have HL : Hid (xs.length = ys.length) := hle
  have hle' : ((xs.length : Int) == (ys.length : Int)) = true := by simp; omega
  rcases ha.cases with rfl | ⟨b1, o1, rfl, hpos, hc1⟩
  · obtain rfl : ys = [] := List.length_eq_zero_iff.1 (by simpa using hle.symm)
    have HE : Hid (sameLs [] [] = true) := rfl
    clear hle hle' HL
    go_enter Tryz.func89, Tryz.ntmps89
    go_wp2
    refine wp_loop_rounds 1 ?_
    rw [rounds_succ]
    go_wp2
    go_ret
    exact ⟨ret_bool HE.out.symm, 0, rfl⟩
  · rcases hb.cases with rfl | ⟨b2, o2, rfl, _, hc2⟩
    · simp at hle; simp [hle] at hpos
    · clear hle
      go_enter Tryz.func89, Tryz.ntmps89
      go_wp2
      go_loopw [13] (fun i wr => ∃ k : Nat, k ≤ xs.length ∧ i = .int .i64 k ∧ Hid (∀ t, t < k → sameL (xs.getD t zeroL) (ys.getD t zeroL) = true) ∧ ∃ n, wr = w.drewN n) (fun i _ => xs.length - (intOf i).toNat)
      case atStart => exact ⟨0, Nat.zero_le _, rfl, fun t ht => by omega, 0, rfl⟩
      case round =>
        obtain ⟨k, hk, rfl, hall, n, rfl⟩ := hrel
        by_cases hlt : k < xs.length
        · obtain ⟨h10, h11, h12⟩ := hc1 k hlt
          obtain ⟨h20, h21, h22⟩ := hc2 k (by have := HL.out; omega)
          have hlt2 : (k : Int) < (ys.length : Int) := by have := HL.out; omega
          have hnl := run_neq_live (xs.getD k zeroL) (ys.getD k zeroL)
          clear hc1 hc2
          cases hz : sameL (xs.getD k zeroL) (ys.getD k zeroL) with
          | true =>
            have HN : Hid (∀ t, t < k + 1 → sameL (xs.getD t zeroL) (ys.getD t zeroL) = true) := by
              intro t ht
              by_cases e : t = k
              · rw [e]; exact hz
              · exact hall.out t (by omega)
            rw [hz] at hnl
            clear hz
            generalize xs.getD k zeroL = z at *
            generalize ys.getD k zeroL = y at *
            go_wp2
            go_quiet (fail)
            go_wp2
            go_roundw
            case rel => exact ⟨k + 1, by omega, by go_num, HN, _, rfl⟩
            case measure => simp [intOf]; omega
          | false =>
            have HE : Hid (_ = _) := sameLs_no k hlt hz
            rw [hz] at hnl
            clear hz
            generalize xs.getD k zeroL = z at *
            generalize ys.getD k zeroL = y at *
            go_wp2
            go_quiet (fail)
            go_wp2
            go_ret
            exact ⟨ret_bool HE.out.symm, n + nq, by first | rfl | simp⟩
        · have HE : Hid (_ = _) := sameLs_all HL.out (fun t ht => hall.out t (by omega))
          go_wp2
          go_ret
          exact ⟨ret_bool HE.out.symm, n, rfl⟩

def sameS (a b : SlotV) : Bool := (a.has == b.has) && sameO a.o b.o
set_option maxHeartbeats 1000000 in
set_option maxRecDepth 100000 in
theorem implSameSlot_any (s t : SlotA) (w : World) (hs : s.reads w) (ht : t.reads w) (hls : Fit [s]) (hlt : Fit [t]) :
    Calls Tryz.prog 88 #[.agg s.cells.toArray, .agg t.cells.toArray] w fun e w' => e = .returned (.bool (sameS s.v t.v)) ∧ Below w.heap.size w w' := by
  obtain ⟨h1, h2⟩ := hls s (List.mem_singleton.2 rfl)
  obtain ⟨h3, h4⟩ := hlt t (List.mem_singleton.2 rfl)
  obtain ⟨W, hW, b0, b1, hbW, hsW⟩ := boxes2 w s.cells t.cells 27 27
  have C1 := implSameObj_any s.v.o t.v.o s.aI s.cI s.aR s.cR t.aI t.cI t.aR t.cR W (ReadsO.below hs hbW) (ReadsO.below ht hbW) h1 h2 h3 h4
  have HZ : Hid (sameS s.v t.v = ((s.v.has == t.v.has) && sameO s.v.o t.v.o)) := rfl
  generalize sameS s.v t.v = R at *
  simp only [SlotA.cells] at *
  obtain ⟨x0, x1, x2, x3, _⟩ := b0.four
  obtain ⟨y0, y1, y2, y3, _⟩ := b1.four
  clear hsW b0 b1
  cases hb : (s.v.has == t.v.has) with
  | false =>
    have HR : Hid (R = false) := by rw [Hid, HZ.out]; simp [hb]
    clear HZ C1
    go_enter Tryz.func88, Tryz.ntmps88
    go_wp2
    go_ret
    exact ⟨ret_bool HR.out.symm, by rw [hW.out]; exact hbW⟩
  | true =>
    have HR : Hid (R = sameO s.v.o t.v.o) := by rw [Hid, HZ.out]; simp [hb]
    clear HZ
    go_enter Tryz.func88, Tryz.ntmps88
    go_wp2_with fail
    rw [hW.out]
    refine C1.mono ?_
    clear C1 x0 x1 x2 x3 y0 y1 y2 y3
    rintro e w1 ⟨rfl, hb1⟩
    go_wp2
    go_ret
    exact ⟨ret_bool HR.out.symm, hbW.trans (hb1.mono hbW.size)⟩

def sameR (r t : RecV) : Bool := ((r.lsn == t.lsn) && ((r.tx == t.tx) && ((r.prev == t.prev) && ((r.kind == t.kind) && ((r.oid == t.oid) && (sameS r.bf t.bf && (sameS r.af t.af && ((r.next == t.next) && sameLs r.txs t.txs))))))))
set_option maxHeartbeats 4000000 in
set_option maxRecDepth 100000 in
theorem sameRec_any (r t : RecA) (w : World) (hr : r.reads w) (ht : t.reads w) (hlr : r.short 1099511627776) (hlt : t.short 1099511627776) :
    Calls Tryz.prog 63 #[.agg r.cells.toArray, .agg t.cells.toArray] w fun e w' => e = .returned (.bool (sameR r.v t.v)) ∧ Below w.heap.size w w' := by
  obtain ⟨W, hW, b0, b1, hbW, hsW⟩ := boxes2 w r.cells t.cells 30 30
  have HZ : Hid (sameR r.v t.v = ((r.lsn == t.lsn) && ((r.tx == t.tx) && ((r.prev == t.prev) && ((r.kind == t.kind) && ((r.oid == t.oid) && (sameS r.bf.v t.bf.v && (sameS r.af.v t.af.v && ((r.next == t.next) && sameLs r.txs t.txs))))))))) := rfl
  have HB : Hid (∀ u, Below w.heap.size w u → Calls _ _ _ _ _) := fun u hu => implSameSlot_any r.bf t.bf u (ReadsO.below hr.bf hu) (ReadsO.below ht.bf hu) (fun s hs => by obtain rfl := List.mem_singleton.1 hs; exact hlr.bf) (fun s hs => by obtain rfl := List.mem_singleton.1 hs; exact hlt.bf)
  have HA : Hid (∀ u, Below w.heap.size w u → Calls _ _ _ _ _) := fun u hu => implSameSlot_any r.af t.af u (ReadsO.below hr.af hu) (ReadsO.below ht.af hu) (fun s hs => by obtain rfl := List.mem_singleton.1 hs; exact hlr.af) (fun s hs => by obtain rfl := List.mem_singleton.1 hs; exact hlt.af)
  have HL : Hid (∀ u, Below w.heap.size w u → Calls _ _ _ _ _) := fun u hu => equalLives_any r.aL t.aL r.cL t.cL r.txs t.txs u (hr.txs.below hu) (ht.txs.below hu) hlr.txs hlt.txs
  have HX : Hid (∀ u, Below W.heap.size W u → Box u w.heap.size r.cells 30 ∧ Box u (w.heap.size + 1) t.cells 30) := fun u hu => ⟨b0.below hu b0.lt, b1.below hu b1.lt⟩
  generalize sameR r.v t.v = R at *
  clear hsW hr ht hlr hlt b0 b1
  simp only [RecA.cells, SlotA.cells] at *
  have l0 : Below W.heap.size W W := Below.refl _ _
  obtain ⟨x0, x1, x2, x3, x4, x5, x6, x7, x8, x9, x10, x11, x12, x13, x14⟩ := fifteen (HX.out W l0).1
  obtain ⟨y0, y1, y2, y3, y4, y5, y6, y7, y8, y9, y10, y11, y12, y13, y14⟩ := fifteen (HX.out W l0).2
  go_enter Tryz.func63, Tryz.ntmps63
  cases c0 : (r.lsn == t.lsn) with
  | false =>
    have HR : Hid (R = false) := by rw [Hid, HZ.out]; simp [c0]
    clear HZ
    go_wp2
    go_ret
    exact ⟨ret_bool HR.out.symm, by rw [hW.out]; exact hbW⟩
  | true =>
    cases c1 : (r.tx == t.tx) with
    | false =>
      have HR : Hid (R = false) := by rw [Hid, HZ.out]; simp [c0, c1]
      clear HZ
      go_wp2
      go_ret
      exact ⟨ret_bool HR.out.symm, by rw [hW.out]; exact hbW⟩
    | true =>
      cases c2 : (r.prev == t.prev) with
      | false =>
        have HR : Hid (R = false) := by rw [Hid, HZ.out]; simp [c0, c1, c2]
        clear HZ
        go_wp2
        go_ret
        exact ⟨ret_bool HR.out.symm, by rw [hW.out]; exact hbW⟩
      | true =>
        cases c3 : (r.kind == t.kind) with
        | false =>
          have HR : Hid (R = false) := by rw [Hid, HZ.out]; simp [c0, c1, c2, c3]
          clear HZ
          go_wp2
          go_ret
          exact ⟨ret_bool HR.out.symm, by rw [hW.out]; exact hbW⟩
        | true =>
          cases c4 : (r.oid == t.oid) with
          | false =>
            have HR : Hid (R = false) := by rw [Hid, HZ.out]; simp [c0, c1, c2, c3, c4]
            clear HZ
            go_wp2
            go_ret
            exact ⟨ret_bool HR.out.symm, by rw [hW.out]; exact hbW⟩
          | true =>
            go_wp2_with fail
            rw [hW.out]
            clear hW
            refine (HB.out W hbW).mono ?_
            clear x0 x1 x2 x3 x4 x5 x6 x7 x8 x9 x10 x11 x12 x13 x14 y0 y1 y2 y3 y4 y5 y6 y7 y8 y9 y10 y11 y12 y13 y14
            rintro e u5 ⟨rfl, hb5⟩
            have b_5 : Below w.heap.size w u5 := (hbW).trans (hb5.mono (hbW).size)
            have l_5 : Below W.heap.size W u5 := (l0).trans (hb5.mono (l0).size)
            obtain ⟨x0, x1, x2, x3, x4, x5, x6, x7, x8, x9, x10, x11, x12, x13, x14⟩ := fifteen (HX.out u5 l_5).1
            obtain ⟨y0, y1, y2, y3, y4, y5, y6, y7, y8, y9, y10, y11, y12, y13, y14⟩ := fifteen (HX.out u5 l_5).2
            clear hb5
            cases c5 : sameS r.bf.v t.bf.v with
            | false =>
              have HR : Hid (R = false) := by rw [Hid, HZ.out]; simp [c0, c1, c2, c3, c4, c5]
              clear HZ
              go_wp2
              go_ret
              exact ⟨ret_bool HR.out.symm, b_5⟩
            | true =>
              go_wp2_with fail
              refine (HA.out u5 b_5).mono ?_
              clear x0 x1 x2 x3 x4 x5 x6 x7 x8 x9 x10 x11 x12 x13 x14 y0 y1 y2 y3 y4 y5 y6 y7 y8 y9 y10 y11 y12 y13 y14
              rintro e u6 ⟨rfl, hb6⟩
              have b_6 : Below w.heap.size w u6 := (b_5).trans (hb6.mono (b_5).size)
              have l_6 : Below W.heap.size W u6 := (l_5).trans (hb6.mono (l_5).size)
              obtain ⟨x0, x1, x2, x3, x4, x5, x6, x7, x8, x9, x10, x11, x12, x13, x14⟩ := fifteen (HX.out u6 l_6).1
              obtain ⟨y0, y1, y2, y3, y4, y5, y6, y7, y8, y9, y10, y11, y12, y13, y14⟩ := fifteen (HX.out u6 l_6).2
              clear hb6
              cases c6 : sameS r.af.v t.af.v with
              | false =>
                have HR : Hid (R = false) := by rw [Hid, HZ.out]; simp [c0, c1, c2, c3, c4, c5, c6]
                clear HZ
                go_wp2
                go_ret
                exact ⟨ret_bool HR.out.symm, b_6⟩
              | true =>
                cases c7 : (r.next == t.next) with
                | false =>
                  have HR : Hid (R = false) := by rw [Hid, HZ.out]; simp [c0, c1, c2, c3, c4, c5, c6, c7]
                  clear HZ
                  go_wp2
                  go_ret
                  exact ⟨ret_bool HR.out.symm, b_6⟩
                | true =>
                  go_wp2_with fail
                  refine (HL.out u6 b_6).mono ?_
                  clear x0 x1 x2 x3 x4 x5 x6 x7 x8 x9 x10 x11 x12 x13 x14 y0 y1 y2 y3 y4 y5 y6 y7 y8 y9 y10 y11 y12 y13 y14
                  rintro e u8 ⟨rfl, nn, hnn⟩
                  have hb8 : Below (u6).heap.size u6 u8 := by rw [hnn]; exact below_drewN (Below.refl _ _) nn
                  clear hnn
                  have b_8 : Below w.heap.size w u8 := (b_6).trans (hb8.mono (b_6).size)
                  have l_8 : Below W.heap.size W u8 := (l_6).trans (hb8.mono (l_6).size)
                  have HR : Hid (R = sameLs r.txs t.txs) := by rw [Hid, HZ.out]; simp [c0, c1, c2, c3, c4, c5, c6, c7]
                  clear HZ
                  go_wp2
                  go_ret
                  exact ⟨ret_bool HR.out.symm, b_8⟩
end Go.Proofs.YtjaojcgfgkppgaaGreatDoor
