/- Several texts in one, in their order. -/
import Derived.Test.YtjaojcgfgkppgaaDoorPiece38
import Derived.Test.YtjaojcgfgkppgaaDoorPiece39
import Derived.Test.YtjaojcgfgkppgaaDoorPiece41
/- The walks of impl.changeOf and impl.Redo. -/
namespace Go.Proofs.YtjaojcgfgkppgaaDoor
open Go.RowKit

theorem results_mid {P : Program} {fn : Func} {s t u : Nat} {ty : TypeId} {tmps : Array Value} {w : World} {v a b : Value} {ad : Addr} (hf : fn.results = #[.tmp s, .cell t ty, .tmp u]) (ha : tmps[s]?.getD undef = a) (ht : tmps[t]?.getD undef = .pointer (some ad)) (hl : (loadVar ty ad).run P w = .ok v w) (hb : tmps[u]?.getD undef = b) : (results fn tmps).run P w = .ok (.tuple #[a, v, b]) w := by
  unfold results
  rw [hf]
  simp [ht, asAddr, hl, hb, ha]
theorem page_slot {w : World} {B : Nat} {T : TypeId} {q : SlotA} (b : Box w B q.cells T) : w.rangeAt B 0 q.cells := Box.range [] q.cells [] (by simpa using b)
theorem slot_info : (Tryd.prog.info? 28).map (·.size) = some 4 := by kernel_rfl
theorem slot_one (t : SlotA) : t.cells.toArray.all (·.oneCell') = true := all_oneCell_toArray (by intro v hv; simp only [SlotA.cells, List.mem_cons, List.not_mem_nil, or_false] at hv; rcases hv with rfl | rfl | rfl | rfl <;> rfl)
theorem slot_out {w : World} {C : Nat} (q : SlotA) (old : List Value) (ho : old.length = 4) (bC : Box w C old 28) :
    ∃ WF, Hid (w.setCells C 0 q.cells = WF) ∧ Within C (C + 1) w WF ∧ WF.heap.size = w.heap.size ∧ Hid (w.there C 0 q.cells.toArray.size) ∧ Hid ((loadVar 28 ⟨C, 0, none⟩).run Tryd.prog WF = .ok (.agg q.cells.toArray) WF) ∧ Box WF C q.cells 28 := by
  obtain ⟨WF, hWF, bF, hwF, hsF⟩ := range_fill [] old q.cells [] (by simpa using bC) (by rw [ho]; rfl)
  have bF' : Box WF C q.cells 28 := by simpa using bF
  exact ⟨WF, hWF, hwF, hsF, bC.there 0 _ (by rw [ho]; show 0 + 4 ≤ 4; decide), run_loadVar_mid (P := Tryd.prog) WF C 0 28 q.cells _ (Box.range [] q.cells [] (by simpa using bF')) Tryd.underlying28 rfl slot_info, bF'⟩

set_option maxHeartbeats 2000000 in
set_option maxRecDepth 100000 in
theorem changeOf_set (tx prev oid : Int) (b a : SlotA) (w : World) : Calls Tryd.prog 42 #[issetDeed (setD tx prev oid b a)] w fun e w' => e = .returned (.tuple #[.int .i64 oid, .agg a.cells.toArray, .bool true]) ∧ Below w.heap.size w w' := by
  obtain ⟨W, hW, b0, b1, hbW, hsW⟩ := boxes2 w [.bool false, .int .i64 0, .slice none 0 0, .slice none 0 0] [.int .i64 tx, .int .i64 prev, .int .i64 oid, .bool b.v.has, .int .i64 b.v.o.kind, .slice b.aI b.v.o.ints.length b.cI, .slice b.aR b.v.o.refs.length b.cR, .bool a.v.has, .int .i64 a.v.o.kind, .slice a.aI a.v.o.ints.length a.cI, .slice a.aR a.v.o.refs.length a.cR] 28 103
  simp only [issetDeed, setD]
  have a1 := fun W => yes_setDeed W (.agg #[.int .i64 tx, .int .i64 prev, .int .i64 oid, .bool b.v.has, .int .i64 b.v.o.kind, .slice b.aI b.v.o.ints.length b.cI, .slice b.aR b.v.o.refs.length b.cR, .bool a.v.has, .int .i64 a.v.o.kind, .slice a.aI a.v.o.ints.length a.cI, .slice a.aR a.v.o.refs.length a.cR])
  have HS : Hid (∀ w', Box w' (w.heap.size + 1) [.int .i64 tx, .int .i64 prev, .int .i64 oid, .bool b.v.has, .int .i64 b.v.o.kind, .slice b.aI b.v.o.ints.length b.cI, .slice b.aR b.v.o.refs.length b.cR, .bool a.v.has, .int .i64 a.v.o.kind, .slice a.aI a.v.o.ints.length a.cI, .slice a.aR a.v.o.refs.length a.cR] 103 → w'.cell? ⟨w.heap.size + 1, 0, none⟩ = some (.int .i64 tx) ∧ w'.cell? ⟨w.heap.size + 1, 1, none⟩ = some (.int .i64 prev) ∧ w'.cell? ⟨w.heap.size + 1, 2, none⟩ = some (.int .i64 oid) ∧ w'.cell? ⟨w.heap.size + 1, 3, none⟩ = some (.bool b.v.has) ∧ w'.cell? ⟨w.heap.size + 1, 4, none⟩ = some (.int .i64 b.v.o.kind) ∧ w'.cell? ⟨w.heap.size + 1, 5, none⟩ = some (.slice b.aI b.v.o.ints.length b.cI) ∧ w'.cell? ⟨w.heap.size + 1, 6, none⟩ = some (.slice b.aR b.v.o.refs.length b.cR) ∧ w'.cell? ⟨w.heap.size + 1, 7, none⟩ = some (.bool a.v.has) ∧ w'.cell? ⟨w.heap.size + 1, 8, none⟩ = some (.int .i64 a.v.o.kind) ∧ w'.cell? ⟨w.heap.size + 1, 9, none⟩ = some (.slice a.aI a.v.o.ints.length a.cI) ∧ w'.cell? ⟨w.heap.size + 1, 10, none⟩ = some (.slice a.aR a.v.o.refs.length a.cR)) := fun w' b => ⟨b.cell 0 _ rfl, b.cell 1 _ rfl, b.cell 2 _ rfl, b.cell 3 _ rfl, b.cell 4 _ rfl, b.cell 5 _ rfl, b.cell 6 _ rfl, b.cell 7 _ rfl, b.cell 8 _ rfl, b.cell 9 _ rfl, b.cell 10 _ rfl⟩
  have hlt := b1.lt
  have b0d := b0.below (Below.refl _ _).drew b0.lt
  have b1d := b1.below (Below.refl _ _).drew b1.lt
  have hh := HS.out _ b1
  obtain ⟨WF, hWF, hwF, hsF, HTF, HLF, _⟩ := slot_out a _ rfl b0d
  have HB : Hid (Below w.heap.size w WF) := hbW.drew.trans (hwF.below (by omega) (by have := hbW.drew.size; omega))
  have HSF : Hid (_) := HS.out _ (b1d.within hwF (by omega))
  clear hsW b0 b1 b0d hwF
  go_enter Tryd.func42, Tryd.ntmps42
  go_wp2_with fail
  rw [hW.out]
  clear hW
  refine wp_region_held_drew (S := fun w' => w'.cell? ⟨w.heap.size + 1, 0, none⟩ = some (.int .i64 tx) ∧ w'.cell? ⟨w.heap.size + 1, 1, none⟩ = some (.int .i64 prev) ∧ w'.cell? ⟨w.heap.size + 1, 2, none⟩ = some (.int .i64 oid) ∧ w'.cell? ⟨w.heap.size + 1, 3, none⟩ = some (.bool b.v.has) ∧ w'.cell? ⟨w.heap.size + 1, 4, none⟩ = some (.int .i64 b.v.o.kind) ∧ w'.cell? ⟨w.heap.size + 1, 5, none⟩ = some (.slice b.aI b.v.o.ints.length b.cI) ∧ w'.cell? ⟨w.heap.size + 1, 6, none⟩ = some (.slice b.aR b.v.o.refs.length b.cR) ∧ w'.cell? ⟨w.heap.size + 1, 7, none⟩ = some (.bool a.v.has) ∧ w'.cell? ⟨w.heap.size + 1, 8, none⟩ = some (.int .i64 a.v.o.kind) ∧ w'.cell? ⟨w.heap.size + 1, 9, none⟩ = some (.slice a.aI a.v.o.ints.length a.cI) ∧ w'.cell? ⟨w.heap.size + 1, 10, none⟩ = some (.slice a.aR a.v.o.refs.length a.cR)) (by kernel_rfl) (HS.out _ b1d) (fun hHeld => ?_)
  refine wpAnyH_take (i := 0) (v := .pointer (some ⟨w.heap.size + 1, 2, none⟩)) rfl (by kernel_rfl) (by kernel_rfl) (by kernel_rfl) (fun _ _ _ h => h) (Or.inl ⟨by rfl, ?_⟩) hHeld ?_
  · intro w' hSw
    go_simp <;> rfl
  try simp only [Act.put, List.getElem_toArray, List.getElem_cons_zero, List.setIfInBounds_toArray, List.set_cons_zero, List.set_cons_succ]
  refine wpAnyH_take (i := 1) (v := .int .i64 oid) rfl (by kernel_rfl) (by kernel_rfl) (by kernel_rfl) (fun _ _ _ h => h) (Or.inl ⟨by rfl, ?_⟩) hHeld ?_
  · intro w' hSw
    go_simp <;> rfl
  try simp only [Act.put, List.getElem_toArray, List.getElem_cons_zero, List.getElem_cons_succ, List.setIfInBounds_toArray, List.set_cons_zero, List.set_cons_succ]
  refine wpAnyH_take (i := 2) (v := .pointer (some ⟨w.heap.size + 1, 7, none⟩)) rfl (by kernel_rfl) (by kernel_rfl) (by kernel_rfl) (fun _ _ _ h => h) (Or.inl ⟨by rfl, ?_⟩) hHeld ?_
  · intro w' hSw
    go_simp <;> rfl
  try simp only [Act.put, List.getElem_toArray, List.getElem_cons_zero, List.getElem_cons_succ, List.setIfInBounds_toArray, List.set_cons_zero, List.set_cons_succ]
  refine wpAnyH_take (i := 3) (v := .agg #[.bool a.v.has, .int .i64 a.v.o.kind, .slice a.aI a.v.o.ints.length a.cI, .slice a.aR a.v.o.refs.length a.cR]) rfl (by kernel_rfl) (by kernel_rfl) (by kernel_rfl) (fun _ _ _ h => h) (Or.inl ⟨by rfl, ?_⟩) hHeld ?_
  · intro w' hSw
    go_simp <;> rfl
  try simp only [Act.put, List.getElem_toArray, List.getElem_cons_zero, List.getElem_cons_succ, List.setIfInBounds_toArray, List.set_cons_zero, List.set_cons_succ]
  refine wpAnyH_take (i := 4) (v := .int .i64 oid) rfl (by kernel_rfl) (by kernel_rfl) (by kernel_rfl) (fun _ _ _ h => h) (Or.inl ⟨by rfl, ?_⟩) hHeld ?_
  · intro w' hSw
    go_simp <;> rfl
  try simp only [Act.put, List.getElem_toArray, List.getElem_cons_zero, List.getElem_cons_succ, List.setIfInBounds_toArray, List.set_cons_zero, List.set_cons_succ]
  refine wpAnyH_ready (rs := [5]) (by kernel_rfl) (by simp) ?_
  refine AllReadyH.cons rfl (fun K hK => ?_) AllReadyH.nil
  rw [if_pos (by rfl)]
  refine wp_store_mid 28 (.tmp 3) (.tmp 14) rfl w.heap.size 0 a.cells.toArray rfl rfl HTF.out slot_info (slot_one a) ?_
  have HW : Hid (W.drew.setCells w.heap.size 0 a.cells.toArray.toList = WF) := hWF.out
  rw [HW.out]
  refine hK.out _ _ HSF.out (fun hHeld => ?_)
  clear hK K
  simp only [Act.put, List.getElem_toArray, List.getElem_cons_zero, List.getElem_cons_succ]
  refine wpAnyH_take (i := 6) (v := .bool true) rfl (by kernel_rfl) (by kernel_rfl) (by kernel_rfl) (fun _ _ _ h => h) (Or.inl ⟨by rfl, ?_⟩) hHeld ?_
  · intro w' hSw
    go_simp <;> rfl
  try simp only [Act.put, List.getElem_toArray, List.getElem_cons_zero, List.getElem_cons_succ, List.setIfInBounds_toArray, List.set_cons_zero, List.set_cons_succ]
  refine wpAnyH_done (by kernel_rfl) ?_ _
  clear hHeld HSF HW hWF
  go_wp2
  exact bodyPost_ret (v := .tuple #[.int .i64 oid, .agg a.cells.toArray, .bool true]) (results_mid Tryd.results42 rfl rfl HLF.out rfl) rfl ⟨rfl, HB.out⟩

set_option maxHeartbeats 2000000 in
set_option maxRecDepth 100000 in
theorem changeOf_back (tx prev oid : Int) (a : SlotA) (next : Int) (w : World) : Calls Tryd.prog 42 #[isbackDeed (backD tx prev oid a next)] w fun e w' => e = .returned (.tuple #[.int .i64 oid, .agg a.cells.toArray, .bool true]) ∧ Below w.heap.size w w' := by
  obtain ⟨W, hW, b0, b1, hbW, hsW⟩ := boxes2 w [.bool false, .int .i64 0, .slice none 0 0, .slice none 0 0] [.int .i64 tx, .int .i64 prev, .int .i64 oid, .bool a.v.has, .int .i64 a.v.o.kind, .slice a.aI a.v.o.ints.length a.cI, .slice a.aR a.v.o.refs.length a.cR, .int .i64 next] 28 108
  simp only [isbackDeed, backD]
  have a1 := fun W => no_setDeed W 108 (.agg #[.int .i64 tx, .int .i64 prev, .int .i64 oid, .bool a.v.has, .int .i64 a.v.o.kind, .slice a.aI a.v.o.ints.length a.cI, .slice a.aR a.v.o.refs.length a.cR, .int .i64 next]) (by decide)
  have a2 := fun W => yes_backDeed W (.agg #[.int .i64 tx, .int .i64 prev, .int .i64 oid, .bool a.v.has, .int .i64 a.v.o.kind, .slice a.aI a.v.o.ints.length a.cI, .slice a.aR a.v.o.refs.length a.cR, .int .i64 next])
  have HS : Hid (∀ w', Box w' (w.heap.size + 1) [.int .i64 tx, .int .i64 prev, .int .i64 oid, .bool a.v.has, .int .i64 a.v.o.kind, .slice a.aI a.v.o.ints.length a.cI, .slice a.aR a.v.o.refs.length a.cR, .int .i64 next] 108 → w'.cell? ⟨w.heap.size + 1, 0, none⟩ = some (.int .i64 tx) ∧ w'.cell? ⟨w.heap.size + 1, 1, none⟩ = some (.int .i64 prev) ∧ w'.cell? ⟨w.heap.size + 1, 2, none⟩ = some (.int .i64 oid) ∧ w'.cell? ⟨w.heap.size + 1, 3, none⟩ = some (.bool a.v.has) ∧ w'.cell? ⟨w.heap.size + 1, 4, none⟩ = some (.int .i64 a.v.o.kind) ∧ w'.cell? ⟨w.heap.size + 1, 5, none⟩ = some (.slice a.aI a.v.o.ints.length a.cI) ∧ w'.cell? ⟨w.heap.size + 1, 6, none⟩ = some (.slice a.aR a.v.o.refs.length a.cR) ∧ w'.cell? ⟨w.heap.size + 1, 7, none⟩ = some (.int .i64 next)) := fun w' b => ⟨b.cell 0 _ rfl, b.cell 1 _ rfl, b.cell 2 _ rfl, b.cell 3 _ rfl, b.cell 4 _ rfl, b.cell 5 _ rfl, b.cell 6 _ rfl, b.cell 7 _ rfl⟩
  have hlt := b1.lt
  have b0d := b0.below (Below.refl _ _).drew b0.lt
  have b1d := b1.below (Below.refl _ _).drew b1.lt
  have hh := HS.out _ b1
  obtain ⟨WF, hWF, hwF, hsF, HTF, HLF, _⟩ := slot_out a _ rfl b0d
  have HB : Hid (Below w.heap.size w WF) := hbW.drew.trans (hwF.below (by omega) (by have := hbW.drew.size; omega))
  have HSF : Hid (_) := HS.out _ (b1d.within hwF (by omega))
  clear hsW b0 b1 b0d hwF
  go_enter Tryd.func42, Tryd.ntmps42
  go_wp2_with fail
  rw [hW.out]
  clear hW
  refine wp_region_held_drew (S := fun w' => w'.cell? ⟨w.heap.size + 1, 0, none⟩ = some (.int .i64 tx) ∧ w'.cell? ⟨w.heap.size + 1, 1, none⟩ = some (.int .i64 prev) ∧ w'.cell? ⟨w.heap.size + 1, 2, none⟩ = some (.int .i64 oid) ∧ w'.cell? ⟨w.heap.size + 1, 3, none⟩ = some (.bool a.v.has) ∧ w'.cell? ⟨w.heap.size + 1, 4, none⟩ = some (.int .i64 a.v.o.kind) ∧ w'.cell? ⟨w.heap.size + 1, 5, none⟩ = some (.slice a.aI a.v.o.ints.length a.cI) ∧ w'.cell? ⟨w.heap.size + 1, 6, none⟩ = some (.slice a.aR a.v.o.refs.length a.cR) ∧ w'.cell? ⟨w.heap.size + 1, 7, none⟩ = some (.int .i64 next)) (by kernel_rfl) (HS.out _ b1d) (fun hHeld => ?_)
  refine wpAnyH_take (i := 0) (v := .pointer (some ⟨w.heap.size + 1, 2, none⟩)) rfl (by kernel_rfl) (by kernel_rfl) (by kernel_rfl) (fun _ _ _ h => h) (Or.inl ⟨by rfl, ?_⟩) hHeld ?_
  · intro w' hSw
    go_simp <;> rfl
  try simp only [Act.put, List.getElem_toArray, List.getElem_cons_zero, List.setIfInBounds_toArray, List.set_cons_zero, List.set_cons_succ]
  refine wpAnyH_take (i := 1) (v := .int .i64 oid) rfl (by kernel_rfl) (by kernel_rfl) (by kernel_rfl) (fun _ _ _ h => h) (Or.inl ⟨by rfl, ?_⟩) hHeld ?_
  · intro w' hSw
    go_simp <;> rfl
  try simp only [Act.put, List.getElem_toArray, List.getElem_cons_zero, List.getElem_cons_succ, List.setIfInBounds_toArray, List.set_cons_zero, List.set_cons_succ]
  refine wpAnyH_take (i := 2) (v := .pointer (some ⟨w.heap.size + 1, 3, none⟩)) rfl (by kernel_rfl) (by kernel_rfl) (by kernel_rfl) (fun _ _ _ h => h) (Or.inl ⟨by rfl, ?_⟩) hHeld ?_
  · intro w' hSw
    go_simp <;> rfl
  try simp only [Act.put, List.getElem_toArray, List.getElem_cons_zero, List.getElem_cons_succ, List.setIfInBounds_toArray, List.set_cons_zero, List.set_cons_succ]
  refine wpAnyH_take (i := 3) (v := .agg #[.bool a.v.has, .int .i64 a.v.o.kind, .slice a.aI a.v.o.ints.length a.cI, .slice a.aR a.v.o.refs.length a.cR]) rfl (by kernel_rfl) (by kernel_rfl) (by kernel_rfl) (fun _ _ _ h => h) (Or.inl ⟨by rfl, ?_⟩) hHeld ?_
  · intro w' hSw
    go_simp <;> rfl
  try simp only [Act.put, List.getElem_toArray, List.getElem_cons_zero, List.getElem_cons_succ, List.setIfInBounds_toArray, List.set_cons_zero, List.set_cons_succ]
  refine wpAnyH_take (i := 4) (v := .int .i64 oid) rfl (by kernel_rfl) (by kernel_rfl) (by kernel_rfl) (fun _ _ _ h => h) (Or.inl ⟨by rfl, ?_⟩) hHeld ?_
  · intro w' hSw
    go_simp <;> rfl
  try simp only [Act.put, List.getElem_toArray, List.getElem_cons_zero, List.getElem_cons_succ, List.setIfInBounds_toArray, List.set_cons_zero, List.set_cons_succ]
  refine wpAnyH_ready (rs := [5]) (by kernel_rfl) (by simp) ?_
  refine AllReadyH.cons rfl (fun K hK => ?_) AllReadyH.nil
  rw [if_pos (by rfl)]
  refine wp_store_mid 28 (.tmp 3) (.tmp 21) rfl w.heap.size 0 a.cells.toArray rfl rfl HTF.out slot_info (slot_one a) ?_
  have HW : Hid (W.drew.setCells w.heap.size 0 a.cells.toArray.toList = WF) := hWF.out
  rw [HW.out]
  refine hK.out _ _ HSF.out (fun hHeld => ?_)
  clear hK K
  simp only [Act.put, List.getElem_toArray, List.getElem_cons_zero, List.getElem_cons_succ]
  refine wpAnyH_take (i := 6) (v := .bool true) rfl (by kernel_rfl) (by kernel_rfl) (by kernel_rfl) (fun _ _ _ h => h) (Or.inl ⟨by rfl, ?_⟩) hHeld ?_
  · intro w' hSw
    go_simp <;> rfl
  try simp only [Act.put, List.getElem_toArray, List.getElem_cons_zero, List.getElem_cons_succ, List.setIfInBounds_toArray, List.set_cons_zero, List.set_cons_succ]
  refine wpAnyH_done (by kernel_rfl) ?_ _
  clear hHeld HSF HW hWF
  go_wp2
  exact bodyPost_ret (v := .tuple #[.int .i64 oid, .agg a.cells.toArray, .bool true]) (results_mid Tryd.results42 rfl rfl HLF.out rfl) rfl ⟨rfl, HB.out⟩

set_option maxHeartbeats 1000000 in
set_option maxRecDepth 100000 in
theorem changeOf_none (d : Value) (w : World) (h1 : ∀ W, (Instr.typeAssert d 71 103 true).run Tryd.prog W = .ok (.tuple #[.agg #[.int .i64 0, .int .i64 0, .int .i64 0, .bool false, .int .i64 0, .slice none 0 0, .slice none 0 0, .bool false, .int .i64 0, .slice none 0 0, .slice none 0 0], .bool false]) W) (h2 : ∀ W, (Instr.typeAssert d 71 108 true).run Tryd.prog W = .ok (.tuple #[.agg #[.int .i64 0, .int .i64 0, .int .i64 0, .bool false, .int .i64 0, .slice none 0 0, .slice none 0 0, .int .i64 0], .bool false]) W) :
    Calls Tryd.prog 42 #[d] w fun e w' => e = .returned (.tuple #[.int .i64 0, .agg zeroS.cells.toArray, .bool false]) ∧ Below w.heap.size w w' := by
  obtain ⟨W, hW, b0, hbW, hsW⟩ := boxes1 w [.bool false, .int .i64 0, .slice none 0 0, .slice none 0 0] 28
  have HL : Hid ((loadVar 28 ⟨w.heap.size, 0, none⟩).run Tryd.prog W = .ok (.agg zeroS.cells.toArray) W) := run_loadVar_mid (P := Tryd.prog) W w.heap.size 0 28 zeroS.cells _ (page_slot b0) Tryd.underlying28 rfl slot_info
  clear hsW b0
  go_enter Tryd.func42, Tryd.ntmps42
  go_wp2
  refine bodyPost_ret (v := .tuple #[.int .i64 0, .agg zeroS.cells.toArray, .bool false]) (results_mid Tryd.results42 rfl rfl ?_ rfl) rfl ⟨rfl, ?_⟩
  · rw [show _ = W from hW.out]; exact HL.out
  · rw [show _ = W from hW.out]; exact hbW
/-- What the landed code finds of a record: which object it changes to what, if any. -/
def ChangeA (r : RecA) (e : Ending) : Prop := ((r.kind == 1 || r.kind == 4) = true ∧ e = .returned (.tuple #[.int .i64 r.oid, .agg r.af.cells.toArray, .bool true])) ∨ ((r.kind == 1 || r.kind == 4) = false ∧ e = .returned (.tuple #[.int .i64 0, .agg zeroS.cells.toArray, .bool false]))
theorem changeOf_any (r : RecA) (w : World) : Calls Tryd.prog 42 #[deedV r] w fun e w' => ChangeA r e ∧ Below w.heap.size w w' := by
  cases k1 : (r.kind == 1) with
  | true =>
    have e1 : deedV r = issetDeed (setD r.tx r.prev r.oid r.bf r.af) := by simp [deedV, k1]
    rw [e1]
    refine (changeOf_set r.tx r.prev r.oid r.bf r.af w).mono ?_
    rintro e w' ⟨rfl, hb⟩
    exact ⟨.inl ⟨by simp [k1], rfl⟩, hb⟩
  | false =>
    cases k4 : (r.kind == 4) with
    | true =>
      have hk : r.kind = 4 := by simpa using k4
      have e1 : deedV r = isbackDeed (backD r.tx r.prev r.oid r.af r.next) := by simp [deedV, hk]
      rw [e1]
      refine (changeOf_back r.tx r.prev r.oid r.af r.next w).mono ?_
      rintro e w' ⟨rfl, hb⟩
      exact ⟨.inl ⟨by simp [k4], rfl⟩, hb⟩
    | false =>
      refine (changeOf_none (deedV r) w (fun W => ?_) (fun W => ?_)).mono ?_
      · unfold deedV
        rw [if_neg (by rw [k1]; decide), if_neg (c := (r.kind == 4) = true) (by rw [k4]; decide)]
        split
        · exact no_setDeed W _ _ (by decide)
        split
        · exact no_setDeed W _ _ (by decide)
        split
        · exact no_setDeed W _ _ (by decide)
        split
        · exact no_setDeed W _ _ (by decide)
        · exact nil_setDeed W
      · unfold deedV
        rw [if_neg (by rw [k1]; decide), if_neg (c := (r.kind == 4) = true) (by rw [k4]; decide)]
        split
        · exact no_backDeed W _ _ (by decide)
        split
        · exact no_backDeed W _ _ (by decide)
        split
        · exact no_backDeed W _ _ (by decide)
        split
        · exact no_backDeed W _ _ (by decide)
        · exact nil_backDeed W
      · rintro e w' ⟨rfl, hb⟩
        exact ⟨.inr ⟨by simp [k1, k4], rfl⟩, hb⟩

set_option maxHeartbeats 4000000 in
set_option maxRecDepth 100000 in
theorem implRedo_any (p : PageA) (h4 : p.ss.length = 4) (r : RecA) (w : World) (hg : ErrT w) (hr : ReadsS w p.ss) (hl : Fit p.ss) (hrr : r.reads w) (hlr : r.short 1099511627776) :
    Calls Tryd.prog 15 #[.agg p.cells.toArray, .agg r.cells.toArray] w fun e w' => RedoAns w w' p.lsn (p.ss.map (·.v)) r.v e := by
  obtain ⟨W, hW, b0, b1, b2, hbW, hsW⟩ := boxes3 w p.cells r.cells [.int .i64 0, .bool false, .int .i64 0, .slice none 0 0, .slice none 0 0, .bool false, .int .i64 0, .slice none 0 0, .slice none 0 0, .bool false, .int .i64 0, .slice none 0 0, .slice none 0 0, .bool false, .int .i64 0, .slice none 0 0, .slice none 0 0] 40 31 40
  have b2' : Box W (w.heap.size + 1 + 1) zero17 40 := b2
  have HX0 : Hid (∀ u, Below W.heap.size W u → Box u w.heap.size p.cells 40) := fun u hu => b0.below hu b0.lt
  have HX1 : Hid (∀ u, Below W.heap.size W u → Box u (w.heap.size + 1) r.cells 31) := fun u hu => b1.below hu b1.lt
  have HX2 : Hid (∀ u, Below W.heap.size W u → Box u (w.heap.size + 1 + 1) zero17 40) := fun u hu => b2'.below hu b2'.lt
  have HL : Hid (∀ u, Below W.heap.size W u → u.cell? ⟨w.heap.size, 0, none⟩ = some (.int .i64 p.lsn) ∧ u.cell? ⟨w.heap.size + 1, 0, none⟩ = some (.int .i64 r.lsn)) := fun u hu => ⟨(HX0.out u hu).cell 0 _ rfl, (HX1.out u hu).cell 0 _ rfl⟩
  have hlt := b2'.lt
  have HR : Hid (okR r.v = false → redoOk p.lsn (p.ss.map (·.v)) r.v = false) := fun h => redo_r h
  have HK : Hid ((r.kind == 1 || r.kind == 4) = false → redoOk p.lsn (p.ss.map (·.v)) r.v = false) := fun h => redo_k (r := r.v) ((Bool.or_eq_false_iff.1 h).1) ((Bool.or_eq_false_iff.1 h).2)
  have HN : Hid (r.lsn ≤ p.lsn → redoOk p.lsn (p.ss.map (·.v)) r.v = false) := fun h => redo_n (r := r.v) h
  have HY : Hid (okR r.v = true → (r.kind == 1 || r.kind == 4) = true → p.lsn < r.lsn → setOk p.lsn (p.ss.map (·.v)) (r.oid % 4) r.af.v r.lsn = redoOk p.lsn (p.ss.map (·.v)) r.v ∧ setOf p.lsn (p.ss.map (·.v)) (r.oid % 4) r.af.v r.lsn = redoOf p.lsn (p.ss.map (·.v)) r.v) := fun b c d => redo_set (r := r.v) b c d
  clear hsW b2 b2' b1 b0
  go_enter Tryd.func15, Tryd.ntmps15
  go_wp2_with (first | (guard_target = wpList _ _ _ (Oper.mk (some 10) _ _ _ _ _ :: _) _ _; refine wpList_load_mid rfl 31 (.tmp 3) rfl (w.heap.size + 1) 0 rfl r.cells _ (by rw [hW.out]; exact rec_rng' r (HX1.out _ (Below.refl _ _))) Tryd.underlying31 rfl (rec_info _) ?_) | fail)
  rw [hW.out]
  clear hW
  refine (deedOf_any r W).mono ?_
  rintro e w1 ⟨rfl, hb1⟩
  have CC := changeOf_any r w1
  generalize deedV r = D at *
  go_wp2_with fail
  refine CC.mono ?_
  clear CC
  rintro e w2 ⟨hch, hb2'⟩
  have hb2 : Below W.heap.size W w2 := hb1.trans (hb2'.mono hb1.size)
  clear hb2' hb1
  rcases hch with ⟨hk, rfl⟩ | ⟨hk, rfl⟩
  · obtain ⟨W3, hW3, b3, hbW3, _⟩ := boxes1 w2 r.af.cells 28
    have hb3 : Below W.heap.size W W3 := hb2.trans (hbW3.mono hb2.size)
    have HX3 : Hid (∀ u, Below W3.heap.size W3 u → Box u w2.heap.size r.af.cells 28) := fun u hu => b3.below hu b3.lt
    have r3 := rec_rng' r (HX1.out _ hb3)
    simp only [SlotA.cells] at hW3
    simp only [SlotA.cells]
    clear hbW3 b3
    go_wp2_with (first | (guard_target = wpList _ _ _ (Oper.mk (some 19) _ _ _ _ _ :: _) _ _; refine wpList_load_mid_if (by rfl) 31 (.tmp 3) rfl (w.heap.size + 1) 0 rfl r.cells _ (by rw [hW3.out]; exact r3) Tryd.underlying31 rfl (rec_info _) ?_) | fail)
    rw [hW3.out]
    clear hW3 r3
    refine (implRecOk_any r W3 (hg.keep (hbW.trans (hb3.mono hbW.size))) (hrr.below (hbW.trans (hb3.mono hbW.size))) hlr).mono ?_
    rintro e w4 ⟨rfl, hb4'⟩
    have hb4 : Below W.heap.size W w4 := hb3.trans (hb4'.mono hb3.size)
    have bA := HX3.out _ hb4'
    clear hb4' hb3 hb2 HX3
    cases hok : okR r.v with
    | false =>
      have HNO : Hid (redoOk p.lsn (p.ss.map (·.v)) r.v = false) := HR.out hok
      clear HR HK HN HY hok hk
      have rp := page_rng p (HX0.out _ hb4)
      go_wp2_with (first | (guard_target = wpList _ _ _ (Oper.mk (some 30) _ _ _ _ _ :: _) _ _; refine wpList_load_mid rfl 40 (.tmp 2) rfl w.heap.size 0 rfl p.cells _ rp Tryd.underlying40 rfl (page_info p h4) ?_) | fail)
      refine (copyPage_own p h4 w4 (hr.below (hbW.trans (hb4.mono hbW.size))) hl).mono ?_
      rintro e v1 ⟨ts, rfl, hvt, hot, hbt⟩
      have M1 : Below W.heap.size W v1 := hb4.trans (hbt.mono hb4.size)
      have z1 := hb4.size
      have z2 := hbt.size
      have ht4 := map_len4 hvt.out h4
      obtain ⟨WF, hWF, hwF, hsF, HTF, HLF, _⟩ := page_out' ⟨p.lsn, ts⟩ ht4 (HX2.out _ M1)
      have HE : Hid (RedoAns w WF p.lsn (p.ss.map (·.v)) r.v (.returned (.tuple #[.agg (PageA.cells ⟨p.lsn, ts⟩).toArray, .bool false]))) := redoAns_no HNO.out hvt.out ((hot.within hwF (by omega)).widen (by omega) (by omega) (Nat.le_refl _)) ((hbW.trans (M1.mono hbW.size)).trans (hwF.below (by omega) (by omega)))
      clear hwF hsF rp
      go_wp2_with (first | (guard_target = wpList _ _ _ (Oper.mk none (Op.store _ (Operand.tmp 4) _) _ _ _ _ :: _) _ _; refine wpList_store_mid rfl 40 (.tmp 4) (.tmp 31) rfl (w.heap.size + 1 + 1) 0 (PageA.cells ⟨p.lsn, ts⟩).toArray rfl rfl HTF.out (by rw [List.size_toArray]; exact page_info _ ht4) (all_oneCell_toArray (oneP _)) ?_) | fail)
      rw [hWF.out]
      exact bodyPost_ret (v := .tuple #[.agg (PageA.cells ⟨p.lsn, ts⟩).toArray, .bool false]) (results_cell_flag Tryd.results15 rfl HLF.out rfl) rfl HE.out
    | true =>
    obtain ⟨c0, c1⟩ := HL.out _ hb4
    by_cases hn : r.lsn ≤ p.lsn
    case pos =>
      have HNO : Hid (redoOk p.lsn (p.ss.map (·.v)) r.v = false) := HN.out hn
      clear HR HK HN HY hok hk
      have rp := page_rng p (HX0.out _ hb4)
      go_wp2_with (first | (guard_target = wpList _ _ _ (Oper.mk (some 30) _ _ _ _ _ :: _) _ _; refine wpList_load_mid rfl 40 (.tmp 2) rfl w.heap.size 0 rfl p.cells _ rp Tryd.underlying40 rfl (page_info p h4) ?_) | fail)
      refine (copyPage_own p h4 w4 (hr.below (hbW.trans (hb4.mono hbW.size))) hl).mono ?_
      rintro e v1 ⟨ts, rfl, hvt, hot, hbt⟩
      have M1 : Below W.heap.size W v1 := hb4.trans (hbt.mono hb4.size)
      have z1 := hb4.size
      have z2 := hbt.size
      have ht4 := map_len4 hvt.out h4
      obtain ⟨WF, hWF, hwF, hsF, HTF, HLF, _⟩ := page_out' ⟨p.lsn, ts⟩ ht4 (HX2.out _ M1)
      have HE : Hid (RedoAns w WF p.lsn (p.ss.map (·.v)) r.v (.returned (.tuple #[.agg (PageA.cells ⟨p.lsn, ts⟩).toArray, .bool false]))) := redoAns_no HNO.out hvt.out ((hot.within hwF (by omega)).widen (by omega) (by omega) (Nat.le_refl _)) ((hbW.trans (M1.mono hbW.size)).trans (hwF.below (by omega) (by omega)))
      clear hwF hsF rp
      go_wp2_with (first | (guard_target = wpList _ _ _ (Oper.mk none (Op.store _ (Operand.tmp 4) _) _ _ _ _ :: _) _ _; refine wpList_store_mid rfl 40 (.tmp 4) (.tmp 31) rfl (w.heap.size + 1 + 1) 0 (PageA.cells ⟨p.lsn, ts⟩).toArray rfl rfl HTF.out (by rw [List.size_toArray]; exact page_info _ ht4) (all_oneCell_toArray (oneP _)) ?_) | fail)
      rw [hWF.out]
      exact bodyPost_ret (v := .tuple #[.agg (PageA.cells ⟨p.lsn, ts⟩).toArray, .bool false]) (results_cell_flag Tryd.results15 rfl HLF.out rfl) rfl HE.out
    case neg =>
      have HYE : Hid (_ ∧ _) := HY.out hok hk (by omega)
      obtain ⟨k, hk4, hm, hm2, hm3⟩ := okR_oid hok
      simp only [RecA.v] at hm hm2
      obtain ⟨y0, y1, y2, y3, _⟩ := bA.four
      have rp := page_rng p (HX0.out _ hb4)
      have CS := implSetSlot_any p h4 (k : Int) r.af r.lsn w4 (hg.keep (hbW.trans (hb4.mono hbW.size))) (hr.below (hbW.trans (hb4.mono hbW.size))) hl (ReadsO.below hrr.af (hbW.trans (hb4.mono hbW.size))) (one_fit hlr.af)
      rw [← hm, HYE.out.1, HYE.out.2] at CS
      have HA : Hid (∀ v1 e, (∃ ts : List SlotA, e = Ending.returned (.tuple #[.agg (PageA.cells ⟨(redoOf p.lsn (p.ss.map (·.v)) r.v).1, ts⟩).toArray, .bool (redoOk p.lsn (p.ss.map (·.v)) r.v)]) ∧ Hid (ts.map (·.v) = (redoOf p.lsn (p.ss.map (·.v)) r.v).2) ∧ OwnS v1 w.heap.size v1.heap.size ts ∧ Below w.heap.size w v1) → RedoAns w v1 p.lsn (p.ss.map (·.v)) r.v e) := fun _ _ h => h
      have HLEN : Hid ((redoOf p.lsn (p.ss.map (·.v)) r.v).2.length = 4) := by
        rw [Hid]; unfold redoOf; split <;> simp [h4]
      clear HR HK HN HY HYE hok hk hm3
      generalize redoOf p.lsn (p.ss.map (·.v)) r.v = RO at *
      generalize redoOk p.lsn (p.ss.map (·.v)) r.v = RK at *
      simp only [SlotA.cells] at CS
      rw [hm] at CS
      go_wp2_with (first | (guard_target = wpList _ _ _ (Oper.mk (some 32) _ _ _ _ _ :: _) _ _; refine wpList_load_mid rfl 40 (.tmp 2) rfl w.heap.size 0 rfl p.cells _ rp Tryd.underlying40 rfl (page_info p h4) ?_) | fail)
      refine CS.mono ?_
      clear CS rp y0 y1 y2 y3 c0 c1
      rintro e v1 ⟨ts, rfl, hvt, hot, hbt⟩
      have M1 : Below W.heap.size W v1 := hb4.trans (hbt.mono hb4.size)
      have z1 := hb4.size
      have z2 := hbt.size
      have ht4 : ts.length = 4 := by have := congrArg List.length hvt.out; rw [List.length_map, HLEN.out] at this; exact this
      obtain ⟨WF, hWF, hwF, hsF, HTF, HLF, _⟩ := page_out' ⟨RO.1, ts⟩ ht4 (HX2.out _ M1)
      have HE : Hid (_) := HA.out WF _ ⟨ts, rfl, hvt, (hot.within hwF (by omega)).widen (by omega) (by omega) (Nat.le_refl _), (hbW.trans (M1.mono hbW.size)).trans (hwF.below (by omega) (by omega))⟩
      clear hwF hsF HA
      go_wp2_with (first | (guard_target = wpList _ _ _ (Oper.mk none (Op.store _ (Operand.tmp 4) _) _ _ _ _ :: _) _ _; refine wpList_store_mid rfl 40 (.tmp 4) (.tmp 39) rfl (w.heap.size + 1 + 1) 0 (PageA.cells ⟨RO.1, ts⟩).toArray rfl rfl HTF.out (by rw [List.size_toArray]; exact page_info _ ht4) (all_oneCell_toArray (oneP _)) ?_) | fail)
      rw [hWF.out]
      exact bodyPost_ret (v := .tuple #[.agg (PageA.cells ⟨RO.1, ts⟩).toArray, .bool RK]) (results_cell_flag Tryd.results15 rfl HLF.out rfl) rfl HE.out
  · obtain ⟨W3, hW3, b3, hbW3, _⟩ := boxes1 w2 [.bool false, .int .i64 0, .slice none 0 0, .slice none 0 0] 28
    have hb3 : Below W.heap.size W W3 := hb2.trans (hbW3.mono hb2.size)
    clear hbW3 b3 hb2
    simp only [show zeroS.cells = [.bool false, .int .i64 0, .slice none 0 0, .slice none 0 0] from rfl]
    have HNO : Hid (redoOk p.lsn (p.ss.map (·.v)) r.v = false) := HK.out hk
    clear HR HK HN HY hk
    have rp := page_rng p (HX0.out _ hb3)
    go_wp2_with (first | (guard_target = wpList _ _ _ (Oper.mk (some 30) _ _ _ _ _ :: _) _ _; refine wpList_load_mid rfl 40 (.tmp 2) rfl w.heap.size 0 rfl p.cells _ (by rw [hW3.out]; exact rp) Tryd.underlying40 rfl (page_info p h4) ?_) | fail)
    rw [hW3.out]
    clear hW3
    refine (copyPage_own p h4 W3 (hr.below (hbW.trans (hb3.mono hbW.size))) hl).mono ?_
    rintro e v1 ⟨ts, rfl, hvt, hot, hbt⟩
    have M1 : Below W.heap.size W v1 := hb3.trans (hbt.mono hb3.size)
    have z1 := hb3.size
    have z2 := hbt.size
    have ht4 := map_len4 hvt.out h4
    obtain ⟨WF, hWF, hwF, hsF, HTF, HLF, _⟩ := page_out' ⟨p.lsn, ts⟩ ht4 (HX2.out _ M1)
    have HE : Hid (RedoAns w WF p.lsn (p.ss.map (·.v)) r.v (.returned (.tuple #[.agg (PageA.cells ⟨p.lsn, ts⟩).toArray, .bool false]))) := redoAns_no HNO.out hvt.out ((hot.within hwF (by omega)).widen (by omega) (by omega) (Nat.le_refl _)) ((hbW.trans (M1.mono hbW.size)).trans (hwF.below (by omega) (by omega)))
    clear hwF hsF rp
    go_wp2_with (first | (guard_target = wpList _ _ _ (Oper.mk none (Op.store _ (Operand.tmp 4) _) _ _ _ _ :: _) _ _; refine wpList_store_mid rfl 40 (.tmp 4) (.tmp 31) rfl (w.heap.size + 1 + 1) 0 (PageA.cells ⟨p.lsn, ts⟩).toArray rfl rfl HTF.out (by rw [List.size_toArray]; exact page_info _ ht4) (all_oneCell_toArray (oneP _)) ?_) | fail)
    rw [hWF.out]
    exact bodyPost_ret (v := .tuple #[.agg (PageA.cells ⟨p.lsn, ts⟩).toArray, .bool false]) (results_cell_flag Tryd.results15 rfl HLF.out rfl) rfl HE.out
end Go.Proofs.YtjaojcgfgkppgaaDoor
