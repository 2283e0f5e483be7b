/- Several texts in one, in their order. -/
import Derived.Test.YtjaojcgfgkppgaaDoorPiece16
import Derived.Test.YtjaojcgfgkppgaaDoorPiece28
import Derived.Test.YtjaojcgfgkppgaaDoorPiece24
import Derived.Test.YtjaojcgfgkppgaaDoorPiece31
import Derived.Test.YtjaojcgfgkppgaaDoorPiece26
import Derived.Test.YtjaojcgfgkppgaaDoorPiece22
import Derived.Test.YtjaojcgfgkppgaaDoorPiece30
import Derived.Test.YtjaojcgfgkppgaaDoorPiece34
/- The walk of spec.SetSlot. -/
namespace Go.Proofs.YtjaojcgfgkppgaaDoor
open Go.RowKit

end Go.Proofs.YtjaojcgfgkppgaaDoor

/- What the laws of pages share. -/
namespace Go.Proofs.YtjaojcgfgkppgaaDoor
open Go.RowKit

theorem map_len4 {ss ts : List SlotA} (h : ts.map (·.v) = ss.map (·.v)) (h4 : ss.length = 4) : ts.length = 4 := by
  have := congrArg List.length h
  simp only [List.length_map] at this
  omega
theorem small_of {ss ts : List SlotA} (h : ts.map (·.v) = ss.map (·.v)) (hl : ∀ s ∈ ss, s.v.o.ints.length ≤ 1048576 ∧ s.v.o.refs.length ≤ 1048576) : ∀ s ∈ ts, s.v.o.ints.length ≤ 1048576 ∧ s.v.o.refs.length ≤ 1048576 := by
  intro t ht
  have : t.v ∈ ss.map (·.v) := by rw [← h]; exact List.mem_map.2 ⟨t, ht, rfl⟩
  obtain ⟨s, hs, e⟩ := List.mem_map.1 this
  rw [← e]
  exact hl s hs
theorem wide_of {ss : List SlotA} (hl : ∀ s ∈ ss, s.v.o.ints.length ≤ 1048576 ∧ s.v.o.refs.length ≤ 1048576) : ∀ s ∈ ss, s.v.o.ints.length ≤ 1099511627776 ∧ s.v.o.refs.length ≤ 1099511627776 := fun s hs => by have := hl s hs; omega

end Go.Proofs.YtjaojcgfgkppgaaDoor

/- Done again: the plain mathematics, and the walk of spec.l4Redo. -/
namespace Go.Proofs.YtjaojcgfgkppgaaDoor
open Go.RowKit

def redoOk (n : Int) (vs : List SlotV) (r : RecV) : Bool := okP n vs && (okR r && ((r.kind == 1 || r.kind == 4) && decide (n < r.lsn)))
def redoOf (n : Int) (vs : List SlotV) (r : RecV) : Int × List SlotV := if redoOk n vs r then (r.lsn, vs.set (r.oid % 4).toNat r.af) else (n, vs)
theorem redoOf_no {n : Int} {vs : List SlotV} {r : RecV} (h : redoOk n vs r = false) : redoOf n vs r = (n, vs) := by unfold redoOf; rw [if_neg (by rw [h]; decide)]
theorem redoOf_yes {n : Int} {vs : List SlotV} {r : RecV} (h : redoOk n vs r = true) : redoOf n vs r = (r.lsn, vs.set (r.oid % 4).toNat r.af) := by unfold redoOf; rw [if_pos h]
theorem okR_oid {r : RecV} (h : okR r = true) : ∃ k : Nat, k < 4 ∧ r.oid % 4 = (k : Int) ∧ r.oid.tmod 4 = (k : Int) ∧ (r.oid % 4).toNat = k := by
  have d := (okR_bd h).oid
  refine ⟨(r.oid % 4).toNat, by omega, by omega, ?_, rfl⟩
  rw [Int.tmod_eq_emod_of_nonneg d.1]
  omega
/-- Where the record is one that changes a page that is older, the landed code's setting is the model's doing again. -/
theorem redo_set {n : Int} {vs : List SlotV} {r : RecV} (h1 : okR r = true) (h2 : (r.kind == 1 || r.kind == 4) = true) (h3 : n < r.lsn) : setOk n vs (r.oid % 4) r.af r.lsn = redoOk n vs r ∧ setOf n vs (r.oid % 4) r.af r.lsn = redoOf n vs r := by
  have d := okR_bd h1
  have e : setOk n vs (r.oid % 4) r.af r.lsn = redoOk n vs r := by
    have e1 : inB (r.oid % 4) 0 3 = true := by simp [inB]; omega
    have e2 : inB r.lsn n 1000000 = true := by have := d.lsn; simp [inB]; omega
    simp [setOk, redoOk, h1, h2, h3, e1, e2, d.af]
  exact ⟨e, by unfold setOf redoOf; rw [e]⟩
theorem redo_p {n : Int} {vs : List SlotV} {r : RecV} (h : okP n vs = false) : redoOk n vs r = false := by simp [redoOk, h]
theorem redo_r {n : Int} {vs : List SlotV} {r : RecV} (h : okR r = false) : redoOk n vs r = false := by simp [redoOk, h]
theorem redo_k {n : Int} {vs : List SlotV} {r : RecV} (h : (r.kind == 1) = false) (h' : (r.kind == 4) = false) : redoOk n vs r = false := by simp [redoOk, h, h']
theorem redo_n {n : Int} {vs : List SlotV} {r : RecV} (h : r.lsn ≤ n) : redoOk n vs r = false := by simp [redoOk]; omega
theorem redo_all {n : Int} {vs : List SlotV} {r : RecV} (h0 : okP n vs = true) (h1 : okR r = true) (h2 : (r.kind == 1 || r.kind == 4) = true) (h3 : n < r.lsn) : redoOk n vs r = true := by simp [redoOk, h0, h1, h2, h3]
theorem page_info (q : PageA) (h : q.ss.length = 4) : (Tryd.prog.info? 40).map (·.size) = some q.cells.length := by rw [page_len q h]; kernel_rfl
theorem page_rng {w : World} {B : Nat} {T : TypeId} (q : PageA) (b : Box w B q.cells T) : w.rangeAt B 0 q.cells := Box.range [] q.cells [] (by simpa using b)
theorem rec_rng' {w : World} {B : Nat} {T : TypeId} (r : RecA) (b : Box w B r.cells T) : w.rangeAt B 0 r.cells := Box.range [] r.cells [] (by simpa using b)
theorem page_out' {w : World} {C : Nat} (q : PageA) (hq : q.ss.length = 4) (bC : Box w C zero17 40) :
    ∃ WF, Hid (w.setCells C 0 q.cells = WF) ∧ Within C (C + 1) w WF ∧ WF.heap.size = w.heap.size ∧ Hid (w.there C 0 q.cells.toArray.size) ∧ Hid ((loadVar 40 ⟨C, 0, none⟩).run Tryd.prog WF = .ok (.agg q.cells.toArray) WF) ∧ Box WF C q.cells 40 :=
  page_out q hq zero17 rfl bC Tryd.underlying40 rfl (by kernel_rfl)

set_option maxHeartbeats 4000000 in
set_option maxRecDepth 100000 in
theorem l4Redo_own (p : PageA) (h4 : p.ss.length = 4) (r : RecA) (k : Nat) (hk4 : k < 4) (hm : r.oid % 4 = (k : Int)) (hm2 : r.oid.tmod 4 = (k : Int)) (w : World) (hr : ReadsS w p.ss) (hl : Fit p.ss) (hrr : r.reads w) (hlr : r.short 1099511627776) :
    Calls Tryd.prog 47 #[.agg p.cells.toArray, .agg r.cells.toArray] w fun e w' => ∃ ts : List SlotA, e = .returned (.agg (PageA.cells ⟨r.lsn, ts⟩).toArray) ∧ Hid (ts.map (·.v) = (p.ss.map (·.v)).set k r.af.v) ∧ OwnS w' w.heap.size w'.heap.size ts ∧ Below w.heap.size w w' := by
  obtain ⟨W, hW, b0, b1, b2, hbW, hsW⟩ := boxes3 w p.cells r.cells [.int .i64 0, .bool false, .int .i64 0, .slice none 0 0, .slice none 0 0, .bool false, .int .i64 0, .slice none 0 0, .slice none 0 0, .bool false, .int .i64 0, .slice none 0 0, .slice none 0 0, .bool false, .int .i64 0, .slice none 0 0, .slice none 0 0] 40 31 40
  have b2' : Box W (w.heap.size + 1 + 1) zero17 40 := b2
  have HX : Hid (∀ u, Below W.heap.size W u → Box u (w.heap.size + 1) r.cells 31) := fun u hu => b1.below hu b1.lt
  have HX2 : Hid (∀ u, Below W.heap.size W u → Box u (w.heap.size + 1 + 1) zero17 40) := fun u hu => b2'.below hu b2'.lt
  have HS : Hid (∀ w', Box w' (w.heap.size + 1) r.cells 31 → w'.cell? ⟨w.heap.size + 1, 4, none⟩ = some (.int .i64 r.oid) ∧ w'.cell? ⟨w.heap.size + 1, 9, none⟩ = some (.bool r.af.v.has) ∧ w'.cell? ⟨w.heap.size + 1, 10, none⟩ = some (.int .i64 r.af.v.o.kind) ∧ w'.cell? ⟨w.heap.size + 1, 11, none⟩ = some (.slice r.af.aI r.af.v.o.ints.length r.af.cI) ∧ w'.cell? ⟨w.heap.size + 1, 12, none⟩ = some (.slice r.af.aR r.af.v.o.refs.length r.af.cR)) := fun w' b => ⟨b.cell 4 _ rfl, b.cell 9 _ rfl, b.cell 10 _ rfl, b.cell 11 _ rfl, b.cell 12 _ rfl⟩
  have H0 : Hid (∀ w', Box w' (w.heap.size + 1) r.cells 31 → w'.cell? ⟨w.heap.size + 1, 0, none⟩ = some (.int .i64 r.lsn)) := fun w' b => b.cell 0 _ rfl
  have hlt := b2'.lt
  have C1 := l3Copy_own p h4 W (hr.below hbW) hl
  clear hsW b2 b1
  go_enter Tryd.func47, Tryd.ntmps47
  go_wp2_with (first | (guard_target = wpList _ _ _ (Oper.mk (some 6) _ _ _ _ _ :: _) _ _; refine wpList_load_mid rfl 40 (.tmp 2) rfl w.heap.size 0 rfl p.cells _ (by rw [hW.out]; exact page_rng p b0) Tryd.underlying40 rfl (page_info p h4) ?_) | fail)
  rw [hW.out]
  clear hW b0
  refine C1.mono ?_
  clear C1
  rintro e w1 ⟨qs, rfl, hv1, ho1, hb1⟩
  have s1 := hb1.size
  have hq4 : qs.length = 4 := map_len4 hv1.out h4
  obtain ⟨Z, hZ, bZ, hbZ, _⟩ := boxes1 w1 [.int .i64 0, .bool false, .int .i64 0, .slice none 0 0, .slice none 0 0, .bool false, .int .i64 0, .slice none 0 0, .slice none 0 0, .bool false, .int .i64 0, .slice none 0 0, .slice none 0 0, .bool false, .int .i64 0, .slice none 0 0, .slice none 0 0] 40
  have bZ' : Box Z w1.heap.size zero17 40 := bZ
  obtain ⟨w2, hS2, hw2, hz2, HT2, _, bq⟩ := page_out' ⟨p.lsn, qs⟩ hq4 bZ'
  have hb2 : Below w1.heap.size w1 w2 := hbZ.trans (hw2.below (Nat.le_refl _) (by have := hbZ.size; omega))
  have M2 : Below W.heap.size W w2 := hb1.trans (hb2.mono hb1.size)
  have s2 := hb2.size
  have hlq := bq.lt
  have oq : OwnS w2 W.heap.size w1.heap.size qs := ho1.below hb2
  clear bZ bZ' hbZ hw2 hz2 ho1
  go_wp2_with (first | (guard_target = wpList _ _ _ (Oper.mk none (Op.store _ (Operand.tmp 5) _) _ _ _ _ :: _) _ _; refine wpList_store_mid rfl 40 (.tmp 5) (.tmp 7) rfl w1.heap.size 0 (PageA.cells ⟨p.lsn, qs⟩).toArray rfl rfl (by rw [hZ.out]; exact HT2.out) (by rw [List.size_toArray]; exact page_info _ hq4) (all_oneCell_toArray (oneP _)) ?_) | fail)
  rw [hZ.out, hS2.out]
  clear hZ hS2 HT2
  have HBQ : Hid (∀ u, Below w2.heap.size w2 u → Box u w1.heap.size (PageA.cells ⟨p.lsn, qs⟩) 40) := fun u hu => bq.below hu bq.lt
  have hi0 : (0 : Int) ≤ (k : Int) := by omega
  have hi4 : (k : Int) < 4 := by omega
  have hra := ReadsO.below hrr.af (hbW.trans (M2.mono hbW.size))
  refine wp_region_held_drew (S := fun w' => w'.cell? ⟨w.heap.size + 1, 4, none⟩ = some (.int .i64 r.oid) ∧ w'.cell? ⟨w.heap.size + 1, 9, none⟩ = some (.bool r.af.v.has) ∧ w'.cell? ⟨w.heap.size + 1, 10, none⟩ = some (.int .i64 r.af.v.o.kind) ∧ w'.cell? ⟨w.heap.size + 1, 11, none⟩ = some (.slice r.af.aI r.af.v.o.ints.length r.af.cI) ∧ w'.cell? ⟨w.heap.size + 1, 12, none⟩ = some (.slice r.af.aR r.af.v.o.refs.length r.af.cR)) (by kernel_rfl) (HS.out _ (HX.out _ M2.drew)) (fun hHeld => ?_)
  refine wpAnyH_take (i := 0) (v := .pointer (some ⟨w.heap.size + 1, 4, none⟩)) rfl (by kernel_rfl) (by kernel_rfl) (by kernel_rfl) (fun _ _ _ h => h) (Or.inl ⟨by rfl, ?_⟩) hHeld ?_
  · intro w' hSw
    go_simp <;> rfl
  try simp only [Act.put, List.getElem_toArray, List.getElem_cons_zero, List.setIfInBounds_toArray, List.set_cons_zero, List.set_cons_succ]
  refine wpAnyH_take (i := 1) (v := .int .i64 r.oid) rfl (by kernel_rfl) (by kernel_rfl) (by kernel_rfl) (fun _ _ _ h => h) (Or.inl ⟨by rfl, ?_⟩) hHeld ?_
  · intro w' hSw
    go_simp <;> rfl
  try simp only [Act.put, List.getElem_toArray, List.getElem_cons_zero, List.getElem_cons_succ, List.setIfInBounds_toArray, List.set_cons_zero, List.set_cons_succ]
  refine wpAnyH_take (i := 2) (v := .int .i64 (k : Int)) rfl (by kernel_rfl) (by kernel_rfl) (by kernel_rfl) (fun _ _ _ h => h) (Or.inl ⟨by rfl, ?_⟩) hHeld ?_
  · intro w' hSw
    go_simp <;> rfl
  try simp only [Act.put, List.getElem_toArray, List.getElem_cons_zero, List.getElem_cons_succ, List.setIfInBounds_toArray, List.set_cons_zero, List.set_cons_succ]
  refine wpAnyH_take (i := 3) (v := .pointer (some ⟨w.heap.size + 1, 9, none⟩)) rfl (by kernel_rfl) (by kernel_rfl) (by kernel_rfl) (fun _ _ _ h => h) (Or.inl ⟨by rfl, ?_⟩) hHeld ?_
  · intro w' hSw
    go_simp <;> rfl
  try simp only [Act.put, List.getElem_toArray, List.getElem_cons_zero, List.getElem_cons_succ, List.setIfInBounds_toArray, List.set_cons_zero, List.set_cons_succ]
  refine wpAnyH_take (i := 4) (v := .agg #[.bool r.af.v.has, .int .i64 r.af.v.o.kind, .slice r.af.aI r.af.v.o.ints.length r.af.cI, .slice r.af.aR r.af.v.o.refs.length r.af.cR]) rfl (by kernel_rfl) (by kernel_rfl) (by kernel_rfl) (fun _ _ _ h => h) (Or.inl ⟨by rfl, ?_⟩) hHeld ?_
  · intro w' hSw
    go_simp <;> rfl
  try simp only [Act.put, List.getElem_toArray, List.getElem_cons_zero, List.getElem_cons_succ, List.setIfInBounds_toArray, List.set_cons_zero, List.set_cons_succ]
  refine wpAnyH_take (i := 6) (v := .pointer (some ⟨w1.heap.size, 1, none⟩)) rfl (by kernel_rfl) (by kernel_rfl) (by kernel_rfl) (fun _ _ _ h => h) (Or.inl ⟨by rfl, ?_⟩) hHeld ?_
  · intro w' hSw
    go_simp <;> rfl
  try simp only [Act.put, List.getElem_toArray, List.getElem_cons_zero, List.getElem_cons_succ, List.setIfInBounds_toArray, List.set_cons_zero, List.set_cons_succ]
  refine wpAnyH_ready (rs := [5]) (by kernel_rfl) (by simp) ?_
  refine AllReadyH.cons rfl (fun K hK => ?_) AllReadyH.nil
  go_simp
  refine (l3CopySlot_own r.af _ (ReadsO.below hra (Below.refl _ _).drew) hlr.af.1 hlr.af.2).mono ?_
  rintro e w3 ⟨t, rfl, hv3, ho3, hb3⟩
  have N3 : Below w2.heap.size w2 w3 := (Below.refl _ _).drew.trans hb3
  have M3 : Below W.heap.size W w3 := M2.trans (N3.mono M2.size)
  have s3 := N3.size
  have oq3 := oq.below N3
  refine hK.out _ _ (HS.out _ (HX.out _ M3)) (fun hHeld => ?_)
  clear hK K
  try simp only [Act.put, List.getElem_toArray, List.getElem_cons_zero, List.getElem_cons_succ, List.setIfInBounds_toArray, List.set_cons_zero, List.set_cons_succ]
  refine wpAnyH_take (i := 7) (v := .pointer (some ⟨w1.heap.size, 1 + k * 4, none⟩)) rfl (by kernel_rfl) (by kernel_rfl) (by kernel_rfl) (fun _ _ _ h => h) (Or.inl ⟨by rfl, ?_⟩) hHeld ?_
  · intro w' hSw
    go_simp <;> rfl
  try simp only [Act.put, List.getElem_toArray, List.getElem_cons_zero, List.getElem_cons_succ, List.setIfInBounds_toArray, List.set_cons_zero, List.set_cons_succ]
  have bq3 := HBQ.out _ N3
  simp only [PageA.cells] at bq3
  obtain ⟨w4, hW4, b4, hw4, hs4⟩ := pslot_fill bq3 k (by omega) t
  have M4 : Below W.heap.size W w4 := M3.trans (hw4.below (by omega) (by omega))
  have ht3 : w3.there w1.heap.size (1 + k * 4) t.cells.toArray.size := bq3.there _ _ (by show 1 + k * 4 + 4 ≤ _; rw [List.length_cons, cellsS_len, hq4]; omega)
  have HT4 : Hid ((Tryd.prog.info? 28).map (·.size) = some 4) := by rw [Hid]; kernel_rfl
  have HO4 : Hid (_) := all_oneCell_toArray (cs := t.cells) (by intro v hv; simp only [SlotA.cells, List.mem_cons, List.not_mem_nil, or_false] at hv; rcases hv with rfl | rfl | rfl | rfl <;> rfl)
  refine wpAnyH_ready (rs := [8]) (by kernel_rfl) (by simp) ?_
  refine AllReadyH.cons rfl (fun K hK => ?_) AllReadyH.nil
  rw [if_pos (by rfl)]
  refine wp_store_mid 28 (.tmp 15) (.tmp 13) rfl w1.heap.size (1 + k * 4) t.cells.toArray rfl rfl ht3 HT4.out HO4.out ?_
  have HW4 : Hid (w3.setCells w1.heap.size (1 + k * 4) t.cells.toArray.toList = w4) := hW4.out
  rw [HW4.out]
  refine hK.out _ _ (HS.out _ (HX.out _ M4)) (fun hHeld => ?_)
  refine wpAnyH_done (by kernel_rfl) ?_ _
  have ot4 : t.own w4 w2.heap.size w3.heap.size := OwnO.within ho3 hw4 (by omega)
  have oq4 : OwnS w4 W.heap.size w1.heap.size qs := oq3.within hw4 (by omega)
  obtain ⟨w5, hW5, b5, hw5, hs5⟩ := box_set b4 0 (.int .i64 r.lsn)
  simp only [List.set_cons_zero] at b5
  have c0 := b4.cell 0 _ rfl
  have f0 := b4.frozen 0
  have l0 := H0.out _ (HX.out _ M4)
  have M5 : Below W.heap.size W w5 := M4.trans (hw5.below (by omega) (by omega))
  have oS : OwnS w5 W.heap.size w3.heap.size (qs.set k t) := (oq4.within hw5 (by omega)).set k (OwnO.within ot4 hw5 (by omega)) (by omega) (by omega) (by omega)
  have hr4 : (qs.set k t).length = 4 := by rw [List.length_set]; exact hq4
  have b5' : Box w5 w1.heap.size (PageA.cells ⟨r.lsn, qs.set k t⟩) 40 := b5
  have HMV : Hid ((qs.set k t).map (·.v) = (p.ss.map (·.v)).set k r.af.v) := by rw [Hid, List.map_set, hv1.out, hv3.out]
  obtain ⟨WF, hWF, hwF, hsF, HTF, HLF, _⟩ := page_out' ⟨r.lsn, qs.set k t⟩ hr4 (HX2.out _ M5)
  have HE : Hid (OwnS WF w.heap.size WF.heap.size (qs.set k t) ∧ Below w.heap.size w WF) := ⟨(oS.within hwF (by omega)).widen (by omega) (by omega) (Nat.le_refl _), (hbW.trans (M5.mono hbW.size)).trans (hwF.below (by omega) (by have := M5.size; omega))⟩
  have r5 := page_rng _ b5'
  clear hHeld hK K HW4 hw4 hw5 hwF hsF bq3 b4 b5 b5' oS oq3 oq4 ot4 ho3 oq bq HBQ HX HX2 HS H0 hv3 hv1 ht3 hra
  generalize hQ : qs.set k t = Q at *
  go_wp2_with (first | (guard_target = wpList _ _ _ (Oper.mk (some 19) _ _ _ _ _ :: _) _ _; refine wpList_load_mid rfl 40 (.tmp 5) rfl w1.heap.size 0 rfl (PageA.cells ⟨r.lsn, Q⟩) _ (by rw [hW5.out]; exact r5) Tryd.underlying40 rfl (page_info _ hr4) ?_) | (guard_target = wpList _ _ _ (Oper.mk none (Op.store _ (Operand.tmp 4) _) _ _ _ _ :: _) _ _; refine wpList_store_mid rfl 40 (.tmp 4) (.tmp 19) rfl (w.heap.size + 1 + 1) 0 (PageA.cells ⟨r.lsn, Q⟩).toArray rfl rfl (by rw [hW5.out]; exact HTF.out) (by rw [List.size_toArray]; exact page_info _ hr4) (all_oneCell_toArray (oneP _)) ?_) | fail)
  rw [hW5.out, hWF.out]
  exact bodyPost_ret (v := .agg (PageA.cells ⟨r.lsn, Q⟩).toArray) (results_one Tryd.results47 rfl HLF.out) rfl ⟨Q, rfl, HMV, HE.out.1, HE.out.2⟩

end Go.Proofs.YtjaojcgfgkppgaaDoor
