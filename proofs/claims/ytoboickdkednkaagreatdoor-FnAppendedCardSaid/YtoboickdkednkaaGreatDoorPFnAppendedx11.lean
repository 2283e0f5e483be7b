/- Several texts in one, in their order. -/
import Derived.Test.YtoboickdkednkaaGreatDoorPFnAppendedx6
import Derived.Test.YtoboickdkednkaaGreatDoorPFnAppendedx4
import Derived.Deep.RegionHeld3
import Derived.Deep.CutRange
import Derived.Test.YtoboickdkednkaaGreatDoorPFnAppendedx10
import Derived.Test.YtoboickdkednkaaGreatDoorPFnAppendedx1
set_option maxHeartbeats 8000000
set_option maxRecDepth 100000
namespace Go.Proofs.YtoboickdkednkaaGreatDoor
open Go.RowKit
theorem specUndoOf_any (r : RecA) (n p : Int) (w : World) (hr : r.reads w) (hl : r.short 1099511627776) :
  Calls Tryz.prog 129 #[.agg r.cells.toArray, .int .i64 n, .int .i64 p] w fun e w' => ∃ t : RecA, e = .returned (.agg t.cells.toArray) ∧ Hid (t.v = undoV r.v n p) ∧ t.own w' w.heap.size w'.heap.size ∧ Below w.heap.size w w' := by
 obtain ⟨W, hW, b0, b1, hbW, hsW⟩ := boxes2 w r.cells zeroR.cells 39 39
 have HX : Hid (∀ u, Below W.heap.size W u → Box u w.heap.size r.cells 39) := fun u hu => b0.below hu b0.lt
 have HX1 : Hid (∀ u, Below W.heap.size W u → Box u (w.heap.size + 1) zeroR.cells 39) := fun u hu => b1.below hu b1.lt
 have HU1 : Hid (okR r.v = false → undoV r.v n p = noR) := fun h => undoV_bad h
 have HU4 : Hid (¬ r.kind = 1 → undoV r.v n p = noR) := fun h => undoV_kind (r := r.v) h
 have HU2 : Hid (okR (backV r.v n p) = false → undoV r.v n p = noR) := fun h => undoV_no h
 have HU3 : Hid (okR r.v = true → r.kind = 1 → okR (backV r.v n p) = true → undoV r.v n p = backV r.v n p) := fun h0 h1 h2 => undoV_yes h0 h1 h2
 generalize undoV r.v n p = R at *
 have C1 := specRecOk_any r W (hr.below hbW) hl
 have HS : Hid (∀ w', Box w' w.heap.size r.cells 39 → w'.cell? ⟨w.heap.size, 1, none⟩ = some (.int .i64 r.tx) ∧ w'.cell? ⟨w.heap.size, 2, none⟩ = some (.int .i64 r.prev) ∧ w'.cell? ⟨w.heap.size, 4, none⟩ = some (.int .i64 r.oid) ∧ w'.cell? ⟨w.heap.size, 5, none⟩ = some (.bool r.bf.v.has) ∧ w'.cell? ⟨w.heap.size, 6, none⟩ = some (.int .i64 r.bf.v.o.kind) ∧ w'.cell? ⟨w.heap.size, 7, none⟩ = some (.slice r.bf.aI r.bf.v.o.ints.length r.bf.cI) ∧ w'.cell? ⟨w.heap.size, 8, none⟩ = some (.slice r.bf.aR r.bf.v.o.refs.length r.bf.cR)) := fun w' b => ⟨b.cell 1 _ rfl, b.cell 2 _ rfl, b.cell 4 _ rfl, b.cell 5 _ rfl, b.cell 6 _ rfl, b.cell 7 _ rfl, b.cell 8 _ rfl⟩
 have HK : Hid (∀ w', Box w' w.heap.size r.cells 39 → w'.cell? ⟨w.heap.size, 3, none⟩ = some (.int .i64 r.kind)) := fun w' b => b.cell 3 _ rfl
 have HRG : Hid (∀ w', Box w' w.heap.size r.cells 39 → w'.rangeAt w.heap.size 0 r.cells) := fun w' b => Box.range [] r.cells [] (by simpa using b)
 have hlt := b1.lt
 clear b0 b1 hsW
 simp only [show zeroR.cells = [.int .i64 0, .int .i64 0, .int .i64 0, .int .i64 0, .int .i64 0, .bool false, .int .i64 0, .slice none 0 0, .slice none 0 0, .bool false, .int .i64 0, .slice none 0 0, .slice none 0 0, .int .i64 0, .slice none 0 0] from rfl] at hW
 go_enter Tryz.func129, Tryz.ntmps129
 go_wp2_with (first | (guard_target = wpList _ _ _ (Oper.mk (some 8) _ _ _ _ _ :: _) _ _; refine wpList_load_mid rfl 39 (.tmp 3) rfl w.heap.size 0 rfl r.cells _ (by rw [hW.out]; exact HRG.out _ (HX.out _ (Below.refl _ _))) Tryz.underlying39 rfl (rec_info _) ?_) | fail)
 rw [hW.out]
 clear hW
 refine C1.mono ?_
 clear C1
 rintro e w1 ⟨rfl, hb1⟩
 have B1 : Below w.heap.size w w1 := hbW.trans (hb1.mono hbW.size)
 have hs1 := hb1.size
 cases hok : okR r.v with
 | false =>
  have HR : Hid (zeroR.v = R) := (HU1.out hok).symm
  obtain ⟨WF, hWF, hwF, hsF, HTF, HLF, _⟩ := rec_out zeroR _ rfl (HX1.out _ hb1)
  have HE : Hid (zeroR.own WF w.heap.size WF.heap.size ∧ Below w.heap.size w WF) := ⟨own_zeroR _ _ _ (Nat.le_refl _), B1.trans (hwF.below (by omega) (by omega))⟩
  clear hwF hsF HU1 HU2 HU3 HU4 hok
  go_wp2_with (first | (guard_target = wpList _ _ _ (Oper.mk none (Op.store _ (Operand.tmp 6) _) _ _ _ _ :: _) _ _; refine wpList_store_mid rfl 39 (.tmp 6) (.tmp 16) rfl (w.heap.size + 1) 0 zeroR.cells.toArray rfl rfl HTF.out (by rw [List.size_toArray]; exact rec_info _) (rec_one _) ?_) | fail)
  rw [hWF.out]
  exact bodyPost_ret (v := .agg zeroR.cells.toArray) (results_one Tryz.results129 rfl HLF.out) rfl ⟨zeroR, rfl, HR, HE.out.1, HE.out.2⟩
 | true =>
 have k3 := HK.out _ (HX.out _ hb1)
 cases hk : (r.kind == 1) with
 | false =>
  have HR : Hid (zeroR.v = R) := (HU4.out (by simpa using hk)).symm
  obtain ⟨WF, hWF, hwF, hsF, HTF, HLF, _⟩ := rec_out zeroR _ rfl (HX1.out _ hb1)
  have HE : Hid (zeroR.own WF w.heap.size WF.heap.size ∧ Below w.heap.size w WF) := ⟨own_zeroR _ _ _ (Nat.le_refl _), B1.trans (hwF.below (by omega) (by omega))⟩
  clear hwF hsF HU1 HU2 HU3 HU4 hok
  go_wp2_with (first | (guard_target = wpList _ _ _ (Oper.mk none (Op.store _ (Operand.tmp 6) _) _ _ _ _ :: _) _ _; refine wpList_store_mid rfl 39 (.tmp 6) (.tmp 16) rfl (w.heap.size + 1) 0 zeroR.cells.toArray rfl rfl HTF.out (by rw [List.size_toArray]; exact rec_info _) (rec_one _) ?_) | fail)
  rw [hWF.out]
  exact bodyPost_ret (v := .agg zeroR.cells.toArray) (results_one Tryz.results129 rfl HLF.out) rfl ⟨zeroR, rfl, HR, HE.out.1, HE.out.2⟩
 | true =>
 have HU5 : Hid (okR (backV r.v n p) = true → R = backV r.v n p) := fun h => HU3.out hok (by simpa using hk) h
 clear HU1 HU3 HU4 hok
 go_upto_region 3 with fail
 go_cut [7] from 8 (fun x wx => ∃ (Bx : Nat) (t : SlotA), x = .pointer (some ⟨Bx, 0, none⟩) ∧ Hid (t.v = r.bf.v) ∧ Box wx Bx (backA n r.tx p r.oid t r.prev).cells 39 ∧ t.own wx w1.heap.size wx.heap.size ∧ Below w1.heap.size w1 wx)
 case first =>
  clear HU2 HU5 k3 hk
  have hrb := ReadsO.below hr.bf B1
  refine wp_region_held_drew (S := fun w' => w'.cell? ⟨w.heap.size, 1, none⟩ = some (.int .i64 r.tx) ∧ w'.cell? ⟨w.heap.size, 2, none⟩ = some (.int .i64 r.prev) ∧ w'.cell? ⟨w.heap.size, 4, none⟩ = some (.int .i64 r.oid) ∧ w'.cell? ⟨w.heap.size, 5, none⟩ = some (.bool r.bf.v.has) ∧ w'.cell? ⟨w.heap.size, 6, none⟩ = some (.int .i64 r.bf.v.o.kind) ∧ w'.cell? ⟨w.heap.size, 7, none⟩ = some (.slice r.bf.aI r.bf.v.o.ints.length r.bf.cI) ∧ w'.cell? ⟨w.heap.size, 8, none⟩ = some (.slice r.bf.aR r.bf.v.o.refs.length r.bf.cR)) (by kernel_rfl) (HS.out _ (HX.out _ hb1.drew)) (fun hHeld => ?_)
  refine tk 0 (v := .int .i64 n) rfl (Or.inl ⟨by rfl, ?_⟩) hHeld ?_
  ·intro w' hSw
   go_simp <;> rfl
  try simp only [Act.put, zA, zB, zD, zE, zF]
  refine tk 1 (v := .pointer (some ⟨w.heap.size, 1, none⟩)) rfl (Or.inl ⟨by rfl, ?_⟩) hHeld ?_
  ·intro w' hSw
   go_simp <;> rfl
  try simp only [Act.put, zA, zB, zC, zD, zE, zF]
  refine tk 2 (v := .int .i64 r.tx) rfl (Or.inl ⟨by rfl, ?_⟩) hHeld ?_
  ·intro w' hSw
   go_simp <;> rfl
  try simp only [Act.put, zA, zB, zC, zD, zE, zF]
  refine tk 3 (v := .int .i64 p) rfl (Or.inl ⟨by rfl, ?_⟩) hHeld ?_
  ·intro w' hSw
   go_simp <;> rfl
  try simp only [Act.put, zA, zB, zC, zD, zE, zF]
  refine tk 4 (v := .pointer (some ⟨w.heap.size, 4, none⟩)) rfl (Or.inl ⟨by rfl, ?_⟩) hHeld ?_
  ·intro w' hSw
   go_simp <;> rfl
  try simp only [Act.put, zA, zB, zC, zD, zE, zF]
  refine tk 5 (v := .int .i64 r.oid) rfl (Or.inl ⟨by rfl, ?_⟩) hHeld ?_
  ·intro w' hSw
   go_simp <;> rfl
  try simp only [Act.put, zA, zB, zC, zD, zE, zF]
  refine tk 6 (v := .pointer (some ⟨w.heap.size, 5, none⟩)) rfl (Or.inl ⟨by rfl, ?_⟩) hHeld ?_
  ·intro w' hSw
   go_simp <;> rfl
  try simp only [Act.put, zA, zB, zC, zD, zE, zF]
  refine tk 7 (v := .agg #[.bool r.bf.v.has, .int .i64 r.bf.v.o.kind, .slice r.bf.aI r.bf.v.o.ints.length r.bf.cI, .slice r.bf.aR r.bf.v.o.refs.length r.bf.cR]) rfl (Or.inl ⟨by rfl, ?_⟩) hHeld ?_
  ·intro w' hSw
   go_simp <;> rfl
  try simp only [Act.put, zA, zB, zC, zD, zE, zF]
  refine tk 9 (v := .pointer (some ⟨w.heap.size, 2, none⟩)) rfl (Or.inl ⟨by rfl, ?_⟩) hHeld ?_
  ·intro w' hSw
   go_simp <;> rfl
  try simp only [Act.put, zA, zB, zC, zD, zE, zF]
  refine tk 10 (v := .int .i64 r.prev) rfl (Or.inl ⟨by rfl, ?_⟩) hHeld ?_
  ·intro w' hSw
   go_simp <;> rfl
  try simp only [Act.put, zA, zB, zC, zD, zE, zF]
  refine wpAnyH_ready (rs := [8, 12]) (by kernel_rfl) (by simp) ?_
  refine AllReadyH.cons rfl (fun K hK => ?_) (AllReadyH.cons rfl (fun K hK => ?_) AllReadyH.nil)
  ·go_simp
   refine (l3CopySlot_own r.bf _ (ReadsO.below hrb (Below.refl _ _).drew) hl.bf.1 hl.bf.2).mono ?_
   rintro e u1 ⟨t, rfl, hv, ho, hbu⟩
   have hB0 : Below w1.heap.size w1 u1 := (Below.refl _ _).drew.trans hbu
   have hsu := hB0.size
   refine hK.out _ _ (HS.out _ (HX.out _ (hb1.trans (hB0.mono hb1.size)))) (fun hHeld => ?_)
   clear hK K
   try simp only [Act.put, zA, zB, zC, zD, zE, zF]
   refine tk 11 (v := .agg (backA n r.tx p r.oid t r.prev).cells.toArray) rfl (Or.inl ⟨by rfl, ?_⟩) hHeld ?_
   ·intro w' hSw
    go_simp <;> rfl
   try simp only [Act.put, zA, zB, zC, zD, zE, zF]
   refine wpAnyH_ready (rs := [12]) (by kernel_rfl) (by simp) ?_
   refine AllReadyH.cons rfl (fun K hK => ?_) AllReadyH.nil
   go_simp
   have hB1 : Below w1.heap.size w1 (u1.alloc (.cells #[.int .i64 0, .int .i64 0, .int .i64 0, .int .i64 0, .int .i64 0, .bool false, .int .i64 0, .slice none 0 0, .slice none 0 0, .bool false, .int .i64 0, .slice none 0 0, .slice none 0 0, .int .i64 0, .slice none 0 0] 39)) := hB0.alloc hB0.size _
   refine hK.out _ _ (HS.out _ (HX.out _ (hb1.trans (hB1.mono hb1.size)))) (fun hHeld => ?_)
   clear hK K
   try simp only [Act.put, zA, zB, zC, zD, zE, zF]
   have bN : Box (u1.alloc (.cells #[.int .i64 0, .int .i64 0, .int .i64 0, .int .i64 0, .int .i64 0, .bool false, .int .i64 0, .slice none 0 0, .slice none 0 0, .bool false, .int .i64 0, .slice none 0 0, .slice none 0 0, .int .i64 0, .slice none 0 0] 39)) u1.heap.size [.int .i64 0, .int .i64 0, .int .i64 0, .int .i64 0, .int .i64 0, .bool false, .int .i64 0, .slice none 0 0, .slice none 0 0, .bool false, .int .i64 0, .slice none 0 0, .slice none 0 0, .int .i64 0, .slice none 0 0] 39 := box_new _ _ _
   have ho := OwnO.below ho ((Below.refl u1.heap.size u1).alloc (Nat.le_refl _) (.cells #[.int .i64 0, .int .i64 0, .int .i64 0, .int .i64 0, .int .i64 0, .bool false, .int .i64 0, .slice none 0 0, .slice none 0 0, .bool false, .int .i64 0, .slice none 0 0, .slice none 0 0, .int .i64 0, .slice none 0 0] 39))
   have hsN := bN.lt
   obtain ⟨WF, hWF, hwF, hsF, HTF, _, bF⟩ := rec_out (backA n r.tx p r.oid t r.prev) [.int .i64 0, .int .i64 0, .int .i64 0, .int .i64 0, .int .i64 0, .bool false, .int .i64 0, .slice none 0 0, .slice none 0 0, .bool false, .int .i64 0, .slice none 0 0, .slice none 0 0, .int .i64 0, .slice none 0 0] rfl bN
   have hSF : WF.cell? ⟨w.heap.size, 1, none⟩ = some (.int .i64 r.tx) ∧ WF.cell? ⟨w.heap.size, 2, none⟩ = some (.int .i64 r.prev) ∧ WF.cell? ⟨w.heap.size, 4, none⟩ = some (.int .i64 r.oid) ∧ WF.cell? ⟨w.heap.size, 5, none⟩ = some (.bool r.bf.v.has) ∧ WF.cell? ⟨w.heap.size, 6, none⟩ = some (.int .i64 r.bf.v.o.kind) ∧ WF.cell? ⟨w.heap.size, 7, none⟩ = some (.slice r.bf.aI r.bf.v.o.ints.length r.bf.cI) ∧ WF.cell? ⟨w.heap.size, 8, none⟩ = some (.slice r.bf.aR r.bf.v.o.refs.length r.bf.cR) := HS.out _ (HX.out _ ((hb1.trans (hB1.mono hb1.size)).trans (hwF.below (by have := hb1.size; omega) (by have := hb1.size; omega))))
   refine wpAnyH_ready (rs := [13]) (by kernel_rfl) (by simp) ?_
   refine AllReadyH.cons rfl (fun K hK => ?_) AllReadyH.nil
   rw [if_pos (by rfl)]
   refine wp_store_mid 39 (.tmp 7) (.tmp 28) rfl (u1.heap.size) 0 (backA n r.tx p r.oid t r.prev).cells.toArray rfl rfl HTF.out (by rw [List.size_toArray]; exact rec_info _) (rec_one _) ?_
   have HW : Hid ((u1.alloc (.cells #[.int .i64 0, .int .i64 0, .int .i64 0, .int .i64 0, .int .i64 0, .bool false, .int .i64 0, .slice none 0 0, .slice none 0 0, .bool false, .int .i64 0, .slice none 0 0, .slice none 0 0, .int .i64 0, .slice none 0 0] 39)).setCells (u1.heap.size) 0 (backA n r.tx p r.oid t r.prev).cells.toArray.toList = WF) := hWF.out
   rw [HW.out]
   refine hK.out _ _ hSF (fun hHeld => ?_)
   refine wpAnyH_done (by kernel_rfl) ?_ _
   have hRel : Hid (Below w1.heap.size w1 WF ∧ t.own WF w1.heap.size WF.heap.size) := ⟨hB1.trans (hwF.below (by omega) (by omega)), OwnO.widen (OwnO.within ho hwF (by omega)) (by first | omega | exact Nat.le_refl _) (by omega) (Nat.le_refl _)⟩
   clear hHeld hK K HW hWF hwF HTF hSF
   go_wp2_with fail
   go_meet
   case rel => exact ⟨u1.heap.size, t, rfl, hv, bF, hRel.out.2, hRel.out.1⟩
  ·go_simp
   have hB0 : Below w1.heap.size w1 (w1.drew.alloc (.cells #[.int .i64 0, .int .i64 0, .int .i64 0, .int .i64 0, .int .i64 0, .bool false, .int .i64 0, .slice none 0 0, .slice none 0 0, .bool false, .int .i64 0, .slice none 0 0, .slice none 0 0, .int .i64 0, .slice none 0 0] 39)) := (Below.refl _ _).drew.alloc (Nat.le_refl _) _
   refine hK.out _ _ (HS.out _ (HX.out _ (hb1.trans (hB0.mono hb1.size)))) (fun hHeld => ?_)
   clear hK K
   try simp only [Act.put, zA, zB, zC, zD, zE, zF]
   refine wpAnyH_ready (rs := [8]) (by kernel_rfl) (by simp) ?_
   refine AllReadyH.cons rfl (fun K hK => ?_) AllReadyH.nil
   go_simp
   refine (l3CopySlot_own r.bf _ (ReadsO.below hrb hB0) hl.bf.1 hl.bf.2).mono ?_
   have bN0 : Box (w1.drew.alloc (.cells #[.int .i64 0, .int .i64 0, .int .i64 0, .int .i64 0, .int .i64 0, .bool false, .int .i64 0, .slice none 0 0, .slice none 0 0, .bool false, .int .i64 0, .slice none 0 0, .slice none 0 0, .int .i64 0, .slice none 0 0] 39)) w1.drew.heap.size [.int .i64 0, .int .i64 0, .int .i64 0, .int .i64 0, .int .i64 0, .bool false, .int .i64 0, .slice none 0 0, .slice none 0 0, .bool false, .int .i64 0, .slice none 0 0, .slice none 0 0, .int .i64 0, .slice none 0 0] 39 := box_new _ _ _
   generalize hAW : w1.drew.alloc (.cells #[.int .i64 0, .int .i64 0, .int .i64 0, .int .i64 0, .int .i64 0, .bool false, .int .i64 0, .slice none 0 0, .slice none 0 0, .bool false, .int .i64 0, .slice none 0 0, .slice none 0 0, .int .i64 0, .slice none 0 0] 39) = AW at *
   have bN1 : Box AW w1.heap.size [.int .i64 0, .int .i64 0, .int .i64 0, .int .i64 0, .int .i64 0, .bool false, .int .i64 0, .slice none 0 0, .slice none 0 0, .bool false, .int .i64 0, .slice none 0 0, .slice none 0 0, .int .i64 0, .slice none 0 0] 39 := bN0
   clear bN0 hAW
   rintro e u1 ⟨t, rfl, hv, ho, hbu⟩
   have hB1 : Below w1.heap.size w1 u1 := hB0.trans (hbu.mono hB0.size)
   have hsu := hB1.size
   have bN := bN1.below hbu bN1.lt
   have hsN := bN1.lt
   refine hK.out _ _ (HS.out _ (HX.out _ (hb1.trans (hB1.mono hb1.size)))) (fun hHeld => ?_)
   clear hK K
   try simp only [Act.put, zA, zB, zC, zD, zE, zF]
   refine tk 11 (v := .agg (backA n r.tx p r.oid t r.prev).cells.toArray) rfl (Or.inl ⟨by rfl, ?_⟩) hHeld ?_
   ·intro w' hSw
    go_simp <;> rfl
   try simp only [Act.put, zA, zB, zC, zD, zE, zF]
   obtain ⟨WF, hWF, hwF, hsF, HTF, _, bF⟩ := rec_out (backA n r.tx p r.oid t r.prev) [.int .i64 0, .int .i64 0, .int .i64 0, .int .i64 0, .int .i64 0, .bool false, .int .i64 0, .slice none 0 0, .slice none 0 0, .bool false, .int .i64 0, .slice none 0 0, .slice none 0 0, .int .i64 0, .slice none 0 0] rfl bN
   have hSF : WF.cell? ⟨w.heap.size, 1, none⟩ = some (.int .i64 r.tx) ∧ WF.cell? ⟨w.heap.size, 2, none⟩ = some (.int .i64 r.prev) ∧ WF.cell? ⟨w.heap.size, 4, none⟩ = some (.int .i64 r.oid) ∧ WF.cell? ⟨w.heap.size, 5, none⟩ = some (.bool r.bf.v.has) ∧ WF.cell? ⟨w.heap.size, 6, none⟩ = some (.int .i64 r.bf.v.o.kind) ∧ WF.cell? ⟨w.heap.size, 7, none⟩ = some (.slice r.bf.aI r.bf.v.o.ints.length r.bf.cI) ∧ WF.cell? ⟨w.heap.size, 8, none⟩ = some (.slice r.bf.aR r.bf.v.o.refs.length r.bf.cR) := HS.out _ (HX.out _ ((hb1.trans (hB1.mono hb1.size)).trans (hwF.below (by have := hb1.size; omega) (by have := hb1.size; omega))))
   refine wpAnyH_ready (rs := [13]) (by kernel_rfl) (by simp) ?_
   refine AllReadyH.cons rfl (fun K hK => ?_) AllReadyH.nil
   rw [if_pos (by rfl)]
   refine wp_store_mid 39 (.tmp 7) (.tmp 28) rfl (w1.heap.size) 0 (backA n r.tx p r.oid t r.prev).cells.toArray rfl rfl HTF.out (by rw [List.size_toArray]; exact rec_info _) (rec_one _) ?_
   have HW : Hid ((u1).setCells (w1.heap.size) 0 (backA n r.tx p r.oid t r.prev).cells.toArray.toList = WF) := hWF.out
   rw [HW.out]
   refine hK.out _ _ hSF (fun hHeld => ?_)
   refine wpAnyH_done (by kernel_rfl) ?_ _
   have hRel : Hid (Below w1.heap.size w1 WF ∧ t.own WF w1.heap.size WF.heap.size) := ⟨hB1.trans (hwF.below (by omega) (by omega)), OwnO.widen (OwnO.within ho hwF (by omega)) (by first | omega | exact Nat.le_refl _) (by omega) (Nat.le_refl _)⟩
   clear hHeld hK K HW hWF hwF HTF hSF
   go_wp2_with fail
   go_meet
   case rel => exact ⟨w1.heap.size, t, rfl, hv, bF, hRel.out.2, hRel.out.1⟩
 case rest =>
  obtain ⟨B7, t, rfl, hv, b7, ho, hbc⟩ := hcut
  have M4 : Below W.heap.size W wc := hb1.trans (hbc.mono hb1.size)
  have B4 : Below w.heap.size w wc := B1.trans (hbc.mono B1.size)
  have hsc := hbc.size
  have hB1s := B1.size
  have HTV : Hid ((backA n r.tx p r.oid t r.prev).v = backV r.v n p) := by simp only [Hid, RecA.v, backA, backV, hv.out]; rfl
  have hts : (backA n r.tx p r.oid t r.prev).short 1099511627776 := ⟨⟨Nat.zero_le _, Nat.zero_le _⟩, by rw [show (backA n r.tx p r.oid t r.prev).af = t from rfl, hv.out]; exact hl.bf, Nat.zero_le _⟩
  have hto : (backA n r.tx p r.oid t r.prev).own wc w1.heap.size wc.heap.size := own_backA _ _ _ _ _ ho (Nat.le_refl _)
  generalize backA n r.tx p r.oid t r.prev = T at *
  have C6 := specRecOk_any T wc hto.reads hts
  rw [HTV.out] at C6
  have HR5 : Hid (∀ u, Below wc.heap.size wc u → u.rangeAt B7 0 T.cells) := fun u hu => Box.range [] T.cells [] (by simpa using b7.below hu b7.lt)
  have r5 := HR5.out _ (Below.refl _ _)
  clear k3 hk
  go_wp2_with (first | (guard_target = wpList _ _ _ (Oper.mk (some 29) _ _ _ _ _ :: _) _ _; refine wpList_load_mid rfl 39 (.tmp 7) rfl B7 0 rfl T.cells _ r5 Tryz.underlying39 rfl (rec_info _) ?_) | fail)
  clear r5
  refine C6.mono ?_
  clear C6
  rintro e w6 ⟨rfl, hb6⟩
  have M6 : Below W.heap.size W w6 := M4.trans (hb6.mono M4.size)
  have B6 : Below w.heap.size w w6 := B4.trans (hb6.mono B4.size)
  have hs6 := hb6.size
  cases hok6 : okR (backV r.v n p) with
  | false =>
   have HR : Hid (zeroR.v = R) := (HU2.out hok6).symm
   obtain ⟨WF, hWF, hwF, hsF, HTF, HLF, _⟩ := rec_out zeroR _ rfl (HX1.out _ M6)
   have HE : Hid (zeroR.own WF w.heap.size WF.heap.size ∧ Below w.heap.size w WF) := ⟨own_zeroR _ _ _ (Nat.le_refl _), B6.trans (hwF.below (by omega) (by omega))⟩
   clear hwF hsF HU2 HU5 hok6
   go_wp2_with (first | (guard_target = wpList _ _ _ (Oper.mk none (Op.store _ (Operand.tmp 6) _) _ _ _ _ :: _) _ _; refine wpList_store_mid rfl 39 (.tmp 6) (.tmp 32) rfl (w.heap.size + 1) 0 zeroR.cells.toArray rfl rfl HTF.out (by rw [List.size_toArray]; exact rec_info _) (rec_one _) ?_) | fail)
   rw [hWF.out]
   exact bodyPost_ret (v := .agg zeroR.cells.toArray) (results_one Tryz.results129 rfl HLF.out) rfl ⟨zeroR, rfl, HR, HE.out.1, HE.out.2⟩
  | true =>
   have HR : Hid (T.v = R) := HTV.out.trans (HU5.out hok6).symm
   obtain ⟨WF, hWF, hwF, hsF, HTF, HLF, _⟩ := rec_out T _ rfl (HX1.out _ M6)
   have oF : T.own WF w.heap.size WF.heap.size := ((hto.below hb6).within hwF (.inr (by omega))).widen (by omega) (by omega) (Nat.le_refl _)
   have HE : Hid (T.own WF w.heap.size WF.heap.size ∧ Below w.heap.size w WF) := ⟨oF, B6.trans (hwF.below (by omega) (by omega))⟩
   have r6 := HR5.out _ hb6
   clear hwF hsF HU2 HU5 hok6 oF
   go_wp2_with (first | (guard_target = wpList _ _ _ (Oper.mk (some 33) _ _ _ _ _ :: _) _ _; refine wpList_load_mid rfl 39 (.tmp 7) rfl B7 0 rfl T.cells _ r6 Tryz.underlying39 rfl (rec_info _) ?_) | (guard_target = wpList _ _ _ (Oper.mk none (Op.store _ (Operand.tmp 6) _) _ _ _ _ :: _) _ _; refine wpList_store_mid rfl 39 (.tmp 6) (.tmp 33) rfl (w.heap.size + 1) 0 T.cells.toArray rfl rfl HTF.out (by rw [List.size_toArray]; exact rec_info _) (rec_one _) ?_) | fail)
   rw [hWF.out]
   exact bodyPost_ret (v := .agg T.cells.toArray) (results_one Tryz.results129 rfl HLF.out) rfl ⟨T, rfl, HR, HE.out.1, HE.out.2⟩
end Go.Proofs.YtoboickdkednkaaGreatDoor
namespace Go.Proofs.YtoboickdkednkaaGreatDoor
open Go.RowKit
attribute [local go_sem ↓] Go.wp_at_zero Go.wp_at_succ
def ShortV (r : RecV) : Prop := (r.bf.o.ints.length ≤ 1099511627776 ∧ r.bf.o.refs.length ≤ 1099511627776) ∧ (r.af.o.ints.length ≤ 1099511627776 ∧ r.af.o.refs.length ≤ 1099511627776) ∧ r.txs.length ≤ 1099511627776
structure LogGood (e : EngV) : Prop where
 prev : ∀ i, i < e.log.recs.length → ∃ p : Nat, (e.log.recs.getD i zeroR.v).prev = p ∧ p ≤ i
 short : ∀ r ∈ e.log.recs, ShortV r
theorem short_rec {r : RecA} (h : ShortV r.v) : r.short 1099511627776 := ⟨h.1, h.2.1, h.2.2⟩
theorem LogGood.snoc {e e' : EngV} {r : RecV} (h : LogGood e) (he : e'.log.recs = e.log.recs ++ [{ r with lsn := (e.log.recs.length : Int) + 1 }]) (hp : ∃ p : Nat, r.prev = p ∧ p ≤ e.log.recs.length) (hs : ShortV r) : LogGood e' := by
 obtain ⟨y, hy⟩ : ∃ y : RecV, ({ r with lsn := (e.log.recs.length : Int) + 1 } : RecV) = y := ⟨_, rfl⟩
 have hyp : y.prev = r.prev := by rw [← hy]
 have hys : ShortV y := by rw [← hy]; exact hs
 rw [hy] at he
 refine ⟨fun i hi => ?_, fun x hx => ?_⟩
 ·rw [he, List.length_append, List.length_singleton] at hi
  by_cases h1 : i < e.log.recs.length
  ·have e1 : e'.log.recs.getD i zeroR.v = e.log.recs.getD i zeroR.v := by rw [he]; simp [List.getD, List.getElem?_append_left h1]
   rw [e1]
   exact h.prev i h1
  ·have h2 : i = e.log.recs.length := by omega
   have e1 : e'.log.recs.getD i zeroR.v = y := by rw [he, h2]; simp [List.getD]
   rw [e1, hyp, h2]
   exact hp
 ·rw [he] at hx
  rcases List.mem_append.1 hx with h1 | h1
  ·exact h.short x h1
  ·rw [List.mem_singleton.1 h1]; exact hys
theorem undo_oid (r : RecV) (n p : Int) : ∃ m : Nat, (undoV r n p).oid = m ∧ m < 32 := by
 unfold undoV
 split
 ·next h =>
  have hb := okR_bd h.2.2
  exact ⟨(backV r n p).oid.toNat, by have := hb.oid; omega, by have := hb.oid; omega⟩
 ·exact ⟨0, rfl, by omega⟩
theorem undo_short {r : RecV} {n p : Int} (h : ShortV r) : ShortV (undoV r n p) := by
 unfold undoV
 split
 ·exact ⟨⟨Nat.zero_le _, Nat.zero_le _⟩, h.1, Nat.zero_le _⟩
 ·exact ⟨⟨Nat.zero_le _, Nat.zero_le _⟩, ⟨Nat.zero_le _, Nat.zero_le _⟩, Nat.zero_le _⟩
theorem undo_prev (r : RecV) (n : Int) (l : Nat) {m : Nat} (h : l ≤ m) : ∃ p : Nat, (undoV r n l).prev = p ∧ p ≤ m := by
 unfold undoV
 split
 ·exact ⟨l, rfl, h⟩
 ·exact ⟨0, rfl, Nat.zero_le _⟩
def undoLoop : Nat → EngV → Int → Int → EngV × Int
 | 0, e, _, last => (e, last)
 | n + 1, e, at_, last =>
  if 0 < at_ then
   let r := e.log.recs.getD (at_ - 1).toNat zeroR.v
   if r.kind = 1 then
    let u := undoV r ((e.log.recs.length : Int) + 1) last
    undoLoop n (applyV (logV e u) u.oid.toNat u.af ((e.log.recs.length : Int) + 1)) r.prev ((e.log.recs.length : Int) + 1)
   else undoLoop n e r.prev last
  else (e, last)
theorem undoLoop_zero (n : Nat) (e : EngV) (l : Int) : undoLoop n e 0 l = (e, l) := by cases n <;> rfl
def abortV (e : EngV) (tx : Int) : EngV :=
 let e1 := logV e (recV tx (lastOf e.log.recs tx) 3)
 let x := undoLoop e.log.recs.length e1 (lastOf e.log.recs tx) ((e.log.recs.length : Int) + 1)
 endsV (logV x.1 (recV tx x.2 5)) tx
theorem last_le (tx : Int) (rs : List RecV) (k : Nat) : ∃ m : Nat, lastFrom tx rs k = m ∧ m ≤ k := by
 induction k with
 | zero => exact ⟨0, rfl, Nat.le_refl _⟩
 | succ k ih =>
  rw [lastFrom]
  split
  ·exact ⟨k + 1, rfl, Nat.le_refl _⟩
  ·obtain ⟨m, h1, h2⟩ := ih
   exact ⟨m, h1, by omega⟩
theorem l7Abort_any (E : Nat) (e : EngA) (tx : Int) (w : World) (h : EngAt w E e) (hp : e.v.poolOk) (hg : LogGood e.v) (hlen : 2 * e.log.recs.length + 3 ≤ 68719476736) (hT : e.txs.length ≤ 68719476736) (hH : e.holds.length ≤ 68719476736) :
  Calls Tryz.prog 116 #[.pointer (some ⟨E, 0, none⟩), .int .i64 tx] w fun r w' => (∃ v, r = .returned v) ∧ ∃ e', Hid (e'.v = abortV e.v tx) ∧ EngStep E e w e' w' := by
 have HI : Hid ((Tryz.prog.info? 26).map (·.size) = some e.log.cells.length) := log_info e.log
 have r0 := h.rangeLog
 have C0 := l7Last_any e.log tx w h.own.log.reads (by omega)
 obtain ⟨m0, hm0, hm0l⟩ := last_le tx (e.log.recs.map RecA.v) (e.log.recs.map RecA.v).length
 have HM0 : Hid (lastOf (e.log.recs.map RecA.v) tx = (m0 : Int)) := hm0
 rw [List.length_map] at hm0l
 rw [HM0.out] at C0
 clear hm0
 go_enter Tryz.func116, Tryz.ntmps116
 go_wp2_with (first | (guard_target = wpList _ _ _ (Oper.mk (some 11) _ _ _ _ _ :: _) _ _; refine wpList_load_mid rfl 26 (.tmp 10) rfl E 138 rfl e.log.cells _ r0 Tryz.underlying26 rfl HI.out ?_) | fail)
 refine C0.mono ?_
 clear C0 r0 HI
 rintro r w1 ⟨rfl, hb1⟩
 have a1 := h.below hb1
 have C1 := l7Log_any E e (recE tx m0 3) w1 a1 (recE_own _ _ _ _ _ _ (Nat.le_refl _)) (by simp [recE_blocks]) (by simp [recE_blocks]) (by omega) (by omega)
 go_wp2_with (first | (guard_target = wpList _ _ _ (Oper.mk (some 17) _ _ _ _ _ :: _) _ _; refine build_rec3 (.tmp 15) (.tmp 16) tx m0 3 rfl rfl ?_) | fail)
 refine C1.mono ?_
 clear C1
 rintro r w2 ⟨rfl, e2, he2, ha2, m2⟩
 have S2 : EngStep E e w e2 w2 := EngStep.after hb1 m2.plain
 have HE2 : Hid (e2.v = logV e.v (recV tx m0 3)) := he2.out
 have hl2 : e2.log.recs.length = e.log.recs.length + 1 := by rw [ha2.out.2.2]; simp
 have HG2 : Hid (e2.v.poolOk ∧ LogGood e2.v ∧ e2.txs.length = e.txs.length ∧ e2.holds = e.holds) := by
  refine ⟨by rw [he2.out]; exact log_ok _ hp _, ?_, by rw [v_txs he2.out]; simp only [logV]; rw [lastV_len]; rfl, by rw [v_holds he2.out]; rfl⟩
  refine hg.snoc (r := recV tx m0 3) (by rw [he2.out]; rfl) ⟨m0, rfl, by show m0 ≤ (e.log.recs.map RecA.v).length; rw [List.length_map]; exact hm0l⟩ ⟨⟨Nat.zero_le _, Nat.zero_le _⟩, ⟨Nat.zero_le _, Nat.zero_le _⟩, Nat.zero_le _⟩
 obtain ⟨R, hR⟩ : ∃ R, Hid (undoLoop e.log.recs.length e2.v m0 ((e.log.recs.length : Int) + 1) = R) := ⟨_, rfl⟩
 have hRR : Hid (undoLoop e.log.recs.length e2.v m0 ((e.log.recs.length : Int) + 1) = R) := hR
 clear he2 ha2 m2
 go_wp2_with fail
 go_loopg [4, 5] e.log.recs.length (fun n v4 v5 wr => ∃ (e1 : EngA) (m l : Nat), v4 = .int .i64 m ∧ v5 = .int .i64 l ∧ m ≤ n ∧ m ≤ e1.log.recs.length ∧ l ≤ e1.log.recs.length ∧ e1.log.recs.length + n + 1 ≤ 68719476736 ∧ e1.v.poolOk ∧ LogGood e1.v ∧ e1.txs.length = e.txs.length ∧ e1.holds = e.holds ∧ Hid (undoLoop n e1.v m l = R) ∧ EngStep E e w e1 wr)
 case atStart => exact ⟨e2, m0, e.log.recs.length + 1, rfl, by go_num, by omega, by omega, by omega, by omega, HG2.out.1, HG2.out.2.1, HG2.out.2.2.1, HG2.out.2.2.2, hR, S2⟩
 case round =>
  obtain ⟨e1, m, l, rfl, rfl, hmn, hml, hll, hnl, hok, hgood, htx, hho, hUL, S1⟩ := hrel
  clear HG2 hR S2 hl2
  cases m with
  | zero =>
   have HRR : Hid (R = (e1.v, (l : Int))) := by rw [Hid, ← hUL.out]; exact undoLoop_zero gk e1.v l
   have C9 := l7Log_any E e1 (recE tx l 5) wr S1.at' (recE_own _ _ _ _ _ _ (Nat.le_refl _)) (by simp [recE_blocks]) (by simp [recE_blocks]) (by omega) (by omega)
   clear hUL
   go_wp2_with (first | (guard_target = wpList _ _ _ (Oper.mk (some 58) _ _ _ _ _ :: _) _ _; refine build_rec3 (.tmp 56) (.tmp 57) tx l 5 rfl rfl ?_) | fail)
   refine C9.mono ?_
   clear C9
   rintro r w9 ⟨rfl, e9, he9, _, m9⟩
   have S9 := S1.trans m9.plain
   have C10 := l7Ends_any E e9 tx w9 S9.at' (by rw [v_txs he9.out]; simp only [logV]; rw [lastV_len]; show e1.txs.length ≤ _; rw [htx]; exact hT) (by rw [v_holds he9.out]; show e1.holds.length ≤ _; rw [hho]; exact hH)
   go_wp2_with fail
   refine C10.mono ?_
   clear C10
   rintro r w10 ⟨⟨v10, rfl⟩, e10, he10, _, s10⟩
   have HEND : Hid (e10.v = abortV e.v tx) := by
    have e3 : lastOf e.v.log.recs tx = (m0 : Int) := HM0.out
    have e4 : (e.v.log.recs.length : Int) = (e.log.recs.length : Int) := by simp [EngA.v, LogA.v]
    have e5 : e.v.log.recs.length = e.log.recs.length := by simp [EngA.v, LogA.v]
    rw [Hid, he10.out, he9.out]
    unfold abortV
    simp only
    rw [e3, e5, ← HE2.out, hRR.out, HRR.out]
    rfl
   have S10 := S9.trans s10
   clear he9 he10 s10 m9 S9 HRR hRR
   go_wp2
   go_end0
   exact ⟨⟨_, rfl⟩, e10, HEND, S10⟩
  | succ m =>
   cases gk with
   | zero => exact absurd hmn (Nat.not_succ_le_zero _)
   | succ n =>
   have hm : m < e1.log.recs.length := by omega
   have a1 := S1.at'
   obtain ⟨b, off, ha, hcell⟩ := a1.own.log.reads (by intro e3; rw [e3] at hm; simp at hm)
   have r3 := (hcell m hm).1
   have rdz := (hcell m hm).2
   clear hcell
   have x0 : wr.cell? ⟨E, 138, none⟩ = some (.slice (some ⟨b, off, none⟩) e1.log.recs.length e1.log.c) := by rw [← ha]; exact EngA.cell_at a1.shape a1.box 2 _ rfl
   have hzv : e1.v.log.recs.getD m zeroR.v = (e1.log.recs.getD m zeroR).v := recV_at e1.log.recs m
   have hvl : e1.v.log.recs.length = e1.log.recs.length := by simp [EngA.v, LogA.v]
   have hprev : ∃ p : Nat, (e1.log.recs.getD m zeroR).prev = p ∧ p ≤ m := by
    have h1 := hgood.prev m (by rw [hvl]; exact hm)
    rw [hzv] at h1
    exact h1
   have hshz : ShortV (e1.log.recs.getD m zeroR).v := hgood.short _ (List.mem_map_of_mem (recD_mem e1.log.recs m hm))
   have HUL0 : Hid ((if (e1.log.recs.getD m zeroR).v.kind = 1 then undoLoop n (applyV (logV e1.v (undoV (e1.log.recs.getD m zeroR).v ((e1.log.recs.length : Int) + 1) l)) (undoV (e1.log.recs.getD m zeroR).v ((e1.log.recs.length : Int) + 1) l).oid.toNat (undoV (e1.log.recs.getD m zeroR).v ((e1.log.recs.length : Int) + 1) l).af ((e1.log.recs.length : Int) + 1)) (e1.log.recs.getD m zeroR).v.prev ((e1.log.recs.length : Int) + 1) else undoLoop n e1.v (e1.log.recs.getD m zeroR).v.prev l) = R) := by
    have h1 := hUL.out
    rw [undoLoop, if_pos (by omega), show (((m + 1 : Nat) : Int) - 1).toNat = m by omega] at h1
    simp only [hzv, hvl] at h1
    exact h1
   generalize e1.log.recs.getD m zeroR = z at *
   clear hUL hzv hvl ha
   obtain ⟨W3, hW3, b3, hb3, hs3⟩ := boxes1 wr zeroR.cells 39
   obtain ⟨W4, hW4, hw4, hs4, HT4, _, bR⟩ := rec_out z _ rfl b3
   have hW3' : Hid (wr.alloc (.cells #[.int .i64 0, .int .i64 0, .int .i64 0, .int .i64 0, .int .i64 0, .bool false, .int .i64 0, .slice none 0 0, .slice none 0 0, .bool false, .int .i64 0, .slice none 0 0, .slice none 0 0, .int .i64 0, .slice none 0 0] 39) = W3) := hW3.out
   have hW4' : Hid (W3.setCells wr.heap.size 0 z.cells.toArray.toList = W4) := hW4.out
   have N4 : Below wr.heap.size wr W4 := hb3.trans (hw4.below (Nat.le_refl _) (by omega))
   have HI : Hid ((Tryz.prog.info? 39).map (·.size) = some z.cells.length) := rec_info z
   have HO4 := rec_one z
   have hmm : (m : Int) < (e1.log.recs.length : Int) := by omega
   have hm0' : (0 : Int) ≤ (m : Int) := by omega
   have hsW := S1.size
   have hRlt : wr.heap.size < W4.heap.size := bR.lt
   clear hW3 hW4 hs3 hs4 hw4 hb3 b3
   go_upto_region 4 with (first | (guard_target = wpList _ _ _ (Oper.mk (some 29) _ _ _ _ _ :: _) _ _; refine wpList_load_mid rfl 39 (.tmp 28) rfl b (off + m * 15) rfl z.cells _ r3 Tryz.underlying39 rfl HI.out ?_) | (guard_target = wpList _ _ _ (Oper.mk none (Op.store _ (Operand.tmp 6) _) _ _ _ _ :: _) _ _; refine wpList_store_mid rfl 39 (.tmp 6) (.tmp 29) rfl wr.heap.size 0 z.cells.toArray rfl rfl (by rw [hW3'.out]; exact HT4.out) HI.out HO4 ?_; rw [hW3'.out, hW4'.out]) | fail)
   clear hW3' hW4' HT4 HO4 r3 x0
   have x4 := bR.cell 3 _ (show z.cells[3]? = some (.int .i64 z.kind) from rfl)
   by_cases hk1 : z.kind = 1
   ·have hkb : (z.kind == 1) = true := by simpa using hk1
    have HUL : Hid (undoLoop n (applyV (logV e1.v (undoV z.v ((e1.log.recs.length : Int) + 1) l)) (undoV z.v ((e1.log.recs.length : Int) + 1) l).oid.toNat (undoV z.v ((e1.log.recs.length : Int) + 1) l).af ((e1.log.recs.length : Int) + 1)) z.prev ((e1.log.recs.length : Int) + 1) = R) := by
     have h1 := HUL0.out
     rw [if_pos (show z.v.kind = 1 from hk1)] at h1
     exact h1
    clear HUL0 hk1
    go_upto_region 5 with fail
    clear x4
    have hoffR : Off E e1 wr.heap.size := S1.at'.new (Nat.le_refl _)
    have HSS : Hid (∀ u, EngAt u E e1 → Box u wr.heap.size z.cells 39 → u.rangeAt wr.heap.size 0 z.cells ∧ u.cell? ⟨E, 138, none⟩ = some (.slice e1.log.a e1.log.recs.length e1.log.c)) := fun u hu hbu => ⟨Box.range [] z.cells [] (by simpa using hbu), EngA.cell_at hu.shape hu.box 2 _ rfl⟩
    have ND : Below W4.heap.size W4 W4.drew := (Below.refl _ _).drew
    refine wp_region_held_drew (S := fun w' => w'.rangeAt wr.heap.size 0 z.cells ∧ w'.cell? ⟨E, 138, none⟩ = some (.slice e1.log.a e1.log.recs.length e1.log.c)) (by kernel_rfl) ?_ (fun hHeld => ?_)
    ·exact HSS.out _ ((S1.at'.below N4).below ND) (bR.below ND bR.lt)
    refine tk 0 rfl (yieldsIf_load_mid (by rfl) _ _ rfl _ _ rfl z.cells _ (fun _ h => h.1) Tryz.underlying39 rfl HI.out) hHeld ?_
    try simp only [Act.put, zA, zB, zD, zE, zF]
    refine tk 1 (v := .pointer (some ⟨E, 0, none⟩)) rfl (Or.inl ⟨by rfl, ?_⟩) hHeld ?_
    ·intro w' hSw
     go_simp <;> rfl
    try simp only [Act.put, zA, zB, zC, zD, zE, zF]
    refine tk 2 (v := .pointer (some ⟨E, 0, none⟩)) rfl (Or.inl ⟨by rfl, ?_⟩) hHeld ?_
    ·intro w' hSw
     go_simp <;> rfl
    try simp only [Act.put, zA, zB, zC, zD, zE, zF]
    refine tk 3 (v := .pointer (some ⟨E, 138, none⟩)) rfl (Or.inl ⟨by rfl, ?_⟩) hHeld ?_
    ·intro w' hSw
     go_simp <;> rfl
    try simp only [Act.put, zA, zB, zC, zD, zE, zF]
    refine tk 4 (v := .pointer (some ⟨E, 138, none⟩)) rfl (Or.inl ⟨by rfl, ?_⟩) hHeld ?_
    ·intro w' hSw
     go_simp <;> rfl
    try simp only [Act.put, zA, zB, zC, zD, zE, zF]
    refine tk 5 (v := .slice e1.log.a e1.log.recs.length e1.log.c) rfl (Or.inl ⟨by rfl, ?_⟩) hHeld ?_
    ·intro w' hSw
     have hx := hSw.2
     go_simp <;> rfl
    try simp only [Act.put, zA, zB, zC, zD, zE, zF]
    refine tk 6 (v := .int .i64 (e1.log.recs.length : Int)) rfl (Or.inl ⟨by rfl, ?_⟩) hHeld ?_
    ·intro w' hSw
     go_simp <;> rfl
    try simp only [Act.put, zA, zB, zC, zD, zE, zF]
    have hwr : IntKind.i64.wrap ((e1.log.recs.length : Int) + 1) = (e1.log.recs.length : Int) + 1 := by rw [IntKind.wrap_i64]; omega
    refine tk 7 (v := .int .i64 ((e1.log.recs.length : Int) + 1)) rfl (Or.inl ⟨by rfl, ?_⟩) hHeld ?_
    ·intro w' hSw
     go_simp <;> rfl
    try simp only [Act.put, zA, zB, zC, zD, zE, zF]
    clear hwr
    refine tk 8 (v := .int .i64 l) rfl (Or.inl ⟨by rfl, ?_⟩) hHeld ?_
    ·intro w' hSw
     go_simp <;> rfl
    try simp only [Act.put, zA, zB, zC, zD, zE, zF]
    refine wpAnyH_ready (rs := [9, 10]) (by kernel_rfl) (by simp) ?_
    refine AllReadyH.cons rfl (fun K hK => ?_) (AllReadyH.cons rfl (fun K hK => ?_) AllReadyH.nil)
    ·have S4 : EngStep E e w e1 W4.drew := (S1.below N4).below ND
     have bR4 := bR.below ND bR.lt
     have C5 := specUndoOf_any z ((e1.log.recs.length : Int) + 1) l W4.drew (rdz.below (N4.trans (ND.mono N4.size))) (short_rec hshz)
     have hs4 : W4.heap.size ≤ W4.drew.heap.size := ND.size
     go_simp
     refine C5.mono ?_
     clear C5
     rintro r w5 ⟨u, rfl, huv, ou, hb5⟩
     have S5 := S4.below hb5
     have bR5 := bR4.below hb5 bR4.lt
     have hs45 := hb5.size
     refine hK.out _ _ (HSS.out _ S5.at' bR5) (fun hHeld => ?_)
     clear hK K
     try simp only [Act.put, zA, zB, zC, zD, zE, zF]
     obtain ⟨W6, hW6, b6, hb6, hs6⟩ := boxes1 w5 zeroR.cells 39
     have hW6' : Hid (w5.alloc (.cells #[.int .i64 0, .int .i64 0, .int .i64 0, .int .i64 0, .int .i64 0, .bool false, .int .i64 0, .slice none 0 0, .slice none 0 0, .bool false, .int .i64 0, .slice none 0 0, .slice none 0 0, .int .i64 0, .slice none 0 0] 39) = W6) := hW6.out
     have S6' := S5.below hb6
     have bR6' := bR5.below hb6 bR5.lt
     refine wpAnyH_ready (rs := [10]) (by kernel_rfl) (by simp) ?_
     refine AllReadyH.cons rfl (fun K hK => ?_) AllReadyH.nil
     go_simp
     rw [hW6'.out]
     refine hK.out _ _ (HSS.out _ S6'.at' bR6') (fun hHeld => ?_)
     clear hK K
     try simp only [Act.put, zA, zB, zC, zD, zE, zF]
     obtain ⟨w6, hw6, hww6, hs66, HT6, _, bU6⟩ := rec_out u _ rfl b6
     have hoffX : Off E e1 w5.heap.size := S5.at'.new (Nat.le_refl _)
     have S6 : EngStep E e w e1 w6 := EngStep.put S6' hww6 hoffX (by have := S5.size; omega)
     have bR6 := bR6'.within hww6 (by omega)
     have ou6 : u.own w6 0 w6.heap.size := ((ou.below hb6).within hww6 (.inl (Nat.le_refl _))).widen (Nat.zero_le _) (by omega) (Nat.le_refl _)
     have huB : ∀ i ∈ u.blocks, W4.heap.size ≤ i ∧ i < w5.heap.size := fun i hi => ou.blocks_lt i hi
     have huE : ∀ i ∈ u.blocks, i ∉ e1.blocks := fun i hi hm1 => by have := (huB i hi).1; have := S1.at'.lt i hm1; omega
     have huN : E ∉ u.blocks := fun hi => by have := (huB E hi).1; have := S1.at'.box.lt; omega
     have huW : ∀ i ∈ u.blocks, w.heap.size ≤ i := fun i hi => by have := (huB i hi).1; omega
     have hXu : w5.heap.size ∉ u.blocks := fun hi => by have := (huB _ hi).2; omega
     have hRu : wr.heap.size ∉ u.blocks := fun hi => by have := (huB _ hi).1; omega
     have hw6' : Hid (W6.setCells w5.heap.size 0 u.cells.toArray.toList = w6) := hw6.out
     refine wpAnyH_ready (rs := [11]) (by kernel_rfl) (by simp) ?_
     refine AllReadyH.cons rfl (fun K hK => ?_) AllReadyH.nil
     rw [if_pos (by rfl)]
     refine wp_store_mid 39 (.tmp 7) (.tmp 42) rfl w5.heap.size 0 u.cells.toArray rfl rfl HT6.out (rec_info u) (rec_one u) ?_
     rw [hw6'.out]
     refine hK.out _ _ (HSS.out _ S6.at' bR6) (fun hHeld => ?_)
     clear hK K
     try simp only [Act.put, zA, zB, zC]
     refine wpAnyH_done (by kernel_rfl) ?_ _
     clear hHeld hw6' hw6 hww6 hs66 HT6 S6' bR6' b6 hb6 hs6 hW6 hW6' S5 bR5 S4 bR4 ou hb5
     generalize w5.heap.size = X at *
     have HUO := undo_oid z.v ((e1.log.recs.length : Int) + 1) (l : Int)
     rw [← huv.out] at HUO
     obtain ⟨od, hod, hod32⟩ := HUO
     have hod' : u.oid = (od : Int) := hod
     have HUS : Hid (ShortV u.v) := by rw [Hid, huv.out]; exact undo_short hshz
     have C6 := l7Log_any E e1 u w6 S6.at' ou6 huE huN (by omega) (by omega)
     have r6 := Box.range [] u.cells [] (by simpa using bU6)
     go_wp2_with (first | (guard_target = wpList _ _ _ (Oper.mk (some 44) _ _ _ _ _ :: _) _ _; refine wpList_load_mid rfl 39 (.tmp 7) rfl X 0 rfl u.cells _ r6 Tryz.underlying39 rfl (rec_info u) ?_) | fail)
     refine C6.mono ?_
     clear C6 r6
     rintro r w7 ⟨rfl, e7, he7, ha7, m7⟩
     have bU7 := m7.boxes bU6 hoffX hXu
     have bR7 := m7.boxes bR6 hoffR hRu
     have S7 : EngStep E e w e7 w7 := EngMore.step S6 m7 (fun i hi => huW i hi)
     have hok7 : e7.v.poolOk := by rw [he7.out]; exact log_ok _ hok _
     have hl7 : e7.log.recs.length = e1.log.recs.length + 1 := by rw [ha7.out.2.2]; simp
     obtain ⟨k7, hk7a, hk7b, _⟩ := fetch_seat e7.v hok7 (od / 4)
     have hfu : Fit [u.af] := fun y hy => by rw [List.mem_singleton.1 hy]; exact HUS.out.2.1
     have CA := l7Apply_any E e7 od u.af ((e1.log.recs.length : Int) + 1) w7 S7.at' hok7 hod32 (fun v e' hv hrecs _ => by
      have h1 := hv.own.log.each { u with lsn := (e1.log.recs.length : Int) + 1 } (by rw [hrecs, ha7.out.2.2]; simp)
      exact OwnO.reads h1.af) hfu ⟨k7, hk7a, hk7b⟩
     have x7 := bU7.cell 4 _ (show u.cells[4]? = some (.int .i64 u.oid) from rfl)
     rw [hod'] at x7
     have r7 : w7.rangeAt X 9 u.af.cells := by
      have h1 : Box w7 X ([.int .i64 u.lsn, .int .i64 u.tx, .int .i64 u.prev, .int .i64 u.kind, .int .i64 u.oid, .bool u.bf.v.has, .int .i64 u.bf.v.o.kind, .slice u.bf.aI u.bf.v.o.ints.length u.bf.cI, .slice u.bf.aR u.bf.v.o.refs.length u.bf.cR] ++ (u.af.cells ++ [.int .i64 u.next, .slice u.aL u.txs.length u.cL])) 39 := bU7
      exact Box.range _ _ _ h1
     have HE7 : Hid (e7.v = logV e1.v u.v) := he7.out
     clear he7 hk7a hk7b hfu
     go_wp2_with (first | (guard_target = wpList _ _ _ (Oper.mk (some 50) _ _ _ _ _ :: _) _ _; refine wpList_load_mid rfl 36 (.tmp 49) rfl X 9 rfl u.af.cells _ r7 Tryz.underlying36 rfl (slot_info u.af) ?_) | fail)
     refine CA.mono ?_
     clear CA r7 x7
     rintro r w8 ⟨⟨v8, rfl⟩, e8, he8, hr8, s8⟩
     have hoffR7 := m7.off bR6.lt hoffR hRu
     have bR8 := s8.boxes bR7 hoffR7
     have S8 := S7.trans s8
     have x8 := bR8.cell 2 _ (show z.cells[2]? = some (.int .i64 z.prev) from rfl)
     have HV8 : Hid (e8.v = applyV (logV e1.v (undoV z.v ((e1.log.recs.length : Int) + 1) l)) od (undoV z.v ((e1.log.recs.length : Int) + 1) l).af ((e1.log.recs.length : Int) + 1)) := by
      rw [Hid, he8.out, HE7.out, ← huv.out]
      rfl
     have HOD : Hid ((undoV z.v ((e1.log.recs.length : Int) + 1) l).oid.toNat = od) := by rw [Hid, ← huv.out, show u.v.oid = (od : Int) from hod, Int.toNat_natCast]
     obtain ⟨pv, hpv, hpvm⟩ := hprev
     rw [hpv] at x8
     have HG8 : Hid (e8.v.poolOk ∧ LogGood e8.v ∧ e8.txs.length = e.txs.length ∧ e8.holds = e.holds ∧ e8.log.recs.length = e1.log.recs.length + 1) := by
      refine ⟨?_, ?_, ?_, ?_, by rw [hr8.out]; exact hl7⟩
      ·rw [he8.out]
       exact apply_ok _ hok7 od hod32 _ (fun y hy => by rw [List.mem_singleton.1 hy]; exact HUS.out.2.1) _
      ·have e9 : e8.v.log.recs = e1.v.log.recs ++ [{ u.v with lsn := (e1.v.log.recs.length : Int) + 1 }] := by
        rw [he8.out, (apply_rest e7.v od u.af.v _).2.2.1, HE7.out]; rfl
       exact hgood.snoc e9 (by rw [huv.out]; exact undo_prev z.v _ l (by show l ≤ (e1.log.recs.map RecA.v).length; rw [List.length_map]; exact hll)) HUS.out
      ·rw [v_txs he8.out, (apply_rest e7.v od u.af.v _).1, HE7.out]; simp only [logV]; rw [lastV_len]; exact htx
      ·rw [v_holds he8.out, (apply_rest e7.v od u.af.v _).2.1, HE7.out]; exact hho
     have HR8 : Hid (undoLoop n e8.v pv ((e1.log.recs.length : Int) + 1) = R) := by
      rw [Hid, ← HUL.out, HV8.out, HOD.out, hpv]
     have hl8 := HG8.out.2.2.2.2
     clear he8 HE7 HV8 HOD S7 s8 bR7 bU7 m7 hok7 ha7 hod hod' hpv
     go_wp2_with fail
     go_roundg n
     case measure => omega
     case rel => exact ⟨e8, pv, e1.log.recs.length + 1, by go_num, by go_num, by omega, by omega, by omega, by omega, HG8.out.1, HG8.out.2.1, HG8.out.2.2.1, HG8.out.2.2.2.1, HR8, S8⟩
    ·obtain ⟨V6, hV6, b6', hb6', hs6⟩ := boxes1 W4 zeroR.cells 39
     have hV6' : Hid (W4.alloc (.cells #[.int .i64 0, .int .i64 0, .int .i64 0, .int .i64 0, .int .i64 0, .bool false, .int .i64 0, .slice none 0 0, .slice none 0 0, .bool false, .int .i64 0, .slice none 0 0, .slice none 0 0, .int .i64 0, .slice none 0 0] 39) = V6) := hV6.out
     obtain ⟨W6, hW6⟩ : ∃ W6, Hid (V6.drew = W6) := ⟨_, rfl⟩
     go_simp
     rw [hV6'.out, hW6.out]
     have b6 : Box W6 W4.heap.size zeroR.cells 39 := by rw [← hW6.out]; exact b6'.drewN 1
     have N46 : Below W4.heap.size W4 W6 := by rw [← hW6.out]; exact hb6'.drew
     have S4 : EngStep E e w e1 W6 := (S1.below N4).below N46
     have bR4 := bR.below N46 bR.lt
     refine hK.out _ _ (HSS.out _ S4.at' bR4) (fun hHeld => ?_)
     clear hK K hV6 hV6' hW6 b6' hb6' hs6
     try simp only [Act.put, zA, zB, zC, zD, zE, zF]
     have C5 := specUndoOf_any z ((e1.log.recs.length : Int) + 1) l W6 (rdz.below (N4.trans (N46.mono N4.size))) (short_rec hshz)
     have hs46 := b6.lt
     refine wpAnyH_ready (rs := [9]) (by kernel_rfl) (by simp) ?_
     refine AllReadyH.cons rfl (fun K hK => ?_) AllReadyH.nil
     go_simp
     refine C5.mono ?_
     clear C5
     rintro r w5 ⟨u, rfl, huv, ou, hb5⟩
     have S5 := S4.below hb5
     have bR5 := bR4.below hb5 bR4.lt
     have hs45 := hb5.size
     have b65 := b6.below hb5 b6.lt
     refine hK.out _ _ (HSS.out _ S5.at' bR5) (fun hHeld => ?_)
     clear hK K
     try simp only [Act.put, zA, zB, zC, zD, zE, zF]
     obtain ⟨w6, hw6, hww6, hs66, HT6, _, bU6⟩ := rec_out u _ rfl b65
     have hoffX : Off E e1 W4.heap.size := (S1.at'.below N4).new (Nat.le_refl _)
     have S6 : EngStep E e w e1 w6 := EngStep.put S5 hww6 hoffX (by omega)
     have bR6 := bR5.within hww6 (by omega)
     have ou6 : u.own w6 0 w6.heap.size := (ou.within hww6 (.inr (by omega))).widen (Nat.zero_le _) (by omega) (Nat.le_refl _)
     have huB : ∀ i ∈ u.blocks, W6.heap.size ≤ i ∧ i < w5.heap.size := fun i hi => ou.blocks_lt i hi
     have huE : ∀ i ∈ u.blocks, i ∉ e1.blocks := fun i hi hm1 => by have := (huB i hi).1; have := S1.at'.lt i hm1; omega
     have huN : E ∉ u.blocks := fun hi => by have := (huB E hi).1; have := S1.at'.box.lt; omega
     have huW : ∀ i ∈ u.blocks, w.heap.size ≤ i := fun i hi => by have := (huB i hi).1; omega
     have hXu : W4.heap.size ∉ u.blocks := fun hi => by have := (huB _ hi).1; omega
     have hRu : wr.heap.size ∉ u.blocks := fun hi => by have := (huB _ hi).1; omega
     have hw6' : Hid (w5.setCells W4.heap.size 0 u.cells.toArray.toList = w6) := hw6.out
     refine wpAnyH_ready (rs := [11]) (by kernel_rfl) (by simp) ?_
     refine AllReadyH.cons rfl (fun K hK => ?_) AllReadyH.nil
     rw [if_pos (by rfl)]
     refine wp_store_mid 39 (.tmp 7) (.tmp 42) rfl W4.heap.size 0 u.cells.toArray rfl rfl HT6.out (rec_info u) (rec_one u) ?_
     rw [hw6'.out]
     refine hK.out _ _ (HSS.out _ S6.at' bR6) (fun hHeld => ?_)
     clear hK K
     try simp only [Act.put, zA, zB, zC]
     refine wpAnyH_done (by kernel_rfl) ?_ _
     clear hHeld hw6' hw6 hww6 hs66 HT6 b6 b65 S5 bR5 S4 bR4 ou hb5
     generalize W4.heap.size = X at *
     have HUO := undo_oid z.v ((e1.log.recs.length : Int) + 1) (l : Int)
     rw [← huv.out] at HUO
     obtain ⟨od, hod, hod32⟩ := HUO
     have hod' : u.oid = (od : Int) := hod
     have HUS : Hid (ShortV u.v) := by rw [Hid, huv.out]; exact undo_short hshz
     have C6 := l7Log_any E e1 u w6 S6.at' ou6 huE huN (by omega) (by omega)
     have r6 := Box.range [] u.cells [] (by simpa using bU6)
     go_wp2_with (first | (guard_target = wpList _ _ _ (Oper.mk (some 44) _ _ _ _ _ :: _) _ _; refine wpList_load_mid rfl 39 (.tmp 7) rfl X 0 rfl u.cells _ r6 Tryz.underlying39 rfl (rec_info u) ?_) | fail)
     refine C6.mono ?_
     clear C6 r6
     rintro r w7 ⟨rfl, e7, he7, ha7, m7⟩
     have bU7 := m7.boxes bU6 hoffX hXu
     have bR7 := m7.boxes bR6 hoffR hRu
     have S7 : EngStep E e w e7 w7 := EngMore.step S6 m7 (fun i hi => huW i hi)
     have hok7 : e7.v.poolOk := by rw [he7.out]; exact log_ok _ hok _
     have hl7 : e7.log.recs.length = e1.log.recs.length + 1 := by rw [ha7.out.2.2]; simp
     obtain ⟨k7, hk7a, hk7b, _⟩ := fetch_seat e7.v hok7 (od / 4)
     have hfu : Fit [u.af] := fun y hy => by rw [List.mem_singleton.1 hy]; exact HUS.out.2.1
     have CA := l7Apply_any E e7 od u.af ((e1.log.recs.length : Int) + 1) w7 S7.at' hok7 hod32 (fun v e' hv hrecs _ => by
      have h1 := hv.own.log.each { u with lsn := (e1.log.recs.length : Int) + 1 } (by rw [hrecs, ha7.out.2.2]; simp)
      exact OwnO.reads h1.af) hfu ⟨k7, hk7a, hk7b⟩
     have x7 := bU7.cell 4 _ (show u.cells[4]? = some (.int .i64 u.oid) from rfl)
     rw [hod'] at x7
     have r7 : w7.rangeAt X 9 u.af.cells := by
      have h1 : Box w7 X ([.int .i64 u.lsn, .int .i64 u.tx, .int .i64 u.prev, .int .i64 u.kind, .int .i64 u.oid, .bool u.bf.v.has, .int .i64 u.bf.v.o.kind, .slice u.bf.aI u.bf.v.o.ints.length u.bf.cI, .slice u.bf.aR u.bf.v.o.refs.length u.bf.cR] ++ (u.af.cells ++ [.int .i64 u.next, .slice u.aL u.txs.length u.cL])) 39 := bU7
      exact Box.range _ _ _ h1
     have HE7 : Hid (e7.v = logV e1.v u.v) := he7.out
     clear he7 hk7a hk7b hfu
     go_wp2_with (first | (guard_target = wpList _ _ _ (Oper.mk (some 50) _ _ _ _ _ :: _) _ _; refine wpList_load_mid rfl 36 (.tmp 49) rfl X 9 rfl u.af.cells _ r7 Tryz.underlying36 rfl (slot_info u.af) ?_) | fail)
     refine CA.mono ?_
     clear CA r7 x7
     rintro r w8 ⟨⟨v8, rfl⟩, e8, he8, hr8, s8⟩
     have hoffR7 := m7.off bR6.lt hoffR hRu
     have bR8 := s8.boxes bR7 hoffR7
     have S8 := S7.trans s8
     have x8 := bR8.cell 2 _ (show z.cells[2]? = some (.int .i64 z.prev) from rfl)
     have HV8 : Hid (e8.v = applyV (logV e1.v (undoV z.v ((e1.log.recs.length : Int) + 1) l)) od (undoV z.v ((e1.log.recs.length : Int) + 1) l).af ((e1.log.recs.length : Int) + 1)) := by
      rw [Hid, he8.out, HE7.out, ← huv.out]
      rfl
     have HOD : Hid ((undoV z.v ((e1.log.recs.length : Int) + 1) l).oid.toNat = od) := by rw [Hid, ← huv.out, show u.v.oid = (od : Int) from hod, Int.toNat_natCast]
     obtain ⟨pv, hpv, hpvm⟩ := hprev
     rw [hpv] at x8
     have HG8 : Hid (e8.v.poolOk ∧ LogGood e8.v ∧ e8.txs.length = e.txs.length ∧ e8.holds = e.holds ∧ e8.log.recs.length = e1.log.recs.length + 1) := by
      refine ⟨?_, ?_, ?_, ?_, by rw [hr8.out]; exact hl7⟩
      ·rw [he8.out]
       exact apply_ok _ hok7 od hod32 _ (fun y hy => by rw [List.mem_singleton.1 hy]; exact HUS.out.2.1) _
      ·have e9 : e8.v.log.recs = e1.v.log.recs ++ [{ u.v with lsn := (e1.v.log.recs.length : Int) + 1 }] := by
        rw [he8.out, (apply_rest e7.v od u.af.v _).2.2.1, HE7.out]; rfl
       exact hgood.snoc e9 (by rw [huv.out]; exact undo_prev z.v _ l (by show l ≤ (e1.log.recs.map RecA.v).length; rw [List.length_map]; exact hll)) HUS.out
      ·rw [v_txs he8.out, (apply_rest e7.v od u.af.v _).1, HE7.out]; simp only [logV]; rw [lastV_len]; exact htx
      ·rw [v_holds he8.out, (apply_rest e7.v od u.af.v _).2.1, HE7.out]; exact hho
     have HR8 : Hid (undoLoop n e8.v pv ((e1.log.recs.length : Int) + 1) = R) := by
      rw [Hid, ← HUL.out, HV8.out, HOD.out, hpv]
     have hl8 := HG8.out.2.2.2.2
     clear he8 HE7 HV8 HOD S7 s8 bR7 bU7 m7 hok7 ha7 hod hod' hpv
     go_wp2_with fail
     go_roundg n
     case measure => omega
     case rel => exact ⟨e8, pv, e1.log.recs.length + 1, by go_num, by go_num, by omega, by omega, by omega, by omega, HG8.out.1, HG8.out.2.1, HG8.out.2.2.1, HG8.out.2.2.2.1, HR8, S8⟩
   ·have hkb : (z.kind == 1) = false := by simpa using hk1
    have HUL : Hid (undoLoop n e1.v z.prev l = R) := by
     have h1 := HUL0.out
     rw [if_neg (show ¬ z.v.kind = 1 from hk1)] at h1
     exact h1
    obtain ⟨pv, hpv, hpvm⟩ := hprev
    have y4 := bR.cell 2 _ (show z.cells[2]? = some (.int .i64 z.prev) from rfl)
    rw [hpv] at y4
    have HUL2 : Hid (undoLoop n e1.v pv l = R) := by rw [Hid, ← HUL.out, hpv]
    clear HUL0 HUL hk1 hpv
    go_wp2_with fail
    go_roundg n
    case measure => omega
    case rel => exact ⟨e1, pv, l, rfl, rfl, by omega, by omega, hll, by omega, hok, hgood, htx, hho, HUL2, S1.below N4⟩
end Go.Proofs.YtoboickdkednkaaGreatDoor
namespace Go.Proofs.YtoboickdkednkaaGreatDoor
open Go.RowKit
def SmallS (x : SlotV) : Prop := x.o.ints.length ≤ 10 ∧ x.o.refs.length ≤ 10
def SmallR (r : RecV) : Prop := SmallS r.bf ∧ SmallS r.af ∧ r.txs.length ≤ 10
structure Sound (e : EngV) : Prop where
 pool : e.poolOk
 good : LogGood e
 seats : ∀ s ∈ e.seats, ∀ x ∈ s.ss, SmallS x
 disk : ∀ p ∈ e.disk, ∀ x ∈ p.2, SmallS x
 recs : ∀ r ∈ e.log.recs, SmallR r
theorem smallNo : SmallS noS := ⟨by show 0 ≤ 10; omega, by show 0 ≤ 10; omega⟩
theorem small_fit {x : SlotV} (h : SmallS x) : FitV [x] := fun y hy => by rw [List.mem_singleton.1 hy]; exact ⟨by have := h.1; omega, by have := h.2; omega⟩
theorem small_short {r : RecV} (h : SmallR r) : ShortV r := ⟨⟨by have := h.1.1; omega, by have := h.1.2; omega⟩, ⟨by have := h.2.1.1; omega, by have := h.2.1.2; omega⟩, by have := h.2.2; omega⟩
theorem fetch_sound {e : EngV} (h : Sound e) (n : Nat) (h8 : n < 8) : Sound (fetchV e n).1 := by
 have hr := fetch_rest e n
 have hdm : e.disk.getD n (0, []) ∈ e.disk := by
  have hd : n < e.disk.length := by rw [h.pool.eight]; exact h8
  simp only [List.getD, List.getElem?_eq_getElem hd, Option.getD_some]; exact List.getElem_mem hd
 obtain ⟨hd, hhd, h3⟩ := h.pool.hand
 have key : (∀ s ∈ (fetchV e n).1.seats, ∀ x ∈ s.ss, SmallS x) ∧ (∀ p ∈ (fetchV e n).1.disk, ∀ x ∈ p.2, SmallS x) := by
  rcases seated_cases e.seats n with hs | ⟨k, hs, hk, _⟩
  ·rw [fetchV, if_neg (by rw [hs]; omega)]
   have hst : ∀ s ∈ (bringV e.seats e.hand.toNat ⟨n, (e.disk.getD n (0, [])).1, (e.disk.getD n (0, [])).2, false, true⟩).1, ∀ x ∈ s.ss, SmallS x := fun s hs1 => by
    rcases bring_mem _ _ _ s hs1 with h1 | ⟨s0, h0, _, e2⟩
    ·rw [h1]; exact h.disk _ hdm
    ·rw [e2]; exact h.seats s0 h0
   have hold := fun hw => bring_old e.seats e.hand.toNat ⟨n, (e.disk.getD n (0, [])).1, (e.disk.getD n (0, [])).2, false, true⟩ hw (by rw [hhd]; simpa using h3)
   simp only
   split
   ·next hw =>
    obtain ⟨s0, h0, _, e2⟩ := hold hw.1
    refine ⟨hst, fun p hp => ?_⟩
    simp only [writeV] at hp
    rcases List.mem_or_eq_of_mem_set hp with h1 | h1
    ·exact h.disk p h1
    ·rw [h1]; simp only; rw [e2]; exact h.seats s0 h0
   ·exact ⟨hst, h.disk⟩
  ·rw [fetchV, hs, if_pos (by omega), Int.toNat_natCast]
   have hkm : e.seats.getD k zeroStV ∈ e.seats := by simp only [List.getD, List.getElem?_eq_getElem hk, Option.getD_some]; exact List.getElem_mem hk
   refine ⟨fun s hs1 => ?_, h.disk⟩
   rcases List.mem_or_eq_of_mem_set hs1 with h1 | h1
   ·exact h.seats s h1
   ·rw [h1]; have := h.seats _ hkm; exact this
 exact ⟨fetch_ok e h.pool n h8, ⟨by rw [hr.2.2.1]; exact h.good.prev, by rw [hr.2.2.1]; exact h.good.short⟩, key.1, key.2, by rw [hr.2.2.1]; exact h.recs⟩
theorem log_sound {e : EngV} (h : Sound e) (r : RecV) (hp : ∃ p : Nat, r.prev = p ∧ p ≤ e.log.recs.length) (hs : SmallR r) : Sound (logV e r) := by
 refine ⟨log_ok _ h.pool r, h.good.snoc rfl hp (small_short hs), h.seats, h.disk, fun x hx => ?_⟩
 rcases List.mem_append.1 hx with h1 | h1
 ·exact h.recs x h1
 ·rw [List.mem_singleton.1 h1]; exact hs
theorem apply_sound {e : EngV} (h : Sound e) (o : Nat) (h32 : o < 32) (x : SlotV) (hx : SmallS x) (lsn : Int) : Sound (applyV e o x lsn) := by
 have hf := fetch_sound h (o / 4) (by omega)
 obtain ⟨k, hk, hkl, _⟩ := fetch_seat e h.pool (o / 4)
 have hkm : (fetchV e (o / 4)).1.seats.getD k zeroStV ∈ (fetchV e (o / 4)).1.seats := by simp only [List.getD, List.getElem?_eq_getElem hkl, Option.getD_some]; exact List.getElem_mem hkl
 refine ⟨apply_ok e h.pool o h32 x (small_fit hx) lsn, ⟨hf.good.prev, hf.good.short⟩, fun s hs => ?_, hf.disk, hf.recs⟩
 simp only [applyV, hk, Int.toNat_natCast] at hs
 rcases List.mem_or_eq_of_mem_set hs with h1 | h1
 ·exact hf.seats s h1
 ·rw [h1]
  intro y hy
  simp only [setSeatV] at hy
  rcases List.mem_or_eq_of_mem_set hy with h2 | h2
  ·exact hf.seats _ hkm y h2
  ·rw [h2]; exact hx
theorem upTo_sound {e : EngV} (h : Sound e) (n : Int) : Sound { e with log := e.log.upTo n } := ⟨⟨h.pool.len, h.pool.hand, h.pool.nos, h.pool.fitS, h.pool.eight, h.pool.fitD⟩, ⟨h.good.prev, h.good.short⟩, h.seats, h.disk, h.recs⟩
theorem ends_sound {e : EngV} (h : Sound e) (tx : Int) : Sound (endsV e tx) := ⟨⟨h.pool.len, h.pool.hand, h.pool.nos, h.pool.fitS, h.pool.eight, h.pool.fitD⟩, ⟨h.good.prev, h.good.short⟩, h.seats, h.disk, h.recs⟩
theorem recV_small (tx prev kind : Int) : SmallR (recV tx prev kind) := ⟨smallNo, smallNo, Nat.zero_le _⟩
theorem log_len (e : EngV) (r : RecV) : (logV e r).log.recs.length = e.log.recs.length + 1 := by simp [logV]
theorem commit_sound {e : EngV} (h : Sound e) (tx : Int) : Sound (commitV e tx) ∧ (commitV e tx).log.recs.length = e.log.recs.length + 2 := by
 obtain ⟨m, hm, hml⟩ := last_le tx e.log.recs e.log.recs.length
 have h1 := log_sound h (recV tx (lastOf e.log.recs tx) 2) ⟨m, hm, hml⟩ (recV_small _ _ _)
 have h2 := upTo_sound h1 ((e.log.recs.length : Int) + 1)
 have hl : ({ logV e (recV tx (lastOf e.log.recs tx) 2) with log := (logV e (recV tx (lastOf e.log.recs tx) 2)).log.upTo ((e.log.recs.length : Int) + 1) } : EngV).log.recs.length = e.log.recs.length + 1 := log_len e _
 have h3 := log_sound h2 (recV tx ((e.log.recs.length : Int) + 1) 5) ⟨e.log.recs.length + 1, rfl, by rw [hl]; exact Nat.le_refl _⟩ (recV_small _ _ _)
 refine ⟨ends_sound h3 tx, ?_⟩
 show (logV _ _).log.recs.length = _
 rw [log_len, hl]
theorem check_sound {e : EngV} (h : Sound e) (ht : e.txs.length ≤ 10) : Sound (checkV e) ∧ (checkV e).log.recs.length = e.log.recs.length + 1 := by
 have h1 := log_sound h (recCV (e.txs.filter (fun l => decide (0 < l.last)))) ⟨0, rfl, Nat.zero_le _⟩ ⟨smallNo, smallNo, Nat.le_trans (List.length_filter_le _ _) ht⟩
 exact ⟨upTo_sound h1 _, log_len e _⟩
theorem flush_sound {e : EngV} (h : Sound e) (n : Nat) : Sound (flushV e n) ∧ (flushV e n).log.recs.length = e.log.recs.length := by
 unfold flushV
 split
 ·next hc =>
  rcases seated_cases e.seats n with hs | ⟨k, hs, hk, _⟩
  ·rw [hs] at hc; exact absurd hc.1 (by omega)
  ·have hkm : e.seats.getD k zeroStV ∈ e.seats := by simp only [List.getD, List.getElem?_eq_getElem hk, Option.getD_some]; exact List.getElem_mem hk
   rw [hs, Int.toNat_natCast]
   refine ⟨⟨⟨by simp only [List.length_set]; exact h.pool.len, h.pool.hand, fun s hs1 => ?_, fun s hs1 => ?_, by simp only [writeV, List.length_set]; exact h.pool.eight, fun p hp => ?_⟩, ⟨h.good.prev, h.good.short⟩, fun s hs1 => ?_, fun p hp => ?_, h.recs⟩, rfl⟩
   ·rcases List.mem_or_eq_of_mem_set hs1 with h1 | h1
    ·exact h.pool.nos s h1
    ·rw [h1]; have := h.pool.nos _ hkm; exact this
   ·rcases List.mem_or_eq_of_mem_set hs1 with h1 | h1
    ·exact h.pool.fitS s h1
    ·rw [h1]; have := h.pool.fitS _ hkm; exact this
   ·simp only [writeV] at hp
    rcases List.mem_or_eq_of_mem_set hp with h1 | h1
    ·exact h.pool.fitD p h1
    ·rw [h1]; exact h.pool.fitS _ hkm
   ·rcases List.mem_or_eq_of_mem_set hs1 with h1 | h1
    ·exact h.seats s h1
    ·rw [h1]; have := h.seats _ hkm; exact this
   ·simp only [writeV] at hp
    rcases List.mem_or_eq_of_mem_set hp with h1 | h1
    ·exact h.disk p h1
    ·rw [h1]; exact h.seats _ hkm
 ·exact ⟨h, rfl⟩
theorem set_sound {e : EngV} (h : Sound e) (tx : Int) (o : Nat) (h32 : o < 32) (x : SlotV) (hx : SmallS x) (hprev : ∃ p : Nat, (e.txs.getD (liveOf e.txs tx).toNat zeroL).last = p ∧ p ≤ e.log.recs.length) : Sound (setV e tx o x) ∧ (setV e tx o x).log.recs.length = e.log.recs.length + 1 := by
 have hf := fetch_sound h (o / 4) (by omega)
 have hr := fetch_rest e (o / 4)
 obtain ⟨k, hk, hkl, _⟩ := fetch_seat e h.pool (o / 4)
 have hkm : (fetchV e (o / 4)).1.seats.getD k zeroStV ∈ (fetchV e (o / 4)).1.seats := by simp only [List.getD, List.getElem?_eq_getElem hkl, Option.getD_some]; exact List.getElem_mem hkl
 have hb : SmallS (((fetchV e (o / 4)).1.seats.getD (fetchV e (o / 4)).2.toNat zeroStV).ss.getD (o % 4) ⟨false, ⟨0, [], []⟩⟩) := by
  rw [hk, Int.toNat_natCast]
  simp only [List.getD]
  cases hq : ((fetchV e (o / 4)).1.seats[k]?.getD zeroStV).ss[o % 4]? with
  | none => exact ⟨Nat.zero_le _, Nat.zero_le _⟩
  | some y => exact hf.seats _ hkm y (by rw [← List.getD_eq_getElem?_getD] at hq; exact List.mem_of_getElem? hq)
 have h1 := log_sound hf (recSV tx (e.txs.getD (liveOf e.txs tx).toNat zeroL).last o (((fetchV e (o / 4)).1.seats.getD (fetchV e (o / 4)).2.toNat zeroStV).ss.getD (o % 4) ⟨false, ⟨0, [], []⟩⟩) x) (by rw [hr.2.2.1]; exact hprev) ⟨hb, hx, Nat.zero_le _⟩
 have h2 := apply_sound h1 o h32 x hx ((e.log.recs.length : Int) + 1)
 have hl2 : (applyV (logV (fetchV e (o / 4)).1 (recSV tx (e.txs.getD (liveOf e.txs tx).toNat zeroL).last o (((fetchV e (o / 4)).1.seats.getD (fetchV e (o / 4)).2.toNat zeroStV).ss.getD (o % 4) ⟨false, ⟨0, [], []⟩⟩) x)) o x ((e.log.recs.length : Int) + 1)).log.recs.length = e.log.recs.length + 1 := by
  rw [(apply_rest _ o x _).2.2.1, log_len, hr.2.2.1]
 unfold setV
 simp only
 split
 ·exact ⟨⟨⟨h2.pool.len, h2.pool.hand, h2.pool.nos, h2.pool.fitS, h2.pool.eight, h2.pool.fitD⟩, ⟨h2.good.prev, h2.good.short⟩, h2.seats, h2.disk, h2.recs⟩, hl2⟩
 ·exact ⟨h2, hl2⟩
theorem undo_small {r : RecV} {n p : Int} (h : SmallR r) : SmallR (undoV r n p) := by
 unfold undoV
 split
 ·exact ⟨smallNo, h.1, Nat.zero_le _⟩
 ·exact ⟨smallNo, smallNo, Nat.zero_le _⟩
theorem undoLoop_sound (n : Nat) : ∀ (e : EngV) (m l : Nat), Sound e → m ≤ e.log.recs.length → l ≤ e.log.recs.length → Sound (undoLoop n e m l).1 ∧ (undoLoop n e m l).1.log.recs.length ≤ e.log.recs.length + n ∧ (∃ l' : Nat, (undoLoop n e m l).2 = l' ∧ l' ≤ (undoLoop n e m l).1.log.recs.length) ∧ (undoLoop n e m l).1.holds = e.holds ∧ (undoLoop n e m l).1.txs.length = e.txs.length ∧ (undoLoop n e m l).1.next = e.next := by
 induction n with
 | zero => intro e m l h _ hl; exact ⟨h, Nat.le_refl _, ⟨l, rfl, hl⟩, rfl, rfl, rfl⟩
 | succ n ih =>
  intro e m l h hm hl
  rw [undoLoop]
  by_cases h0 : 0 < (m : Int)
  ·rw [if_pos h0]
   have hm1 : ((m : Int) - 1).toNat < e.log.recs.length := by omega
   have hmem : e.log.recs.getD ((m : Int) - 1).toNat zeroR.v ∈ e.log.recs := by simp only [List.getD, List.getElem?_eq_getElem hm1, Option.getD_some]; exact List.getElem_mem hm1
   obtain ⟨pv, hpv, hpvl⟩ := h.good.prev _ hm1
   simp only
   rw [hpv]
   split
   ·have hu := undo_small (n := (e.log.recs.length : Int) + 1) (p := l) (h.recs _ hmem)
    obtain ⟨od, hod, hod32⟩ := undo_oid (e.log.recs.getD ((m : Int) - 1).toNat zeroR.v) ((e.log.recs.length : Int) + 1) l
    have h1 := log_sound h _ (undo_prev _ ((e.log.recs.length : Int) + 1) l hl) hu
    have h2 := apply_sound h1 od hod32 _ hu.2.1 ((e.log.recs.length : Int) + 1)
    rw [hod, Int.toNat_natCast]
    have hlen : (applyV (logV e (undoV (e.log.recs.getD ((m : Int) - 1).toNat zeroR.v) ((e.log.recs.length : Int) + 1) l)) od (undoV (e.log.recs.getD ((m : Int) - 1).toNat zeroR.v) ((e.log.recs.length : Int) + 1) l).af ((e.log.recs.length : Int) + 1)).log.recs.length = e.log.recs.length + 1 := by
     rw [(apply_rest _ od _ _).2.2.1, log_len]
    have hi := ih _ pv (e.log.recs.length + 1) h2 (by rw [hlen]; omega) (by rw [hlen]; exact Nat.le_refl _)
    rw [hlen, (apply_rest _ od _ _).2.1, (apply_rest _ od _ _).1, (apply_rest _ od _ _).2.2.2, show ((e.log.recs.length + 1 : Nat) : Int) = (e.log.recs.length : Int) + 1 from by omega] at hi
    refine ⟨hi.1, by have := hi.2.1; omega, hi.2.2.1, hi.2.2.2.1, ?_, hi.2.2.2.2.2⟩
    have ht := hi.2.2.2.2.1
    simp only [logV, lastV_len] at ht
    exact ht
   ·have hi := ih e pv l h (by omega) hl
    exact ⟨hi.1, by have := hi.2.1; omega, hi.2.2⟩
  ·rw [if_neg h0]
   exact ⟨h, by show e.log.recs.length ≤ _; omega, ⟨l, rfl, hl⟩, rfl, rfl, rfl⟩
theorem abort_sound {e : EngV} (h : Sound e) (tx : Int) : Sound (abortV e tx) ∧ (abortV e tx).log.recs.length ≤ 2 * e.log.recs.length + 2 ∧ (abortV e tx).txs.length ≤ e.txs.length ∧ (abortV e tx).holds.length ≤ e.holds.length ∧ (abortV e tx).next = e.next := by
 obtain ⟨m, hm, hml⟩ := last_le tx e.log.recs e.log.recs.length
 have hm' : lastOf e.log.recs tx = (m : Int) := hm
 unfold abortV
 simp only
 rw [hm']
 have h1 := log_sound h (recV tx m 3) ⟨m, rfl, hml⟩ (recV_small _ _ _)
 have hl1 : (logV e (recV tx m 3)).log.recs.length = e.log.recs.length + 1 := log_len e _
 have hi := undoLoop_sound e.log.recs.length _ m (e.log.recs.length + 1) h1 (by rw [hl1]; omega) (by rw [hl1]; exact Nat.le_refl _)
 rw [hl1] at hi
 obtain ⟨hi1, hi2, ⟨l', hl', hll⟩, hi4, hi5, hi6⟩ := hi
 have e1 : ((e.log.recs.length + 1 : Nat) : Int) = (e.log.recs.length : Int) + 1 := by omega
 rw [e1] at hi1 hi2 hl' hll hi4 hi5 hi6
 rw [hl']
 have h2 := log_sound hi1 (recV tx l' 5) ⟨l', rfl, hll⟩ (recV_small _ _ _)
 refine ⟨ends_sound h2 tx, ?_, ?_, ?_, hi6⟩
 ·show (logV _ _).log.recs.length ≤ _
  rw [log_len]; omega
 ·refine Nat.le_trans (List.length_filter_le _ _) ?_
  show (lastV _ _ _).length ≤ _
  rw [lastV_len, hi5]
  show (lastV _ _ _).length ≤ _
  rw [lastV_len]
  exact Nat.le_refl _
 ·refine Nat.le_trans (List.length_filter_le _ _) ?_
  show (undoLoop _ _ _ _).1.holds.length ≤ _
  rw [hi4]
  exact Nat.le_refl _
end Go.Proofs.YtoboickdkednkaaGreatDoor
namespace Go.Proofs.YtoboickdkednkaaGreatDoor
open Go.RowKit
def Lives (e : EngV) : Prop := ∀ t ∈ e.txs, ∃ p : Nat, t.last = p ∧ p ≤ e.log.recs.length
theorem lastV_mem (ls : List LiveV) (tx n : Int) : ∀ t ∈ lastV ls tx n, t ∈ ls ∨ t.last = n := by
 intro t ht
 unfold lastV at ht
 split at ht
 ·rcases List.mem_or_eq_of_mem_set ht with h | h
  ·exact .inl h
  ·rw [h]; exact .inr rfl
 ·exact .inl ht
theorem log_lives {e : EngV} (h : Lives e) (r : RecV) : Lives (logV e r) := by
 intro t ht
 rw [log_len]
 rcases lastV_mem _ _ _ t ht with h1 | h1
 ·obtain ⟨p, hp, hpl⟩ := h t h1
  exact ⟨p, hp, by omega⟩
 ·exact ⟨e.log.recs.length + 1, by rw [h1]; omega, Nat.le_refl _⟩
theorem lives_of {e e' : EngV} (h : Lives e) (ht : e'.txs = e.txs) (hl : e'.log.recs = e.log.recs) : Lives e' := by
 intro t h1
 rw [ht] at h1
 rw [hl]
 exact h t h1
theorem ends_lives {e : EngV} (h : Lives e) (tx : Int) : Lives (endsV e tx) := fun t ht => h t (List.mem_filter.1 ht).1
theorem undoLoop_lives (n : Nat) : ∀ (e : EngV) (m l : Int), Lives e → Lives (undoLoop n e m l).1 := by
 induction n with
 | zero => intro e m l h; exact h
 | succ n ih =>
  intro e m l h
  rw [undoLoop]
  split
  ·simp only
   split
   ·exact ih _ _ _ (lives_of (log_lives h _) (apply_rest _ _ _ _).1 (apply_rest _ _ _ _).2.2.1)
   ·exact ih _ _ _ h
  ·exact h
structure DrawE (i : Nat) (e : EngV) : Prop where
 sound : Sound e
 lives : Lives e
 len : e.log.recs.length + 3 ≤ 2 ^ (i + 2)
 txs : e.txs.length ≤ 4
 holds : e.holds.length ≤ i
 next : ∃ m : Nat, e.next = m ∧ m ≤ i + 1
theorem two_pow (i : Nat) : 2 ^ (i + 1 + 2) = 2 * 2 ^ (i + 2) := by rw [show i + 1 + 2 = (i + 2) + 1 by omega, Nat.pow_succ]; omega
theorem four_le (i : Nat) : 4 ≤ 2 ^ (i + 2) := by
 have : 2 ^ 2 ≤ 2 ^ (i + 2) := Nat.pow_le_pow_right (by omega) (by omega)
 simpa using this
theorem DrawE.later {i : Nat} {e : EngV} (h : DrawE i e) : DrawE (i + 1) e := ⟨h.sound, h.lives, by have := h.len; rw [two_pow]; omega, h.txs, by have := h.holds; omega, by obtain ⟨m, h1, h2⟩ := h.next; exact ⟨m, h1, by omega⟩⟩
theorem drawE_commit {i : Nat} {e : EngV} (h : DrawE i e) (tx : Int) : DrawE (i + 1) (commitV e tx) := by
 obtain ⟨s, l⟩ := commit_sound h.sound tx
 have h4 := four_le i
 refine ⟨s, ?_, by have := h.len; rw [two_pow, l]; omega, ?_, ?_, by obtain ⟨m, h1, h2⟩ := h.next; exact ⟨m, h1, by omega⟩⟩
 ·exact ends_lives (log_lives (lives_of (log_lives h.lives _) rfl rfl) _) tx
 ·refine Nat.le_trans (List.length_filter_le _ _) ?_
  show (lastV (lastV _ _ _) _ _).length ≤ _
  rw [lastV_len, lastV_len]; exact h.txs
 ·exact Nat.le_trans (List.length_filter_le _ _) (Nat.le_trans h.holds (by omega))
theorem drawE_abort {i : Nat} {e : EngV} (h : DrawE i e) (tx : Int) : DrawE (i + 1) (abortV e tx) := by
 obtain ⟨s, l, t, ho, nx⟩ := abort_sound h.sound tx
 refine ⟨s, ?_, by have := h.len; rw [two_pow]; omega, Nat.le_trans t h.txs, Nat.le_trans ho (Nat.le_trans h.holds (by omega)), by obtain ⟨m, h1, h2⟩ := h.next; exact ⟨m, by rw [nx]; exact h1, by omega⟩⟩
 exact ends_lives (log_lives (undoLoop_lives _ _ _ _ (log_lives h.lives _)) _) tx
theorem flush_rest (e : EngV) (n : Nat) : (flushV e n).txs = e.txs ∧ (flushV e n).holds = e.holds ∧ (flushV e n).log.recs = e.log.recs ∧ (flushV e n).next = e.next := by
 unfold flushV
 split <;> exact ⟨rfl, rfl, rfl, rfl⟩
theorem drawE_flush {i : Nat} {e : EngV} (h : DrawE i e) (n : Nat) : DrawE (i + 1) (flushV e n) := by
 obtain ⟨s, _⟩ := flush_sound h.sound n
 obtain ⟨r1, r2, r3, r4⟩ := flush_rest e n
 have hh := h.later
 exact ⟨s, lives_of h.lives r1 r3, by rw [r3]; exact hh.len, by rw [r1]; exact h.txs, by rw [r2]; exact hh.holds, by rw [r4]; exact hh.next⟩
theorem drawE_check {i : Nat} {e : EngV} (h : DrawE i e) : DrawE (i + 1) (checkV e) := by
 obtain ⟨s, l⟩ := check_sound h.sound (by have := h.txs; omega)
 have h4 := four_le i
 refine ⟨s, lives_of (log_lives h.lives (recCV (e.txs.filter (fun l => decide (0 < l.last))))) rfl rfl, by have := h.len; rw [two_pow, l]; omega, ?_, by have := h.holds; show e.holds.length ≤ _; omega, by obtain ⟨m, h1, h2⟩ := h.next; exact ⟨m, h1, by omega⟩⟩
 show (lastV _ _ _).length ≤ _
 rw [lastV_len]; exact h.txs
theorem drawE_fetch {i : Nat} {e : EngV} (h : DrawE i e) (n : Nat) (h8 : n < 8) : DrawE (i + 1) (fetchV e n).1 := by
 obtain ⟨r1, r2, r3, r4⟩ := fetch_rest e n
 have hh := h.later
 exact ⟨fetch_sound h.sound n h8, lives_of h.lives r1 r3, by rw [r3]; exact hh.len, by rw [r1]; exact h.txs, by rw [r2]; exact hh.holds, by rw [r4]; exact hh.next⟩
theorem live_last {i : Nat} {e : EngV} (h : DrawE i e) (tx : Int) : ∃ p : Nat, (e.txs.getD (liveOf e.txs tx).toNat zeroL).last = p ∧ p ≤ e.log.recs.length := by
 simp only [List.getD]
 cases hq : e.txs[(liveOf e.txs tx).toNat]? with
 | none => exact ⟨0, rfl, Nat.zero_le _⟩
 | some t => exact h.lives t (List.mem_of_getElem? hq)
theorem drawE_set {i : Nat} {e : EngV} (h : DrawE i e) (tx : Int) (o : Nat) (h32 : o < 32) (x : SlotV) (hx : SmallS x) : DrawE (i + 1) (setV e tx o x) := by
 obtain ⟨s, l⟩ := set_sound h.sound tx o h32 x hx (live_last h tx)
 have h4 := four_le i
 have hr := fetch_rest e (o / 4)
 obtain ⟨e3, he3⟩ : ∃ e3, applyV (logV (fetchV e (o / 4)).1 (recSV tx (e.txs.getD (liveOf e.txs tx).toNat zeroL).last o (((fetchV e (o / 4)).1.seats.getD (fetchV e (o / 4)).2.toNat zeroStV).ss.getD (o % 4) ⟨false, ⟨0, [], []⟩⟩) x)) o x ((e.log.recs.length : Int) + 1) = e3 := ⟨_, rfl⟩
 have hset : setV e tx o x = if holdFrom o e3.holds = 0 then { e3 with holds := e3.holds ++ [⟨tx, o⟩] } else e3 := by
  unfold setV; simp only; rw [he3]
 have hl3 : Lives e3 := by rw [← he3]; exact lives_of (log_lives (lives_of h.lives hr.1 hr.2.2.1) _) (apply_rest _ _ _ _).1 (apply_rest _ _ _ _).2.2.1
 have ht3 : e3.txs.length = e.txs.length := by
  rw [← he3, (apply_rest _ _ _ _).1]
  show (lastV _ _ _).length = _
  rw [lastV_len, hr.1]
 have hh3 : e3.holds = e.holds := by rw [← he3, (apply_rest _ _ _ _).2.1]; exact hr.2.1
 have hn3 : e3.next = e.next := by rw [← he3, (apply_rest _ _ _ _).2.2.2]; exact hr.2.2.2
 refine ⟨s, ?_, by have := h.len; rw [two_pow, l]; omega, ?_, ?_, ?_⟩
 ·rw [hset]; split
  ·exact hl3
  ·exact hl3
 ·rw [hset]; split
  ·show e3.txs.length ≤ 4; rw [ht3]; exact h.txs
  ·rw [ht3]; exact h.txs
 ·rw [hset]; split
  ·simp only [List.length_append, List.length_singleton, hh3]; have := h.holds; omega
  ·rw [hh3]; have := h.holds; omega
 ·rw [hset]
  obtain ⟨m, h1, h2⟩ := h.next
  split
  ·exact ⟨m, by show e3.next = _; rw [hn3]; exact h1, by omega⟩
  ·exact ⟨m, by rw [hn3]; exact h1, by omega⟩
def beginV (e : EngV) : EngV := { e with txs := e.txs ++ [⟨e.next, 0, false⟩], next := e.next + 1 }
theorem drawE_begin {i : Nat} {e : EngV} (h : DrawE i e) (h4 : e.txs.length < 4) : DrawE (i + 1) (beginV e) := by
 have hh := h.later
 refine ⟨⟨⟨h.sound.pool.len, h.sound.pool.hand, h.sound.pool.nos, h.sound.pool.fitS, h.sound.pool.eight, h.sound.pool.fitD⟩, ⟨h.sound.good.prev, h.sound.good.short⟩, h.sound.seats, h.sound.disk, h.sound.recs⟩, fun t ht => ?_, hh.len, ?_, hh.holds, ?_⟩
 ·rcases List.mem_append.1 ht with h1 | h1
  ·exact h.lives t h1
  ·rw [List.mem_singleton.1 h1]; exact ⟨0, rfl, Nat.zero_le _⟩
 ·simp only [beginV, List.length_append, List.length_singleton]; omega
 ·obtain ⟨m, h1, h2⟩ := h.next
  exact ⟨m + 1, by simp only [beginV, h1]; omega, by omega⟩
def newV : EngV := ⟨List.replicate 8 (0, [noS, noS, noS, noS]), [], 0, ⟨[], 0⟩, [], [], 1, false⟩
theorem drawE_new : DrawE 0 newV := by
 have hd : ∀ p ∈ newV.disk, p = (0, [noS, noS, noS, noS]) := fun p hp => List.eq_of_mem_replicate hp
 have hno : ∀ x ∈ [noS, noS, noS, noS], x = noS := fun x hx => by simpa using hx
 have n1 : ∀ s ∈ newV.seats, False := fun s hs => by simp [newV] at hs
 have n2 : ∀ r ∈ newV.log.recs, False := fun s hs => by simp [newV] at hs
 have n3 : ∀ t ∈ newV.txs, False := fun s hs => by simp [newV] at hs
 refine ⟨⟨⟨Nat.zero_le _, ⟨0, rfl, by omega⟩, (fun s hs => (n1 s hs).elim), (fun s hs => (n1 s hs).elim), rfl, (fun p hp x hx => ?_)⟩, ⟨(fun i hi => absurd hi (Nat.not_lt_zero _)), (fun r hr => (n2 r hr).elim)⟩, (fun s hs => (n1 s hs).elim), (fun p hp x hx => ?_), (fun r hr => (n2 r hr).elim)⟩, (fun t ht => (n3 t ht).elim), (by show 0 + 3 ≤ 4; omega), Nat.zero_le _, Nat.zero_le _, ⟨1, rfl, by omega⟩⟩
 ·rw [hd p hp] at hx; rw [hno x hx]; exact ⟨Nat.zero_le _, Nat.zero_le _⟩
 ·rw [hd p hp] at hx; rw [hno x hx]; exact smallNo
end Go.Proofs.YtoboickdkednkaaGreatDoor