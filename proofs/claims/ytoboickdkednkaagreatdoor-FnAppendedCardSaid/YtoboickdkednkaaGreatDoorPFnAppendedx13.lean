/- Several texts in one, in their order. -/
import Derived.Test.YtoboickdkednkaaGreatDoorPFnAppendedx4
import Derived.Test.YtoboickdkednkaaGreatDoorPFnAppendedx6
import Derived.Deep.RegionHeld3
import Derived.Deep.CutRange
import Derived.Test.YtoboickdkednkaaGreatDoorPFnAppendedx3
import Derived.Test.YtoboickdkednkaaGreatDoorPFnAppendedx5
import Derived.Test.YtoboickdkednkaaGreatDoorPFnAppendedx12
import Derived.Test.YtoboickdkednkaaGreatDoorPFnAppendedx7
import Derived.Test.YtoboickdkednkaaGreatDoorPFnAppendedx8
import Derived.Test.YtoboickdkednkaaGreatDoorPFnAppendedx1
set_option maxHeartbeats 8000000
set_option maxRecDepth 100000
namespace Go.Proofs.YtoboickdkednkaaGreatDoor
open Go.RowKit
theorem readsI_box {w : World} {g : Nat} {t : TypeId} (ns : List Int) (b : Box w g (ns.map (Value.int .i64)) t) : ReadsI w (some ⟨g, 0, none⟩) ns := fun _ => ⟨g, 0, rfl, fun i hi => by
 rw [Nat.zero_add]
 exact b.cell i _ (by simp [List.getD, hi])⟩
def Drawn (w w' : World) (B : Nat) (zs : List Int) (e : Ending) : Prop := ∃ t : RecA, e = .returned (.agg t.cells.toArray) ∧ t.short 10 ∧ t.own w' w.heap.size w'.heap.size ∧ CurAt w' B zs ∧ Within B (B + 1) w w'
theorem own_two {w : World} {lo mid mid' hi : Nat} {s t : SlotA} (n tx p k o x : Int) (hs : s.own w lo mid) (ht : t.own w mid' hi) (h1 : mid ≤ mid') (h2 : lo ≤ mid') (h3 : mid' ≤ hi) : (⟨n, tx, p, k, o, s, t, x, [], none, 0⟩ : RecA).own w lo hi := by
 have hh : hi ≤ w.heap.size := ht.ints.2.1
 refine ⟨OwnO.widen hs (Nat.le_refl _) (by omega) hh, OwnO.widen ht h2 (Nat.le_refl _) hh, ownL_nil _ _ _ hh, ?_⟩
 exact rec_apart (b := mid') (c := hi) (d := hi) (OwnO.widen hs (Nat.le_refl _) h1 (by omega)) ht (ownL_nil _ _ _ hh) h3
theorem own_lives {w : World} {lo hi : Nat} {aL : Option Addr} {cL : Nat} {ls : List LiveV} (n tx p k o x : Int) (hL : OwnL w lo hi aL cL ls) : (⟨n, tx, p, k, o, zeroS, zeroS, x, ls, aL, cL⟩ : RecA).own w lo hi := by
 have hh : hi ≤ w.heap.size := hL.2.1
 refine ⟨zero_own _ _ _ hh, zero_own _ _ _ hh, hL, ?_⟩
 show ([] ++ ([] ++ (Value.slice aL ls.length cL).ownBlock.toList)).Nodup
 cases (Value.slice aL ls.length cL).ownBlock <;> simp
theorem l4Draw_any (B : Nat) (zs : List Int) (w : World) (hc : CurAt w B zs) (hl : zs.length ≤ 70368744177664) :
  Calls Tryz.prog 70 #[.pointer (some ⟨B, 0, none⟩)] w fun e w' => Drawn w w' B zs e := by
 have hB := hc.lt
 obtain ⟨W, hW, bR, hbW, hsW⟩ := boxes1 w [.int .i64 0, .int .i64 0, .int .i64 0, .int .i64 0, .int .i64 0, .bool false, .int .i64 0, .slice none 0 0, .slice none 0 0, .bool false, .int .i64 0, .slice none 0 0, .slice none 0 0, .int .i64 0, .slice none 0 0] 39
 have HW : Within B (B + 1) w W := Within.of_below hbW
 replace hc : CurAt W B zs := hc.below hbW
 have hsW' : w.heap.size < W.heap.size := bR.lt
 clear hsW hbW
 go_enter Tryz.func70, Tryz.ntmps70
 go_wp2_with fail
 rw [hW.out]
 clear hW
 refine (l1Below_any B zs 40 W hc hl (by omega)).mono ?_
 clear hc
 rintro e v1 ⟨x1, rfl, hx1, hc, hgv1⟩
 replace hx1 : (x1 : Int) < 40 := hx1 (by decide)
 have hwv1 := within_cur hgv1
 clear hgv1
 have sv1 := hwv1.size
 replace bR := bR.within hwv1 (by omega)
 replace HW := HW.trans hwv1
 clear hwv1
 go_wp2_with fail
 refine (l1Below_any B zs 4 v1 hc hl (by omega)).mono ?_
 clear hc
 rintro e v2 ⟨x2, rfl, hx2, hc, hgv2⟩
 replace hx2 : (x2 : Int) < 4 := hx2 (by decide)
 have hwv2 := within_cur hgv2
 clear hgv2
 have sv2 := hwv2.size
 replace bR := bR.within hwv2 (by omega)
 replace HW := HW.trans hwv2
 clear hwv2
 go_wp2_with fail
 refine (l1Below_any B zs 6 v2 hc hl (by omega)).mono ?_
 clear hc
 rintro e v3 ⟨x3, rfl, hx3, hc, hgv3⟩
 replace hx3 : (x3 : Int) < 6 := hx3 (by decide)
 have hwv3 := within_cur hgv3
 clear hgv3
 have sv3 := hwv3.size
 replace bR := bR.within hwv3 (by omega)
 replace HW := HW.trans hwv3
 clear hwv3
 obtain ⟨v4, hv4, bX, bI, hbv4, ev4⟩ := boxes2 v3 [.int .i64 (5 + (x1 : Int)), .int .i64 (1 + (x2 : Int)), .int .i64 0, .int .i64 (1 + (x3 : Int)), .int .i64 0, .bool false, .int .i64 0, .slice none 0 0, .slice none 0 0, .bool false, .int .i64 0, .slice none 0 0, .slice none 0 0, .int .i64 0, .slice none 0 0] [.int .i64 0, .int .i64 1, .int .i64 4, .int .i64 (5 + (x1 : Int) - 1)] 39 3
 have lX := bX.lt
 have lI := bI.lt
 clear ev4
 have sv4 := hbv4.size
 replace hc := hc.below hbv4
 replace bR := bR.below hbv4 bR.lt
 replace HW := HW.trans (Within.of_below hbv4)
 clear hbv4
 go_wp2_with fail
 rw [hv4.out]
 clear hv4
 refine (l1Int_any B zs (some ⟨v3.heap.size + 1, 0, none⟩) 4 [0, 1, 4, 5 + (x1 : Int) - 1] v4 hc hl (readsI_box [0, 1, 4, 5 + (x1 : Int) - 1] bI) (fun b off h => by cases h; omega) (by simp) (by simp)).mono ?_
 clear hc bI
 rintro e v5 ⟨j, hj, rfl, hc, hgv5⟩
 generalize [0, 1, 4, 5 + (x1 : Int) - 1].getD j 0 = pv at *
 clear hj
 have hwv5 := within_cur hgv5
 clear hgv5
 have sv5 := hwv5.size
 replace bR := bR.within hwv5 (by omega)
 replace bX := bX.within hwv5 (by omega)
 replace HW := HW.trans hwv5
 clear hwv5
 have cx2 := bX.cell 2 _ rfl
 have cf2 := bX.frozen 2
 obtain ⟨v6, hv6, bX2, hwv6, ev6⟩ := box_set bX 2 (.int .i64 pv)
 have e1v6 := Nat.le_of_eq ev6
 have e2v6 := Nat.le_of_eq ev6.symm
 clear ev6
 simp only [List.set] at bX2
 replace hc := hc.within hwv6 (by omega)
 replace bR := bR.within hwv6 (by omega)
 replace HW := HW.new hwv6 (by omega)
 clear bX hwv6
 have bX := bX2
 clear bX2
 go_upto_region 3 with fail
 rw [hv6.out]
 clear hv6 cx2 cf2
 have k3 := bX.cell 3 _ rfl
 go_upto_region 4 with fail
 clear k3
 by_cases q0 : x3 = 0
 case pos =>
  have t1_ : ((1 + (x3 : Int)) == 1) = true := by simp; omega
  go_wp2_with fail
  refine (l1Below_any B zs 31 v6 hc hl (by omega)).mono ?_
  clear hc
  rintro e v7 ⟨y, rfl, hy, hc, hgv7⟩
  replace hy : (y : Int) < 31 := hy (by decide)
  have hwv7 := within_cur hgv7
  clear hgv7
  have sv7 := hwv7.size
  replace bR := bR.within hwv7 (by omega)
  replace bX := bX.within hwv7 (by omega)
  replace HW := HW.trans hwv7
  clear hwv7
  have cx4 := bX.cell 4 _ rfl
  have cf4 := bX.frozen 4
  obtain ⟨v8, hv8, bX2, hwv8, ev8⟩ := box_set bX 4 (.int .i64 (1 + (y : Int)))
  have e1v8 := Nat.le_of_eq ev8
  have e2v8 := Nat.le_of_eq ev8.symm
  clear ev8
  simp only [List.set] at bX2
  replace hc := hc.within hwv8 (by omega)
  replace bR := bR.within hwv8 (by omega)
  replace HW := HW.new hwv8 (by omega)
  clear bX hwv8
  have bX := bX2
  clear bX2
  go_wp2_with fail
  rw [hv8.out]
  clear hv8 cx4 cf4
  refine (l3DrawSlot_any B zs v8 hc hl).mono ?_
  clear hc
  rintro e v9 ⟨t1, rfl, hst1, ot1, hc, hwv9⟩
  simp only [SlotA.cells]
  have sv9 := hwv9.size
  replace bR := bR.within hwv9 (by omega)
  replace bX := bX.within hwv9 (by omega)
  replace HW := HW.trans hwv9
  clear hwv9
  have cx5 := bX.cell 5 _ rfl
  have cf5 := bX.frozen 5
  have cx6 := bX.cell 6 _ rfl
  have cf6 := bX.frozen 6
  have cx7 := bX.cell 7 _ rfl
  have cf7 := bX.frozen 7
  have cx8 := bX.cell 8 _ rfl
  have cf8 := bX.frozen 8
  obtain ⟨v10, hv10, bX2, hwv10, ev10⟩ := box_quad bX 5 6 7 8 (.bool t1.v.has) (.int .i64 t1.v.o.kind) (.slice t1.aI t1.v.o.ints.length t1.cI) (.slice t1.aR t1.v.o.refs.length t1.cR)
  have e1v10 := Nat.le_of_eq ev10
  have e2v10 := Nat.le_of_eq ev10.symm
  clear ev10
  simp only [List.set] at bX2
  replace hc := hc.within hwv10 (by omega)
  replace bR := bR.within hwv10 (by omega)
  replace ot1 := OwnO.within ot1 hwv10 (by omega)
  replace HW := HW.new hwv10 (by omega)
  clear bX hwv10
  have bX := bX2
  clear bX2
  go_wp2_with fail
  rw [hv10.out]
  clear hv10 cx5 cf5 cx6 cf6 cx7 cf7 cx8 cf8
  refine (l3DrawSlot_any B zs v10 hc hl).mono ?_
  clear hc
  rintro e v11 ⟨t2, rfl, hst2, ot2, hc, hwv11⟩
  simp only [SlotA.cells]
  have sv11 := hwv11.size
  replace bR := bR.within hwv11 (by omega)
  replace bX := bX.within hwv11 (by omega)
  replace ot1 := OwnO.within ot1 hwv11 (by omega)
  replace HW := HW.trans hwv11
  clear hwv11
  have cx9 := bX.cell 9 _ rfl
  have cf9 := bX.frozen 9
  have cx10 := bX.cell 10 _ rfl
  have cf10 := bX.frozen 10
  have cx11 := bX.cell 11 _ rfl
  have cf11 := bX.frozen 11
  have cx12 := bX.cell 12 _ rfl
  have cf12 := bX.frozen 12
  obtain ⟨v12, hv12, bX2, hwv12, ev12⟩ := box_quad bX 9 10 11 12 (.bool t2.v.has) (.int .i64 t2.v.o.kind) (.slice t2.aI t2.v.o.ints.length t2.cI) (.slice t2.aR t2.v.o.refs.length t2.cR)
  have e1v12 := Nat.le_of_eq ev12
  have e2v12 := Nat.le_of_eq ev12.symm
  clear ev12
  simp only [List.set] at bX2
  replace hc := hc.within hwv12 (by omega)
  replace bR := bR.within hwv12 (by omega)
  replace ot1 := OwnO.within ot1 hwv12 (by omega)
  replace ot2 := OwnO.within ot2 hwv12 (by omega)
  replace HW := HW.new hwv12 (by omega)
  clear bX hwv12
  have bX := bX2
  clear bX2
  go_upto_region 20 with fail
  rw [hv12.out]
  clear hv12 cx9 cf9 cx10 cf10 cx11 cf11 cx12 cf12
  have bT : Box v12 v3.heap.size (RecA.cells ⟨5 + (x1 : Int), 1 + (x2 : Int), pv, 1 + (x3 : Int), 1 + (y : Int), t1, t2, 0, [], none, 0⟩) 39 := bX
  have oT : RecA.own v12 v8.heap.size v12.heap.size ⟨5 + (x1 : Int), 1 + (x2 : Int), pv, 1 + (x3 : Int), 1 + (y : Int), t1, t2, 0, [], none, 0⟩ := (own_two _ _ _ _ _ _ ot1 ot2 (by omega) (by omega) (by omega)).widen (Nat.le_refl _) (by omega) (Nat.le_refl _)
  have HSH : Hid (RecA.short ⟨5 + (x1 : Int), 1 + (x2 : Int), pv, 1 + (x3 : Int), 1 + (y : Int), t1, t2, 0, [], none, 0⟩ 10) := ⟨⟨by show t1.v.o.ints.length ≤ 10; omega, by show t1.v.o.refs.length ≤ 10; omega⟩, ⟨by show t2.v.o.ints.length ≤ 10; omega, by show t2.v.o.refs.length ≤ 10; omega⟩, Nat.zero_le _⟩
  generalize hT : ((⟨5 + (x1 : Int), 1 + (x2 : Int), pv, 1 + (x3 : Int), 1 + (y : Int), t1, t2, 0, [], none, 0⟩) : RecA) = TT at *
  clear hT
  obtain ⟨WF, hWF, hwF, hsF, HTF, HLF, _⟩ := rec_out TT _ rfl bR
  have HF : Hid (Drawn w WF B zs (.returned (.agg TT.cells.toArray))) := ⟨TT, rfl, HSH.out, (oT.within hwF (by omega)).widen (by omega) (by omega) (Nat.le_refl _), hc.within hwF (by omega), HW.new hwF (Nat.le_refl _)⟩
  have rT := Box.range [] TT.cells [] (by simpa using bT : Box v12 v3.heap.size ([] ++ (TT.cells ++ [])) 39)
  clear hwF hsF bX
  go_wp2_with (first | (guard_target = wpList _ _ _ (Oper.mk (some 74) _ _ _ _ _ :: _) _ _; refine wpList_load_mid rfl 39 (.tmp 3) rfl v3.heap.size 0 rfl TT.cells _ (rT) Tryz.underlying39 rfl (rec_info _) ?_) | (guard_target = wpList _ _ _ (Oper.mk none (Op.store _ (Operand.tmp 2) _) _ _ _ _ :: _) _ _; refine wpList_store_mid rfl 39 (.tmp 2) (.tmp 74) rfl w.heap.size 0 TT.cells.toArray rfl rfl (HTF.out) (by rw [List.size_toArray]; exact rec_info _) (rec_one _) ?_) | fail)
  rw [hWF.out]
  exact bodyPost_ret (v := .agg TT.cells.toArray) (results_one Tryz.results70 rfl HLF.out) rfl HF.out
 case neg =>
 have f1_ : ((1 + (x3 : Int)) == 1) = false := by simp; omega
 by_cases q3 : x3 = 3
 case pos =>
  have t4_ : ((1 + (x3 : Int)) == 4) = true := by simp; omega
  go_wp2_with fail
  refine (l1Below_any B zs 31 v6 hc hl (by omega)).mono ?_
  clear hc
  rintro e v7 ⟨y, rfl, hy, hc, hgv7⟩
  replace hy : (y : Int) < 31 := hy (by decide)
  have hwv7 := within_cur hgv7
  clear hgv7
  have sv7 := hwv7.size
  replace bR := bR.within hwv7 (by omega)
  replace bX := bX.within hwv7 (by omega)
  replace HW := HW.trans hwv7
  clear hwv7
  have cx4 := bX.cell 4 _ rfl
  have cf4 := bX.frozen 4
  obtain ⟨v8, hv8, bX2, hwv8, ev8⟩ := box_set bX 4 (.int .i64 (1 + (y : Int)))
  have e1v8 := Nat.le_of_eq ev8
  have e2v8 := Nat.le_of_eq ev8.symm
  clear ev8
  simp only [List.set] at bX2
  replace hc := hc.within hwv8 (by omega)
  replace bR := bR.within hwv8 (by omega)
  replace HW := HW.new hwv8 (by omega)
  clear bX hwv8
  have bX := bX2
  clear bX2
  go_wp2_with fail
  rw [hv8.out]
  clear hv8 cx4 cf4
  refine (l3DrawSlot_any B zs v8 hc hl).mono ?_
  clear hc
  rintro e v9 ⟨t2, rfl, hst2, ot2, hc, hwv9⟩
  simp only [SlotA.cells]
  have sv9 := hwv9.size
  replace bR := bR.within hwv9 (by omega)
  replace bX := bX.within hwv9 (by omega)
  replace HW := HW.trans hwv9
  clear hwv9
  have cx9 := bX.cell 9 _ rfl
  have cf9 := bX.frozen 9
  have cx10 := bX.cell 10 _ rfl
  have cf10 := bX.frozen 10
  have cx11 := bX.cell 11 _ rfl
  have cf11 := bX.frozen 11
  have cx12 := bX.cell 12 _ rfl
  have cf12 := bX.frozen 12
  obtain ⟨v10, hv10, bX2, hwv10, ev10⟩ := box_quad bX 9 10 11 12 (.bool t2.v.has) (.int .i64 t2.v.o.kind) (.slice t2.aI t2.v.o.ints.length t2.cI) (.slice t2.aR t2.v.o.refs.length t2.cR)
  have e1v10 := Nat.le_of_eq ev10
  have e2v10 := Nat.le_of_eq ev10.symm
  clear ev10
  simp only [List.set] at bX2
  replace hc := hc.within hwv10 (by omega)
  replace bR := bR.within hwv10 (by omega)
  replace ot2 := OwnO.within ot2 hwv10 (by omega)
  replace HW := HW.new hwv10 (by omega)
  clear bX hwv10
  have bX := bX2
  clear bX2
  go_upto_region 11 with fail
  rw [hv10.out]
  clear hv10 cx9 cf9 cx10 cf10 cx11 cf11 cx12 cf12
  have k0 := bX.cell 0 _ rfl
  obtain ⟨v11, hv11, bI, hbv11, ev11⟩ := boxes1 v10 [.int .i64 0, .int .i64 1, .int .i64 (5 + (x1 : Int) - 1)] 3
  have lI := bI.lt
  clear ev11
  go_wp2_with fail
  rw [hv11.out]
  clear hv11 k0
  have sv11 := hbv11.size
  replace hc := hc.below hbv11
  replace bR := bR.below hbv11 bR.lt
  replace bX := bX.below hbv11 bX.lt
  replace ot2 := OwnO.below ot2 hbv11
  replace HW := HW.trans (Within.of_below hbv11)
  clear hbv11
  refine (l1Int_any B zs (some ⟨v10.heap.size, 0, none⟩) 3 [0, 1, 5 + (x1 : Int) - 1] v11 hc hl (readsI_box [0, 1, 5 + (x1 : Int) - 1] bI) (fun b off h => by cases h; omega) (by simp) (by simp)).mono ?_
  clear hc bI
  rintro e v12 ⟨j, hj, rfl, hc, hgv12⟩
  generalize [0, 1, 5 + (x1 : Int) - 1].getD j 0 = nv at *
  clear hj
  have hwv12 := within_cur hgv12
  clear hgv12
  have sv12 := hwv12.size
  replace bR := bR.within hwv12 (by omega)
  replace bX := bX.within hwv12 (by omega)
  replace ot2 := OwnO.within ot2 hwv12 (by omega)
  replace HW := HW.trans hwv12
  clear hwv12
  have cx13 := bX.cell 13 _ rfl
  have cf13 := bX.frozen 13
  obtain ⟨v13, hv13, bX2, hwv13, ev13⟩ := box_set bX 13 (.int .i64 nv)
  have e1v13 := Nat.le_of_eq ev13
  have e2v13 := Nat.le_of_eq ev13.symm
  clear ev13
  simp only [List.set] at bX2
  replace hc := hc.within hwv13 (by omega)
  replace bR := bR.within hwv13 (by omega)
  replace ot2 := OwnO.within ot2 hwv13 (by omega)
  replace HW := HW.new hwv13 (by omega)
  clear bX hwv13
  have bX := bX2
  clear bX2
  go_upto_region 20 with fail
  rw [hv13.out]
  clear hv13 cx13 cf13
  have bT : Box v13 v3.heap.size (RecA.cells ⟨5 + (x1 : Int), 1 + (x2 : Int), pv, 1 + (x3 : Int), 1 + (y : Int), zeroS, t2, nv, [], none, 0⟩) 39 := bX
  have oT : RecA.own v13 v8.heap.size v13.heap.size ⟨5 + (x1 : Int), 1 + (x2 : Int), pv, 1 + (x3 : Int), 1 + (y : Int), zeroS, t2, nv, [], none, 0⟩ := (own_two _ _ _ _ _ _ (zero_own _ v8.heap.size v8.heap.size (by omega)) ot2 (by omega) (by omega) (by omega)).widen (Nat.le_refl _) (by omega) (Nat.le_refl _)
  have HSH : Hid (RecA.short ⟨5 + (x1 : Int), 1 + (x2 : Int), pv, 1 + (x3 : Int), 1 + (y : Int), zeroS, t2, nv, [], none, 0⟩ 10) := ⟨⟨Nat.zero_le _, Nat.zero_le _⟩, ⟨by show t2.v.o.ints.length ≤ 10; omega, by show t2.v.o.refs.length ≤ 10; omega⟩, Nat.zero_le _⟩
  generalize hT : ((⟨5 + (x1 : Int), 1 + (x2 : Int), pv, 1 + (x3 : Int), 1 + (y : Int), zeroS, t2, nv, [], none, 0⟩) : RecA) = TT at *
  clear hT
  obtain ⟨WF, hWF, hwF, hsF, HTF, HLF, _⟩ := rec_out TT _ rfl bR
  have HF : Hid (Drawn w WF B zs (.returned (.agg TT.cells.toArray))) := ⟨TT, rfl, HSH.out, (oT.within hwF (by omega)).widen (by omega) (by omega) (Nat.le_refl _), hc.within hwF (by omega), HW.new hwF (Nat.le_refl _)⟩
  have rT := Box.range [] TT.cells [] (by simpa using bT : Box v13 v3.heap.size ([] ++ (TT.cells ++ [])) 39)
  clear hwF hsF bX
  go_wp2_with (first | (guard_target = wpList _ _ _ (Oper.mk (some 74) _ _ _ _ _ :: _) _ _; refine wpList_load_mid rfl 39 (.tmp 3) rfl v3.heap.size 0 rfl TT.cells _ (rT) Tryz.underlying39 rfl (rec_info _) ?_) | (guard_target = wpList _ _ _ (Oper.mk none (Op.store _ (Operand.tmp 2) _) _ _ _ _ :: _) _ _; refine wpList_store_mid rfl 39 (.tmp 2) (.tmp 74) rfl w.heap.size 0 TT.cells.toArray rfl rfl (HTF.out) (by rw [List.size_toArray]; exact rec_info _) (rec_one _) ?_) | fail)
  rw [hWF.out]
  exact bodyPost_ret (v := .agg TT.cells.toArray) (results_one Tryz.results70 rfl HLF.out) rfl HF.out
 case neg =>
 have f4_ : ((1 + (x3 : Int)) == 4) = false := by simp; omega
 by_cases q5 : x3 = 5
 case neg =>
  have f6_ : ((1 + (x3 : Int)) == 6) = false := by simp; omega
  go_upto_region 20 with fail
  have bT : Box v6 v3.heap.size (RecA.cells ⟨5 + (x1 : Int), 1 + (x2 : Int), pv, 1 + (x3 : Int), 0, zeroS, zeroS, 0, [], none, 0⟩) 39 := bX
  have oT : RecA.own v6 W.heap.size v6.heap.size ⟨5 + (x1 : Int), 1 + (x2 : Int), pv, 1 + (x3 : Int), 0, zeroS, zeroS, 0, [], none, 0⟩ := own_lives _ _ _ _ _ _ (ownL_nil _ _ _ (Nat.le_refl _))
  have HSH : Hid (RecA.short ⟨5 + (x1 : Int), 1 + (x2 : Int), pv, 1 + (x3 : Int), 0, zeroS, zeroS, 0, [], none, 0⟩ 10) := ⟨⟨Nat.zero_le _, Nat.zero_le _⟩, ⟨Nat.zero_le _, Nat.zero_le _⟩, Nat.zero_le _⟩
  generalize hT : ((⟨5 + (x1 : Int), 1 + (x2 : Int), pv, 1 + (x3 : Int), 0, zeroS, zeroS, 0, [], none, 0⟩) : RecA) = TT at *
  clear hT
  obtain ⟨WF, hWF, hwF, hsF, HTF, HLF, _⟩ := rec_out TT _ rfl bR
  have HF : Hid (Drawn w WF B zs (.returned (.agg TT.cells.toArray))) := ⟨TT, rfl, HSH.out, (oT.within hwF (by omega)).widen (by omega) (by omega) (Nat.le_refl _), hc.within hwF (by omega), HW.new hwF (Nat.le_refl _)⟩
  have rT := Box.range [] TT.cells [] (by simpa using bT : Box v6 v3.heap.size ([] ++ (TT.cells ++ [])) 39)
  clear hwF hsF bX
  go_wp2_with (first | (guard_target = wpList _ _ _ (Oper.mk (some 74) _ _ _ _ _ :: _) _ _; refine wpList_load_mid rfl 39 (.tmp 3) rfl v3.heap.size 0 rfl TT.cells _ (rT) Tryz.underlying39 rfl (rec_info _) ?_) | (guard_target = wpList _ _ _ (Oper.mk none (Op.store _ (Operand.tmp 2) _) _ _ _ _ :: _) _ _; refine wpList_store_mid rfl 39 (.tmp 2) (.tmp 74) rfl w.heap.size 0 TT.cells.toArray rfl rfl (HTF.out) (by rw [List.size_toArray]; exact rec_info _) (rec_one _) ?_) | fail)
  rw [hWF.out]
  exact bodyPost_ret (v := .agg TT.cells.toArray) (results_one Tryz.results70 rfl HLF.out) rfl HF.out
 case pos =>
  have t6_ : ((1 + (x3 : Int)) == 6) = true := by simp; omega
  clear q0 q3 q5
  go_upto_region 13 with fail
  have cx1 := bX.cell 1 _ rfl
  have cf1 := bX.frozen 1
  obtain ⟨v7, hv7, bX2, hwv7, ev7⟩ := box_set bX 1 (.int .i64 0)
  have e1v7 := Nat.le_of_eq ev7
  have e2v7 := Nat.le_of_eq ev7.symm
  clear ev7
  simp only [List.set] at bX2
  replace hc := hc.within hwv7 (by omega)
  replace bR := bR.within hwv7 (by omega)
  replace HW := HW.new hwv7 (by omega)
  clear bX hwv7
  have bX := bX2
  clear bX2
  go_upto_region 14 with fail
  rw [hv7.out]
  clear hv7 cx1 cf1
  have cx2 := bX.cell 2 _ rfl
  have cf2 := bX.frozen 2
  obtain ⟨v8, hv8, bX2, hwv8, ev8⟩ := box_set bX 2 (.int .i64 0)
  have e1v8 := Nat.le_of_eq ev8
  have e2v8 := Nat.le_of_eq ev8.symm
  clear ev8
  simp only [List.set] at bX2
  replace hc := hc.within hwv8 (by omega)
  replace bR := bR.within hwv8 (by omega)
  replace HW := HW.new hwv8 (by omega)
  clear bX hwv8
  have bX := bX2
  clear bX2
  go_upto_region 15 with fail
  rw [hv8.out]
  clear hv8 cx2 cf2
  go_wp2_with fail
  go_loopw [4] (fun i wr => ∃ (k : Nat) (ls : List LiveV) (aL : Option Addr) (cL : Nat), i = .int .i64 k ∧ k ≤ 5 ∧ Hid (ls.length ≤ k) ∧ OwnL wr v8.heap.size wr.heap.size aL cL ls ∧ Box wr v3.heap.size [.int .i64 (5 + (x1 : Int)), .int .i64 0, .int .i64 0, .int .i64 (1 + (x3 : Int)), .int .i64 0, .bool false, .int .i64 0, .slice none 0 0, .slice none 0 0, .bool false, .int .i64 0, .slice none 0 0, .slice none 0 0, .int .i64 0, .slice aL ls.length cL] 39 ∧ Box wr w.heap.size [.int .i64 0, .int .i64 0, .int .i64 0, .int .i64 0, .int .i64 0, .bool false, .int .i64 0, .slice none 0 0, .slice none 0 0, .bool false, .int .i64 0, .slice none 0 0, .slice none 0 0, .int .i64 0, .slice none 0 0] 39 ∧ CurAt wr B zs ∧ v8.heap.size ≤ wr.heap.size ∧ Within B (B + 1) w wr)
   (fun i _ => 5 - (intOf i).toNat)
  case atStart => exact ⟨1, [], none, 0, rfl, by omega, by simp [Hid], ownL_nil _ _ _ (Nat.le_refl _), bX, bR, hc, Nat.le_refl _, HW⟩
  case round =>
   obtain ⟨k, ls, aL, cL, rfl, hk, hll, oL, bXr, bRr, hcr, hsr, HWr⟩ := hrel
   clear bX bR hc HW
   by_cases hlt : k < 5
   case neg =>
    have hkk : ¬ (k : Int) < 5 := by omega
    have bT : Box wr v3.heap.size (RecA.cells ⟨5 + (x1 : Int), 0, 0, 1 + (x3 : Int), 0, zeroS, zeroS, 0, ls, aL, cL⟩) 39 := bXr
    have oT : RecA.own wr v8.heap.size wr.heap.size ⟨5 + (x1 : Int), 0, 0, 1 + (x3 : Int), 0, zeroS, zeroS, 0, ls, aL, cL⟩ := own_lives _ _ _ _ _ _ oL
    have HSH : Hid (RecA.short ⟨5 + (x1 : Int), 0, 0, 1 + (x3 : Int), 0, zeroS, zeroS, 0, ls, aL, cL⟩ 10) := ⟨⟨Nat.zero_le _, Nat.zero_le _⟩, ⟨Nat.zero_le _, Nat.zero_le _⟩, by show ls.length ≤ 10; have := hll.out; omega⟩
    generalize hT : ((⟨5 + (x1 : Int), 0, 0, 1 + (x3 : Int), 0, zeroS, zeroS, 0, ls, aL, cL⟩) : RecA) = TT at *
    clear hT
    obtain ⟨WF, hWF, hwF, hsF, HTF, HLF, _⟩ := rec_out TT _ rfl bRr
    have HF : Hid (Drawn w WF B zs (.returned (.agg TT.cells.toArray))) := ⟨TT, rfl, HSH.out, (oT.within hwF (by omega)).widen (by omega) (by omega) (Nat.le_refl _), hcr.within hwF (by omega), HWr.new hwF (Nat.le_refl _)⟩
    have rT := Box.range [] TT.cells [] (by simpa using bT : Box wr v3.heap.size ([] ++ (TT.cells ++ [])) 39)
    clear hwF hsF bXr
    go_wp2_with (first | (guard_target = wpList _ _ _ (Oper.mk (some 74) _ _ _ _ _ :: _) _ _; refine wpList_load_mid rfl 39 (.tmp 3) rfl v3.heap.size 0 rfl TT.cells _ rT Tryz.underlying39 rfl (rec_info _) ?_) | (guard_target = wpList _ _ _ (Oper.mk none (Op.store _ (Operand.tmp 2) _) _ _ _ _ :: _) _ _; refine wpList_store_mid rfl 39 (.tmp 2) (.tmp 74) rfl w.heap.size 0 TT.cells.toArray rfl rfl HTF.out (by rw [List.size_toArray]; exact rec_info _) (rec_one _) ?_) | fail)
    rw [hWF.out]
    exact bodyPost_ret (v := .agg TT.cells.toArray) (results_one Tryz.results70 rfl HLF.out) rfl HF.out
   case pos =>
    have hkp : (k : Int) < 5 := by omega
    go_wp2_with fail
    refine (l1Once_any B zs 2 wr hcr hl (by omega)).mono ?_
    clear hcr
    rintro e c1 ⟨bb, rfl, hcr, hg1⟩
    have hw1 := within_cur hg1
    clear hg1
    have z1 := hw1.size
    replace bXr := bXr.within hw1 (by omega)
    replace bRr := bRr.within hw1 (by omega)
    replace oL := oL.within hw1 (by omega)
    replace HWr := HWr.trans hw1
    clear hw1
    cases bb with
    | false =>
     go_wp2_with fail
     go_roundw
     case rel => exact ⟨k + 1, ls, aL, cL, by go_num, by omega, by have := hll.out; rw [Hid]; omega, oL.widen (Nat.le_refl _) (by omega) (Nat.le_refl _), bXr, bRr, hcr, by omega, HWr⟩
     case measure => simp [intOf]; omega
    | true =>
     go_wp2_with fail
     refine wp_region_held_drew (S := fun _ => True) (by kernel_rfl) trivial (fun hHeld => ?_)
     replace bXr : Box c1.drew v3.heap.size [.int .i64 (5 + (x1 : Int)), .int .i64 0, .int .i64 0, .int .i64 (1 + (x3 : Int)), .int .i64 0, .bool false, .int .i64 0, .slice none 0 0, .slice none 0 0, .bool false, .int .i64 0, .slice none 0 0, .slice none 0 0, .int .i64 0, .slice aL ls.length cL] 39 := bXr
     replace bRr : Box c1.drew w.heap.size [.int .i64 0, .int .i64 0, .int .i64 0, .int .i64 0, .int .i64 0, .bool false, .int .i64 0, .slice none 0 0, .slice none 0 0, .bool false, .int .i64 0, .slice none 0 0, .slice none 0 0, .int .i64 0, .slice none 0 0] 39 := bRr
     replace oL : OwnL c1.drew v8.heap.size wr.heap.size aL cL ls := oL.below (Below.refl _ _).drew
     replace hcr : CurAt c1.drew B zs := hcr
     replace HWr : Within B (B + 1) w c1.drew := HWr.trans (Within.of_below (Below.refl _ _).drew)
     have z1' : wr.heap.size ≤ c1.drew.heap.size := z1
     generalize c1.drew = d1 at *
     refine tk 0 (v := .pointer (some ⟨v3.heap.size, 14, none⟩)) rfl (Or.inl ⟨by rfl, ?_⟩) hHeld ?_
     ·intro w' hSw
      go_simp <;> rfl
     try simp only [Act.put, zA, zB, zD, zE, zF]
     refine tk 2 (v := .int .i64 (k : Int)) rfl (Or.inl ⟨by rfl, ?_⟩) hHeld ?_
     ·intro w' hSw
      go_simp <;> rfl
     try simp only [Act.put, zA, zB, zC, zD, zE, zF]
     refine tk 3 (v := .pointer (some ⟨B, 0, none⟩)) rfl (Or.inl ⟨by rfl, ?_⟩) hHeld ?_
     ·intro w' hSw
      go_simp <;> rfl
     try simp only [Act.put, zA, zB, zC, zD, zE, zF]
     refine tk 6 (v := .pointer (some ⟨B, 0, none⟩)) rfl (Or.inl ⟨by rfl, ?_⟩) hHeld ?_
     ·intro w' hSw
      go_simp <;> rfl
     try simp only [Act.put, zA, zB, zC, zD, zE, zF]
     refine wpAnyH_ready (rs := [1, 4]) (by kernel_rfl) (by simp) ?_
     refine AllReadyH.cons rfl (fun K hK => ?_) (AllReadyH.cons rfl (fun K hK => ?_) AllReadyH.nil)
     focus
      have y14 := bXr.cell 14 _ rfl
      go_simp
      refine hK.out _ _ trivial (fun hHeld => ?_)
      clear hK K y14
      try simp only [Act.put, zA, zB, zC, zD, zE, zF]
      refine wpAnyH_ready (rs := [4]) (by kernel_rfl) (by simp) ?_
      refine AllReadyH.cons rfl (fun K hK => ?_) AllReadyH.nil
      go_simp
      refine (l1Below_any B zs 4 d1 hcr hl (by omega)).mono ?_
      clear hcr
      rintro e d1a ⟨y, rfl, hy, hcr, hgy⟩
      replace hy : (y : Int) < 4 := hy (by decide)
      have hwrap : IntKind.i64.wrap (1 + (y : Int)) = 1 + (y : Int) := by rw [IntKind.wrap_i64]; omega
      have hwy := within_cur hgy
      clear hgy
      have zy := hwy.size
      replace bXr := bXr.within hwy (by omega)
      replace bRr := bRr.within hwy (by omega)
      replace oL := oL.within hwy (by omega)
      replace HWr := HWr.trans hwy
      clear hwy
      refine hK.out _ _ trivial (fun hHeld => ?_)
      clear hK K
      try simp only [Act.put, zA, zB, zC, zD, zE, zF]
      refine tk 5 (v := .int .i64 (1 + (y : Int))) rfl (Or.inl ⟨by rfl, ?_⟩) hHeld ?_
      ·intro w' hSw
       go_simp <;> rfl
      try simp only [Act.put, zA, zB, zC, zD, zE, zF]
      refine wpAnyH_ready (rs := [7]) (by kernel_rfl) (by simp) ?_
      refine AllReadyH.cons rfl (fun K hK => ?_) AllReadyH.nil
      go_simp
      refine (l1Once_any B zs 2 d1a hcr hl (by omega)).mono ?_
      clear hcr
      rintro e d1ab ⟨b2, rfl, hcr, hgy⟩
      have hwy := within_cur hgy
      clear hgy
      have zz := hwy.size
      replace bXr := bXr.within hwy (by omega)
      replace bRr := bRr.within hwy (by omega)
      replace oL := oL.within hwy (by omega)
      replace HWr := HWr.trans hwy
      clear hwy
      refine hK.out _ _ trivial (fun hHeld => ?_)
      clear hK K
      try simp only [Act.put, zA, zB, zC, zD, zE, zF]
      refine tk 8 (v := .agg #[.int .i64 (k : Int), .int .i64 (1 + (y : Int)), .bool b2]) rfl (Or.inl ⟨by rfl, ?_⟩) hHeld ?_
      ·intro w' hSw
       go_simp <;> rfl
      try simp only [Act.put, zA, zB, zC, zD, zE, zF]
      refine wpAnyH_ready (rs := [9]) (by kernel_rfl) (by simp) ?_
      refine AllReadyH.cons rfl (fun K hK => ?_) AllReadyH.nil
      go_simp
      have hrz := readsL_one d1ab ⟨(k : Int), 1 + (y : Int), b2⟩ 112
      simp only at hrz
      have hbA : Below d1ab.heap.size d1ab (d1ab.alloc (.cells #[.int .i64 (k : Int), .int .i64 (1 + (y : Int)), .bool b2] 112)) := (Below.refl _ _).alloc (Nat.le_refl _) _
      have zA := hbA.size
      replace bXr := bXr.below hbA bXr.lt
      replace bRr := bRr.below hbA bRr.lt
      replace oL := oL.below hbA
      replace hcr := hcr.below hbA
      replace HWr := HWr.trans (Within.of_below hbA)
      clear hbA
      have zq : d1ab.heap.size < (d1ab.alloc (.cells #[.int .i64 (k : Int), .int .i64 (1 + (y : Int)), .bool b2] 112)).heap.size := by rw [World.size_alloc]; omega
      refine hK.out _ _ trivial (fun hHeld => ?_)
      clear hK K
      try simp only [Act.put, zA, zB, zC, zD, zE, zF]
      refine wpAnyH_ready (rs := [10]) (by kernel_rfl) (by simp) ?_
      refine AllReadyH.cons rfl (fun K hK => ?_) AllReadyH.nil
      refine step_append_lives rfl _ _ rfl v8.heap.size _ aL cL ls rfl oL (some ⟨d1ab.heap.size, 0, none⟩) 1 [⟨(k : Int), 1 + (y : Int), b2⟩] rfl hrz (fun h => by cases h) (by simp only [List.length_cons, List.length_nil]; have := hll.out; omega) (by omega) ?_
      intro a9 c9 ys w9 hys o9 g9 _
      have hw9 : Within v8.heap.size wr.heap.size (d1ab.alloc (.cells #[.int .i64 (k : Int), .int .i64 (1 + (y : Int)), .bool b2] 112)) w9 := Within.of_grown g9 (fun j hj => oL.lt j hj)
      have z9 := hw9.size
      replace bXr := bXr.within hw9 (by omega)
      replace bRr := bRr.within hw9 (by omega)
      replace hcr := hcr.within hw9 (by omega)
      replace HWr := HWr.new hw9 (by omega)
      clear hw9 g9 oL hrz
      refine hK.out _ _ trivial (fun hHeld => ?_)
      clear hK K
      try simp only [Act.put, zD]
      refine tk 11 (v := .pointer (some ⟨v3.heap.size, 14, none⟩)) rfl (Or.inl ⟨by rfl, ?_⟩) hHeld ?_
      ·intro w' hSw
       go_simp <;> rfl
      try simp only [Act.put]
      have y14 := bXr.cell 14 _ rfl
      have f14 := bXr.frozen 14
      obtain ⟨V2, hV2, bX2, hw2, hs2⟩ := box_set bXr 14 (.slice a9 ys.length c9)
      simp only [List.set] at bX2
      replace o9 : OwnL V2 v8.heap.size V2.heap.size a9 c9 ys := (o9.within hw2 (by omega)).widen (Nat.le_refl _) (by omega) (Nat.le_refl _)
      replace bRr := bRr.within hw2 (by omega)
      replace hcr := hcr.within hw2 (by omega)
      replace HWr := HWr.new hw2 (by omega)
      have HYL : Hid (ys.length ≤ k + 1) := by rw [Hid, hys.out]; simp; have := hll.out; omega
      have hz2 : v8.heap.size ≤ V2.heap.size := by omega
      clear hw2 hs2 bXr
      refine wpAnyH_ready (rs := [12]) (by kernel_rfl) (by simp) ?_
      refine AllReadyH.cons rfl (fun K hK => ?_) AllReadyH.nil
      go_simp
      rw [hV2.out]
      refine hK.out _ _ trivial (fun hHeld => ?_)
      clear hK K
      refine wpAnyH_done (by kernel_rfl) ?_ _
      clear hHeld y14 f14 hV2
      go_wp2_with fail
      go_roundw
      case rel => exact ⟨k + 1, ys, a9, c9, by go_num, by omega, HYL, o9, bX2, bRr, hcr, hz2, HWr⟩
      case measure => simp [intOf]; omega
     focus
      go_simp
      refine (l1Below_any B zs 4 d1 hcr hl (by omega)).mono ?_
      clear hcr
      rintro e d1a ⟨y, rfl, hy, hcr, hgy⟩
      replace hy : (y : Int) < 4 := hy (by decide)
      have hwrap : IntKind.i64.wrap (1 + (y : Int)) = 1 + (y : Int) := by rw [IntKind.wrap_i64]; omega
      have hwy := within_cur hgy
      clear hgy
      have zy := hwy.size
      replace bXr := bXr.within hwy (by omega)
      replace bRr := bRr.within hwy (by omega)
      replace oL := oL.within hwy (by omega)
      replace HWr := HWr.trans hwy
      clear hwy
      refine hK.out _ _ trivial (fun hHeld => ?_)
      clear hK K
      try simp only [Act.put, zA, zB, zC, zD, zE, zF]
      refine tk 5 (v := .int .i64 (1 + (y : Int))) rfl (Or.inl ⟨by rfl, ?_⟩) hHeld ?_
      ·intro w' hSw
       go_simp <;> rfl
      try simp only [Act.put, zA, zB, zC, zD, zE, zF]
      refine wpAnyH_ready (rs := [1, 7]) (by kernel_rfl) (by simp) ?_
      refine AllReadyH.cons rfl (fun K hK => ?_) (AllReadyH.cons rfl (fun K hK => ?_) AllReadyH.nil)
      focus
       have y14 := bXr.cell 14 _ rfl
       go_simp
       refine hK.out _ _ trivial (fun hHeld => ?_)
       clear hK K y14
       try simp only [Act.put, zA, zB, zC, zD, zE, zF]
       refine wpAnyH_ready (rs := [7]) (by kernel_rfl) (by simp) ?_
       refine AllReadyH.cons rfl (fun K hK => ?_) AllReadyH.nil
       go_simp
       refine (l1Once_any B zs 2 d1a hcr hl (by omega)).mono ?_
       clear hcr
       rintro e d1ab ⟨b2, rfl, hcr, hgy⟩
       have hwy := within_cur hgy
       clear hgy
       have zz := hwy.size
       replace bXr := bXr.within hwy (by omega)
       replace bRr := bRr.within hwy (by omega)
       replace oL := oL.within hwy (by omega)
       replace HWr := HWr.trans hwy
       clear hwy
       refine hK.out _ _ trivial (fun hHeld => ?_)
       clear hK K
       try simp only [Act.put, zA, zB, zC, zD, zE, zF]
       refine tk 8 (v := .agg #[.int .i64 (k : Int), .int .i64 (1 + (y : Int)), .bool b2]) rfl (Or.inl ⟨by rfl, ?_⟩) hHeld ?_
       ·intro w' hSw
        go_simp <;> rfl
       try simp only [Act.put, zA, zB, zC, zD, zE, zF]
       refine wpAnyH_ready (rs := [9]) (by kernel_rfl) (by simp) ?_
       refine AllReadyH.cons rfl (fun K hK => ?_) AllReadyH.nil
       go_simp
       have hrz := readsL_one d1ab ⟨(k : Int), 1 + (y : Int), b2⟩ 112
       simp only at hrz
       have hbA : Below d1ab.heap.size d1ab (d1ab.alloc (.cells #[.int .i64 (k : Int), .int .i64 (1 + (y : Int)), .bool b2] 112)) := (Below.refl _ _).alloc (Nat.le_refl _) _
       have zA := hbA.size
       replace bXr := bXr.below hbA bXr.lt
       replace bRr := bRr.below hbA bRr.lt
       replace oL := oL.below hbA
       replace hcr := hcr.below hbA
       replace HWr := HWr.trans (Within.of_below hbA)
       clear hbA
       have zq : d1ab.heap.size < (d1ab.alloc (.cells #[.int .i64 (k : Int), .int .i64 (1 + (y : Int)), .bool b2] 112)).heap.size := by rw [World.size_alloc]; omega
       refine hK.out _ _ trivial (fun hHeld => ?_)
       clear hK K
       try simp only [Act.put, zA, zB, zC, zD, zE, zF]
       refine wpAnyH_ready (rs := [10]) (by kernel_rfl) (by simp) ?_
       refine AllReadyH.cons rfl (fun K hK => ?_) AllReadyH.nil
       refine step_append_lives rfl _ _ rfl v8.heap.size _ aL cL ls rfl oL (some ⟨d1ab.heap.size, 0, none⟩) 1 [⟨(k : Int), 1 + (y : Int), b2⟩] rfl hrz (fun h => by cases h) (by simp only [List.length_cons, List.length_nil]; have := hll.out; omega) (by omega) ?_
       intro a9 c9 ys w9 hys o9 g9 _
       have hw9 : Within v8.heap.size wr.heap.size (d1ab.alloc (.cells #[.int .i64 (k : Int), .int .i64 (1 + (y : Int)), .bool b2] 112)) w9 := Within.of_grown g9 (fun j hj => oL.lt j hj)
       have z9 := hw9.size
       replace bXr := bXr.within hw9 (by omega)
       replace bRr := bRr.within hw9 (by omega)
       replace hcr := hcr.within hw9 (by omega)
       replace HWr := HWr.new hw9 (by omega)
       clear hw9 g9 oL hrz
       refine hK.out _ _ trivial (fun hHeld => ?_)
       clear hK K
       try simp only [Act.put, zD]
       refine tk 11 (v := .pointer (some ⟨v3.heap.size, 14, none⟩)) rfl (Or.inl ⟨by rfl, ?_⟩) hHeld ?_
       ·intro w' hSw
        go_simp <;> rfl
       try simp only [Act.put]
       have y14 := bXr.cell 14 _ rfl
       have f14 := bXr.frozen 14
       obtain ⟨V2, hV2, bX2, hw2, hs2⟩ := box_set bXr 14 (.slice a9 ys.length c9)
       simp only [List.set] at bX2
       replace o9 : OwnL V2 v8.heap.size V2.heap.size a9 c9 ys := (o9.within hw2 (by omega)).widen (Nat.le_refl _) (by omega) (Nat.le_refl _)
       replace bRr := bRr.within hw2 (by omega)
       replace hcr := hcr.within hw2 (by omega)
       replace HWr := HWr.new hw2 (by omega)
       have HYL : Hid (ys.length ≤ k + 1) := by rw [Hid, hys.out]; simp; have := hll.out; omega
       have hz2 : v8.heap.size ≤ V2.heap.size := by omega
       clear hw2 hs2 bXr
       refine wpAnyH_ready (rs := [12]) (by kernel_rfl) (by simp) ?_
       refine AllReadyH.cons rfl (fun K hK => ?_) AllReadyH.nil
       go_simp
       rw [hV2.out]
       refine hK.out _ _ trivial (fun hHeld => ?_)
       clear hK K
       refine wpAnyH_done (by kernel_rfl) ?_ _
       clear hHeld y14 f14 hV2
       go_wp2_with fail
       go_roundw
       case rel => exact ⟨k + 1, ys, a9, c9, by go_num, by omega, HYL, o9, bX2, bRr, hcr, hz2, HWr⟩
       case measure => simp [intOf]; omega
      focus
       go_simp
       refine (l1Once_any B zs 2 d1a hcr hl (by omega)).mono ?_
       clear hcr
       rintro e d1ab ⟨b2, rfl, hcr, hgy⟩
       have hwy := within_cur hgy
       clear hgy
       have zz := hwy.size
       replace bXr := bXr.within hwy (by omega)
       replace bRr := bRr.within hwy (by omega)
       replace oL := oL.within hwy (by omega)
       replace HWr := HWr.trans hwy
       clear hwy
       refine hK.out _ _ trivial (fun hHeld => ?_)
       clear hK K
       try simp only [Act.put, zA, zB, zC, zD, zE, zF]
       refine tk 8 (v := .agg #[.int .i64 (k : Int), .int .i64 (1 + (y : Int)), .bool b2]) rfl (Or.inl ⟨by rfl, ?_⟩) hHeld ?_
       ·intro w' hSw
        go_simp <;> rfl
       try simp only [Act.put, zA, zB, zC, zD, zE, zF]
       refine wpAnyH_ready (rs := [1, 9]) (by kernel_rfl) (by simp) ?_
       refine AllReadyH.cons rfl (fun K hK => ?_) (AllReadyH.cons rfl (fun K hK => ?_) AllReadyH.nil)
       focus
        have y14 := bXr.cell 14 _ rfl
        go_simp
        refine hK.out _ _ trivial (fun hHeld => ?_)
        clear hK K y14
        try simp only [Act.put, zA, zB, zC, zD, zE, zF]
        refine wpAnyH_ready (rs := [9]) (by kernel_rfl) (by simp) ?_
        refine AllReadyH.cons rfl (fun K hK => ?_) AllReadyH.nil
        go_simp
        have hrz := readsL_one d1ab ⟨(k : Int), 1 + (y : Int), b2⟩ 112
        simp only at hrz
        have hbA : Below d1ab.heap.size d1ab (d1ab.alloc (.cells #[.int .i64 (k : Int), .int .i64 (1 + (y : Int)), .bool b2] 112)) := (Below.refl _ _).alloc (Nat.le_refl _) _
        have zA := hbA.size
        replace bXr := bXr.below hbA bXr.lt
        replace bRr := bRr.below hbA bRr.lt
        replace oL := oL.below hbA
        replace hcr := hcr.below hbA
        replace HWr := HWr.trans (Within.of_below hbA)
        clear hbA
        have zq : d1ab.heap.size < (d1ab.alloc (.cells #[.int .i64 (k : Int), .int .i64 (1 + (y : Int)), .bool b2] 112)).heap.size := by rw [World.size_alloc]; omega
        refine hK.out _ _ trivial (fun hHeld => ?_)
        clear hK K
        try simp only [Act.put, zA, zB, zC, zD, zE, zF]
        refine wpAnyH_ready (rs := [10]) (by kernel_rfl) (by simp) ?_
        refine AllReadyH.cons rfl (fun K hK => ?_) AllReadyH.nil
        refine step_append_lives rfl _ _ rfl v8.heap.size _ aL cL ls rfl oL (some ⟨d1ab.heap.size, 0, none⟩) 1 [⟨(k : Int), 1 + (y : Int), b2⟩] rfl hrz (fun h => by cases h) (by simp only [List.length_cons, List.length_nil]; have := hll.out; omega) (by omega) ?_
        intro a9 c9 ys w9 hys o9 g9 _
        have hw9 : Within v8.heap.size wr.heap.size (d1ab.alloc (.cells #[.int .i64 (k : Int), .int .i64 (1 + (y : Int)), .bool b2] 112)) w9 := Within.of_grown g9 (fun j hj => oL.lt j hj)
        have z9 := hw9.size
        replace bXr := bXr.within hw9 (by omega)
        replace bRr := bRr.within hw9 (by omega)
        replace hcr := hcr.within hw9 (by omega)
        replace HWr := HWr.new hw9 (by omega)
        clear hw9 g9 oL hrz
        refine hK.out _ _ trivial (fun hHeld => ?_)
        clear hK K
        try simp only [Act.put, zD]
        refine tk 11 (v := .pointer (some ⟨v3.heap.size, 14, none⟩)) rfl (Or.inl ⟨by rfl, ?_⟩) hHeld ?_
        ·intro w' hSw
         go_simp <;> rfl
        try simp only [Act.put]
        have y14 := bXr.cell 14 _ rfl
        have f14 := bXr.frozen 14
        obtain ⟨V2, hV2, bX2, hw2, hs2⟩ := box_set bXr 14 (.slice a9 ys.length c9)
        simp only [List.set] at bX2
        replace o9 : OwnL V2 v8.heap.size V2.heap.size a9 c9 ys := (o9.within hw2 (by omega)).widen (Nat.le_refl _) (by omega) (Nat.le_refl _)
        replace bRr := bRr.within hw2 (by omega)
        replace hcr := hcr.within hw2 (by omega)
        replace HWr := HWr.new hw2 (by omega)
        have HYL : Hid (ys.length ≤ k + 1) := by rw [Hid, hys.out]; simp; have := hll.out; omega
        have hz2 : v8.heap.size ≤ V2.heap.size := by omega
        clear hw2 hs2 bXr
        refine wpAnyH_ready (rs := [12]) (by kernel_rfl) (by simp) ?_
        refine AllReadyH.cons rfl (fun K hK => ?_) AllReadyH.nil
        go_simp
        rw [hV2.out]
        refine hK.out _ _ trivial (fun hHeld => ?_)
        clear hK K
        refine wpAnyH_done (by kernel_rfl) ?_ _
        clear hHeld y14 f14 hV2
        go_wp2_with fail
        go_roundw
        case rel => exact ⟨k + 1, ys, a9, c9, by go_num, by omega, HYL, o9, bX2, bRr, hcr, hz2, HWr⟩
        case measure => simp [intOf]; omega
       focus
        go_simp
        have hrz := readsL_one d1ab ⟨(k : Int), 1 + (y : Int), b2⟩ 112
        simp only at hrz
        have hbA : Below d1ab.heap.size d1ab (d1ab.alloc (.cells #[.int .i64 (k : Int), .int .i64 (1 + (y : Int)), .bool b2] 112)) := (Below.refl _ _).alloc (Nat.le_refl _) _
        have zA := hbA.size
        replace bXr := bXr.below hbA bXr.lt
        replace bRr := bRr.below hbA bRr.lt
        replace oL := oL.below hbA
        replace hcr := hcr.below hbA
        replace HWr := HWr.trans (Within.of_below hbA)
        clear hbA
        have zq : d1ab.heap.size < (d1ab.alloc (.cells #[.int .i64 (k : Int), .int .i64 (1 + (y : Int)), .bool b2] 112)).heap.size := by rw [World.size_alloc]; omega
        refine hK.out _ _ trivial (fun hHeld => ?_)
        clear hK K
        try simp only [Act.put, zA, zB, zC, zD, zE, zF]
        refine wpAnyH_ready (rs := [1]) (by kernel_rfl) (by simp) ?_
        refine AllReadyH.cons rfl (fun K hK => ?_) AllReadyH.nil
        have y14 := bXr.cell 14 _ rfl
        go_simp
        refine hK.out _ _ trivial (fun hHeld => ?_)
        clear hK K y14
        try simp only [Act.put, zA, zB, zC, zD, zE, zF]
        refine wpAnyH_ready (rs := [10]) (by kernel_rfl) (by simp) ?_
        refine AllReadyH.cons rfl (fun K hK => ?_) AllReadyH.nil
        refine step_append_lives rfl _ _ rfl v8.heap.size _ aL cL ls rfl oL (some ⟨d1ab.heap.size, 0, none⟩) 1 [⟨(k : Int), 1 + (y : Int), b2⟩] rfl hrz (fun h => by cases h) (by simp only [List.length_cons, List.length_nil]; have := hll.out; omega) (by omega) ?_
        intro a9 c9 ys w9 hys o9 g9 _
        have hw9 : Within v8.heap.size wr.heap.size (d1ab.alloc (.cells #[.int .i64 (k : Int), .int .i64 (1 + (y : Int)), .bool b2] 112)) w9 := Within.of_grown g9 (fun j hj => oL.lt j hj)
        have z9 := hw9.size
        replace bXr := bXr.within hw9 (by omega)
        replace bRr := bRr.within hw9 (by omega)
        replace hcr := hcr.within hw9 (by omega)
        replace HWr := HWr.new hw9 (by omega)
        clear hw9 g9 oL hrz
        refine hK.out _ _ trivial (fun hHeld => ?_)
        clear hK K
        try simp only [Act.put, zD]
        refine tk 11 (v := .pointer (some ⟨v3.heap.size, 14, none⟩)) rfl (Or.inl ⟨by rfl, ?_⟩) hHeld ?_
        ·intro w' hSw
         go_simp <;> rfl
        try simp only [Act.put]
        have y14 := bXr.cell 14 _ rfl
        have f14 := bXr.frozen 14
        obtain ⟨V2, hV2, bX2, hw2, hs2⟩ := box_set bXr 14 (.slice a9 ys.length c9)
        simp only [List.set] at bX2
        replace o9 : OwnL V2 v8.heap.size V2.heap.size a9 c9 ys := (o9.within hw2 (by omega)).widen (Nat.le_refl _) (by omega) (Nat.le_refl _)
        replace bRr := bRr.within hw2 (by omega)
        replace hcr := hcr.within hw2 (by omega)
        replace HWr := HWr.new hw2 (by omega)
        have HYL : Hid (ys.length ≤ k + 1) := by rw [Hid, hys.out]; simp; have := hll.out; omega
        have hz2 : v8.heap.size ≤ V2.heap.size := by omega
        clear hw2 hs2 bXr
        refine wpAnyH_ready (rs := [12]) (by kernel_rfl) (by simp) ?_
        refine AllReadyH.cons rfl (fun K hK => ?_) AllReadyH.nil
        go_simp
        rw [hV2.out]
        refine hK.out _ _ trivial (fun hHeld => ?_)
        clear hK K
        refine wpAnyH_done (by kernel_rfl) ?_ _
        clear hHeld y14 f14 hV2
        go_wp2_with fail
        go_roundw
        case rel => exact ⟨k + 1, ys, a9, c9, by go_num, by omega, HYL, o9, bX2, bRr, hcr, hz2, HWr⟩
        case measure => simp [intOf]; omega
def DrawnAt (lo : Nat) (w w' : World) (B : Nat) (zs : List Int) (e : Ending) : Prop := ∃ t : RecA, e = .returned (.agg t.cells.toArray) ∧ t.short 12 ∧ t.own w' lo w'.heap.size ∧ CurAt w' B zs ∧ Within B (B + 1) w w'
def BentAt (lo hi : Nat) (w w' : World) (B : Nat) (zs : List Int) (e : Ending) : Prop := ∃ t : RecA, e = .returned (.agg t.cells.toArray) ∧ t.short 12 ∧ t.own w' lo w'.heap.size ∧ (∀ k ∈ t.blocks, k < hi ∨ w.heap.size ≤ k) ∧ CurAt w' B zs ∧ Within B (B + 1) w w'
theorem own_past {w w' : World} {r : RecA} {lo hi X : Nat} (h : r.own w lo hi) (hw : Within X (X + 1) w w') (hd : ∀ k ∈ r.blocks, k ≠ X) : r.own w' lo hi := by
 have ht : Touch [X] w w' := ⟨hw.os, hw.tape, hw.output, hw.size, fun k hk hn => hw.block k hk (fun h => hn (by simp; omega))⟩
 have hd' : ∀ k ∈ r.blocks, k ∉ [X] := fun k hk h => hd k hk (by simpa using h)
 simp only [RecA.blocks, List.mem_append, Option.mem_toList] at hd'
 exact ⟨SlotA.touch h.bf ht (fun k hk => hd' k (.inl hk)), SlotA.touch h.af ht (fun k hk => hd' k (.inr (.inl hk))), h.txs.touch ht (fun k hk => hd' k (.inr (.inr hk))), h.apart⟩
theorem own_fresh {w : World} {r : RecA} {lo hi lo' hi' : Nat} {aL : Option Addr} {cL : Nat} {ls : List LiveV} (h : r.own w lo hi) (hL : OwnL w lo' hi' aL cL ls) (h1 : hi ≤ lo') (h2 : lo ≤ lo') (h3 : lo' ≤ hi') : (⟨r.lsn, r.tx, r.prev, r.kind, r.oid, r.bf, r.af, r.next, ls, aL, cL⟩ : RecA).own w lo hi' := by
 have hh : hi' ≤ w.heap.size := hL.2.1
 refine ⟨OwnO.widen h.bf (Nat.le_refl _) (by omega) hh, OwnO.widen h.af (Nat.le_refl _) (by omega) hh, hL.widen h2 (Nat.le_refl _) hh, ?_⟩
 have ha := h.apart
 simp only [RecA.blocks] at ha ⊢
 rw [List.nodup_append] at ha ⊢
 obtain ⟨a1, a2, a3⟩ := ha
 rw [List.nodup_append] at a2 ⊢
 refine ⟨a1, ⟨a2.1, by cases (Value.slice aL ls.length cL).ownBlock <;> simp, ?_⟩, ?_⟩
 ·intro x hx y hy e
  have b1 := SlotA.blocks_lt h.af x hx
  have b2 := hL.lt y (Option.mem_toList.1 hy)
  omega
 ·intro x hx y hy
  rcases List.mem_append.1 hy with hy | hy
  ·exact a3 x hx y (List.mem_append.2 (.inl hy))
  ·intro e
   have b1 := SlotA.blocks_lt h.bf x hx
   have b2 := hL.lt y (Option.mem_toList.1 hy)
   omega
theorem l4Bend_any (B lo hi : Nat) (zs : List Int) (r : RecA) (w : World) (hc : CurAt w B zs) (hl : zs.length ≤ 70368744177664) (ho : r.own w lo hi) (hB : B < lo) (hh : lo ≤ hi) (hsh : r.short 10) :
  Calls Tryz.prog 61 #[.pointer (some ⟨B, 0, none⟩), .agg r.cells.toArray] w fun e w' => BentAt lo hi w w' B zs e := by
 have hBw := hc.lt
 have hhw : hi ≤ w.heap.size := ho.txs.2.1
 obtain ⟨W, hW, bX, bR, hbW, hsW⟩ := boxes2 w r.cells [.int .i64 0, .int .i64 0, .int .i64 0, .int .i64 0, .int .i64 0, .bool false, .int .i64 0, .slice none 0 0, .slice none 0 0, .bool false, .int .i64 0, .slice none 0 0, .slice none 0 0, .int .i64 0, .slice none 0 0] 39 39
 have HW : Within B (B + 1) w W := Within.of_below hbW
 replace hc : CurAt W B zs := hc.below hbW
 replace ho := ho.below hbW
 have hsW' : w.heap.size + 1 < W.heap.size := bR.lt
 have HSH : Hid (r.short 10) := hsh
 simp only [RecA.cells] at hW bX ⊢
 clear hsW hbW hsh
 go_enter Tryz.func61, Tryz.ntmps61
 go_wp2_with fail
 rw [hW.out]
 clear hW
 refine (l1Below_any B zs 8 W hc hl (by omega)).mono ?_
 clear hc
 rintro e v1 ⟨x, rfl, hx, hc, hgv1⟩
 replace hx : (x : Int) < 8 := hx (by decide)
 have hwv1 := within_cur hgv1
 clear hgv1
 have sv1 := hwv1.size
 replace bR := bR.within hwv1 (by omega)
 replace bX := bX.within hwv1 (by omega)
 replace ho := ho.within hwv1 (by omega)
 replace HW := HW.trans hwv1
 clear hwv1
 by_cases q0 : x = 0
 case pos =>
  have t0_ : ((x : Int) == 0) = true := by simp; omega
  clear q0
  obtain ⟨v2, hv2, bI, hbv2, ev2⟩ := boxes1 v1 [.int .i64 (0), .int .i64 (1), .int .i64 (1000000), .int .i64 (1000001)] 3
  have lIv2 := bI.lt
  clear ev2
  go_wp2_with fail
  rw [hv2.out]
  clear hv2
  have sv2 := hbv2.size
  replace hc := hc.below hbv2
  replace bR := bR.below hbv2 bR.lt
  replace bX := bX.below hbv2 bX.lt
  replace ho := ho.below hbv2
  replace HW := HW.trans (Within.of_below hbv2)
  clear hbv2
  refine (l1Int_any B zs (some ⟨v1.heap.size, 0, none⟩) 4 [0, 1, 1000000, 1000001] v2 hc hl (readsI_box [0, 1, 1000000, 1000001] bI) (fun b off h => by cases h; omega) (by simp) (by simp)).mono ?_
  clear hc bI
  rintro e v3 ⟨jv3, hjv3, rfl, hc, hgv3⟩
  generalize ([0, 1, 1000000, 1000001] : List Int).getD jv3 0 = nv at *
  clear hjv3
  have hwv3 := within_cur hgv3
  clear hgv3
  have sv3 := hwv3.size
  replace bR := bR.within hwv3 (by omega)
  replace bX := bX.within hwv3 (by omega)
  replace ho := ho.within hwv3 (by omega)
  replace HW := HW.trans hwv3
  clear hwv3
  have cx0 := bX.cell 0 _ rfl
  have cf0 := bX.frozen 0
  obtain ⟨v4, hv4, bX2, hwv4, ev4⟩ := box_set bX 0 (.int .i64 nv)
  have e1v4 := Nat.le_of_eq ev4
  have e2v4 := Nat.le_of_eq ev4.symm
  clear ev4
  simp only [List.set] at bX2
  replace hc := hc.within hwv4 (by omega)
  replace bR := bR.within hwv4 (by omega)
  replace ho := ho.within hwv4 (by omega)
  replace HW := HW.new hwv4 (by omega)
  clear bX hwv4
  have bX := bX2
  clear bX2
  go_upto_region 16 with fail
  rw [hv4.out]
  clear hv4 cx0 cf0
  have bT : Box v4 w.heap.size (RecA.cells ⟨nv, r.tx, r.prev, r.kind, r.oid, r.bf, r.af, r.next, r.txs, r.aL, r.cL⟩) 39 := bX
  have HST : Hid (RecA.short ⟨nv, r.tx, r.prev, r.kind, r.oid, r.bf, r.af, r.next, r.txs, r.aL, r.cL⟩ 12) := ⟨by have := HSH.out.bf; show r.bf.v.o.ints.length ≤ 12 ∧ r.bf.v.o.refs.length ≤ 12; omega, by have := HSH.out.af; show r.af.v.o.ints.length ≤ 12 ∧ r.af.v.o.refs.length ≤ 12; omega, by have := HSH.out.txs; show r.txs.length ≤ 12; omega⟩
  obtain ⟨WF, hWF, hwF, hsF, HTF, HLF, _⟩ := rec_out ⟨nv, r.tx, r.prev, r.kind, r.oid, r.bf, r.af, r.next, r.txs, r.aL, r.cL⟩ _ rfl bR
  have oT : RecA.own WF lo WF.heap.size ⟨nv, r.tx, r.prev, r.kind, r.oid, r.bf, r.af, r.next, r.txs, r.aL, r.cL⟩ := (⟨OwnO.widen (OwnO.within ho.bf hwF (by omega)) (Nat.le_refl _) (by omega) (Nat.le_refl _), OwnO.widen (OwnO.within ho.af hwF (by omega)) (Nat.le_refl _) (by omega) (Nat.le_refl _), (ho.txs.within hwF (by omega)).widen (Nat.le_refl _) (by omega) (Nat.le_refl _), ho.apart⟩)
  have HBL : Hid (∀ k ∈ RecA.blocks ⟨nv, r.tx, r.prev, r.kind, r.oid, r.bf, r.af, r.next, r.txs, r.aL, r.cL⟩, k < hi ∨ w.heap.size ≤ k) := fun k hk => .inl (ho.blocks_lt k hk).2
  have HF : Hid (BentAt lo hi w WF B zs (.returned (.agg (RecA.cells ⟨nv, r.tx, r.prev, r.kind, r.oid, r.bf, r.af, r.next, r.txs, r.aL, r.cL⟩).toArray))) := ⟨_, rfl, HST.out, oT, HBL.out, hc.within hwF (by omega), HW.new hwF (by omega)⟩
  have rT : v4.rangeAt w.heap.size 0 (RecA.cells ⟨nv, r.tx, r.prev, r.kind, r.oid, r.bf, r.af, r.next, r.txs, r.aL, r.cL⟩) := Box.range [] _ [] (by simpa using bT)
  clear hwF hsF bX oT HBL
  generalize hT : ((⟨nv, r.tx, r.prev, r.kind, r.oid, r.bf, r.af, r.next, r.txs, r.aL, r.cL⟩) : RecA) = TT at *
  clear hT
  go_wp2_with (first | (guard_target = wpList _ _ _ (Oper.mk (some 63) _ _ _ _ _ :: _) _ _; refine wpList_load_mid rfl 39 (.tmp 3) rfl w.heap.size 0 rfl TT.cells _ rT Tryz.underlying39 rfl (rec_info _) ?_) | (guard_target = wpList _ _ _ (Oper.mk none (Op.store _ (Operand.tmp 4) _) _ _ _ _ :: _) _ _; refine wpList_store_mid rfl 39 (.tmp 4) (.tmp 63) rfl (w.heap.size + 1) 0 TT.cells.toArray rfl rfl HTF.out (by rw [List.size_toArray]; exact rec_info _) (rec_one _) ?_) | fail)
  rw [hWF.out]
  exact bodyPost_ret (v := .agg TT.cells.toArray) (results_one Tryz.results61 rfl HLF.out) rfl HF.out
 case neg =>
 by_cases q1 : x = 1
 case pos =>
  have t1_ : ((x : Int) == 1) = true := by simp; omega
  have f0_ : ((x : Int) == 0) = false := by simp; omega
  clear q0 q1
  obtain ⟨v2, hv2, bI, hbv2, ev2⟩ := boxes1 v1 [.int .i64 (0), .int .i64 (1000), .int .i64 (1001)] 3
  have lIv2 := bI.lt
  clear ev2
  go_wp2_with fail
  rw [hv2.out]
  clear hv2
  have sv2 := hbv2.size
  replace hc := hc.below hbv2
  replace bR := bR.below hbv2 bR.lt
  replace bX := bX.below hbv2 bX.lt
  replace ho := ho.below hbv2
  replace HW := HW.trans (Within.of_below hbv2)
  clear hbv2
  refine (l1Int_any B zs (some ⟨v1.heap.size, 0, none⟩) 3 [0, 1000, 1001] v2 hc hl (readsI_box [0, 1000, 1001] bI) (fun b off h => by cases h; omega) (by simp) (by simp)).mono ?_
  clear hc bI
  rintro e v3 ⟨jv3, hjv3, rfl, hc, hgv3⟩
  generalize ([0, 1000, 1001] : List Int).getD jv3 0 = nv at *
  clear hjv3
  have hwv3 := within_cur hgv3
  clear hgv3
  have sv3 := hwv3.size
  replace bR := bR.within hwv3 (by omega)
  replace bX := bX.within hwv3 (by omega)
  replace ho := ho.within hwv3 (by omega)
  replace HW := HW.trans hwv3
  clear hwv3
  have cx1 := bX.cell 1 _ rfl
  have cf1 := bX.frozen 1
  obtain ⟨v4, hv4, bX2, hwv4, ev4⟩ := box_set bX 1 (.int .i64 nv)
  have e1v4 := Nat.le_of_eq ev4
  have e2v4 := Nat.le_of_eq ev4.symm
  clear ev4
  simp only [List.set] at bX2
  replace hc := hc.within hwv4 (by omega)
  replace bR := bR.within hwv4 (by omega)
  replace ho := ho.within hwv4 (by omega)
  replace HW := HW.new hwv4 (by omega)
  clear bX hwv4
  have bX := bX2
  clear bX2
  go_upto_region 16 with fail
  rw [hv4.out]
  clear hv4 cx1 cf1
  have bT : Box v4 w.heap.size (RecA.cells ⟨r.lsn, nv, r.prev, r.kind, r.oid, r.bf, r.af, r.next, r.txs, r.aL, r.cL⟩) 39 := bX
  have HST : Hid (RecA.short ⟨r.lsn, nv, r.prev, r.kind, r.oid, r.bf, r.af, r.next, r.txs, r.aL, r.cL⟩ 12) := ⟨by have := HSH.out.bf; show r.bf.v.o.ints.length ≤ 12 ∧ r.bf.v.o.refs.length ≤ 12; omega, by have := HSH.out.af; show r.af.v.o.ints.length ≤ 12 ∧ r.af.v.o.refs.length ≤ 12; omega, by have := HSH.out.txs; show r.txs.length ≤ 12; omega⟩
  obtain ⟨WF, hWF, hwF, hsF, HTF, HLF, _⟩ := rec_out ⟨r.lsn, nv, r.prev, r.kind, r.oid, r.bf, r.af, r.next, r.txs, r.aL, r.cL⟩ _ rfl bR
  have oT : RecA.own WF lo WF.heap.size ⟨r.lsn, nv, r.prev, r.kind, r.oid, r.bf, r.af, r.next, r.txs, r.aL, r.cL⟩ := (⟨OwnO.widen (OwnO.within ho.bf hwF (by omega)) (Nat.le_refl _) (by omega) (Nat.le_refl _), OwnO.widen (OwnO.within ho.af hwF (by omega)) (Nat.le_refl _) (by omega) (Nat.le_refl _), (ho.txs.within hwF (by omega)).widen (Nat.le_refl _) (by omega) (Nat.le_refl _), ho.apart⟩)
  have HBL : Hid (∀ k ∈ RecA.blocks ⟨r.lsn, nv, r.prev, r.kind, r.oid, r.bf, r.af, r.next, r.txs, r.aL, r.cL⟩, k < hi ∨ w.heap.size ≤ k) := fun k hk => .inl (ho.blocks_lt k hk).2
  have HF : Hid (BentAt lo hi w WF B zs (.returned (.agg (RecA.cells ⟨r.lsn, nv, r.prev, r.kind, r.oid, r.bf, r.af, r.next, r.txs, r.aL, r.cL⟩).toArray))) := ⟨_, rfl, HST.out, oT, HBL.out, hc.within hwF (by omega), HW.new hwF (by omega)⟩
  have rT : v4.rangeAt w.heap.size 0 (RecA.cells ⟨r.lsn, nv, r.prev, r.kind, r.oid, r.bf, r.af, r.next, r.txs, r.aL, r.cL⟩) := Box.range [] _ [] (by simpa using bT)
  clear hwF hsF bX oT HBL
  generalize hT : ((⟨r.lsn, nv, r.prev, r.kind, r.oid, r.bf, r.af, r.next, r.txs, r.aL, r.cL⟩) : RecA) = TT at *
  clear hT
  go_wp2_with (first | (guard_target = wpList _ _ _ (Oper.mk (some 63) _ _ _ _ _ :: _) _ _; refine wpList_load_mid rfl 39 (.tmp 3) rfl w.heap.size 0 rfl TT.cells _ rT Tryz.underlying39 rfl (rec_info _) ?_) | (guard_target = wpList _ _ _ (Oper.mk none (Op.store _ (Operand.tmp 4) _) _ _ _ _ :: _) _ _; refine wpList_store_mid rfl 39 (.tmp 4) (.tmp 63) rfl (w.heap.size + 1) 0 TT.cells.toArray rfl rfl HTF.out (by rw [List.size_toArray]; exact rec_info _) (rec_one _) ?_) | fail)
  rw [hWF.out]
  exact bodyPost_ret (v := .agg TT.cells.toArray) (results_one Tryz.results61 rfl HLF.out) rfl HF.out
 case neg =>
 by_cases q2 : x = 2
 case pos =>
  have t2_ : ((x : Int) == 2) = true := by simp; omega
  have f0_ : ((x : Int) == 0) = false := by simp; omega
  have f1_ : ((x : Int) == 1) = false := by simp; omega
  clear q0 q1 q2
  have k0 := bX.cell 0 _ rfl
  obtain ⟨v2, hv2, bI, hbv2, ev2⟩ := boxes1 v1 [.int .i64 (-1), .int .i64 (r.lsn), .int .i64 (0)] 3
  have lIv2 := bI.lt
  clear ev2
  go_wp2_with fail
  rw [hv2.out]
  clear hv2
  have sv2 := hbv2.size
  replace hc := hc.below hbv2
  replace bR := bR.below hbv2 bR.lt
  replace bX := bX.below hbv2 bX.lt
  replace ho := ho.below hbv2
  replace HW := HW.trans (Within.of_below hbv2)
  clear hbv2
  refine (l1Int_any B zs (some ⟨v1.heap.size, 0, none⟩) 3 [-1, r.lsn, 0] v2 hc hl (readsI_box [-1, r.lsn, 0] bI) (fun b off h => by cases h; omega) (by simp) (by simp)).mono ?_
  clear hc bI
  rintro e v3 ⟨jv3, hjv3, rfl, hc, hgv3⟩
  generalize ([-1, r.lsn, 0] : List Int).getD jv3 0 = nv at *
  clear hjv3
  have hwv3 := within_cur hgv3
  clear hgv3
  have sv3 := hwv3.size
  replace bR := bR.within hwv3 (by omega)
  replace bX := bX.within hwv3 (by omega)
  replace ho := ho.within hwv3 (by omega)
  replace HW := HW.trans hwv3
  clear hwv3
  clear k0
  have cx2 := bX.cell 2 _ rfl
  have cf2 := bX.frozen 2
  obtain ⟨v4, hv4, bX2, hwv4, ev4⟩ := box_set bX 2 (.int .i64 nv)
  have e1v4 := Nat.le_of_eq ev4
  have e2v4 := Nat.le_of_eq ev4.symm
  clear ev4
  simp only [List.set] at bX2
  replace hc := hc.within hwv4 (by omega)
  replace bR := bR.within hwv4 (by omega)
  replace ho := ho.within hwv4 (by omega)
  replace HW := HW.new hwv4 (by omega)
  clear bX hwv4
  have bX := bX2
  clear bX2
  go_upto_region 16 with fail
  rw [hv4.out]
  clear hv4 cx2 cf2
  have bT : Box v4 w.heap.size (RecA.cells ⟨r.lsn, r.tx, nv, r.kind, r.oid, r.bf, r.af, r.next, r.txs, r.aL, r.cL⟩) 39 := bX
  have HST : Hid (RecA.short ⟨r.lsn, r.tx, nv, r.kind, r.oid, r.bf, r.af, r.next, r.txs, r.aL, r.cL⟩ 12) := ⟨by have := HSH.out.bf; show r.bf.v.o.ints.length ≤ 12 ∧ r.bf.v.o.refs.length ≤ 12; omega, by have := HSH.out.af; show r.af.v.o.ints.length ≤ 12 ∧ r.af.v.o.refs.length ≤ 12; omega, by have := HSH.out.txs; show r.txs.length ≤ 12; omega⟩
  obtain ⟨WF, hWF, hwF, hsF, HTF, HLF, _⟩ := rec_out ⟨r.lsn, r.tx, nv, r.kind, r.oid, r.bf, r.af, r.next, r.txs, r.aL, r.cL⟩ _ rfl bR
  have oT : RecA.own WF lo WF.heap.size ⟨r.lsn, r.tx, nv, r.kind, r.oid, r.bf, r.af, r.next, r.txs, r.aL, r.cL⟩ := (⟨OwnO.widen (OwnO.within ho.bf hwF (by omega)) (Nat.le_refl _) (by omega) (Nat.le_refl _), OwnO.widen (OwnO.within ho.af hwF (by omega)) (Nat.le_refl _) (by omega) (Nat.le_refl _), (ho.txs.within hwF (by omega)).widen (Nat.le_refl _) (by omega) (Nat.le_refl _), ho.apart⟩)
  have HBL : Hid (∀ k ∈ RecA.blocks ⟨r.lsn, r.tx, nv, r.kind, r.oid, r.bf, r.af, r.next, r.txs, r.aL, r.cL⟩, k < hi ∨ w.heap.size ≤ k) := fun k hk => .inl (ho.blocks_lt k hk).2
  have HF : Hid (BentAt lo hi w WF B zs (.returned (.agg (RecA.cells ⟨r.lsn, r.tx, nv, r.kind, r.oid, r.bf, r.af, r.next, r.txs, r.aL, r.cL⟩).toArray))) := ⟨_, rfl, HST.out, oT, HBL.out, hc.within hwF (by omega), HW.new hwF (by omega)⟩
  have rT : v4.rangeAt w.heap.size 0 (RecA.cells ⟨r.lsn, r.tx, nv, r.kind, r.oid, r.bf, r.af, r.next, r.txs, r.aL, r.cL⟩) := Box.range [] _ [] (by simpa using bT)
  clear hwF hsF bX oT HBL
  generalize hT : ((⟨r.lsn, r.tx, nv, r.kind, r.oid, r.bf, r.af, r.next, r.txs, r.aL, r.cL⟩) : RecA) = TT at *
  clear hT
  go_wp2_with (first | (guard_target = wpList _ _ _ (Oper.mk (some 63) _ _ _ _ _ :: _) _ _; refine wpList_load_mid rfl 39 (.tmp 3) rfl w.heap.size 0 rfl TT.cells _ rT Tryz.underlying39 rfl (rec_info _) ?_) | (guard_target = wpList _ _ _ (Oper.mk none (Op.store _ (Operand.tmp 4) _) _ _ _ _ :: _) _ _; refine wpList_store_mid rfl 39 (.tmp 4) (.tmp 63) rfl (w.heap.size + 1) 0 TT.cells.toArray rfl rfl HTF.out (by rw [List.size_toArray]; exact rec_info _) (rec_one _) ?_) | fail)
  rw [hWF.out]
  exact bodyPost_ret (v := .agg TT.cells.toArray) (results_one Tryz.results61 rfl HLF.out) rfl HF.out
 case neg =>
 by_cases q3 : x = 3
 case pos =>
  have t3_ : ((x : Int) == 3) = true := by simp; omega
  have f0_ : ((x : Int) == 0) = false := by simp; omega
  have f1_ : ((x : Int) == 1) = false := by simp; omega
  have f2_ : ((x : Int) == 2) = false := by simp; omega
  clear q0 q1 q2 q3
  obtain ⟨v2, hv2, bI, hbv2, ev2⟩ := boxes1 v1 [.int .i64 (0), .int .i64 (7), .int .i64 (1), .int .i64 (4)] 3
  have lIv2 := bI.lt
  clear ev2
  go_wp2_with fail
  rw [hv2.out]
  clear hv2
  have sv2 := hbv2.size
  replace hc := hc.below hbv2
  replace bR := bR.below hbv2 bR.lt
  replace bX := bX.below hbv2 bX.lt
  replace ho := ho.below hbv2
  replace HW := HW.trans (Within.of_below hbv2)
  clear hbv2
  refine (l1Int_any B zs (some ⟨v1.heap.size, 0, none⟩) 4 [0, 7, 1, 4] v2 hc hl (readsI_box [0, 7, 1, 4] bI) (fun b off h => by cases h; omega) (by simp) (by simp)).mono ?_
  clear hc bI
  rintro e v3 ⟨jv3, hjv3, rfl, hc, hgv3⟩
  generalize ([0, 7, 1, 4] : List Int).getD jv3 0 = nv at *
  clear hjv3
  have hwv3 := within_cur hgv3
  clear hgv3
  have sv3 := hwv3.size
  replace bR := bR.within hwv3 (by omega)
  replace bX := bX.within hwv3 (by omega)
  replace ho := ho.within hwv3 (by omega)
  replace HW := HW.trans hwv3
  clear hwv3
  have cx3 := bX.cell 3 _ rfl
  have cf3 := bX.frozen 3
  obtain ⟨v4, hv4, bX2, hwv4, ev4⟩ := box_set bX 3 (.int .i64 nv)
  have e1v4 := Nat.le_of_eq ev4
  have e2v4 := Nat.le_of_eq ev4.symm
  clear ev4
  simp only [List.set] at bX2
  replace hc := hc.within hwv4 (by omega)
  replace bR := bR.within hwv4 (by omega)
  replace ho := ho.within hwv4 (by omega)
  replace HW := HW.new hwv4 (by omega)
  clear bX hwv4
  have bX := bX2
  clear bX2
  go_upto_region 16 with fail
  rw [hv4.out]
  clear hv4 cx3 cf3
  have bT : Box v4 w.heap.size (RecA.cells ⟨r.lsn, r.tx, r.prev, nv, r.oid, r.bf, r.af, r.next, r.txs, r.aL, r.cL⟩) 39 := bX
  have HST : Hid (RecA.short ⟨r.lsn, r.tx, r.prev, nv, r.oid, r.bf, r.af, r.next, r.txs, r.aL, r.cL⟩ 12) := ⟨by have := HSH.out.bf; show r.bf.v.o.ints.length ≤ 12 ∧ r.bf.v.o.refs.length ≤ 12; omega, by have := HSH.out.af; show r.af.v.o.ints.length ≤ 12 ∧ r.af.v.o.refs.length ≤ 12; omega, by have := HSH.out.txs; show r.txs.length ≤ 12; omega⟩
  obtain ⟨WF, hWF, hwF, hsF, HTF, HLF, _⟩ := rec_out ⟨r.lsn, r.tx, r.prev, nv, r.oid, r.bf, r.af, r.next, r.txs, r.aL, r.cL⟩ _ rfl bR
  have oT : RecA.own WF lo WF.heap.size ⟨r.lsn, r.tx, r.prev, nv, r.oid, r.bf, r.af, r.next, r.txs, r.aL, r.cL⟩ := (⟨OwnO.widen (OwnO.within ho.bf hwF (by omega)) (Nat.le_refl _) (by omega) (Nat.le_refl _), OwnO.widen (OwnO.within ho.af hwF (by omega)) (Nat.le_refl _) (by omega) (Nat.le_refl _), (ho.txs.within hwF (by omega)).widen (Nat.le_refl _) (by omega) (Nat.le_refl _), ho.apart⟩)
  have HBL : Hid (∀ k ∈ RecA.blocks ⟨r.lsn, r.tx, r.prev, nv, r.oid, r.bf, r.af, r.next, r.txs, r.aL, r.cL⟩, k < hi ∨ w.heap.size ≤ k) := fun k hk => .inl (ho.blocks_lt k hk).2
  have HF : Hid (BentAt lo hi w WF B zs (.returned (.agg (RecA.cells ⟨r.lsn, r.tx, r.prev, nv, r.oid, r.bf, r.af, r.next, r.txs, r.aL, r.cL⟩).toArray))) := ⟨_, rfl, HST.out, oT, HBL.out, hc.within hwF (by omega), HW.new hwF (by omega)⟩
  have rT : v4.rangeAt w.heap.size 0 (RecA.cells ⟨r.lsn, r.tx, r.prev, nv, r.oid, r.bf, r.af, r.next, r.txs, r.aL, r.cL⟩) := Box.range [] _ [] (by simpa using bT)
  clear hwF hsF bX oT HBL
  generalize hT : ((⟨r.lsn, r.tx, r.prev, nv, r.oid, r.bf, r.af, r.next, r.txs, r.aL, r.cL⟩) : RecA) = TT at *
  clear hT
  go_wp2_with (first | (guard_target = wpList _ _ _ (Oper.mk (some 63) _ _ _ _ _ :: _) _ _; refine wpList_load_mid rfl 39 (.tmp 3) rfl w.heap.size 0 rfl TT.cells _ rT Tryz.underlying39 rfl (rec_info _) ?_) | (guard_target = wpList _ _ _ (Oper.mk none (Op.store _ (Operand.tmp 4) _) _ _ _ _ :: _) _ _; refine wpList_store_mid rfl 39 (.tmp 4) (.tmp 63) rfl (w.heap.size + 1) 0 TT.cells.toArray rfl rfl HTF.out (by rw [List.size_toArray]; exact rec_info _) (rec_one _) ?_) | fail)
  rw [hWF.out]
  exact bodyPost_ret (v := .agg TT.cells.toArray) (results_one Tryz.results61 rfl HLF.out) rfl HF.out
 case neg =>
 by_cases q4 : x = 4
 case pos =>
  have t4_ : ((x : Int) == 4) = true := by simp; omega
  have f0_ : ((x : Int) == 0) = false := by simp; omega
  have f1_ : ((x : Int) == 1) = false := by simp; omega
  have f2_ : ((x : Int) == 2) = false := by simp; omega
  have f3_ : ((x : Int) == 3) = false := by simp; omega
  clear q0 q1 q2 q3 q4
  obtain ⟨v2, hv2, bI, hbv2, ev2⟩ := boxes1 v1 [.int .i64 (0), .int .i64 (31), .int .i64 (32)] 3
  have lIv2 := bI.lt
  clear ev2
  go_wp2_with fail
  rw [hv2.out]
  clear hv2
  have sv2 := hbv2.size
  replace hc := hc.below hbv2
  replace bR := bR.below hbv2 bR.lt
  replace bX := bX.below hbv2 bX.lt
  replace ho := ho.below hbv2
  replace HW := HW.trans (Within.of_below hbv2)
  clear hbv2
  refine (l1Int_any B zs (some ⟨v1.heap.size, 0, none⟩) 3 [0, 31, 32] v2 hc hl (readsI_box [0, 31, 32] bI) (fun b off h => by cases h; omega) (by simp) (by simp)).mono ?_
  clear hc bI
  rintro e v3 ⟨jv3, hjv3, rfl, hc, hgv3⟩
  generalize ([0, 31, 32] : List Int).getD jv3 0 = nv at *
  clear hjv3
  have hwv3 := within_cur hgv3
  clear hgv3
  have sv3 := hwv3.size
  replace bR := bR.within hwv3 (by omega)
  replace bX := bX.within hwv3 (by omega)
  replace ho := ho.within hwv3 (by omega)
  replace HW := HW.trans hwv3
  clear hwv3
  have cx4 := bX.cell 4 _ rfl
  have cf4 := bX.frozen 4
  obtain ⟨v4, hv4, bX2, hwv4, ev4⟩ := box_set bX 4 (.int .i64 nv)
  have e1v4 := Nat.le_of_eq ev4
  have e2v4 := Nat.le_of_eq ev4.symm
  clear ev4
  simp only [List.set] at bX2
  replace hc := hc.within hwv4 (by omega)
  replace bR := bR.within hwv4 (by omega)
  replace ho := ho.within hwv4 (by omega)
  replace HW := HW.new hwv4 (by omega)
  clear bX hwv4
  have bX := bX2
  clear bX2
  go_upto_region 16 with fail
  rw [hv4.out]
  clear hv4 cx4 cf4
  have bT : Box v4 w.heap.size (RecA.cells ⟨r.lsn, r.tx, r.prev, r.kind, nv, r.bf, r.af, r.next, r.txs, r.aL, r.cL⟩) 39 := bX
  have HST : Hid (RecA.short ⟨r.lsn, r.tx, r.prev, r.kind, nv, r.bf, r.af, r.next, r.txs, r.aL, r.cL⟩ 12) := ⟨by have := HSH.out.bf; show r.bf.v.o.ints.length ≤ 12 ∧ r.bf.v.o.refs.length ≤ 12; omega, by have := HSH.out.af; show r.af.v.o.ints.length ≤ 12 ∧ r.af.v.o.refs.length ≤ 12; omega, by have := HSH.out.txs; show r.txs.length ≤ 12; omega⟩
  obtain ⟨WF, hWF, hwF, hsF, HTF, HLF, _⟩ := rec_out ⟨r.lsn, r.tx, r.prev, r.kind, nv, r.bf, r.af, r.next, r.txs, r.aL, r.cL⟩ _ rfl bR
  have oT : RecA.own WF lo WF.heap.size ⟨r.lsn, r.tx, r.prev, r.kind, nv, r.bf, r.af, r.next, r.txs, r.aL, r.cL⟩ := (⟨OwnO.widen (OwnO.within ho.bf hwF (by omega)) (Nat.le_refl _) (by omega) (Nat.le_refl _), OwnO.widen (OwnO.within ho.af hwF (by omega)) (Nat.le_refl _) (by omega) (Nat.le_refl _), (ho.txs.within hwF (by omega)).widen (Nat.le_refl _) (by omega) (Nat.le_refl _), ho.apart⟩)
  have HBL : Hid (∀ k ∈ RecA.blocks ⟨r.lsn, r.tx, r.prev, r.kind, nv, r.bf, r.af, r.next, r.txs, r.aL, r.cL⟩, k < hi ∨ w.heap.size ≤ k) := fun k hk => .inl (ho.blocks_lt k hk).2
  have HF : Hid (BentAt lo hi w WF B zs (.returned (.agg (RecA.cells ⟨r.lsn, r.tx, r.prev, r.kind, nv, r.bf, r.af, r.next, r.txs, r.aL, r.cL⟩).toArray))) := ⟨_, rfl, HST.out, oT, HBL.out, hc.within hwF (by omega), HW.new hwF (by omega)⟩
  have rT : v4.rangeAt w.heap.size 0 (RecA.cells ⟨r.lsn, r.tx, r.prev, r.kind, nv, r.bf, r.af, r.next, r.txs, r.aL, r.cL⟩) := Box.range [] _ [] (by simpa using bT)
  clear hwF hsF bX oT HBL
  generalize hT : ((⟨r.lsn, r.tx, r.prev, r.kind, nv, r.bf, r.af, r.next, r.txs, r.aL, r.cL⟩) : RecA) = TT at *
  clear hT
  go_wp2_with (first | (guard_target = wpList _ _ _ (Oper.mk (some 63) _ _ _ _ _ :: _) _ _; refine wpList_load_mid rfl 39 (.tmp 3) rfl w.heap.size 0 rfl TT.cells _ rT Tryz.underlying39 rfl (rec_info _) ?_) | (guard_target = wpList _ _ _ (Oper.mk none (Op.store _ (Operand.tmp 4) _) _ _ _ _ :: _) _ _; refine wpList_store_mid rfl 39 (.tmp 4) (.tmp 63) rfl (w.heap.size + 1) 0 TT.cells.toArray rfl rfl HTF.out (by rw [List.size_toArray]; exact rec_info _) (rec_one _) ?_) | fail)
  rw [hWF.out]
  exact bodyPost_ret (v := .agg TT.cells.toArray) (results_one Tryz.results61 rfl HLF.out) rfl HF.out
 case neg =>
 by_cases q5 : x = 5
 case pos =>
  have t5_ : ((x : Int) == 5) = true := by simp; omega
  have f0_ : ((x : Int) == 0) = false := by simp; omega
  have f1_ : ((x : Int) == 1) = false := by simp; omega
  have f2_ : ((x : Int) == 2) = false := by simp; omega
  have f3_ : ((x : Int) == 3) = false := by simp; omega
  have f4_ : ((x : Int) == 4) = false := by simp; omega
  clear q0 q1 q2 q3 q4 q5
  have k0 := bX.cell 0 _ rfl
  obtain ⟨v2, hv2, bI, hbv2, ev2⟩ := boxes1 v1 [.int .i64 (1), .int .i64 (-1), .int .i64 (r.lsn)] 3
  have lIv2 := bI.lt
  clear ev2
  go_wp2_with fail
  rw [hv2.out]
  clear hv2
  have sv2 := hbv2.size
  replace hc := hc.below hbv2
  replace bR := bR.below hbv2 bR.lt
  replace bX := bX.below hbv2 bX.lt
  replace ho := ho.below hbv2
  replace HW := HW.trans (Within.of_below hbv2)
  clear hbv2
  refine (l1Int_any B zs (some ⟨v1.heap.size, 0, none⟩) 3 [1, -1, r.lsn] v2 hc hl (readsI_box [1, -1, r.lsn] bI) (fun b off h => by cases h; omega) (by simp) (by simp)).mono ?_
  clear hc bI
  rintro e v3 ⟨jv3, hjv3, rfl, hc, hgv3⟩
  generalize ([1, -1, r.lsn] : List Int).getD jv3 0 = nv at *
  clear hjv3
  have hwv3 := within_cur hgv3
  clear hgv3
  have sv3 := hwv3.size
  replace bR := bR.within hwv3 (by omega)
  replace bX := bX.within hwv3 (by omega)
  replace ho := ho.within hwv3 (by omega)
  replace HW := HW.trans hwv3
  clear hwv3
  clear k0
  have cx13 := bX.cell 13 _ rfl
  have cf13 := bX.frozen 13
  obtain ⟨v4, hv4, bX2, hwv4, ev4⟩ := box_set bX 13 (.int .i64 nv)
  have e1v4 := Nat.le_of_eq ev4
  have e2v4 := Nat.le_of_eq ev4.symm
  clear ev4
  simp only [List.set] at bX2
  replace hc := hc.within hwv4 (by omega)
  replace bR := bR.within hwv4 (by omega)
  replace ho := ho.within hwv4 (by omega)
  replace HW := HW.new hwv4 (by omega)
  clear bX hwv4
  have bX := bX2
  clear bX2
  go_upto_region 16 with fail
  rw [hv4.out]
  clear hv4 cx13 cf13
  have bT : Box v4 w.heap.size (RecA.cells ⟨r.lsn, r.tx, r.prev, r.kind, r.oid, r.bf, r.af, nv, r.txs, r.aL, r.cL⟩) 39 := bX
  have HST : Hid (RecA.short ⟨r.lsn, r.tx, r.prev, r.kind, r.oid, r.bf, r.af, nv, r.txs, r.aL, r.cL⟩ 12) := ⟨by have := HSH.out.bf; show r.bf.v.o.ints.length ≤ 12 ∧ r.bf.v.o.refs.length ≤ 12; omega, by have := HSH.out.af; show r.af.v.o.ints.length ≤ 12 ∧ r.af.v.o.refs.length ≤ 12; omega, by have := HSH.out.txs; show r.txs.length ≤ 12; omega⟩
  obtain ⟨WF, hWF, hwF, hsF, HTF, HLF, _⟩ := rec_out ⟨r.lsn, r.tx, r.prev, r.kind, r.oid, r.bf, r.af, nv, r.txs, r.aL, r.cL⟩ _ rfl bR
  have oT : RecA.own WF lo WF.heap.size ⟨r.lsn, r.tx, r.prev, r.kind, r.oid, r.bf, r.af, nv, r.txs, r.aL, r.cL⟩ := (⟨OwnO.widen (OwnO.within ho.bf hwF (by omega)) (Nat.le_refl _) (by omega) (Nat.le_refl _), OwnO.widen (OwnO.within ho.af hwF (by omega)) (Nat.le_refl _) (by omega) (Nat.le_refl _), (ho.txs.within hwF (by omega)).widen (Nat.le_refl _) (by omega) (Nat.le_refl _), ho.apart⟩)
  have HBL : Hid (∀ k ∈ RecA.blocks ⟨r.lsn, r.tx, r.prev, r.kind, r.oid, r.bf, r.af, nv, r.txs, r.aL, r.cL⟩, k < hi ∨ w.heap.size ≤ k) := fun k hk => .inl (ho.blocks_lt k hk).2
  have HF : Hid (BentAt lo hi w WF B zs (.returned (.agg (RecA.cells ⟨r.lsn, r.tx, r.prev, r.kind, r.oid, r.bf, r.af, nv, r.txs, r.aL, r.cL⟩).toArray))) := ⟨_, rfl, HST.out, oT, HBL.out, hc.within hwF (by omega), HW.new hwF (by omega)⟩
  have rT : v4.rangeAt w.heap.size 0 (RecA.cells ⟨r.lsn, r.tx, r.prev, r.kind, r.oid, r.bf, r.af, nv, r.txs, r.aL, r.cL⟩) := Box.range [] _ [] (by simpa using bT)
  clear hwF hsF bX oT HBL
  generalize hT : ((⟨r.lsn, r.tx, r.prev, r.kind, r.oid, r.bf, r.af, nv, r.txs, r.aL, r.cL⟩) : RecA) = TT at *
  clear hT
  go_wp2_with (first | (guard_target = wpList _ _ _ (Oper.mk (some 63) _ _ _ _ _ :: _) _ _; refine wpList_load_mid rfl 39 (.tmp 3) rfl w.heap.size 0 rfl TT.cells _ rT Tryz.underlying39 rfl (rec_info _) ?_) | (guard_target = wpList _ _ _ (Oper.mk none (Op.store _ (Operand.tmp 4) _) _ _ _ _ :: _) _ _; refine wpList_store_mid rfl 39 (.tmp 4) (.tmp 63) rfl (w.heap.size + 1) 0 TT.cells.toArray rfl rfl HTF.out (by rw [List.size_toArray]; exact rec_info _) (rec_one _) ?_) | fail)
  rw [hWF.out]
  exact bodyPost_ret (v := .agg TT.cells.toArray) (results_one Tryz.results61 rfl HLF.out) rfl HF.out
 case neg =>
 by_cases q6 : x = 6
 case neg =>
  have f0_ : ((x : Int) == 0) = false := by simp; omega
  have f1_ : ((x : Int) == 1) = false := by simp; omega
  have f2_ : ((x : Int) == 2) = false := by simp; omega
  have f3_ : ((x : Int) == 3) = false := by simp; omega
  have f4_ : ((x : Int) == 4) = false := by simp; omega
  have f5_ : ((x : Int) == 5) = false := by simp; omega
  have f6_ : ((x : Int) == 6) = false := by simp; omega
  clear q0 q1 q2 q3 q4 q5 q6
  go_upto_region 16 with fail
  have bT : Box v1 w.heap.size (RecA.cells ⟨r.lsn, r.tx, r.prev, r.kind, r.oid, r.bf, r.af, r.next, r.txs, r.aL, r.cL⟩) 39 := bX
  have HST : Hid (RecA.short ⟨r.lsn, r.tx, r.prev, r.kind, r.oid, r.bf, r.af, r.next, r.txs, r.aL, r.cL⟩ 12) := ⟨by have := HSH.out.bf; show r.bf.v.o.ints.length ≤ 12 ∧ r.bf.v.o.refs.length ≤ 12; omega, by have := HSH.out.af; show r.af.v.o.ints.length ≤ 12 ∧ r.af.v.o.refs.length ≤ 12; omega, by have := HSH.out.txs; show r.txs.length ≤ 12; omega⟩
  obtain ⟨WF, hWF, hwF, hsF, HTF, HLF, _⟩ := rec_out ⟨r.lsn, r.tx, r.prev, r.kind, r.oid, r.bf, r.af, r.next, r.txs, r.aL, r.cL⟩ _ rfl bR
  have oT : RecA.own WF lo WF.heap.size ⟨r.lsn, r.tx, r.prev, r.kind, r.oid, r.bf, r.af, r.next, r.txs, r.aL, r.cL⟩ := (⟨OwnO.widen (OwnO.within ho.bf hwF (by omega)) (Nat.le_refl _) (by omega) (Nat.le_refl _), OwnO.widen (OwnO.within ho.af hwF (by omega)) (Nat.le_refl _) (by omega) (Nat.le_refl _), (ho.txs.within hwF (by omega)).widen (Nat.le_refl _) (by omega) (Nat.le_refl _), ho.apart⟩)
  have HBL : Hid (∀ k ∈ RecA.blocks ⟨r.lsn, r.tx, r.prev, r.kind, r.oid, r.bf, r.af, r.next, r.txs, r.aL, r.cL⟩, k < hi ∨ w.heap.size ≤ k) := fun k hk => .inl (ho.blocks_lt k hk).2
  have HF : Hid (BentAt lo hi w WF B zs (.returned (.agg (RecA.cells ⟨r.lsn, r.tx, r.prev, r.kind, r.oid, r.bf, r.af, r.next, r.txs, r.aL, r.cL⟩).toArray))) := ⟨_, rfl, HST.out, oT, HBL.out, hc.within hwF (by omega), HW.new hwF (by omega)⟩
  have rT : v1.rangeAt w.heap.size 0 (RecA.cells ⟨r.lsn, r.tx, r.prev, r.kind, r.oid, r.bf, r.af, r.next, r.txs, r.aL, r.cL⟩) := Box.range [] _ [] (by simpa using bT)
  clear hwF hsF bX oT HBL
  generalize hT : ((⟨r.lsn, r.tx, r.prev, r.kind, r.oid, r.bf, r.af, r.next, r.txs, r.aL, r.cL⟩) : RecA) = TT at *
  clear hT
  go_wp2_with (first | (guard_target = wpList _ _ _ (Oper.mk (some 63) _ _ _ _ _ :: _) _ _; refine wpList_load_mid rfl 39 (.tmp 3) rfl w.heap.size 0 rfl TT.cells _ rT Tryz.underlying39 rfl (rec_info _) ?_) | (guard_target = wpList _ _ _ (Oper.mk none (Op.store _ (Operand.tmp 4) _) _ _ _ _ :: _) _ _; refine wpList_store_mid rfl 39 (.tmp 4) (.tmp 63) rfl (w.heap.size + 1) 0 TT.cells.toArray rfl rfl HTF.out (by rw [List.size_toArray]; exact rec_info _) (rec_one _) ?_) | fail)
  rw [hWF.out]
  exact bodyPost_ret (v := .agg TT.cells.toArray) (results_one Tryz.results61 rfl HLF.out) rfl HF.out
 case pos =>
  have t6_ : ((x : Int) == 6) = true := by simp; omega
  have f0_ : ((x : Int) == 0) = false := by simp; omega
  have f1_ : ((x : Int) == 1) = false := by simp; omega
  have f2_ : ((x : Int) == 2) = false := by simp; omega
  have f3_ : ((x : Int) == 3) = false := by simp; omega
  have f4_ : ((x : Int) == 4) = false := by simp; omega
  have f5_ : ((x : Int) == 5) = false := by simp; omega
  clear q0 q1 q2 q3 q4 q5 q6
  obtain ⟨v2, hv2, bE, hbv2, ev2⟩ := boxes1 v1 [] 112
  clear ev2
  have lE := bE.lt
  have oE : OwnL v2 v1.heap.size v2.heap.size (some ⟨v1.heap.size, 0, none⟩) 0 [] := by
   have h1 : OwnL (v1.alloc (.cells #[] 112)) v1.heap.size (v1.alloc (.cells #[] 112)).heap.size (some ⟨v1.heap.size, 0, none⟩) 0 [] := by
    refine ⟨World.ownsRow_lit (size := 3) v1 #[] 0 (Nat.le_refl _) (by simp [maxLen]) rfl, Nat.le_refl _, fun k hk => ?_⟩
    simp [Value.ownBlock] at hk
    try (rw [World.size_alloc]; omega)
   have h2 : v1.alloc (.cells #[] 112) = v2 := hv2.out
   rw [h2] at h1
   exact h1
  have sv2 := hbv2.size
  replace hc := hc.below hbv2
  replace bR := bR.below hbv2 bR.lt
  replace bX := bX.below hbv2 bX.lt
  replace ho := ho.below hbv2
  replace HW := HW.trans (Within.of_below hbv2)
  clear hbv2
  have k14 := bX.cell 14 _ rfl
  have hA1 : ([] : List LiveV).length + r.txs.length ≤ 1099511627776 := by have := HSH.out.txs; simp only [List.length_nil]; omega
  have k14' : (v1.alloc (.cells #[] 112)).cell? ⟨w.heap.size, 14, none⟩ = some (.slice r.aL r.txs.length r.cL) := by have h2 : v1.alloc (.cells #[] 112) = v2 := hv2.out; rw [h2]; exact k14
  have hrt : ReadsL v2 r.aL r.txs := ho.txs.reads
  have hnc := ho.txs.nocap
  go_wp2_with (at_builtin; refine append_lives rfl _ _ rfl v1.heap.size _ (some ⟨v1.heap.size, 0, none⟩) 0 [] rfl (by rw [hv2.out]; exact oE) r.aL r.cL r.txs rfl (by rw [hv2.out]; exact hrt) hnc hA1 (by rw [hv2.out]; omega) ?_)
  intro a9 c9 ys w9 hys o9 g9
  rw [hv2.out] at g9
  have hw9 : Within v1.heap.size v2.heap.size v2 w9 := Within.of_grown g9 (fun j hj => oE.lt j hj)
  have HYS : Hid (ys = r.txs) := hys.out.trans (List.nil_append _)
  clear hys g9 oE hv2 k14 k14' hrt hnc hA1 bE
  have z9 := hw9.size
  replace hc := hc.within hw9 (by omega)
  replace bX := bX.within hw9 (by omega)
  replace bR := bR.within hw9 (by omega)
  replace ho := ho.within hw9 (by omega)
  replace HW := HW.new hw9 (by omega)
  clear hw9
  obtain ⟨v3, hv3, bI, hbv3, ev3⟩ := boxes1 w9 [.int .i64 (1), .int .i64 (9), .int .i64 (0)] 3
  have lIv3 := bI.lt
  clear ev3
  go_wp2_with fail
  rw [hv3.out]
  clear hv3
  have sv3 := hbv3.size
  replace hc := hc.below hbv3
  replace bR := bR.below hbv3 bR.lt
  replace bX := bX.below hbv3 bX.lt
  replace ho := ho.below hbv3
  replace o9 := o9.below hbv3
  replace HW := HW.trans (Within.of_below hbv3)
  clear hbv3
  refine (l1Int_any B zs (some ⟨w9.heap.size, 0, none⟩) 3 [1, 9, 0] v3 hc hl (readsI_box [1, 9, 0] bI) (fun b off h => by cases h; omega) (by simp) (by simp)).mono ?_
  clear hc bI
  rintro e v4 ⟨jv4, hjv4, rfl, hc, hgv4⟩
  generalize ([1, 9, 0] : List Int).getD jv4 0 = na at *
  clear hjv4
  have hwv4 := within_cur hgv4
  clear hgv4
  have sv4 := hwv4.size
  replace bR := bR.within hwv4 (by omega)
  replace bX := bX.within hwv4 (by omega)
  replace ho := ho.within hwv4 (by omega)
  replace o9 := o9.within hwv4 (by omega)
  replace HW := HW.trans hwv4
  clear hwv4
  obtain ⟨v5, hv5, bI, hbv5, ev5⟩ := boxes1 v4 [.int .i64 (0), .int .i64 (1), .int .i64 (99)] 3
  have lIv5 := bI.lt
  clear ev5
  go_wp2_with fail
  rw [hv5.out]
  clear hv5
  have sv5 := hbv5.size
  replace hc := hc.below hbv5
  replace bR := bR.below hbv5 bR.lt
  replace bX := bX.below hbv5 bX.lt
  replace ho := ho.below hbv5
  replace o9 := o9.below hbv5
  replace HW := HW.trans (Within.of_below hbv5)
  clear hbv5
  refine (l1Int_any B zs (some ⟨v4.heap.size, 0, none⟩) 3 [0, 1, 99] v5 hc hl (readsI_box [0, 1, 99] bI) (fun b off h => by cases h; omega) (by simp) (by simp)).mono ?_
  clear hc bI
  rintro e v6 ⟨jv6, hjv6, rfl, hc, hgv6⟩
  generalize ([0, 1, 99] : List Int).getD jv6 0 = nb at *
  clear hjv6
  have hwv6 := within_cur hgv6
  clear hgv6
  have sv6 := hwv6.size
  replace bR := bR.within hwv6 (by omega)
  replace bX := bX.within hwv6 (by omega)
  replace ho := ho.within hwv6 (by omega)
  replace o9 := o9.within hwv6 (by omega)
  replace HW := HW.trans hwv6
  clear hwv6
  have hrz := readsL_one v6 ⟨na, nb, false⟩ 112
  simp only at hrz
  have hbA : Below v6.heap.size v6 (v6.alloc (.cells #[.int .i64 na, .int .i64 nb, .bool false] 112)) := (Below.refl _ _).alloc (Nat.le_refl _) _
  have zA := hbA.size
  have oLA := o9.below hbA
  have hA1 : ys.length + ([⟨na, nb, false⟩] : List LiveV).length ≤ 1099511627776 := by have := HSH.out.txs; rw [HYS.out]; simp only [List.length_cons, List.length_nil]; omega
  have hA2 : v1.heap.size ≤ (v6.alloc (.cells #[.int .i64 na, .int .i64 nb, .bool false] 112)).heap.size := by rw [World.size_alloc]; omega
  go_wp2_with (at_builtin; refine append_lives rfl _ _ rfl v1.heap.size _ a9 c9 ys rfl oLA (some ⟨v6.heap.size, 0, none⟩) 1 [⟨na, nb, false⟩] rfl hrz (fun h => by cases h) hA1 hA2 ?_)
  intro a10 c10 y10 w10 hy10 o10 g10
  have hw10 : Within v1.heap.size w9.heap.size (v6.alloc (.cells #[.int .i64 na, .int .i64 nb, .bool false] 112)) w10 := Within.of_grown g10 (fun j hj => oLA.lt j hj)
  have HYL : Hid (y10.length ≤ 11) := by rw [Hid, hy10.out, HYS.out]; have := HSH.out.txs; simp; omega
  clear hy10 g10 oLA hrz hA1 hA2 o9
  have z10 := hw10.size
  replace hc := (hc.below hbA).within hw10 (by omega)
  replace bX := (bX.below hbA bX.lt).within hw10 (by omega)
  replace bR := (bR.below hbA bR.lt).within hw10 (by omega)
  replace ho := (ho.below hbA).within hw10 (by omega)
  replace HW := (HW.trans (Within.of_below hbA)).new hw10 (by omega)
  clear hw10 hbA
  have cx14 := bX.cell 14 _ rfl
  have cf14 := bX.frozen 14
  obtain ⟨v7, hv7, bX2, hwv7, ev7⟩ := box_set bX 14 (.slice a10 y10.length c10)
  have e1v7 := Nat.le_of_eq ev7
  have e2v7 := Nat.le_of_eq ev7.symm
  clear ev7
  simp only [List.set] at bX2
  replace hc := hc.within hwv7 (by omega)
  replace bR := bR.within hwv7 (by omega)
  replace ho := ho.within hwv7 (by omega)
  replace o10 := o10.within hwv7 (by omega)
  replace HW := HW.new hwv7 (by omega)
  clear bX hwv7
  have bX := bX2
  clear bX2
  go_upto_region 16 with fail
  rw [hv7.out]
  clear hv7 cx14 cf14
  have bT : Box v7 w.heap.size (RecA.cells ⟨r.lsn, r.tx, r.prev, r.kind, r.oid, r.bf, r.af, r.next, y10, a10, c10⟩) 39 := bX
  have HST : Hid (RecA.short ⟨r.lsn, r.tx, r.prev, r.kind, r.oid, r.bf, r.af, r.next, y10, a10, c10⟩ 12) := ⟨by have := HSH.out.bf; show r.bf.v.o.ints.length ≤ 12 ∧ r.bf.v.o.refs.length ≤ 12; omega, by have := HSH.out.af; show r.af.v.o.ints.length ≤ 12 ∧ r.af.v.o.refs.length ≤ 12; omega, by have := HYL.out; show y10.length ≤ 12; omega⟩
  obtain ⟨WF, hWF, hwF, hsF, HTF, HLF, _⟩ := rec_out ⟨r.lsn, r.tx, r.prev, r.kind, r.oid, r.bf, r.af, r.next, y10, a10, c10⟩ _ rfl bR
  have oT : RecA.own WF lo WF.heap.size ⟨r.lsn, r.tx, r.prev, r.kind, r.oid, r.bf, r.af, r.next, y10, a10, c10⟩ := (own_fresh (ho.within hwF (by omega)) ((o10.within hwF (by omega)).widen (Nat.le_refl _) (by omega) (Nat.le_refl _)) (by omega) (by omega) (by omega))
  have HBL : Hid (∀ k ∈ RecA.blocks ⟨r.lsn, r.tx, r.prev, r.kind, r.oid, r.bf, r.af, r.next, y10, a10, c10⟩, k < hi ∨ w.heap.size ≤ k) := (by intro k hk; simp only [RecA.blocks, List.mem_append, Option.mem_toList] at hk; rcases hk with h1 | h1 | h1 <;> first | exact .inl (SlotA.blocks_lt ho.bf k h1).2 | exact .inl (SlotA.blocks_lt ho.af k h1).2 | exact .inr (by have := (o10.lt k h1).1; omega))
  have HF : Hid (BentAt lo hi w WF B zs (.returned (.agg (RecA.cells ⟨r.lsn, r.tx, r.prev, r.kind, r.oid, r.bf, r.af, r.next, y10, a10, c10⟩).toArray))) := ⟨_, rfl, HST.out, oT, HBL.out, hc.within hwF (by omega), HW.new hwF (by omega)⟩
  have rT : v7.rangeAt w.heap.size 0 (RecA.cells ⟨r.lsn, r.tx, r.prev, r.kind, r.oid, r.bf, r.af, r.next, y10, a10, c10⟩) := Box.range [] _ [] (by simpa using bT)
  clear hwF hsF bX oT HBL
  generalize hT : ((⟨r.lsn, r.tx, r.prev, r.kind, r.oid, r.bf, r.af, r.next, y10, a10, c10⟩) : RecA) = TT at *
  clear hT
  go_wp2_with (first | (guard_target = wpList _ _ _ (Oper.mk (some 63) _ _ _ _ _ :: _) _ _; refine wpList_load_mid rfl 39 (.tmp 3) rfl w.heap.size 0 rfl TT.cells _ rT Tryz.underlying39 rfl (rec_info _) ?_) | (guard_target = wpList _ _ _ (Oper.mk none (Op.store _ (Operand.tmp 4) _) _ _ _ _ :: _) _ _; refine wpList_store_mid rfl 39 (.tmp 4) (.tmp 63) rfl (w.heap.size + 1) 0 TT.cells.toArray rfl rfl HTF.out (by rw [List.size_toArray]; exact rec_info _) (rec_one _) ?_) | fail)
  rw [hWF.out]
  exact bodyPost_ret (v := .agg TT.cells.toArray) (results_one Tryz.results61 rfl HLF.out) rfl HF.out
theorem l4DrawAny_any (B : Nat) (zs : List Int) (w : World) (hc : CurAt w B zs) (hl : zs.length ≤ 70368744177664) :
  Calls Tryz.prog 40 #[.pointer (some ⟨B, 0, none⟩)] w fun e w' => DrawnAt w.heap.size w w' B zs e := by
 have hB := hc.lt
 obtain ⟨W, hW, bR, hbW, hsW⟩ := boxes1 w [.int .i64 0, .int .i64 0, .int .i64 0, .int .i64 0, .int .i64 0, .bool false, .int .i64 0, .slice none 0 0, .slice none 0 0, .bool false, .int .i64 0, .slice none 0 0, .slice none 0 0, .int .i64 0, .slice none 0 0] 39
 have HW : Within B (B + 1) w W := Within.of_below hbW
 replace hc : CurAt W B zs := hc.below hbW
 have hsW' : w.heap.size < W.heap.size := bR.lt
 clear hsW hbW
 go_enter Tryz.func40, Tryz.ntmps40
 go_wp2_with fail
 rw [hW.out]
 clear hW
 refine (l4Draw_any B zs W hc hl).mono ?_
 clear hc
 rintro e w1 ⟨t, rfl, hsh, ot, hc, hw1⟩
 have s1 := hw1.size
 replace bR := bR.within hw1 (by omega)
 replace HW := HW.trans hw1
 clear hw1
 obtain ⟨Z, hZ, bZ, hbZ, _⟩ := boxes1 w1 [.int .i64 0, .int .i64 0, .int .i64 0, .int .i64 0, .int .i64 0, .bool false, .int .i64 0, .slice none 0 0, .slice none 0 0, .bool false, .int .i64 0, .slice none 0 0, .slice none 0 0, .int .i64 0, .slice none 0 0] 39
 obtain ⟨w2, hS2, hw2, hz2, HT2, _, bX⟩ := rec_out t [.int .i64 0, .int .i64 0, .int .i64 0, .int .i64 0, .int .i64 0, .bool false, .int .i64 0, .slice none 0 0, .slice none 0 0, .bool false, .int .i64 0, .slice none 0 0, .slice none 0 0, .int .i64 0, .slice none 0 0] rfl bZ
 have hb2 : Below w1.heap.size w1 w2 := hbZ.trans (hw2.below (Nat.le_refl _) (by have := hbZ.size; omega))
 have s2 := hb2.size
 have lX := bX.lt
 replace hc := hc.below hb2
 replace bR := bR.below hb2 bR.lt
 replace ot := ot.below hb2
 replace HW := HW.trans (Within.of_below hb2)
 clear bZ hbZ hw2 hz2 hb2
 go_wp2_with (first | (guard_target = wpList _ _ _ (Oper.mk none (Op.store _ (Operand.tmp 3) _) _ _ _ _ :: _) _ _; refine wpList_store_mid rfl 39 (.tmp 3) (.tmp 5) rfl w1.heap.size 0 t.cells.toArray rfl rfl (by rw [hZ.out]; exact HT2.out) (by rw [List.size_toArray]; exact rec_info _) (rec_one _) ?_) | fail)
 rw [hZ.out, hS2.out]
 clear hZ hS2 HT2
 refine (l1Once_any B zs 5 w2 hc hl (by omega)).mono ?_
 clear hc
 rintro e w3 ⟨bb, rfl, hc, hg3⟩
 have hw3 := within_cur hg3
 clear hg3
 have s3 := hw3.size
 replace bR := bR.within hw3 (by omega)
 replace bX := bX.within hw3 (by omega)
 replace ot := ot.within hw3 (by omega)
 replace HW := HW.trans hw3
 clear hw3
 cases bb with
 | false =>
  obtain ⟨WF, hWF, hwF, hsF, HTF, HLF, _⟩ := rec_out t _ rfl bR
  have HF : Hid (DrawnAt w.heap.size w WF B zs (.returned (.agg t.cells.toArray))) := ⟨t, rfl, ⟨by have := hsh.bf; omega, by have := hsh.af; omega, by have := hsh.txs; omega⟩, (ot.within hwF (by omega)).widen (by omega) (by omega) (Nat.le_refl _), hc.within hwF (by omega), HW.new hwF (Nat.le_refl _)⟩
  have rT : w3.rangeAt w1.heap.size 0 t.cells := Box.range [] _ [] (by simpa using bX)
  clear hwF hsF
  go_wp2_with (first | (guard_target = wpList _ _ _ (Oper.mk (some 11) _ _ _ _ _ :: _) _ _; refine wpList_load_mid rfl 39 (.tmp 3) rfl w1.heap.size 0 rfl t.cells _ rT Tryz.underlying39 rfl (rec_info _) ?_) | (guard_target = wpList _ _ _ (Oper.mk none (Op.store _ (Operand.tmp 2) _) _ _ _ _ :: _) _ _; refine wpList_store_mid rfl 39 (.tmp 2) (.tmp 11) rfl w.heap.size 0 t.cells.toArray rfl rfl HTF.out (by rw [List.size_toArray]; exact rec_info _) (rec_one _) ?_) | fail)
  rw [hWF.out]
  exact bodyPost_ret (v := .agg t.cells.toArray) (results_one Tryz.results40 rfl HLF.out) rfl HF.out
 | true =>
  have rT : w3.rangeAt w1.heap.size 0 t.cells := Box.range [] _ [] (by simpa using bX)
  go_wp2_with (first | (guard_target = wpList _ _ _ (Oper.mk (some 9) _ _ _ _ _ :: _) _ _; refine wpList_load_mid rfl 39 (.tmp 3) rfl w1.heap.size 0 rfl t.cells _ rT Tryz.underlying39 rfl (rec_info _) ?_) | fail)
  clear rT
  refine (l4Bend_any B W.heap.size w1.heap.size zs t w3 hc hl ot (by omega) (by omega) hsh).mono ?_
  clear hc ot
  rintro e w4 ⟨u, rfl, hshu, ou, hbl, hc, hw4⟩
  have s4 := hw4.size
  replace bR := bR.within hw4 (by omega)
  replace bX := bX.within hw4 (by omega)
  replace HW := HW.trans hw4
  clear hw4
  obtain ⟨w5, hS5, hw5, hz5, HT5, _, bX5⟩ := rec_out u _ rfl bX
  have e5 := Nat.le_of_eq hz5
  have e5' := Nat.le_of_eq hz5.symm
  clear hz5
  replace bR := bR.within hw5 (by omega)
  replace hc := hc.within hw5 (by omega)
  replace HW := HW.new hw5 (by omega)
  have ou5 : u.own w5 W.heap.size w5.heap.size := (own_past ou hw5 (fun k hk => by have := hbl k hk; omega)).widen (Nat.le_refl _) (by omega) (Nat.le_refl _)
  obtain ⟨WF, hWF, hwF, hsF, HTF, HLF, _⟩ := rec_out u _ rfl bR
  have HF : Hid (DrawnAt w.heap.size w WF B zs (.returned (.agg u.cells.toArray))) := ⟨u, rfl, hshu, (ou5.within hwF (by omega)).widen (by omega) (by omega) (Nat.le_refl _), hc.within hwF (by omega), HW.new hwF (Nat.le_refl _)⟩
  have rT : w5.rangeAt w1.heap.size 0 u.cells := Box.range [] _ [] (by simpa using bX5)
  clear hwF hsF hw5
  go_wp2_with (first | (guard_target = wpList _ _ _ (Oper.mk none (Op.store _ (Operand.tmp 3) _) _ _ _ _ :: _) _ _; refine wpList_store_mid rfl 39 (.tmp 3) (.tmp 10) rfl w1.heap.size 0 u.cells.toArray rfl rfl HT5.out (by rw [List.size_toArray]; exact rec_info _) (rec_one _) ?_) | (guard_target = wpList _ _ _ (Oper.mk (some 11) _ _ _ _ _ :: _) _ _; refine wpList_load_mid rfl 39 (.tmp 3) rfl w1.heap.size 0 rfl u.cells _ (by rw [hS5.out]; exact rT) Tryz.underlying39 rfl (rec_info _) ?_) | (guard_target = wpList _ _ _ (Oper.mk none (Op.store _ (Operand.tmp 2) _) _ _ _ _ :: _) _ _; refine wpList_store_mid rfl 39 (.tmp 2) (.tmp 11) rfl w.heap.size 0 u.cells.toArray rfl rfl (by rw [hS5.out]; exact HTF.out) (by rw [List.size_toArray]; exact rec_info _) (rec_one _) ?_) | fail)
  rw [hS5.out, hWF.out]
  exact bodyPost_ret (v := .agg u.cells.toArray) (results_one Tryz.results40 rfl HLF.out) rfl HF.out
end Go.Proofs.YtoboickdkednkaaGreatDoor
namespace Go.Proofs.YtoboickdkednkaaGreatDoor
open Go.RowKit
attribute [local go_sem ↓] Go.wp_at_zero Go.wp_at_succ
theorem log_part {e : EngA} (h : e.shape) : e.cells.toArray.extract 138 140 = e.log.cells.toArray := by
 have e1 : e.cells = cellsPs e.disk ++ e.tail := rfl
 have hl := EngA.disk_len h
 apply Array.ext'
 rw [Array.toList_extract]
 show List.extract e.cells 138 140 = _
 rw [List.extract_eq_take_drop, e1, List.drop_append, hl, List.drop_eq_nil_of_le (by omega)]
 rfl
theorem run_log {e : EngA} (h : e.shape) (w : World) : (Instr.field 128 (.agg e.cells.toArray) 2).run Tryz.prog w = .ok (.agg e.log.cells.toArray) w := by
 have hp := log_part h
 generalize e.cells.toArray = cs at *
 have e2 : (Instr.field 128 (.agg cs) 2).run Tryz.prog w = .ok (.agg (cs.extract 138 140)) w := by kernel_rfl
 rw [e2, hp]
theorem own_raise {w : World} {lo lo' hi : Nat} {a : Option Addr} {c : Nat} {rs : List RecA} (h : OwnRs w lo hi a c rs) (hb : ∀ k ∈ blocksRs a c rs, lo' ≤ k) : OwnRs w lo' hi a c rs := by
 refine ⟨ownsRow_base h.row (fun k hk => hb k (List.mem_append.2 (.inl (Option.mem_toList.2 hk)))), h.top, h.blk, fun r hr => ?_, h.apart⟩
 have hr1 := h.each r hr
 have hk : ∀ k ∈ r.blocks, lo' ≤ k := fun k hk => hb k (List.mem_append.2 (.inr (List.mem_flatMap.2 ⟨r, hr, hk⟩)))
 simp only [RecA.blocks, SlotA.blocks, List.mem_append, Option.mem_toList] at hk
 exact ⟨⟨⟨ownsRow_base hr1.bf.ints.1 (fun k h1 => hk k (.inl (.inl h1))), hr1.bf.ints.2⟩, ⟨ownsRow_base hr1.bf.refs.1 (fun k h1 => hk k (.inl (.inr h1))), hr1.bf.refs.2⟩, hr1.bf.apart⟩, ⟨⟨ownsRow_base hr1.af.ints.1 (fun k h1 => hk k (.inr (.inl (.inl h1)))), hr1.af.ints.2⟩, ⟨ownsRow_base hr1.af.refs.1 (fun k h1 => hk k (.inr (.inl (.inr h1)))), hr1.af.refs.2⟩, hr1.af.apart⟩, ⟨ownsRow_base hr1.txs.1 (fun k h1 => hk k (.inr (.inr h1))), hr1.txs.2⟩, hr1.apart⟩
theorem within_new {B C : Nat} {w W w1 WF : World} (hbW : Below w.heap.size w W) (h1 : Within B (B + 1) W w1) (hF : Within C (C + 1) w1 WF) (hC : w.heap.size ≤ C) : Within B (B + 1) w WF :=
 ⟨hF.os.trans (h1.os.trans hbW.os), hF.tape.trans (h1.tape.trans hbW.tape), hF.output.trans (h1.output.trans hbW.output), Nat.le_trans hbW.size (Nat.le_trans h1.size hF.size), fun k hk hn => (hF.block k (by have := hbW.size; have := h1.size; omega) (by omega)).trans ((h1.block k (by have := hbW.size; omega) hn).trans (hbW.block k hk))⟩
def LogDrawn (B : Nat) (zs : List Int) (w : World) (r : Ending) (w' : World) : Prop := ∃ l : LogA, r = .returned (.agg l.cells.toArray) ∧ l.own w' w.heap.size w'.heap.size ∧ l.recs.length ≤ 262144 ∧ (∀ x ∈ l.recs, x.short 10) ∧ CurAt w' B zs ∧ Within B (B + 1) w w'
theorem l5Draw_any (B : Nat) (zs : List Int) (n : Int) (w : World) (hc : CurAt w B zs) (hl : zs.length ≤ 70368744177664) (hn0 : 0 < n) (hn : n ≤ 17) :
  Calls Tryz.prog 60 #[.pointer (some ⟨B, 0, none⟩), .int .i64 n] w fun r w' => LogDrawn B zs w r w' := by
 obtain ⟨W, hW, b0, hbW, hsW⟩ := boxes1 w [.slice none 0 0, .int .i64 0] 26
 have hW' : Hid (w.alloc (.cells #[.slice none 0 0, .int .i64 0] 26) = W) := hW.out
 have C := l7Draw_any B zs n W (hc.below hbW) hl hn0 hn
 have hBl := hc.lt
 have hws : w.heap.size < W.heap.size := by omega
 clear hW hsW
 go_enter Tryz.func60, Tryz.ntmps60
 go_wp2_with fail
 rw [hW'.out]
 refine C.mono ?_
 clear C hW'
 rintro r w1 ⟨e, i, rfl, hi, hd, hsh, ho, hfr, hc1, hw1⟩
 have hf := run_log hsh w1
 have b1 := b0.within hw1 (by omega)
 obtain ⟨WF, hWF, hwF, hsF, HTF, HLF, bF⟩ := log_out e.log _ rfl b1
 have hs1 := hw1.size
 have hlen : e.log.recs.length ≤ 262144 := by
  have h1 := hd.len
  have h2 : 2 ^ (i + 2) ≤ 2 ^ 18 := Nat.pow_le_pow_right (by omega) (by omega)
  have h3 : e.v.log.recs.length = e.log.recs.length := by simp [EngA.v, LogA.v]
  omega
 have hshort : ∀ x ∈ e.log.recs, x.short 10 := fun x hx => by
  have h1 := hd.sound.recs x.v (List.mem_map_of_mem hx)
  exact ⟨h1.1, h1.2.1, h1.2.2⟩
 have hfr' : ∀ k ∈ blocksRs e.log.a e.log.c e.log.recs, W.heap.size ≤ k := fun k hk => hfr k (EngA.mem_log hk)
 have ho1 : e.log.own w1 W.heap.size w1.heap.size := own_raise ho.log hfr'
 have hoF : e.log.own WF w.heap.size WF.heap.size := (LogA.own.within ho1 hwF (.inr (by omega))).widen (by omega) (by omega) (Nat.le_refl _)
 have hcF := hc1.within hwF (by omega)
 have hWin : Within B (B + 1) w WF := within_new hbW hw1 hwF (Nat.le_refl _)
 have HEND : Hid (LogDrawn B zs w (.returned (.agg e.log.cells.toArray)) WF) := ⟨e.log, rfl, hoF, hlen, hshort, hcF, hWin⟩
 have HO := log_one e.log
 have HI : Hid ((Tryz.prog.info? 26).map (·.size) = some e.log.cells.toArray.size) := log_info e.log
 have hWF' : Hid (w1.setCells w.heap.size 0 e.log.cells.toArray.toList = WF) := hWF.out
 clear hoF hcF hWin ho1 hfr' hshort hlen bF hwF hsF b1 hd ho hWF
 go_wp2_with (first | (guard_target = wpList _ _ _ (Oper.mk none (Op.store _ (Operand.tmp 4) _) _ _ _ _ :: _) _ _; refine wpList_store_mid rfl 26 (.tmp 4) (.tmp 8) rfl w.heap.size 0 e.log.cells.toArray rfl rfl HTF.out HI.out HO ?_; rw [hWF'.out]) | fail)
 exact bodyPost_ret (v := .agg e.log.cells.toArray) (results_one Tryz.results60 rfl HLF.out) rfl HEND.out
end Go.Proofs.YtoboickdkednkaaGreatDoor
namespace Go.Proofs.YtoboickdkednkaaGreatDoor
open Go.RowKit
theorem ReadsRs.take {w : World} {a : Option Addr} {rs : List RecA} (h : ReadsRs w a rs) (j : Nat) : ReadsRs w a (rs.take j) := by
 intro hne
 have hne' : rs ≠ [] := by rintro rfl; simp at hne
 obtain ⟨b, off, ha, hc⟩ := h hne'
 refine ⟨b, off, ha, fun k hk => ?_⟩
 rw [List.length_take] at hk
 have e : (rs.take j).getD k zeroR = rs.getD k zeroR := by simp [List.getD, show k < j by omega]
 rw [e]
 exact hc k (by omega)
theorem OwnRs.take {w : World} {lo hi : Nat} {a : Option Addr} {c : Nat} {rs : List RecA} (h : OwnRs w lo hi a c rs) (j : Nat) (hj : j ≤ rs.length) : OwnRs w lo hi a c (rs.take j) := by
 have hl : (rs.take j).length = j := by rw [List.length_take]; omega
 have hob : (Value.slice a (rs.take j).length c).ownBlock = (Value.slice a rs.length c).ownBlock := by cases a <;> rfl
 refine ⟨?_, h.top, fun k hk => h.blk k (by rw [← hob]; exact hk), fun r hr => h.each r (List.mem_of_mem_take hr), ?_⟩
 ·have hcl : cellsRs (rs.take j) = (cellsRs rs).take (j * 15) := by
   have e2 : cellsRs rs = cellsRs (rs.take j) ++ cellsRs (rs.drop j) := by rw [← cellsRs_app, List.take_append_drop]
   rw [e2]
   exact (List.take_left' (by rw [cellsRs_len, hl])).symm
  refine ⟨by rw [cellsRs_len], ?_⟩
  rcases h.row.2 with ⟨hv, h0⟩ | ⟨g, cap, cur, hv, hg, hgg, h1, h2, h3, h4⟩
  ·simp only [Value.slice.injEq] at hv
   refine .inl ⟨?_, by omega⟩
   rw [hv.1, hv.2.2, show (rs.take j).length = 0 by omega]
  ·simp only [Value.slice.injEq] at hv
   refine .inr ⟨g, cap, cur, ?_, hg, hgg, by omega, h2, h3, ?_⟩
   ·rw [hv.1, hv.2.2]
   ·rw [hcl, ← h4, List.take_take, hl]
    congr 1
    have := Nat.mul_le_mul_right 15 hj
    omega
 ·rw [hob]
  have hap := h.apart
  have e : rs.flatMap RecA.blocks = (rs.take j).flatMap RecA.blocks ++ (rs.drop j).flatMap RecA.blocks := by rw [← List.flatMap_append, List.take_append_drop]
  rw [e, ← List.append_assoc] at hap
  exact (List.nodup_append.1 hap).1
theorem OwnRs.capLen {w : World} {lo hi : Nat} {a : Option Addr} {c : Nat} {rs : List RecA} (h : OwnRs w lo hi a c rs) : rs.length ≤ c := by
 rcases h.row.2 with ⟨hv', h00⟩ | ⟨g, cap, cur, hv', _, _, h1, _⟩
 ·omega
 ·simp only [Value.slice.injEq] at hv'; omega
theorem OwnRs.nilLen {w : World} {lo hi : Nat} {a : Option Addr} {c : Nat} {rs : List RecA} (h : OwnRs w lo hi a c rs) : a = none → rs.length = 0 ∧ c = 0 := fun ha => by
 have h1 := h.nocap ha
 have h2 := h.capLen
 exact ⟨by omega, h1⟩
end Go.Proofs.YtoboickdkednkaaGreatDoor