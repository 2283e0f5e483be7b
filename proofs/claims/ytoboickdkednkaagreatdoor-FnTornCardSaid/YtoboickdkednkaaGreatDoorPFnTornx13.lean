/- Several texts in one, in their order. -/
import Derived.Test.YtoboickdkednkaaGreatDoorPFnTornx12
import Derived.Test.YtoboickdkednkaaGreatDoorPFnTornx3
import Derived.Test.YtoboickdkednkaaGreatDoorPFnTornx5
import Derived.Test.YtoboickdkednkaaGreatDoorPFnTornx7
import Derived.Test.YtoboickdkednkaaGreatDoorPFnTornx8
import Derived.Deep.CutRange
import Derived.Test.YtoboickdkednkaaGreatDoorProg
import Derived.Test.YtoboickdkednkaaGreatDoorPFnTornx1
import Derived.ProofKit
import Derived.OpenShut
import Derived.ChangeOld
set_option maxHeartbeats 8000000
set_option maxRecDepth 100000
namespace Go.Proofs.YtoboickdkednkaaGreatDoor
open Go.RowKit
def BentAt (lo hi : Nat) (w w' : World) (B : Nat) (zs : List Int) (e : Ending) : Prop := ∃ t : RecA, e = .returned (.agg t.cells.toArray) ∧ t.short 12 ∧ t.own w' lo w'.heap.size ∧ (∀ k ∈ t.blocks, k < hi ∨ w.heap.size ≤ k) ∧ CurAt w' B zs ∧ Within B (B + 1) w w'
theorem own_past {w w' : World} {r : RecA} {lo hi X : Nat} (h : r.own w lo hi) (hw : Within X (X + 1) w w') (hd : ∀ k ∈ r.blocks, k ≠ X) : r.own w' lo hi := by
 have ht : Touch [X] w w' := ⟨hw.os, hw.tape, hw.output, hw.size, fun k hk hn => hw.block k hk (fun h => hn (by simp; omega))⟩
 have hd' : ∀ k ∈ r.blocks, k ∉ [X] := fun k hk h => hd k hk (by simpa using h)
 simp only [RecA.blocks, List.mem_append, Option.mem_toList] at hd'
 exact ⟨SlotA.touch h.bf ht (fun k hk => hd' k (.inl hk)), SlotA.touch h.af ht (fun k hk => hd' k (.inr (.inl hk))), h.txs.touch ht (fun k hk => hd' k (.inr (.inr hk))), h.apart⟩
theorem own_fresh {w : World} {r : RecA} {lo hi lo' hi' : Nat} {aL : Option Addr} {cL : Nat} {ls : List LiveV} (h : r.own w lo hi) (hL : OwnL w lo' hi' aL cL ls) (h1 : hi ≤ lo') (h2 : lo ≤ lo') (h3 : lo' ≤ hi') : (⟨r.lsn, r.tx, r.prev, r.kind, r.oid, r.bf, r.af, r.next, ls, aL, cL⟩ : RecA).own w lo hi' := by
 have hh : hi' ≤ w.heap.size := hL.2.1
 refine ⟨OwnO.widen h.bf (Nat.le_refl _) (by omega) hh, OwnO.widen h.af (Nat.le_refl _) (by omega) hh, hL.widen h2 (Nat.le_refl _) hh, ?_⟩
 have ha := h.apart
 simp only [RecA.blocks] at ha ⊢
 rw [List.nodup_append] at ha ⊢
 obtain ⟨a1, a2, a3⟩ := ha
 rw [List.nodup_append] at a2 ⊢
 refine ⟨a1, ⟨a2.1, by cases (Value.slice aL ls.length cL).ownBlock <;> simp, ?_⟩, ?_⟩
 ·intro x hx y hy e
  have b1 := SlotA.blocks_lt h.af x hx
  have b2 := hL.lt y (Option.mem_toList.1 hy)
  omega
 ·intro x hx y hy
  rcases List.mem_append.1 hy with hy | hy
  ·exact a3 x hx y (List.mem_append.2 (.inl hy))
  ·intro e
   have b1 := SlotA.blocks_lt h.bf x hx
   have b2 := hL.lt y (Option.mem_toList.1 hy)
   omega
theorem l4Bend_any (B lo hi : Nat) (zs : List Int) (r : RecA) (w : World) (hc : CurAt w B zs) (hl : zs.length ≤ 70368744177664) (ho : r.own w lo hi) (hB : B < lo) (hh : lo ≤ hi) (hsh : r.short 10) :
  Calls Tryz.prog 61 #[.pointer (some ⟨B, 0, none⟩), .agg r.cells.toArray] w fun e w' => BentAt lo hi w w' B zs e := by
 have hBw := hc.lt
 have hhw : hi ≤ w.heap.size := ho.txs.2.1
 obtain ⟨W, hW, bX, bR, hbW, hsW⟩ := boxes2 w r.cells [.int .i64 0, .int .i64 0, .int .i64 0, .int .i64 0, .int .i64 0, .bool false, .int .i64 0, .slice none 0 0, .slice none 0 0, .bool false, .int .i64 0, .slice none 0 0, .slice none 0 0, .int .i64 0, .slice none 0 0] 39 39
 have HW : Within B (B + 1) w W := Within.of_below hbW
 replace hc : CurAt W B zs := hc.below hbW
 replace ho := ho.below hbW
 have hsW' : w.heap.size + 1 < W.heap.size := bR.lt
 have HSH : Hid (r.short 10) := hsh
 simp only [RecA.cells] at hW bX ⊢
 clear hsW hbW hsh
 go_enter Tryz.func61, Tryz.ntmps61
 go_wp2_with fail
 rw [hW.out]
 clear hW
 refine (l1Below_any B zs 8 W hc hl (by omega)).mono ?_
 clear hc
 rintro e v1 ⟨x, rfl, hx, hc, hgv1⟩
 replace hx : (x : Int) < 8 := hx (by decide)
 have hwv1 := within_cur hgv1
 clear hgv1
 have sv1 := hwv1.size
 replace bR := bR.within hwv1 (by omega)
 replace bX := bX.within hwv1 (by omega)
 replace ho := ho.within hwv1 (by omega)
 replace HW := HW.trans hwv1
 clear hwv1
 by_cases q0 : x = 0
 case pos =>
  have t0_ : ((x : Int) == 0) = true := by simp; omega
  clear q0
  obtain ⟨v2, hv2, bI, hbv2, ev2⟩ := boxes1 v1 [.int .i64 (0), .int .i64 (1), .int .i64 (1000000), .int .i64 (1000001)] 3
  have lIv2 := bI.lt
  clear ev2
  go_wp2_with fail
  rw [hv2.out]
  clear hv2
  have sv2 := hbv2.size
  replace hc := hc.below hbv2
  replace bR := bR.below hbv2 bR.lt
  replace bX := bX.below hbv2 bX.lt
  replace ho := ho.below hbv2
  replace HW := HW.trans (Within.of_below hbv2)
  clear hbv2
  refine (l1Int_any B zs (some ⟨v1.heap.size, 0, none⟩) 4 [0, 1, 1000000, 1000001] v2 hc hl (readsI_box [0, 1, 1000000, 1000001] bI) (fun b off h => by cases h; omega) (by simp) (by simp)).mono ?_
  clear hc bI
  rintro e v3 ⟨jv3, hjv3, rfl, hc, hgv3⟩
  generalize ([0, 1, 1000000, 1000001] : List Int).getD jv3 0 = nv at *
  clear hjv3
  have hwv3 := within_cur hgv3
  clear hgv3
  have sv3 := hwv3.size
  replace bR := bR.within hwv3 (by omega)
  replace bX := bX.within hwv3 (by omega)
  replace ho := ho.within hwv3 (by omega)
  replace HW := HW.trans hwv3
  clear hwv3
  have cx0 := bX.cell 0 _ rfl
  have cf0 := bX.frozen 0
  obtain ⟨v4, hv4, bX2, hwv4, ev4⟩ := box_set bX 0 (.int .i64 nv)
  have e1v4 := Nat.le_of_eq ev4
  have e2v4 := Nat.le_of_eq ev4.symm
  clear ev4
  simp only [List.set] at bX2
  replace hc := hc.within hwv4 (by omega)
  replace bR := bR.within hwv4 (by omega)
  replace ho := ho.within hwv4 (by omega)
  replace HW := HW.new hwv4 (by omega)
  clear bX hwv4
  have bX := bX2
  clear bX2
  go_upto_region 16 with fail
  rw [hv4.out]
  clear hv4 cx0 cf0
  have bT : Box v4 w.heap.size (RecA.cells ⟨nv, r.tx, r.prev, r.kind, r.oid, r.bf, r.af, r.next, r.txs, r.aL, r.cL⟩) 39 := bX
  have HST : Hid (RecA.short ⟨nv, r.tx, r.prev, r.kind, r.oid, r.bf, r.af, r.next, r.txs, r.aL, r.cL⟩ 12) := ⟨by have := HSH.out.bf; show r.bf.v.o.ints.length ≤ 12 ∧ r.bf.v.o.refs.length ≤ 12; omega, by have := HSH.out.af; show r.af.v.o.ints.length ≤ 12 ∧ r.af.v.o.refs.length ≤ 12; omega, by have := HSH.out.txs; show r.txs.length ≤ 12; omega⟩
  obtain ⟨WF, hWF, hwF, hsF, HTF, HLF, _⟩ := rec_out ⟨nv, r.tx, r.prev, r.kind, r.oid, r.bf, r.af, r.next, r.txs, r.aL, r.cL⟩ _ rfl bR
  have oT : RecA.own WF lo WF.heap.size ⟨nv, r.tx, r.prev, r.kind, r.oid, r.bf, r.af, r.next, r.txs, r.aL, r.cL⟩ := (⟨OwnO.widen (OwnO.within ho.bf hwF (by omega)) (Nat.le_refl _) (by omega) (Nat.le_refl _), OwnO.widen (OwnO.within ho.af hwF (by omega)) (Nat.le_refl _) (by omega) (Nat.le_refl _), (ho.txs.within hwF (by omega)).widen (Nat.le_refl _) (by omega) (Nat.le_refl _), ho.apart⟩)
  have HBL : Hid (∀ k ∈ RecA.blocks ⟨nv, r.tx, r.prev, r.kind, r.oid, r.bf, r.af, r.next, r.txs, r.aL, r.cL⟩, k < hi ∨ w.heap.size ≤ k) := fun k hk => .inl (ho.blocks_lt k hk).2
  have HF : Hid (BentAt lo hi w WF B zs (.returned (.agg (RecA.cells ⟨nv, r.tx, r.prev, r.kind, r.oid, r.bf, r.af, r.next, r.txs, r.aL, r.cL⟩).toArray))) := ⟨_, rfl, HST.out, oT, HBL.out, hc.within hwF (by omega), HW.new hwF (by omega)⟩
  have rT : v4.rangeAt w.heap.size 0 (RecA.cells ⟨nv, r.tx, r.prev, r.kind, r.oid, r.bf, r.af, r.next, r.txs, r.aL, r.cL⟩) := Box.range [] _ [] (by simpa using bT)
  clear hwF hsF bX oT HBL
  generalize hT : ((⟨nv, r.tx, r.prev, r.kind, r.oid, r.bf, r.af, r.next, r.txs, r.aL, r.cL⟩) : RecA) = TT at *
  clear hT
  go_wp2_with (first | (guard_target = wpList _ _ _ (Oper.mk (some 63) _ _ _ _ _ :: _) _ _; refine wpList_load_mid rfl 39 (.tmp 3) rfl w.heap.size 0 rfl TT.cells _ rT Tryz.underlying39 rfl (rec_info _) ?_) | (guard_target = wpList _ _ _ (Oper.mk none (Op.store _ (Operand.tmp 4) _) _ _ _ _ :: _) _ _; refine wpList_store_mid rfl 39 (.tmp 4) (.tmp 63) rfl (w.heap.size + 1) 0 TT.cells.toArray rfl rfl HTF.out (by rw [List.size_toArray]; exact rec_info _) (rec_one _) ?_) | fail)
  rw [hWF.out]
  exact bodyPost_ret (v := .agg TT.cells.toArray) (results_one Tryz.results61 rfl HLF.out) rfl HF.out
 case neg =>
 by_cases q1 : x = 1
 case pos =>
  have t1_ : ((x : Int) == 1) = true := by simp; omega
  have f0_ : ((x : Int) == 0) = false := by simp; omega
  clear q0 q1
  obtain ⟨v2, hv2, bI, hbv2, ev2⟩ := boxes1 v1 [.int .i64 (0), .int .i64 (1000), .int .i64 (1001)] 3
  have lIv2 := bI.lt
  clear ev2
  go_wp2_with fail
  rw [hv2.out]
  clear hv2
  have sv2 := hbv2.size
  replace hc := hc.below hbv2
  replace bR := bR.below hbv2 bR.lt
  replace bX := bX.below hbv2 bX.lt
  replace ho := ho.below hbv2
  replace HW := HW.trans (Within.of_below hbv2)
  clear hbv2
  refine (l1Int_any B zs (some ⟨v1.heap.size, 0, none⟩) 3 [0, 1000, 1001] v2 hc hl (readsI_box [0, 1000, 1001] bI) (fun b off h => by cases h; omega) (by simp) (by simp)).mono ?_
  clear hc bI
  rintro e v3 ⟨jv3, hjv3, rfl, hc, hgv3⟩
  generalize ([0, 1000, 1001] : List Int).getD jv3 0 = nv at *
  clear hjv3
  have hwv3 := within_cur hgv3
  clear hgv3
  have sv3 := hwv3.size
  replace bR := bR.within hwv3 (by omega)
  replace bX := bX.within hwv3 (by omega)
  replace ho := ho.within hwv3 (by omega)
  replace HW := HW.trans hwv3
  clear hwv3
  have cx1 := bX.cell 1 _ rfl
  have cf1 := bX.frozen 1
  obtain ⟨v4, hv4, bX2, hwv4, ev4⟩ := box_set bX 1 (.int .i64 nv)
  have e1v4 := Nat.le_of_eq ev4
  have e2v4 := Nat.le_of_eq ev4.symm
  clear ev4
  simp only [List.set] at bX2
  replace hc := hc.within hwv4 (by omega)
  replace bR := bR.within hwv4 (by omega)
  replace ho := ho.within hwv4 (by omega)
  replace HW := HW.new hwv4 (by omega)
  clear bX hwv4
  have bX := bX2
  clear bX2
  go_upto_region 16 with fail
  rw [hv4.out]
  clear hv4 cx1 cf1
  have bT : Box v4 w.heap.size (RecA.cells ⟨r.lsn, nv, r.prev, r.kind, r.oid, r.bf, r.af, r.next, r.txs, r.aL, r.cL⟩) 39 := bX
  have HST : Hid (RecA.short ⟨r.lsn, nv, r.prev, r.kind, r.oid, r.bf, r.af, r.next, r.txs, r.aL, r.cL⟩ 12) := ⟨by have := HSH.out.bf; show r.bf.v.o.ints.length ≤ 12 ∧ r.bf.v.o.refs.length ≤ 12; omega, by have := HSH.out.af; show r.af.v.o.ints.length ≤ 12 ∧ r.af.v.o.refs.length ≤ 12; omega, by have := HSH.out.txs; show r.txs.length ≤ 12; omega⟩
  obtain ⟨WF, hWF, hwF, hsF, HTF, HLF, _⟩ := rec_out ⟨r.lsn, nv, r.prev, r.kind, r.oid, r.bf, r.af, r.next, r.txs, r.aL, r.cL⟩ _ rfl bR
  have oT : RecA.own WF lo WF.heap.size ⟨r.lsn, nv, r.prev, r.kind, r.oid, r.bf, r.af, r.next, r.txs, r.aL, r.cL⟩ := (⟨OwnO.widen (OwnO.within ho.bf hwF (by omega)) (Nat.le_refl _) (by omega) (Nat.le_refl _), OwnO.widen (OwnO.within ho.af hwF (by omega)) (Nat.le_refl _) (by omega) (Nat.le_refl _), (ho.txs.within hwF (by omega)).widen (Nat.le_refl _) (by omega) (Nat.le_refl _), ho.apart⟩)
  have HBL : Hid (∀ k ∈ RecA.blocks ⟨r.lsn, nv, r.prev, r.kind, r.oid, r.bf, r.af, r.next, r.txs, r.aL, r.cL⟩, k < hi ∨ w.heap.size ≤ k) := fun k hk => .inl (ho.blocks_lt k hk).2
  have HF : Hid (BentAt lo hi w WF B zs (.returned (.agg (RecA.cells ⟨r.lsn, nv, r.prev, r.kind, r.oid, r.bf, r.af, r.next, r.txs, r.aL, r.cL⟩).toArray))) := ⟨_, rfl, HST.out, oT, HBL.out, hc.within hwF (by omega), HW.new hwF (by omega)⟩
  have rT : v4.rangeAt w.heap.size 0 (RecA.cells ⟨r.lsn, nv, r.prev, r.kind, r.oid, r.bf, r.af, r.next, r.txs, r.aL, r.cL⟩) := Box.range [] _ [] (by simpa using bT)
  clear hwF hsF bX oT HBL
  generalize hT : ((⟨r.lsn, nv, r.prev, r.kind, r.oid, r.bf, r.af, r.next, r.txs, r.aL, r.cL⟩) : RecA) = TT at *
  clear hT
  go_wp2_with (first | (guard_target = wpList _ _ _ (Oper.mk (some 63) _ _ _ _ _ :: _) _ _; refine wpList_load_mid rfl 39 (.tmp 3) rfl w.heap.size 0 rfl TT.cells _ rT Tryz.underlying39 rfl (rec_info _) ?_) | (guard_target = wpList _ _ _ (Oper.mk none (Op.store _ (Operand.tmp 4) _) _ _ _ _ :: _) _ _; refine wpList_store_mid rfl 39 (.tmp 4) (.tmp 63) rfl (w.heap.size + 1) 0 TT.cells.toArray rfl rfl HTF.out (by rw [List.size_toArray]; exact rec_info _) (rec_one _) ?_) | fail)
  rw [hWF.out]
  exact bodyPost_ret (v := .agg TT.cells.toArray) (results_one Tryz.results61 rfl HLF.out) rfl HF.out
 case neg =>
 by_cases q2 : x = 2
 case pos =>
  have t2_ : ((x : Int) == 2) = true := by simp; omega
  have f0_ : ((x : Int) == 0) = false := by simp; omega
  have f1_ : ((x : Int) == 1) = false := by simp; omega
  clear q0 q1 q2
  have k0 := bX.cell 0 _ rfl
  obtain ⟨v2, hv2, bI, hbv2, ev2⟩ := boxes1 v1 [.int .i64 (-1), .int .i64 (r.lsn), .int .i64 (0)] 3
  have lIv2 := bI.lt
  clear ev2
  go_wp2_with fail
  rw [hv2.out]
  clear hv2
  have sv2 := hbv2.size
  replace hc := hc.below hbv2
  replace bR := bR.below hbv2 bR.lt
  replace bX := bX.below hbv2 bX.lt
  replace ho := ho.below hbv2
  replace HW := HW.trans (Within.of_below hbv2)
  clear hbv2
  refine (l1Int_any B zs (some ⟨v1.heap.size, 0, none⟩) 3 [-1, r.lsn, 0] v2 hc hl (readsI_box [-1, r.lsn, 0] bI) (fun b off h => by cases h; omega) (by simp) (by simp)).mono ?_
  clear hc bI
  rintro e v3 ⟨jv3, hjv3, rfl, hc, hgv3⟩
  generalize ([-1, r.lsn, 0] : List Int).getD jv3 0 = nv at *
  clear hjv3
  have hwv3 := within_cur hgv3
  clear hgv3
  have sv3 := hwv3.size
  replace bR := bR.within hwv3 (by omega)
  replace bX := bX.within hwv3 (by omega)
  replace ho := ho.within hwv3 (by omega)
  replace HW := HW.trans hwv3
  clear hwv3
  clear k0
  have cx2 := bX.cell 2 _ rfl
  have cf2 := bX.frozen 2
  obtain ⟨v4, hv4, bX2, hwv4, ev4⟩ := box_set bX 2 (.int .i64 nv)
  have e1v4 := Nat.le_of_eq ev4
  have e2v4 := Nat.le_of_eq ev4.symm
  clear ev4
  simp only [List.set] at bX2
  replace hc := hc.within hwv4 (by omega)
  replace bR := bR.within hwv4 (by omega)
  replace ho := ho.within hwv4 (by omega)
  replace HW := HW.new hwv4 (by omega)
  clear bX hwv4
  have bX := bX2
  clear bX2
  go_upto_region 16 with fail
  rw [hv4.out]
  clear hv4 cx2 cf2
  have bT : Box v4 w.heap.size (RecA.cells ⟨r.lsn, r.tx, nv, r.kind, r.oid, r.bf, r.af, r.next, r.txs, r.aL, r.cL⟩) 39 := bX
  have HST : Hid (RecA.short ⟨r.lsn, r.tx, nv, r.kind, r.oid, r.bf, r.af, r.next, r.txs, r.aL, r.cL⟩ 12) := ⟨by have := HSH.out.bf; show r.bf.v.o.ints.length ≤ 12 ∧ r.bf.v.o.refs.length ≤ 12; omega, by have := HSH.out.af; show r.af.v.o.ints.length ≤ 12 ∧ r.af.v.o.refs.length ≤ 12; omega, by have := HSH.out.txs; show r.txs.length ≤ 12; omega⟩
  obtain ⟨WF, hWF, hwF, hsF, HTF, HLF, _⟩ := rec_out ⟨r.lsn, r.tx, nv, r.kind, r.oid, r.bf, r.af, r.next, r.txs, r.aL, r.cL⟩ _ rfl bR
  have oT : RecA.own WF lo WF.heap.size ⟨r.lsn, r.tx, nv, r.kind, r.oid, r.bf, r.af, r.next, r.txs, r.aL, r.cL⟩ := (⟨OwnO.widen (OwnO.within ho.bf hwF (by omega)) (Nat.le_refl _) (by omega) (Nat.le_refl _), OwnO.widen (OwnO.within ho.af hwF (by omega)) (Nat.le_refl _) (by omega) (Nat.le_refl _), (ho.txs.within hwF (by omega)).widen (Nat.le_refl _) (by omega) (Nat.le_refl _), ho.apart⟩)
  have HBL : Hid (∀ k ∈ RecA.blocks ⟨r.lsn, r.tx, nv, r.kind, r.oid, r.bf, r.af, r.next, r.txs, r.aL, r.cL⟩, k < hi ∨ w.heap.size ≤ k) := fun k hk => .inl (ho.blocks_lt k hk).2
  have HF : Hid (BentAt lo hi w WF B zs (.returned (.agg (RecA.cells ⟨r.lsn, r.tx, nv, r.kind, r.oid, r.bf, r.af, r.next, r.txs, r.aL, r.cL⟩).toArray))) := ⟨_, rfl, HST.out, oT, HBL.out, hc.within hwF (by omega), HW.new hwF (by omega)⟩
  have rT : v4.rangeAt w.heap.size 0 (RecA.cells ⟨r.lsn, r.tx, nv, r.kind, r.oid, r.bf, r.af, r.next, r.txs, r.aL, r.cL⟩) := Box.range [] _ [] (by simpa using bT)
  clear hwF hsF bX oT HBL
  generalize hT : ((⟨r.lsn, r.tx, nv, r.kind, r.oid, r.bf, r.af, r.next, r.txs, r.aL, r.cL⟩) : RecA) = TT at *
  clear hT
  go_wp2_with (first | (guard_target = wpList _ _ _ (Oper.mk (some 63) _ _ _ _ _ :: _) _ _; refine wpList_load_mid rfl 39 (.tmp 3) rfl w.heap.size 0 rfl TT.cells _ rT Tryz.underlying39 rfl (rec_info _) ?_) | (guard_target = wpList _ _ _ (Oper.mk none (Op.store _ (Operand.tmp 4) _) _ _ _ _ :: _) _ _; refine wpList_store_mid rfl 39 (.tmp 4) (.tmp 63) rfl (w.heap.size + 1) 0 TT.cells.toArray rfl rfl HTF.out (by rw [List.size_toArray]; exact rec_info _) (rec_one _) ?_) | fail)
  rw [hWF.out]
  exact bodyPost_ret (v := .agg TT.cells.toArray) (results_one Tryz.results61 rfl HLF.out) rfl HF.out
 case neg =>
 by_cases q3 : x = 3
 case pos =>
  have t3_ : ((x : Int) == 3) = true := by simp; omega
  have f0_ : ((x : Int) == 0) = false := by simp; omega
  have f1_ : ((x : Int) == 1) = false := by simp; omega
  have f2_ : ((x : Int) == 2) = false := by simp; omega
  clear q0 q1 q2 q3
  obtain ⟨v2, hv2, bI, hbv2, ev2⟩ := boxes1 v1 [.int .i64 (0), .int .i64 (7), .int .i64 (1), .int .i64 (4)] 3
  have lIv2 := bI.lt
  clear ev2
  go_wp2_with fail
  rw [hv2.out]
  clear hv2
  have sv2 := hbv2.size
  replace hc := hc.below hbv2
  replace bR := bR.below hbv2 bR.lt
  replace bX := bX.below hbv2 bX.lt
  replace ho := ho.below hbv2
  replace HW := HW.trans (Within.of_below hbv2)
  clear hbv2
  refine (l1Int_any B zs (some ⟨v1.heap.size, 0, none⟩) 4 [0, 7, 1, 4] v2 hc hl (readsI_box [0, 7, 1, 4] bI) (fun b off h => by cases h; omega) (by simp) (by simp)).mono ?_
  clear hc bI
  rintro e v3 ⟨jv3, hjv3, rfl, hc, hgv3⟩
  generalize ([0, 7, 1, 4] : List Int).getD jv3 0 = nv at *
  clear hjv3
  have hwv3 := within_cur hgv3
  clear hgv3
  have sv3 := hwv3.size
  replace bR := bR.within hwv3 (by omega)
  replace bX := bX.within hwv3 (by omega)
  replace ho := ho.within hwv3 (by omega)
  replace HW := HW.trans hwv3
  clear hwv3
  have cx3 := bX.cell 3 _ rfl
  have cf3 := bX.frozen 3
  obtain ⟨v4, hv4, bX2, hwv4, ev4⟩ := box_set bX 3 (.int .i64 nv)
  have e1v4 := Nat.le_of_eq ev4
  have e2v4 := Nat.le_of_eq ev4.symm
  clear ev4
  simp only [List.set] at bX2
  replace hc := hc.within hwv4 (by omega)
  replace bR := bR.within hwv4 (by omega)
  replace ho := ho.within hwv4 (by omega)
  replace HW := HW.new hwv4 (by omega)
  clear bX hwv4
  have bX := bX2
  clear bX2
  go_upto_region 16 with fail
  rw [hv4.out]
  clear hv4 cx3 cf3
  have bT : Box v4 w.heap.size (RecA.cells ⟨r.lsn, r.tx, r.prev, nv, r.oid, r.bf, r.af, r.next, r.txs, r.aL, r.cL⟩) 39 := bX
  have HST : Hid (RecA.short ⟨r.lsn, r.tx, r.prev, nv, r.oid, r.bf, r.af, r.next, r.txs, r.aL, r.cL⟩ 12) := ⟨by have := HSH.out.bf; show r.bf.v.o.ints.length ≤ 12 ∧ r.bf.v.o.refs.length ≤ 12; omega, by have := HSH.out.af; show r.af.v.o.ints.length ≤ 12 ∧ r.af.v.o.refs.length ≤ 12; omega, by have := HSH.out.txs; show r.txs.length ≤ 12; omega⟩
  obtain ⟨WF, hWF, hwF, hsF, HTF, HLF, _⟩ := rec_out ⟨r.lsn, r.tx, r.prev, nv, r.oid, r.bf, r.af, r.next, r.txs, r.aL, r.cL⟩ _ rfl bR
  have oT : RecA.own WF lo WF.heap.size ⟨r.lsn, r.tx, r.prev, nv, r.oid, r.bf, r.af, r.next, r.txs, r.aL, r.cL⟩ := (⟨OwnO.widen (OwnO.within ho.bf hwF (by omega)) (Nat.le_refl _) (by omega) (Nat.le_refl _), OwnO.widen (OwnO.within ho.af hwF (by omega)) (Nat.le_refl _) (by omega) (Nat.le_refl _), (ho.txs.within hwF (by omega)).widen (Nat.le_refl _) (by omega) (Nat.le_refl _), ho.apart⟩)
  have HBL : Hid (∀ k ∈ RecA.blocks ⟨r.lsn, r.tx, r.prev, nv, r.oid, r.bf, r.af, r.next, r.txs, r.aL, r.cL⟩, k < hi ∨ w.heap.size ≤ k) := fun k hk => .inl (ho.blocks_lt k hk).2
  have HF : Hid (BentAt lo hi w WF B zs (.returned (.agg (RecA.cells ⟨r.lsn, r.tx, r.prev, nv, r.oid, r.bf, r.af, r.next, r.txs, r.aL, r.cL⟩).toArray))) := ⟨_, rfl, HST.out, oT, HBL.out, hc.within hwF (by omega), HW.new hwF (by omega)⟩
  have rT : v4.rangeAt w.heap.size 0 (RecA.cells ⟨r.lsn, r.tx, r.prev, nv, r.oid, r.bf, r.af, r.next, r.txs, r.aL, r.cL⟩) := Box.range [] _ [] (by simpa using bT)
  clear hwF hsF bX oT HBL
  generalize hT : ((⟨r.lsn, r.tx, r.prev, nv, r.oid, r.bf, r.af, r.next, r.txs, r.aL, r.cL⟩) : RecA) = TT at *
  clear hT
  go_wp2_with (first | (guard_target = wpList _ _ _ (Oper.mk (some 63) _ _ _ _ _ :: _) _ _; refine wpList_load_mid rfl 39 (.tmp 3) rfl w.heap.size 0 rfl TT.cells _ rT Tryz.underlying39 rfl (rec_info _) ?_) | (guard_target = wpList _ _ _ (Oper.mk none (Op.store _ (Operand.tmp 4) _) _ _ _ _ :: _) _ _; refine wpList_store_mid rfl 39 (.tmp 4) (.tmp 63) rfl (w.heap.size + 1) 0 TT.cells.toArray rfl rfl HTF.out (by rw [List.size_toArray]; exact rec_info _) (rec_one _) ?_) | fail)
  rw [hWF.out]
  exact bodyPost_ret (v := .agg TT.cells.toArray) (results_one Tryz.results61 rfl HLF.out) rfl HF.out
 case neg =>
 by_cases q4 : x = 4
 case pos =>
  have t4_ : ((x : Int) == 4) = true := by simp; omega
  have f0_ : ((x : Int) == 0) = false := by simp; omega
  have f1_ : ((x : Int) == 1) = false := by simp; omega
  have f2_ : ((x : Int) == 2) = false := by simp; omega
  have f3_ : ((x : Int) == 3) = false := by simp; omega
  clear q0 q1 q2 q3 q4
  obtain ⟨v2, hv2, bI, hbv2, ev2⟩ := boxes1 v1 [.int .i64 (0), .int .i64 (31), .int .i64 (32)] 3
  have lIv2 := bI.lt
  clear ev2
  go_wp2_with fail
  rw [hv2.out]
  clear hv2
  have sv2 := hbv2.size
  replace hc := hc.below hbv2
  replace bR := bR.below hbv2 bR.lt
  replace bX := bX.below hbv2 bX.lt
  replace ho := ho.below hbv2
  replace HW := HW.trans (Within.of_below hbv2)
  clear hbv2
  refine (l1Int_any B zs (some ⟨v1.heap.size, 0, none⟩) 3 [0, 31, 32] v2 hc hl (readsI_box [0, 31, 32] bI) (fun b off h => by cases h; omega) (by simp) (by simp)).mono ?_
  clear hc bI
  rintro e v3 ⟨jv3, hjv3, rfl, hc, hgv3⟩
  generalize ([0, 31, 32] : List Int).getD jv3 0 = nv at *
  clear hjv3
  have hwv3 := within_cur hgv3
  clear hgv3
  have sv3 := hwv3.size
  replace bR := bR.within hwv3 (by omega)
  replace bX := bX.within hwv3 (by omega)
  replace ho := ho.within hwv3 (by omega)
  replace HW := HW.trans hwv3
  clear hwv3
  have cx4 := bX.cell 4 _ rfl
  have cf4 := bX.frozen 4
  obtain ⟨v4, hv4, bX2, hwv4, ev4⟩ := box_set bX 4 (.int .i64 nv)
  have e1v4 := Nat.le_of_eq ev4
  have e2v4 := Nat.le_of_eq ev4.symm
  clear ev4
  simp only [List.set] at bX2
  replace hc := hc.within hwv4 (by omega)
  replace bR := bR.within hwv4 (by omega)
  replace ho := ho.within hwv4 (by omega)
  replace HW := HW.new hwv4 (by omega)
  clear bX hwv4
  have bX := bX2
  clear bX2
  go_upto_region 16 with fail
  rw [hv4.out]
  clear hv4 cx4 cf4
  have bT : Box v4 w.heap.size (RecA.cells ⟨r.lsn, r.tx, r.prev, r.kind, nv, r.bf, r.af, r.next, r.txs, r.aL, r.cL⟩) 39 := bX
  have HST : Hid (RecA.short ⟨r.lsn, r.tx, r.prev, r.kind, nv, r.bf, r.af, r.next, r.txs, r.aL, r.cL⟩ 12) := ⟨by have := HSH.out.bf; show r.bf.v.o.ints.length ≤ 12 ∧ r.bf.v.o.refs.length ≤ 12; omega, by have := HSH.out.af; show r.af.v.o.ints.length ≤ 12 ∧ r.af.v.o.refs.length ≤ 12; omega, by have := HSH.out.txs; show r.txs.length ≤ 12; omega⟩
  obtain ⟨WF, hWF, hwF, hsF, HTF, HLF, _⟩ := rec_out ⟨r.lsn, r.tx, r.prev, r.kind, nv, r.bf, r.af, r.next, r.txs, r.aL, r.cL⟩ _ rfl bR
  have oT : RecA.own WF lo WF.heap.size ⟨r.lsn, r.tx, r.prev, r.kind, nv, r.bf, r.af, r.next, r.txs, r.aL, r.cL⟩ := (⟨OwnO.widen (OwnO.within ho.bf hwF (by omega)) (Nat.le_refl _) (by omega) (Nat.le_refl _), OwnO.widen (OwnO.within ho.af hwF (by omega)) (Nat.le_refl _) (by omega) (Nat.le_refl _), (ho.txs.within hwF (by omega)).widen (Nat.le_refl _) (by omega) (Nat.le_refl _), ho.apart⟩)
  have HBL : Hid (∀ k ∈ RecA.blocks ⟨r.lsn, r.tx, r.prev, r.kind, nv, r.bf, r.af, r.next, r.txs, r.aL, r.cL⟩, k < hi ∨ w.heap.size ≤ k) := fun k hk => .inl (ho.blocks_lt k hk).2
  have HF : Hid (BentAt lo hi w WF B zs (.returned (.agg (RecA.cells ⟨r.lsn, r.tx, r.prev, r.kind, nv, r.bf, r.af, r.next, r.txs, r.aL, r.cL⟩).toArray))) := ⟨_, rfl, HST.out, oT, HBL.out, hc.within hwF (by omega), HW.new hwF (by omega)⟩
  have rT : v4.rangeAt w.heap.size 0 (RecA.cells ⟨r.lsn, r.tx, r.prev, r.kind, nv, r.bf, r.af, r.next, r.txs, r.aL, r.cL⟩) := Box.range [] _ [] (by simpa using bT)
  clear hwF hsF bX oT HBL
  generalize hT : ((⟨r.lsn, r.tx, r.prev, r.kind, nv, r.bf, r.af, r.next, r.txs, r.aL, r.cL⟩) : RecA) = TT at *
  clear hT
  go_wp2_with (first | (guard_target = wpList _ _ _ (Oper.mk (some 63) _ _ _ _ _ :: _) _ _; refine wpList_load_mid rfl 39 (.tmp 3) rfl w.heap.size 0 rfl TT.cells _ rT Tryz.underlying39 rfl (rec_info _) ?_) | (guard_target = wpList _ _ _ (Oper.mk none (Op.store _ (Operand.tmp 4) _) _ _ _ _ :: _) _ _; refine wpList_store_mid rfl 39 (.tmp 4) (.tmp 63) rfl (w.heap.size + 1) 0 TT.cells.toArray rfl rfl HTF.out (by rw [List.size_toArray]; exact rec_info _) (rec_one _) ?_) | fail)
  rw [hWF.out]
  exact bodyPost_ret (v := .agg TT.cells.toArray) (results_one Tryz.results61 rfl HLF.out) rfl HF.out
 case neg =>
 by_cases q5 : x = 5
 case pos =>
  have t5_ : ((x : Int) == 5) = true := by simp; omega
  have f0_ : ((x : Int) == 0) = false := by simp; omega
  have f1_ : ((x : Int) == 1) = false := by simp; omega
  have f2_ : ((x : Int) == 2) = false := by simp; omega
  have f3_ : ((x : Int) == 3) = false := by simp; omega
  have f4_ : ((x : Int) == 4) = false := by simp; omega
  clear q0 q1 q2 q3 q4 q5
  have k0 := bX.cell 0 _ rfl
  obtain ⟨v2, hv2, bI, hbv2, ev2⟩ := boxes1 v1 [.int .i64 (1), .int .i64 (-1), .int .i64 (r.lsn)] 3
  have lIv2 := bI.lt
  clear ev2
  go_wp2_with fail
  rw [hv2.out]
  clear hv2
  have sv2 := hbv2.size
  replace hc := hc.below hbv2
  replace bR := bR.below hbv2 bR.lt
  replace bX := bX.below hbv2 bX.lt
  replace ho := ho.below hbv2
  replace HW := HW.trans (Within.of_below hbv2)
  clear hbv2
  refine (l1Int_any B zs (some ⟨v1.heap.size, 0, none⟩) 3 [1, -1, r.lsn] v2 hc hl (readsI_box [1, -1, r.lsn] bI) (fun b off h => by cases h; omega) (by simp) (by simp)).mono ?_
  clear hc bI
  rintro e v3 ⟨jv3, hjv3, rfl, hc, hgv3⟩
  generalize ([1, -1, r.lsn] : List Int).getD jv3 0 = nv at *
  clear hjv3
  have hwv3 := within_cur hgv3
  clear hgv3
  have sv3 := hwv3.size
  replace bR := bR.within hwv3 (by omega)
  replace bX := bX.within hwv3 (by omega)
  replace ho := ho.within hwv3 (by omega)
  replace HW := HW.trans hwv3
  clear hwv3
  clear k0
  have cx13 := bX.cell 13 _ rfl
  have cf13 := bX.frozen 13
  obtain ⟨v4, hv4, bX2, hwv4, ev4⟩ := box_set bX 13 (.int .i64 nv)
  have e1v4 := Nat.le_of_eq ev4
  have e2v4 := Nat.le_of_eq ev4.symm
  clear ev4
  simp only [List.set] at bX2
  replace hc := hc.within hwv4 (by omega)
  replace bR := bR.within hwv4 (by omega)
  replace ho := ho.within hwv4 (by omega)
  replace HW := HW.new hwv4 (by omega)
  clear bX hwv4
  have bX := bX2
  clear bX2
  go_upto_region 16 with fail
  rw [hv4.out]
  clear hv4 cx13 cf13
  have bT : Box v4 w.heap.size (RecA.cells ⟨r.lsn, r.tx, r.prev, r.kind, r.oid, r.bf, r.af, nv, r.txs, r.aL, r.cL⟩) 39 := bX
  have HST : Hid (RecA.short ⟨r.lsn, r.tx, r.prev, r.kind, r.oid, r.bf, r.af, nv, r.txs, r.aL, r.cL⟩ 12) := ⟨by have := HSH.out.bf; show r.bf.v.o.ints.length ≤ 12 ∧ r.bf.v.o.refs.length ≤ 12; omega, by have := HSH.out.af; show r.af.v.o.ints.length ≤ 12 ∧ r.af.v.o.refs.length ≤ 12; omega, by have := HSH.out.txs; show r.txs.length ≤ 12; omega⟩
  obtain ⟨WF, hWF, hwF, hsF, HTF, HLF, _⟩ := rec_out ⟨r.lsn, r.tx, r.prev, r.kind, r.oid, r.bf, r.af, nv, r.txs, r.aL, r.cL⟩ _ rfl bR
  have oT : RecA.own WF lo WF.heap.size ⟨r.lsn, r.tx, r.prev, r.kind, r.oid, r.bf, r.af, nv, r.txs, r.aL, r.cL⟩ := (⟨OwnO.widen (OwnO.within ho.bf hwF (by omega)) (Nat.le_refl _) (by omega) (Nat.le_refl _), OwnO.widen (OwnO.within ho.af hwF (by omega)) (Nat.le_refl _) (by omega) (Nat.le_refl _), (ho.txs.within hwF (by omega)).widen (Nat.le_refl _) (by omega) (Nat.le_refl _), ho.apart⟩)
  have HBL : Hid (∀ k ∈ RecA.blocks ⟨r.lsn, r.tx, r.prev, r.kind, r.oid, r.bf, r.af, nv, r.txs, r.aL, r.cL⟩, k < hi ∨ w.heap.size ≤ k) := fun k hk => .inl (ho.blocks_lt k hk).2
  have HF : Hid (BentAt lo hi w WF B zs (.returned (.agg (RecA.cells ⟨r.lsn, r.tx, r.prev, r.kind, r.oid, r.bf, r.af, nv, r.txs, r.aL, r.cL⟩).toArray))) := ⟨_, rfl, HST.out, oT, HBL.out, hc.within hwF (by omega), HW.new hwF (by omega)⟩
  have rT : v4.rangeAt w.heap.size 0 (RecA.cells ⟨r.lsn, r.tx, r.prev, r.kind, r.oid, r.bf, r.af, nv, r.txs, r.aL, r.cL⟩) := Box.range [] _ [] (by simpa using bT)
  clear hwF hsF bX oT HBL
  generalize hT : ((⟨r.lsn, r.tx, r.prev, r.kind, r.oid, r.bf, r.af, nv, r.txs, r.aL, r.cL⟩) : RecA) = TT at *
  clear hT
  go_wp2_with (first | (guard_target = wpList _ _ _ (Oper.mk (some 63) _ _ _ _ _ :: _) _ _; refine wpList_load_mid rfl 39 (.tmp 3) rfl w.heap.size 0 rfl TT.cells _ rT Tryz.underlying39 rfl (rec_info _) ?_) | (guard_target = wpList _ _ _ (Oper.mk none (Op.store _ (Operand.tmp 4) _) _ _ _ _ :: _) _ _; refine wpList_store_mid rfl 39 (.tmp 4) (.tmp 63) rfl (w.heap.size + 1) 0 TT.cells.toArray rfl rfl HTF.out (by rw [List.size_toArray]; exact rec_info _) (rec_one _) ?_) | fail)
  rw [hWF.out]
  exact bodyPost_ret (v := .agg TT.cells.toArray) (results_one Tryz.results61 rfl HLF.out) rfl HF.out
 case neg =>
 by_cases q6 : x = 6
 case neg =>
  have f0_ : ((x : Int) == 0) = false := by simp; omega
  have f1_ : ((x : Int) == 1) = false := by simp; omega
  have f2_ : ((x : Int) == 2) = false := by simp; omega
  have f3_ : ((x : Int) == 3) = false := by simp; omega
  have f4_ : ((x : Int) == 4) = false := by simp; omega
  have f5_ : ((x : Int) == 5) = false := by simp; omega
  have f6_ : ((x : Int) == 6) = false := by simp; omega
  clear q0 q1 q2 q3 q4 q5 q6
  go_upto_region 16 with fail
  have bT : Box v1 w.heap.size (RecA.cells ⟨r.lsn, r.tx, r.prev, r.kind, r.oid, r.bf, r.af, r.next, r.txs, r.aL, r.cL⟩) 39 := bX
  have HST : Hid (RecA.short ⟨r.lsn, r.tx, r.prev, r.kind, r.oid, r.bf, r.af, r.next, r.txs, r.aL, r.cL⟩ 12) := ⟨by have := HSH.out.bf; show r.bf.v.o.ints.length ≤ 12 ∧ r.bf.v.o.refs.length ≤ 12; omega, by have := HSH.out.af; show r.af.v.o.ints.length ≤ 12 ∧ r.af.v.o.refs.length ≤ 12; omega, by have := HSH.out.txs; show r.txs.length ≤ 12; omega⟩
  obtain ⟨WF, hWF, hwF, hsF, HTF, HLF, _⟩ := rec_out ⟨r.lsn, r.tx, r.prev, r.kind, r.oid, r.bf, r.af, r.next, r.txs, r.aL, r.cL⟩ _ rfl bR
  have oT : RecA.own WF lo WF.heap.size ⟨r.lsn, r.tx, r.prev, r.kind, r.oid, r.bf, r.af, r.next, r.txs, r.aL, r.cL⟩ := (⟨OwnO.widen (OwnO.within ho.bf hwF (by omega)) (Nat.le_refl _) (by omega) (Nat.le_refl _), OwnO.widen (OwnO.within ho.af hwF (by omega)) (Nat.le_refl _) (by omega) (Nat.le_refl _), (ho.txs.within hwF (by omega)).widen (Nat.le_refl _) (by omega) (Nat.le_refl _), ho.apart⟩)
  have HBL : Hid (∀ k ∈ RecA.blocks ⟨r.lsn, r.tx, r.prev, r.kind, r.oid, r.bf, r.af, r.next, r.txs, r.aL, r.cL⟩, k < hi ∨ w.heap.size ≤ k) := fun k hk => .inl (ho.blocks_lt k hk).2
  have HF : Hid (BentAt lo hi w WF B zs (.returned (.agg (RecA.cells ⟨r.lsn, r.tx, r.prev, r.kind, r.oid, r.bf, r.af, r.next, r.txs, r.aL, r.cL⟩).toArray))) := ⟨_, rfl, HST.out, oT, HBL.out, hc.within hwF (by omega), HW.new hwF (by omega)⟩
  have rT : v1.rangeAt w.heap.size 0 (RecA.cells ⟨r.lsn, r.tx, r.prev, r.kind, r.oid, r.bf, r.af, r.next, r.txs, r.aL, r.cL⟩) := Box.range [] _ [] (by simpa using bT)
  clear hwF hsF bX oT HBL
  generalize hT : ((⟨r.lsn, r.tx, r.prev, r.kind, r.oid, r.bf, r.af, r.next, r.txs, r.aL, r.cL⟩) : RecA) = TT at *
  clear hT
  go_wp2_with (first | (guard_target = wpList _ _ _ (Oper.mk (some 63) _ _ _ _ _ :: _) _ _; refine wpList_load_mid rfl 39 (.tmp 3) rfl w.heap.size 0 rfl TT.cells _ rT Tryz.underlying39 rfl (rec_info _) ?_) | (guard_target = wpList _ _ _ (Oper.mk none (Op.store _ (Operand.tmp 4) _) _ _ _ _ :: _) _ _; refine wpList_store_mid rfl 39 (.tmp 4) (.tmp 63) rfl (w.heap.size + 1) 0 TT.cells.toArray rfl rfl HTF.out (by rw [List.size_toArray]; exact rec_info _) (rec_one _) ?_) | fail)
  rw [hWF.out]
  exact bodyPost_ret (v := .agg TT.cells.toArray) (results_one Tryz.results61 rfl HLF.out) rfl HF.out
 case pos =>
  have t6_ : ((x : Int) == 6) = true := by simp; omega
  have f0_ : ((x : Int) == 0) = false := by simp; omega
  have f1_ : ((x : Int) == 1) = false := by simp; omega
  have f2_ : ((x : Int) == 2) = false := by simp; omega
  have f3_ : ((x : Int) == 3) = false := by simp; omega
  have f4_ : ((x : Int) == 4) = false := by simp; omega
  have f5_ : ((x : Int) == 5) = false := by simp; omega
  clear q0 q1 q2 q3 q4 q5 q6
  obtain ⟨v2, hv2, bE, hbv2, ev2⟩ := boxes1 v1 [] 112
  clear ev2
  have lE := bE.lt
  have oE : OwnL v2 v1.heap.size v2.heap.size (some ⟨v1.heap.size, 0, none⟩) 0 [] := by
   have h1 : OwnL (v1.alloc (.cells #[] 112)) v1.heap.size (v1.alloc (.cells #[] 112)).heap.size (some ⟨v1.heap.size, 0, none⟩) 0 [] := by
    refine ⟨World.ownsRow_lit (size := 3) v1 #[] 0 (Nat.le_refl _) (by simp [maxLen]) rfl, Nat.le_refl _, fun k hk => ?_⟩
    simp [Value.ownBlock] at hk
    try (rw [World.size_alloc]; omega)
   have h2 : v1.alloc (.cells #[] 112) = v2 := hv2.out
   rw [h2] at h1
   exact h1
  have sv2 := hbv2.size
  replace hc := hc.below hbv2
  replace bR := bR.below hbv2 bR.lt
  replace bX := bX.below hbv2 bX.lt
  replace ho := ho.below hbv2
  replace HW := HW.trans (Within.of_below hbv2)
  clear hbv2
  have k14 := bX.cell 14 _ rfl
  have hA1 : ([] : List LiveV).length + r.txs.length ≤ 1099511627776 := by have := HSH.out.txs; simp only [List.length_nil]; omega
  have k14' : (v1.alloc (.cells #[] 112)).cell? ⟨w.heap.size, 14, none⟩ = some (.slice r.aL r.txs.length r.cL) := by have h2 : v1.alloc (.cells #[] 112) = v2 := hv2.out; rw [h2]; exact k14
  have hrt : ReadsL v2 r.aL r.txs := ho.txs.reads
  have hnc := ho.txs.nocap
  go_wp2_with (at_builtin; refine append_lives rfl _ _ rfl v1.heap.size _ (some ⟨v1.heap.size, 0, none⟩) 0 [] rfl (by rw [hv2.out]; exact oE) r.aL r.cL r.txs rfl (by rw [hv2.out]; exact hrt) hnc hA1 (by rw [hv2.out]; omega) ?_)
  intro a9 c9 ys w9 hys o9 g9
  rw [hv2.out] at g9
  have hw9 : Within v1.heap.size v2.heap.size v2 w9 := Within.of_grown g9 (fun j hj => oE.lt j hj)
  have HYS : Hid (ys = r.txs) := hys.out.trans (List.nil_append _)
  clear hys g9 oE hv2 k14 k14' hrt hnc hA1 bE
  have z9 := hw9.size
  replace hc := hc.within hw9 (by omega)
  replace bX := bX.within hw9 (by omega)
  replace bR := bR.within hw9 (by omega)
  replace ho := ho.within hw9 (by omega)
  replace HW := HW.new hw9 (by omega)
  clear hw9
  obtain ⟨v3, hv3, bI, hbv3, ev3⟩ := boxes1 w9 [.int .i64 (1), .int .i64 (9), .int .i64 (0)] 3
  have lIv3 := bI.lt
  clear ev3
  go_wp2_with fail
  rw [hv3.out]
  clear hv3
  have sv3 := hbv3.size
  replace hc := hc.below hbv3
  replace bR := bR.below hbv3 bR.lt
  replace bX := bX.below hbv3 bX.lt
  replace ho := ho.below hbv3
  replace o9 := o9.below hbv3
  replace HW := HW.trans (Within.of_below hbv3)
  clear hbv3
  refine (l1Int_any B zs (some ⟨w9.heap.size, 0, none⟩) 3 [1, 9, 0] v3 hc hl (readsI_box [1, 9, 0] bI) (fun b off h => by cases h; omega) (by simp) (by simp)).mono ?_
  clear hc bI
  rintro e v4 ⟨jv4, hjv4, rfl, hc, hgv4⟩
  generalize ([1, 9, 0] : List Int).getD jv4 0 = na at *
  clear hjv4
  have hwv4 := within_cur hgv4
  clear hgv4
  have sv4 := hwv4.size
  replace bR := bR.within hwv4 (by omega)
  replace bX := bX.within hwv4 (by omega)
  replace ho := ho.within hwv4 (by omega)
  replace o9 := o9.within hwv4 (by omega)
  replace HW := HW.trans hwv4
  clear hwv4
  obtain ⟨v5, hv5, bI, hbv5, ev5⟩ := boxes1 v4 [.int .i64 (0), .int .i64 (1), .int .i64 (99)] 3
  have lIv5 := bI.lt
  clear ev5
  go_wp2_with fail
  rw [hv5.out]
  clear hv5
  have sv5 := hbv5.size
  replace hc := hc.below hbv5
  replace bR := bR.below hbv5 bR.lt
  replace bX := bX.below hbv5 bX.lt
  replace ho := ho.below hbv5
  replace o9 := o9.below hbv5
  replace HW := HW.trans (Within.of_below hbv5)
  clear hbv5
  refine (l1Int_any B zs (some ⟨v4.heap.size, 0, none⟩) 3 [0, 1, 99] v5 hc hl (readsI_box [0, 1, 99] bI) (fun b off h => by cases h; omega) (by simp) (by simp)).mono ?_
  clear hc bI
  rintro e v6 ⟨jv6, hjv6, rfl, hc, hgv6⟩
  generalize ([0, 1, 99] : List Int).getD jv6 0 = nb at *
  clear hjv6
  have hwv6 := within_cur hgv6
  clear hgv6
  have sv6 := hwv6.size
  replace bR := bR.within hwv6 (by omega)
  replace bX := bX.within hwv6 (by omega)
  replace ho := ho.within hwv6 (by omega)
  replace o9 := o9.within hwv6 (by omega)
  replace HW := HW.trans hwv6
  clear hwv6
  have hrz := readsL_one v6 ⟨na, nb, false⟩ 112
  simp only at hrz
  have hbA : Below v6.heap.size v6 (v6.alloc (.cells #[.int .i64 na, .int .i64 nb, .bool false] 112)) := (Below.refl _ _).alloc (Nat.le_refl _) _
  have zA := hbA.size
  have oLA := o9.below hbA
  have hA1 : ys.length + ([⟨na, nb, false⟩] : List LiveV).length ≤ 1099511627776 := by have := HSH.out.txs; rw [HYS.out]; simp only [List.length_cons, List.length_nil]; omega
  have hA2 : v1.heap.size ≤ (v6.alloc (.cells #[.int .i64 na, .int .i64 nb, .bool false] 112)).heap.size := by rw [World.size_alloc]; omega
  go_wp2_with (at_builtin; refine append_lives rfl _ _ rfl v1.heap.size _ a9 c9 ys rfl oLA (some ⟨v6.heap.size, 0, none⟩) 1 [⟨na, nb, false⟩] rfl hrz (fun h => by cases h) hA1 hA2 ?_)
  intro a10 c10 y10 w10 hy10 o10 g10
  have hw10 : Within v1.heap.size w9.heap.size (v6.alloc (.cells #[.int .i64 na, .int .i64 nb, .bool false] 112)) w10 := Within.of_grown g10 (fun j hj => oLA.lt j hj)
  have HYL : Hid (y10.length ≤ 11) := by rw [Hid, hy10.out, HYS.out]; have := HSH.out.txs; simp; omega
  clear hy10 g10 oLA hrz hA1 hA2 o9
  have z10 := hw10.size
  replace hc := (hc.below hbA).within hw10 (by omega)
  replace bX := (bX.below hbA bX.lt).within hw10 (by omega)
  replace bR := (bR.below hbA bR.lt).within hw10 (by omega)
  replace ho := (ho.below hbA).within hw10 (by omega)
  replace HW := (HW.trans (Within.of_below hbA)).new hw10 (by omega)
  clear hw10 hbA
  have cx14 := bX.cell 14 _ rfl
  have cf14 := bX.frozen 14
  obtain ⟨v7, hv7, bX2, hwv7, ev7⟩ := box_set bX 14 (.slice a10 y10.length c10)
  have e1v7 := Nat.le_of_eq ev7
  have e2v7 := Nat.le_of_eq ev7.symm
  clear ev7
  simp only [List.set] at bX2
  replace hc := hc.within hwv7 (by omega)
  replace bR := bR.within hwv7 (by omega)
  replace ho := ho.within hwv7 (by omega)
  replace o10 := o10.within hwv7 (by omega)
  replace HW := HW.new hwv7 (by omega)
  clear bX hwv7
  have bX := bX2
  clear bX2
  go_upto_region 16 with fail
  rw [hv7.out]
  clear hv7 cx14 cf14
  have bT : Box v7 w.heap.size (RecA.cells ⟨r.lsn, r.tx, r.prev, r.kind, r.oid, r.bf, r.af, r.next, y10, a10, c10⟩) 39 := bX
  have HST : Hid (RecA.short ⟨r.lsn, r.tx, r.prev, r.kind, r.oid, r.bf, r.af, r.next, y10, a10, c10⟩ 12) := ⟨by have := HSH.out.bf; show r.bf.v.o.ints.length ≤ 12 ∧ r.bf.v.o.refs.length ≤ 12; omega, by have := HSH.out.af; show r.af.v.o.ints.length ≤ 12 ∧ r.af.v.o.refs.length ≤ 12; omega, by have := HYL.out; show y10.length ≤ 12; omega⟩
  obtain ⟨WF, hWF, hwF, hsF, HTF, HLF, _⟩ := rec_out ⟨r.lsn, r.tx, r.prev, r.kind, r.oid, r.bf, r.af, r.next, y10, a10, c10⟩ _ rfl bR
  have oT : RecA.own WF lo WF.heap.size ⟨r.lsn, r.tx, r.prev, r.kind, r.oid, r.bf, r.af, r.next, y10, a10, c10⟩ := (own_fresh (ho.within hwF (by omega)) ((o10.within hwF (by omega)).widen (Nat.le_refl _) (by omega) (Nat.le_refl _)) (by omega) (by omega) (by omega))
  have HBL : Hid (∀ k ∈ RecA.blocks ⟨r.lsn, r.tx, r.prev, r.kind, r.oid, r.bf, r.af, r.next, y10, a10, c10⟩, k < hi ∨ w.heap.size ≤ k) := (by intro k hk; simp only [RecA.blocks, List.mem_append, Option.mem_toList] at hk; rcases hk with h1 | h1 | h1 <;> first | exact .inl (SlotA.blocks_lt ho.bf k h1).2 | exact .inl (SlotA.blocks_lt ho.af k h1).2 | exact .inr (by have := (o10.lt k h1).1; omega))
  have HF : Hid (BentAt lo hi w WF B zs (.returned (.agg (RecA.cells ⟨r.lsn, r.tx, r.prev, r.kind, r.oid, r.bf, r.af, r.next, y10, a10, c10⟩).toArray))) := ⟨_, rfl, HST.out, oT, HBL.out, hc.within hwF (by omega), HW.new hwF (by omega)⟩
  have rT : v7.rangeAt w.heap.size 0 (RecA.cells ⟨r.lsn, r.tx, r.prev, r.kind, r.oid, r.bf, r.af, r.next, y10, a10, c10⟩) := Box.range [] _ [] (by simpa using bT)
  clear hwF hsF bX oT HBL
  generalize hT : ((⟨r.lsn, r.tx, r.prev, r.kind, r.oid, r.bf, r.af, r.next, y10, a10, c10⟩) : RecA) = TT at *
  clear hT
  go_wp2_with (first | (guard_target = wpList _ _ _ (Oper.mk (some 63) _ _ _ _ _ :: _) _ _; refine wpList_load_mid rfl 39 (.tmp 3) rfl w.heap.size 0 rfl TT.cells _ rT Tryz.underlying39 rfl (rec_info _) ?_) | (guard_target = wpList _ _ _ (Oper.mk none (Op.store _ (Operand.tmp 4) _) _ _ _ _ :: _) _ _; refine wpList_store_mid rfl 39 (.tmp 4) (.tmp 63) rfl (w.heap.size + 1) 0 TT.cells.toArray rfl rfl HTF.out (by rw [List.size_toArray]; exact rec_info _) (rec_one _) ?_) | fail)
  rw [hWF.out]
  exact bodyPost_ret (v := .agg TT.cells.toArray) (results_one Tryz.results61 rfl HLF.out) rfl HF.out
end Go.Proofs.YtoboickdkednkaaGreatDoor
namespace Go.Proofs.YtoboickdkednkaaGreatDoor
open Go.RowKit
attribute [local go_sem ↓] Go.wp_at_zero Go.wp_at_succ
theorem log_part {e : EngA} (h : e.shape) : e.cells.toArray.extract 138 140 = e.log.cells.toArray := by
 have e1 : e.cells = cellsPs e.disk ++ e.tail := rfl
 have hl := EngA.disk_len h
 apply Array.ext'
 rw [Array.toList_extract]
 show List.extract e.cells 138 140 = _
 rw [List.extract_eq_take_drop, e1, List.drop_append, hl, List.drop_eq_nil_of_le (by omega)]
 rfl
theorem run_log {e : EngA} (h : e.shape) (w : World) : (Instr.field 128 (.agg e.cells.toArray) 2).run Tryz.prog w = .ok (.agg e.log.cells.toArray) w := by
 have hp := log_part h
 generalize e.cells.toArray = cs at *
 have e2 : (Instr.field 128 (.agg cs) 2).run Tryz.prog w = .ok (.agg (cs.extract 138 140)) w := by kernel_rfl
 rw [e2, hp]
theorem own_raise {w : World} {lo lo' hi : Nat} {a : Option Addr} {c : Nat} {rs : List RecA} (h : OwnRs w lo hi a c rs) (hb : ∀ k ∈ blocksRs a c rs, lo' ≤ k) : OwnRs w lo' hi a c rs := by
 refine ⟨ownsRow_base h.row (fun k hk => hb k (List.mem_append.2 (.inl (Option.mem_toList.2 hk)))), h.top, h.blk, fun r hr => ?_, h.apart⟩
 have hr1 := h.each r hr
 have hk : ∀ k ∈ r.blocks, lo' ≤ k := fun k hk => hb k (List.mem_append.2 (.inr (List.mem_flatMap.2 ⟨r, hr, hk⟩)))
 simp only [RecA.blocks, SlotA.blocks, List.mem_append, Option.mem_toList] at hk
 exact ⟨⟨⟨ownsRow_base hr1.bf.ints.1 (fun k h1 => hk k (.inl (.inl h1))), hr1.bf.ints.2⟩, ⟨ownsRow_base hr1.bf.refs.1 (fun k h1 => hk k (.inl (.inr h1))), hr1.bf.refs.2⟩, hr1.bf.apart⟩, ⟨⟨ownsRow_base hr1.af.ints.1 (fun k h1 => hk k (.inr (.inl (.inl h1)))), hr1.af.ints.2⟩, ⟨ownsRow_base hr1.af.refs.1 (fun k h1 => hk k (.inr (.inl (.inr h1)))), hr1.af.refs.2⟩, hr1.af.apart⟩, ⟨ownsRow_base hr1.txs.1 (fun k h1 => hk k (.inr (.inr h1))), hr1.txs.2⟩, hr1.apart⟩
theorem within_new {B C : Nat} {w W w1 WF : World} (hbW : Below w.heap.size w W) (h1 : Within B (B + 1) W w1) (hF : Within C (C + 1) w1 WF) (hC : w.heap.size ≤ C) : Within B (B + 1) w WF :=
 ⟨hF.os.trans (h1.os.trans hbW.os), hF.tape.trans (h1.tape.trans hbW.tape), hF.output.trans (h1.output.trans hbW.output), Nat.le_trans hbW.size (Nat.le_trans h1.size hF.size), fun k hk hn => (hF.block k (by have := hbW.size; have := h1.size; omega) (by omega)).trans ((h1.block k (by have := hbW.size; omega) hn).trans (hbW.block k hk))⟩
def LogDrawn (B : Nat) (zs : List Int) (w : World) (r : Ending) (w' : World) : Prop := ∃ l : LogA, r = .returned (.agg l.cells.toArray) ∧ l.own w' w.heap.size w'.heap.size ∧ l.recs.length ≤ 262144 ∧ (∀ x ∈ l.recs, x.short 10) ∧ CurAt w' B zs ∧ Within B (B + 1) w w'
theorem l5Draw_any (B : Nat) (zs : List Int) (n : Int) (w : World) (hc : CurAt w B zs) (hl : zs.length ≤ 70368744177664) (hn0 : 0 < n) (hn : n ≤ 17) :
  Calls Tryz.prog 60 #[.pointer (some ⟨B, 0, none⟩), .int .i64 n] w fun r w' => LogDrawn B zs w r w' := by
 obtain ⟨W, hW, b0, hbW, hsW⟩ := boxes1 w [.slice none 0 0, .int .i64 0] 26
 have hW' : Hid (w.alloc (.cells #[.slice none 0 0, .int .i64 0] 26) = W) := hW.out
 have C := l7Draw_any B zs n W (hc.below hbW) hl hn0 hn
 have hBl := hc.lt
 have hws : w.heap.size < W.heap.size := by omega
 clear hW hsW
 go_enter Tryz.func60, Tryz.ntmps60
 go_wp2_with fail
 rw [hW'.out]
 refine C.mono ?_
 clear C hW'
 rintro r w1 ⟨e, i, rfl, hi, hd, hsh, ho, hfr, hc1, hw1⟩
 have hf := run_log hsh w1
 have b1 := b0.within hw1 (by omega)
 obtain ⟨WF, hWF, hwF, hsF, HTF, HLF, bF⟩ := log_out e.log _ rfl b1
 have hs1 := hw1.size
 have hlen : e.log.recs.length ≤ 262144 := by
  have h1 := hd.len
  have h2 : 2 ^ (i + 2) ≤ 2 ^ 18 := Nat.pow_le_pow_right (by omega) (by omega)
  have h3 : e.v.log.recs.length = e.log.recs.length := by simp [EngA.v, LogA.v]
  omega
 have hshort : ∀ x ∈ e.log.recs, x.short 10 := fun x hx => by
  have h1 := hd.sound.recs x.v (List.mem_map_of_mem hx)
  exact ⟨h1.1, h1.2.1, h1.2.2⟩
 have hfr' : ∀ k ∈ blocksRs e.log.a e.log.c e.log.recs, W.heap.size ≤ k := fun k hk => hfr k (EngA.mem_log hk)
 have ho1 : e.log.own w1 W.heap.size w1.heap.size := own_raise ho.log hfr'
 have hoF : e.log.own WF w.heap.size WF.heap.size := (LogA.own.within ho1 hwF (.inr (by omega))).widen (by omega) (by omega) (Nat.le_refl _)
 have hcF := hc1.within hwF (by omega)
 have hWin : Within B (B + 1) w WF := within_new hbW hw1 hwF (Nat.le_refl _)
 have HEND : Hid (LogDrawn B zs w (.returned (.agg e.log.cells.toArray)) WF) := ⟨e.log, rfl, hoF, hlen, hshort, hcF, hWin⟩
 have HO := log_one e.log
 have HI : Hid ((Tryz.prog.info? 26).map (·.size) = some e.log.cells.toArray.size) := log_info e.log
 have hWF' : Hid (w1.setCells w.heap.size 0 e.log.cells.toArray.toList = WF) := hWF.out
 clear hoF hcF hWin ho1 hfr' hshort hlen bF hwF hsF b1 hd ho hWF
 go_wp2_with (first | (guard_target = wpList _ _ _ (Oper.mk none (Op.store _ (Operand.tmp 4) _) _ _ _ _ :: _) _ _; refine wpList_store_mid rfl 26 (.tmp 4) (.tmp 8) rfl w.heap.size 0 e.log.cells.toArray rfl rfl HTF.out HI.out HO ?_; rw [hWF'.out]) | fail)
 exact bodyPost_ret (v := .agg e.log.cells.toArray) (results_one Tryz.results60 rfl HLF.out) rfl HEND.out
end Go.Proofs.YtoboickdkednkaaGreatDoor
namespace Go.Proofs.YtoboickdkednkaaGreatDoor
open Go.RowKit
theorem tearOf_no {l : LogV} (n : Int) (h : okLog l = false) : tearOf l n = l := by unfold tearOf; rw [if_neg]; rintro ⟨h1, _⟩; rw [h] at h1; cases h1
theorem tearOf_neg {l : LogV} {n : Int} (h : ¬ 0 ≤ n) : tearOf l n = l := by unfold tearOf; rw [if_neg]; rintro ⟨_, h1⟩; exact h h1
theorem tearOf_yes {l : LogV} {n : Int} (h : okLog l = true) (hn : 0 ≤ n) : tearOf l n = ⟨l.recs.take (leftOf l n), leftOf l n⟩ := by unfold tearOf; rw [if_pos ⟨h, hn⟩]
theorem ReadsRs.take {w : World} {a : Option Addr} {rs : List RecA} (h : ReadsRs w a rs) (j : Nat) : ReadsRs w a (rs.take j) := by
 intro hne
 have hne' : rs ≠ [] := by rintro rfl; simp at hne
 obtain ⟨b, off, ha, hc⟩ := h hne'
 refine ⟨b, off, ha, fun k hk => ?_⟩
 rw [List.length_take] at hk
 have e : (rs.take j).getD k zeroR = rs.getD k zeroR := by simp [List.getD, show k < j by omega]
 rw [e]
 exact hc k (by omega)
theorem OwnRs.take {w : World} {lo hi : Nat} {a : Option Addr} {c : Nat} {rs : List RecA} (h : OwnRs w lo hi a c rs) (j : Nat) (hj : j ≤ rs.length) : OwnRs w lo hi a c (rs.take j) := by
 have hl : (rs.take j).length = j := by rw [List.length_take]; omega
 have hob : (Value.slice a (rs.take j).length c).ownBlock = (Value.slice a rs.length c).ownBlock := by cases a <;> rfl
 refine ⟨?_, h.top, fun k hk => h.blk k (by rw [← hob]; exact hk), fun r hr => h.each r (List.mem_of_mem_take hr), ?_⟩
 ·have hcl : cellsRs (rs.take j) = (cellsRs rs).take (j * 15) := by
   have e2 : cellsRs rs = cellsRs (rs.take j) ++ cellsRs (rs.drop j) := by rw [← cellsRs_app, List.take_append_drop]
   rw [e2]
   exact (List.take_left' (by rw [cellsRs_len, hl])).symm
  refine ⟨by rw [cellsRs_len], ?_⟩
  rcases h.row.2 with ⟨hv, h0⟩ | ⟨g, cap, cur, hv, hg, hgg, h1, h2, h3, h4⟩
  ·simp only [Value.slice.injEq] at hv
   refine .inl ⟨?_, by omega⟩
   rw [hv.1, hv.2.2, show (rs.take j).length = 0 by omega]
  ·simp only [Value.slice.injEq] at hv
   refine .inr ⟨g, cap, cur, ?_, hg, hgg, by omega, h2, h3, ?_⟩
   ·rw [hv.1, hv.2.2]
   ·rw [hcl, ← h4, List.take_take, hl]
    congr 1
    have := Nat.mul_le_mul_right 15 hj
    omega
 ·rw [hob]
  have hap := h.apart
  have e : rs.flatMap RecA.blocks = (rs.take j).flatMap RecA.blocks ++ (rs.drop j).flatMap RecA.blocks := by rw [← List.flatMap_append, List.take_append_drop]
  rw [e, ← List.append_assoc] at hap
  exact (List.nodup_append.1 hap).1
theorem OwnRs.capLen {w : World} {lo hi : Nat} {a : Option Addr} {c : Nat} {rs : List RecA} (h : OwnRs w lo hi a c rs) : rs.length ≤ c := by
 rcases h.row.2 with ⟨hv', h00⟩ | ⟨g, cap, cur, hv', _, _, h1, _⟩
 ·omega
 ·simp only [Value.slice.injEq] at hv'; omega
theorem OwnRs.nilLen {w : World} {lo hi : Nat} {a : Option Addr} {c : Nat} {rs : List RecA} (h : OwnRs w lo hi a c rs) : a = none → rs.length = 0 ∧ c = 0 := fun ha => by
 have h1 := h.nocap ha
 have h2 := h.capLen
 exact ⟨by omega, h1⟩
theorem sureLog_any (a : Option Addr) (c m : Nat) (w : World) :
  Calls Tryz.prog 33 #[.slice a m c] w fun e w' => e = .returned (.agg #[.slice a m c, .int .i64 m]) ∧ Below w.heap.size w w' := by
 obtain ⟨W, hW, b0, hbW, hsW⟩ := boxes1 w [.slice a m c, .int .i64 m] 26
 have q0 := b0.cell 0 _ rfl
 have q1 := b0.cell 1 _ rfl
 clear b0 hsW
 go_enter Tryz.func33, Tryz.ntmps33
 go_wp2
 rw [hW.out]
 exact bodyPost_ret (v := .agg #[.slice a m c, .int .i64 m]) (by simp [results, Tryz.results33, go_sem, q0, q1]) rfl ⟨rfl, hbW⟩
theorem implTear_any (l : LogA) (n : Int) (w : World) (hg : ErrT w) (hr : l.reads w) (hl : l.short 1048576) (hcp : ∀ r ∈ l.recs, r.aL = none → r.cL = 0) (hcl : l.recs.length ≤ l.c) (hnl : l.a = none → l.recs.length = 0 ∧ l.c = 0) :
  Calls Tryz.prog 9 #[.agg l.cells.toArray, .int .i64 n] w fun e w' => ∃ t : LogA, e = .returned (.agg t.cells.toArray) ∧ Hid (t.v = tearOf l.v n) ∧ t.own w' w.heap.size w'.heap.size ∧ Below w.heap.size w w' := by
 have HNO : Hid (okLog l.v = false → tearOf l.v n = l.v) := fun h => tearOf_no n h
 have HNEG : Hid (¬ 0 ≤ n → tearOf l.v n = l.v) := fun h => tearOf_neg h
 have HYES : Hid (okLog l.v = true → 0 ≤ n → tearOf l.v n = ⟨l.v.recs.take (if n < l.recs.length - l.sure then (l.sure + n).toNat else l.recs.length), ((if n < l.recs.length - l.sure then (l.sure + n).toNat else l.recs.length) : Nat)⟩) := fun h hn => by rw [tearOf_yes h hn]; unfold leftOf; rw [l.v_len]; rfl
 have HSR : Hid (okLog l.v = true → 0 ≤ l.sure ∧ l.sure ≤ l.recs.length) := fun h => by have h1 := (okLog_yes h).2.1; have := (okLog_yes h).2.2.1; rw [l.v_len] at this; exact ⟨h1, this⟩
 obtain ⟨W, hW, b0, b1, hbW, hsW⟩ := boxes2 w l.cells [.slice none 0 0, .int .i64 0] 26 26
 have hs0 : w.heap.size + 1 < W.heap.size := by omega
 clear hsW
 have C1 := implLogOk_any l W (hg.keep hbW) (hr.below hbW) (LogA.short_wide hl)
 have HC2 : Hid (∀ u, Below W.heap.size W u → Calls _ _ _ _ _) := fun u hu => copyLog_any l u (hr.below (hbW.trans (hu.mono hbW.size))) hl hcp
 have HC3 : Hid (∀ u j, Below W.heap.size W u → Calls _ _ _ _ _) := fun u j hu => copyRecs_any l.a l.c (l.recs.take j) u (ReadsRs.take (hr.below (hbW.trans (hu.mono hbW.size))) j) (by rw [List.length_take]; have := hl.len; omega) (fun r hr' => (LogA.short_wide hl).each r (List.mem_of_mem_take hr')) (fun r hr' => hcp r (List.mem_of_mem_take hr'))
 have HX : Hid (∀ u, Below W.heap.size W u → Box u w.heap.size l.cells 26) := fun u hu => b0.below hu b0.lt
 have HY : Hid (∀ u, Below W.heap.size W u → Box u (w.heap.size + 1) [.slice none 0 0, .int .i64 0] 26) := fun u hu => b1.below hu b1.lt
 have hll := hl.len
 simp only [LogA.cells] at *
 have x0 := b0.cell 0 _ rfl
 have x1 := b0.cell 1 _ rfl
 clear b0 b1
 go_enter Tryz.func9, Tryz.ntmps9
 go_wp2_with fail
 rw [hW.out]
 clear hW
 refine C1.mono ?_
 clear C1 x0 x1
 generalize okLog l.v = R at *
 rintro e w1 ⟨rfl, hb1⟩
 have hs1 := hb1.size
 have p0 := (HX.out w1 hb1).cell 0 _ rfl
 have p1 := (HX.out w1 hb1).cell 1 _ rfl
 cases R with
 | false =>
  have HV : Hid (tearOf l.v n = l.v) := HNO.out rfl
  clear HNO HNEG HYES HSR
  have C2 := HC2.out w1 hb1
  go_wp2_with fail
  refine C2.mono ?_
  clear C2 p0 p1
  rintro e w2 ⟨t, rfl, hv, ho, hb2⟩
  have hs2 := hb2.size
  have B2 : Below W.heap.size W w2 := hb1.trans (hb2.mono hs1)
  have b12 := HY.out w2 B2
  have m0 := b12.cell 0 _ rfl
  have m1 := b12.cell 1 _ rfl
  have mf0 := b12.frozen 0
  have mf1 := b12.frozen 1
  obtain ⟨WF, hWF, bF, hwF, hsF⟩ := box2_fill b12 (.slice t.a t.recs.length t.c) (.int .i64 t.sure)
  have q0 := bF.cell 0 _ rfl
  have q1 := bF.cell 1 _ rfl
  have hoF := (LogA.own.within ho hwF (.inr (by omega))).widen (show w.heap.size ≤ w1.heap.size by omega) (show w2.heap.size ≤ WF.heap.size by omega) (Nat.le_refl _)
  have hbF : Below w.heap.size w WF := (hbW.trans (B2.mono hbW.size)).trans (hwF.below (by omega) (by omega))
  have HF : Hid (_ ∧ _ ∧ _) := ⟨hv.out.trans HV.out.symm, hoF, hbF⟩
  clear hwF hsF bF hv HV hoF hbF b12 ho hb2 B2
  go_wp2
  rw [hWF.out]
  exact bodyPost_ret (v := .agg #[.slice t.a t.recs.length t.c, .int .i64 t.sure]) (by simp [results, Tryz.results9, go_sem, q0, q1]) rfl ⟨t, rfl, HF.out.1, HF.out.2.1, HF.out.2.2⟩
 | true =>
  by_cases h0 : 0 ≤ n
  case neg =>
   have HV : Hid (tearOf l.v n = l.v) := HNEG.out (by omega)
   clear HNO HNEG HYES HSR
   have C2 := HC2.out w1 hb1
   go_wp2_with fail
   refine C2.mono ?_
   clear C2 p0 p1
   rintro e w2 ⟨t, rfl, hv, ho, hb2⟩
   have hs2 := hb2.size
   have B2 : Below W.heap.size W w2 := hb1.trans (hb2.mono hs1)
   have b12 := HY.out w2 B2
   have m0 := b12.cell 0 _ rfl
   have m1 := b12.cell 1 _ rfl
   have mf0 := b12.frozen 0
   have mf1 := b12.frozen 1
   obtain ⟨WF, hWF, bF, hwF, hsF⟩ := box2_fill b12 (.slice t.a t.recs.length t.c) (.int .i64 t.sure)
   have q0 := bF.cell 0 _ rfl
   have q1 := bF.cell 1 _ rfl
   have hoF := (LogA.own.within ho hwF (.inr (by omega))).widen (show w.heap.size ≤ w1.heap.size by omega) (show w2.heap.size ≤ WF.heap.size by omega) (Nat.le_refl _)
   have hbF : Below w.heap.size w WF := (hbW.trans (B2.mono hbW.size)).trans (hwF.below (by omega) (by omega))
   have HF : Hid (_ ∧ _ ∧ _) := ⟨hv.out.trans HV.out.symm, hoF, hbF⟩
   clear hwF hsF bF hv HV hoF hbF b12 ho hb2 B2
   go_wp2
   rw [hWF.out]
   exact bodyPost_ret (v := .agg #[.slice t.a t.recs.length t.c, .int .i64 t.sure]) (by simp [results, Tryz.results9, go_sem, q0, q1]) rfl ⟨t, rfl, HF.out.1, HF.out.2.1, HF.out.2.2⟩
  case pos =>
  have HV := HYES.out rfl h0
  obtain ⟨hsr0, hsr1⟩ := HSR.out rfl
  obtain ⟨j, hj, HJ1, HJ2⟩ : ∃ j : Nat, j ≤ l.recs.length ∧ Hid ((if n < l.recs.length - l.sure then (l.sure + n).toNat else l.recs.length) = j) ∧ Hid (l.sure + (if (l.recs.length : Int) - l.sure < n then (l.recs.length : Int) - l.sure else n) = (j : Int)) := by
   refine ⟨_, ?_, rfl, ?_⟩
   ·split <;> omega
   ·rw [Hid]; split <;> split <;> omega
  rw [HJ1.out] at HV
  have hJ := HJ2.out
  clear HNO HNEG HYES HSR HJ1 HJ2
  have hjl : (l.recs.take j).length = j := by rw [List.length_take]; omega
  have C3 := HC3.out w1 j hb1
  rw [hjl] at C3
  have HVT : Hid (∀ ts : List RecA, ts.map RecA.v = (l.recs.take j).map RecA.v → ∀ (a' : Option Addr) (c' : Nat), (⟨ts, (ts.length : Int), a', c'⟩ : LogA).v = tearOf l.v n) := fun ts h a' c' => by
   rw [HV]
   have hlen := mapV_len h
   rw [hjl] at hlen
   simp only [LogA.v, h, hlen, List.map_take]
  clear HV
  go_upto_region 4 with fail
  generalize (if (l.recs.length : Int) - l.sure < n then (l.recs.length : Int) - l.sure else n) = I1 at *
  clear hJ
  have hjc : j ≤ l.c := by omega
  generalize l.a = A at *
  cases A with
  | none =>
   obtain ⟨hz1, hz2⟩ := hnl rfl
   obtain rfl : j = 0 := by omega
   rw [hz2] at C3 p0 ⊢
   go_wp2_with fail
   refine C3.mono ?_
   clear C3 p0 p1
   rintro e w2 ⟨a', c', ts, rfl, hv, ho, hb2⟩
   have hs2 := hb2.size
   have B2 : Below W.heap.size W w2 := hb1.trans (hb2.mono hs1)
   have HVV : Hid _ := HVT.out ts hv.out a' c'
   have C4 := sureLog_any a' c' ts.length w2
   go_wp2_with fail
   refine C4.mono ?_
   clear C4 HVT
   rintro e w3 ⟨rfl, hb3⟩
   have hs3 := hb3.size
   have B3 : Below W.heap.size W w3 := B2.trans (hb3.mono (by omega))
   have o3 := OwnRs.below ho hb3
   have b13 := HY.out w3 B3
   have m0 := b13.cell 0 _ rfl
   have m1 := b13.cell 1 _ rfl
   have mf0 := b13.frozen 0
   have mf1 := b13.frozen 1
   obtain ⟨WF, hWF, bF, hwF, hsF⟩ := box2_fill b13 (.slice a' ts.length c') (.int .i64 ts.length)
   have q0 := bF.cell 0 _ rfl
   have q1 := bF.cell 1 _ rfl
   have hoF := (o3.within hwF (.inr (by omega))).widen (show w.heap.size ≤ w1.heap.size by omega) (show w2.heap.size ≤ WF.heap.size by omega) (Nat.le_refl _)
   have hbF : Below w.heap.size w WF := (hbW.trans (B3.mono hbW.size)).trans (hwF.below (by omega) (by omega))
   have HF : Hid (_ ∧ _ ∧ _) := ⟨HVV.out, hoF, hbF⟩
   clear hwF hsF bF hv HVV hoF hbF b13 ho o3 hb2 hb3 B2 B3
   go_wp2
   rw [hWF.out]
   exact bodyPost_ret (v := .agg #[.slice a' ts.length c', .int .i64 ts.length]) (by simp [results, Tryz.results9, go_sem, q0, q1]) rfl ⟨⟨ts, (ts.length : Int), a', c'⟩, rfl, HF.out.1, HF.out.2.1, HF.out.2.2⟩
  | some ad =>
   go_wp2_with fail
   refine C3.mono ?_
   clear C3 p0 p1
   rintro e w2 ⟨a', c', ts, rfl, hv, ho, hb2⟩
   have hs2 := hb2.size
   have B2 : Below W.heap.size W w2 := hb1.trans (hb2.mono hs1)
   have HVV : Hid _ := HVT.out ts hv.out a' c'
   have C4 := sureLog_any a' c' ts.length w2
   go_wp2_with fail
   refine C4.mono ?_
   clear C4 HVT
   rintro e w3 ⟨rfl, hb3⟩
   have hs3 := hb3.size
   have B3 : Below W.heap.size W w3 := B2.trans (hb3.mono (by omega))
   have o3 := OwnRs.below ho hb3
   have b13 := HY.out w3 B3
   have m0 := b13.cell 0 _ rfl
   have m1 := b13.cell 1 _ rfl
   have mf0 := b13.frozen 0
   have mf1 := b13.frozen 1
   obtain ⟨WF, hWF, bF, hwF, hsF⟩ := box2_fill b13 (.slice a' ts.length c') (.int .i64 ts.length)
   have q0 := bF.cell 0 _ rfl
   have q1 := bF.cell 1 _ rfl
   have hoF := (o3.within hwF (.inr (by omega))).widen (show w.heap.size ≤ w1.heap.size by omega) (show w2.heap.size ≤ WF.heap.size by omega) (Nat.le_refl _)
   have hbF : Below w.heap.size w WF := (hbW.trans (B3.mono hbW.size)).trans (hwF.below (by omega) (by omega))
   have HF : Hid (_ ∧ _ ∧ _) := ⟨HVV.out, hoF, hbF⟩
   clear hwF hsF bF hv HVV hoF hbF b13 ho o3 hb2 hb3 B2 B3
   go_wp2
   rw [hWF.out]
   exact bodyPost_ret (v := .agg #[.slice a' ts.length c', .int .i64 ts.length]) (by simp [results, Tryz.results9, go_sem, q0, q1]) rfl ⟨⟨ts, (ts.length : Int), a', c'⟩, rfl, HF.out.1, HF.out.2.1, HF.out.2.2⟩
end Go.Proofs.YtoboickdkednkaaGreatDoor
namespace Go.Proofs.YtoboickdkednkaaGreatDoor
open Go.RowKit
attribute [local go_sem ↓] Go.wp_at_zero Go.wp_at_succ
theorem recs_put {w : World} {lo hi g c : Nat} {A B : List RecA} {z : RecA} (h : OwnRs w lo hi (some ⟨g, 0, none⟩) c (A ++ z :: B)) (q : RecA) {l u : Nat} (hq : q.own w l u) :
  ∃ W, Hid (w.setCells g (A.length * 15) q.cells = W) ∧ Touch [g] w W ∧ W.heap.size = w.heap.size ∧ (∀ v bl, Touch bl W v → (∀ k ∈ bl, k < lo) → lo ≤ l → ReadsRs v (some ⟨g, 0, none⟩) (A ++ q :: B)) := by
 have hrow := h.row
 rw [cellsRs_app, cellsRs_cons, List.length_append, List.length_cons] at hrow
 obtain ⟨h1, h2⟩ := row_setCells q.cells (cellsRs A) z.cells (cellsRs B) w hrow rfl
 rw [cellsRs_len] at h1 h2
 have ht : Touch [g] w (w.setCells g (A.length * 15) q.cells) := Touch.of_grown h2 (fun k hk => by cases hk; simp)
 have hap : ∀ (r : RecA) {l u : Nat}, r.own w l u → ∀ k ∈ r.blocks, k ∉ [g] := fun r _ _ hr k hk hm => row_apart h.row hr g rfl (by rw [← List.mem_singleton.1 hm]; exact hk)
 refine ⟨_, rfl, ht, setCells_heap g q.cells (A.length * 15) w, fun v bl hv hC hll => ?_⟩
 have hno : ∀ (r : RecA) {l u : Nat}, r.own w l u → lo ≤ l → ∀ k ∈ r.blocks, k ∉ bl := fun r _ _ hr h1 k hk hm => by have := (hr.blocks_lt k hk).1; have := hC k hm; omega
 have hrow' : v.ownsRow lo 39 15 (.slice (some ⟨g, 0, none⟩) (A ++ q :: B).length c) (A ++ q :: B).length (cellsRs (A ++ q :: B)) := by
  rw [cellsRs_app, cellsRs_cons, List.length_append, List.length_cons]
  exact ownsRow_block h1 (fun k hk => hv.block k (h1.lt k hk).2 (fun hm => by have := (h1.lt k hk).1; have := hC k hm; omega))
 intro _
 refine ⟨g, 0, rfl, fun k hk => ?_⟩
 rw [Nat.zero_add]
 refine ⟨(row_rec hrow' rfl k hk).1, ?_⟩
 have hmem := recD_mem (A ++ q :: B) k hk
 rcases List.mem_append.1 hmem with h3 | h3
 ·have h4 := h.each _ (List.mem_append.2 (.inl h3))
  exact ((h4.touch ht (hap _ h4)).touch hv (hno _ h4 (Nat.le_refl _))).reads
 ·rcases List.mem_cons.1 h3 with h3 | h3
  ·rw [h3]; exact ((hq.touch ht (hap _ hq)).touch hv (hno _ hq hll)).reads
  ·have h4 := h.each _ (List.mem_append.2 (.inr (List.mem_cons_of_mem _ h3)))
   exact ((h4.touch ht (hap _ h4)).touch hv (hno _ h4 (Nat.le_refl _))).reads
theorem touch_of {C : Nat} {w w' : World} (h : Within C (C + 1) w w') : Touch [C] w w' := ⟨h.os, h.tape, h.output, h.size, fun j hj hn => h.block j hj (fun hh => hn (by simp; omega))⟩
theorem within_two {B C : Nat} {w w1 w2 : World} (h : Within B (B + 1) w w1) (hF : Within C (C + 1) w1 w2) (hC : w.heap.size ≤ C) : Within B (B + 1) w w2 :=
 ⟨hF.os.trans h.os, hF.tape.trans h.tape, hF.output.trans h.output, Nat.le_trans h.size hF.size, fun k hk hn => (hF.block k (by have := h.size; omega) (by omega)).trans (h.block k hk hn)⟩
def CapFit (l : LogA) : Prop := l.recs.length ≤ l.c ∧ (l.a = none → l.recs.length = 0 ∧ l.c = 0)
def LogAny (B : Nat) (zs : List Int) (w : World) (r : Ending) (w' : World) : Prop := ∃ l : LogA, r = .returned (.agg l.cells.toArray) ∧ (∀ v bl, Touch bl w' v → (∀ k ∈ bl, k < w.heap.size) → l.reads v) ∧ l.recs.length ≤ 262144 ∧ (∀ x ∈ l.recs, x.short 12) ∧ (∀ x ∈ l.recs, x.aL = none → x.cL = 0) ∧ CapFit l ∧ CurAt w' B zs ∧ Within B (B + 1) w w'
theorem l5DrawAny_any (B : Nat) (zs : List Int) (n : Int) (w : World) (hc : CurAt w B zs) (hl : zs.length ≤ 70368744177664) (hn0 : 0 < n) (hn : n ≤ 17) :
  Calls Tryz.prog 29 #[.pointer (some ⟨B, 0, none⟩), .int .i64 n] w fun r w' => LogAny B zs w r w' := by
 obtain ⟨W, hW, b0, hbW, hsW⟩ := boxes1 w [.slice none 0 0, .int .i64 0] 26
 have hW' : Hid (w.alloc (.cells #[.slice none 0 0, .int .i64 0] 26) = W) := hW.out
 have C := l5Draw_any B zs n W (hc.below hbW) hl hn0 hn
 have hBl := hc.lt
 have hws : w.heap.size < W.heap.size := by omega
 clear hW hsW
 go_enter Tryz.func29, Tryz.ntmps29
 go_wp2_with fail
 rw [hW'.out]
 refine C.mono ?_
 clear C hW'
 rintro r w1 ⟨l0, rfl, o0, hl0, hs0, hc1, hw1⟩
 have bR1 := b0.within hw1 (by omega)
 have hs1 := hw1.size
 have C2 := l5Copy_any l0 w1 o0.reads ⟨by omega, fun x hx => ⟨⟨by have := (hs0 x hx).bf.1; omega, by have := (hs0 x hx).bf.2; omega⟩, ⟨by have := (hs0 x hx).af.1; omega, by have := (hs0 x hx).af.2; omega⟩, by have := (hs0 x hx).txs; omega⟩⟩ (fun x hx => (OwnRs.each o0 x hx).txs.nocap)
 go_wp2_with fail
 refine C2.mono ?_
 clear C2
 rintro r w2 ⟨t, rfl, htv, ot, hb2⟩
 have htr : t.recs.map RecA.v = l0.recs.map RecA.v := by have := congrArg LogV.recs htv.out; exact this
 have hlen : t.recs.length ≤ 262144 := by have := congrArg List.length htr; simp only [List.length_map] at this; omega
 have hsh : ∀ x ∈ t.recs, x.short 10 := fun x hx => by
  have h1 : x.v ∈ l0.recs.map RecA.v := by rw [← htr]; exact List.mem_map_of_mem hx
  obtain ⟨y, hy, hyx⟩ := List.mem_map.1 h1
  exact short_of hyx.symm (hs0 y hy)
 obtain ⟨W3, hW3, b3, hb3, hs3⟩ := boxes1 w2 [.slice none 0 0, .int .i64 0] 26
 obtain ⟨W4, hW4, hw4, hs4, HT4, _, bL⟩ := log_out t _ rfl b3
 have hW3' : Hid (w2.alloc (.cells #[.slice none 0 0, .int .i64 0] 26) = W3) := hW3.out
 have hW4' : Hid (W3.setCells w2.heap.size 0 t.cells.toArray.toList = W4) := hW4.out
 have N24 : Below w2.heap.size w2 W4 := hb3.trans (hw4.below (Nat.le_refl _) (by omega))
 have N14 : Below w1.heap.size w1 W4 := hb2.trans (N24.mono hb2.size)
 have hs2 := hb2.size
 have bR4 := bR1.below N14 bR1.lt
 have hc4 := hc1.below N14
 have ot4 : t.own W4 w1.heap.size w2.heap.size := LogA.own.below ot N24
 have hw14 : Within B (B + 1) w W4 := ⟨N14.os.trans (hw1.os.trans hbW.os), N14.tape.trans (hw1.tape.trans hbW.tape), N14.output.trans (hw1.output.trans hbW.output), by have := N14.size; have := hbW.size; omega, fun k hk hn1 => (N14.block k (by have := hbW.size; omega)).trans ((hw1.block k (by have := hbW.size; omega) hn1).trans (hbW.block k hk))⟩
 have HO4 := log_one t
 have HI4 : Hid ((Tryz.prog.info? 26).map (·.size) = some t.cells.toArray.size) := log_info t
 have hLt := bL.lt
 have C5 := l1Below_any B zs 10 W4 hc4 hl (by omega)
 have hR1 := bR1.lt
 clear hW3 hW4 hs3 hs4 hw4 hb3 b3 b0 o0 hs0 htr htv hl0 hw1 hbW hc hc1 bR1 ot N14 N24
 go_wp2_with (first | (guard_target = wpList _ _ _ (Oper.mk none (Op.store _ (Operand.tmp 5) _) _ _ _ _ :: _) _ _; refine wpList_store_mid rfl 26 (.tmp 5) (.tmp 10) rfl w2.heap.size 0 t.cells.toArray rfl rfl (by rw [hW3'.out]; exact HT4.out) HI4.out HO4 ?_; rw [hW3'.out, hW4'.out]) | fail)
 refine C5.mono ?_
 clear C5 hW3' hW4' HT4 HI4 HO4
 rintro r w5 ⟨x, rfl, hx10, hc5, hg5⟩
 have hwB5 := within_cur hg5
 have ot5 : t.own w5 w1.heap.size w2.heap.size := LogA.own.within ot4 hwB5 (.inr (by omega))
 have bL5 := bL.within hwB5 (by omega)
 have bR5 := bR4.within hwB5 (by omega)
 have hw5 : Within B (B + 1) w w5 := hw14.trans hwB5
 have hs5 := hwB5.size
 clear hx10 hg5 ot4 bL bR4 hw14 hwB5
 rcases (by omega : x = 0 ∨ x = 1 ∨ 2 ≤ x) with hx | hx | hx
 ·subst hx
  have m0 := bL5.cell 0 _ (show t.cells[0]? = some (.slice t.a t.recs.length t.c) from rfl)
  obtain ⟨W6, hW6, b6, hb6, hs6⟩ := boxes1 w5 ([-1, (t.recs.length : Int), (t.recs.length : Int) + 1].map (Value.int .i64)) 3
  have hW6' : Hid (w5.alloc (.cells #[.int .i64 (-1), .int .i64 (t.recs.length : Int), .int .i64 ((t.recs.length : Int) + 1)] 3) = W6) := hW6.out
  have rI := readsI_list [-1, (t.recs.length : Int), (t.recs.length : Int) + 1] b6
  have C6 := l1Int_any B zs (some ⟨w5.heap.size, 0, none⟩) 3 [-1, (t.recs.length : Int), (t.recs.length : Int) + 1] W6 (hc5.below hb6) hl rI (fun b off hb => by cases hb; have := hc5.lt; omega) (by simp) (by simp)
  have ot6 := LogA.own.below ot5 hb6
  have bL6 := bL5.below hb6 bL5.lt
  have bR6 := bR5.below hb6 bR5.lt
  have hw6 : Within B (B + 1) w W6 := ⟨hb6.os.trans hw5.os, hb6.tape.trans hw5.tape, hb6.output.trans hw5.output, Nat.le_trans hw5.size hb6.size, fun k hk hn1 => (hb6.block k (by have := hw5.size; omega)).trans (hw5.block k hk hn1)⟩
  have hs56 := hb6.size
  clear hs6 hW6 b6 hb6 rI ot5 bL5 bR5 hw5 hc5
  go_wp2_with fail
  rw [hW6'.out]
  refine C6.mono ?_
  clear C6 hW6' m0
  rintro r w7 ⟨y, hy, rfl, hc7, hg7⟩
  obtain ⟨sv, hsv⟩ : ∃ sv, Hid ([-1, (t.recs.length : Int), (t.recs.length : Int) + 1].getD y 0 = sv) := ⟨_, rfl⟩
  rw [hsv.out]
  have hwB7 := within_cur hg7
  have ot7 : t.own w7 w1.heap.size w2.heap.size := LogA.own.within ot6 hwB7 (.inr (by omega))
  have bL7 := bL6.within hwB7 (by omega)
  have bR7 := bR6.within hwB7 (by omega)
  have hw7 := hw6.trans hwB7
  have hs67 := hwB7.size
  have m1 := bL7.cell 1 _ (show t.cells[1]? = some (.int .i64 t.sure) from rfl)
  have f1 := bL7.frozen 1
  obtain ⟨W8, hW8, bL8, hw8, hs8⟩ := box_set bL7 1 (.int .i64 sv)
  have otz : (({ t with sure := sv } : LogA)).own W8 w1.heap.size w2.heap.size := LogA.own.within (l := t) ot7 hw8 (.inl (Nat.le_refl _))
  have bLz : Box W8 w2.heap.size ({ t with sure := sv } : LogA).cells 26 := bL8
  have bRz := bR7.within hw8 (by omega)
  have hcz := hc7.within hw8 (by omega)
  have hwz : Within B (B + 1) w W8 := within_two hw7 hw8 (by omega)
  clear ot6 bL6 bR6 hw6 hwB7 hg7 hc7 ot7 hw7 bR7 bL8 hw8 hs8 hsv
  go_upto_region 9 with fail
  rw [hW8.out]
  clear hW8 m1 f1 bL7
  obtain ⟨W9, hW9⟩ : ∃ W9, Hid (W8 = W9) := ⟨_, rfl⟩
  obtain ⟨L, hL⟩ : ∃ L, Hid (w2.heap.size = L) := ⟨_, rfl⟩
  obtain ⟨lg, hlg⟩ : ∃ lg, Hid (({ t with sure := sv } : LogA) = lg) := ⟨_, rfl⟩
  have bL9 : Box W9 L lg.cells 26 := by rw [← hW9.out, ← hL.out, ← hlg.out]; exact bLz
  have bR9 : Box W9 w.heap.size [.slice none 0 0, .int .i64 0] 26 := by rw [← hW9.out]; exact bRz
  have hc9 : CurAt W9 B zs := by rw [← hW9.out]; exact hcz
  have hw9 : Within B (B + 1) w W9 := by rw [← hW9.out]; exact hwz
  have HRD : Hid (∀ v bl, Touch bl W9 v → (∀ k ∈ bl, k ≤ w.heap.size) → lg.reads v) := fun v bl hv hbl => by
   rw [← hW9.out] at hv
   rw [← hlg.out]
   exact LogA.own.reads (LogA.own.touch otz hv (fun k hk hm => by have := (LogA.own.blocks_lt otz k hk).1; have := hbl k hm; omega))
  have hlen9 : lg.recs.length ≤ 262144 := by rw [← hlg.out]; exact hlen
  have hsh9 : ∀ y ∈ lg.recs, y.short 12 := fun y hy => by
   rw [← hlg.out] at hy
   have h1 := hsh y hy
   exact ⟨⟨by have := h1.bf.1; omega, by have := h1.bf.2; omega⟩, ⟨by have := h1.af.1; omega, by have := h1.af.2; omega⟩, by have := h1.txs; omega⟩
  have hcp9 : ∀ y ∈ lg.recs, y.aL = none → y.cL = 0 := fun y hy => by
   rw [← hlg.out] at hy
   exact (OwnRs.each otz y hy).txs.nocap
  have hcf9 : CapFit lg := by rw [← hlg.out]; exact ⟨OwnRs.capLen otz, OwnRs.nilLen otz⟩
  clear otz bLz bRz hwz hcz
  rw [hW9.out, hL.out]
  clear hlen hsh hlg
  have r9 : W9.rangeAt L 0 lg.cells := Box.range [] lg.cells [] (by simpa using bL9)
  obtain ⟨WF, hWF, hwF, hsF, HTF, HLF, bF⟩ := log_out lg _ rfl bR9
  have hWF' : Hid (W9.setCells w.heap.size 0 lg.cells.toArray.toList = WF) := hWF.out
  have hrF : ∀ v bl, Touch bl WF v → (∀ k ∈ bl, k < w.heap.size) → lg.reads v := fun v bl hv hb => HRD.out v (w.heap.size :: bl) (((touch_of hwF).mono (by simp)).trans (hv.mono (fun k hk => List.mem_cons_of_mem _ hk))) (fun k hk => (List.mem_cons.1 hk).elim (fun h1 => by omega) (fun h1 => by have := hb k h1; omega))
  have HEND : Hid (LogAny B zs w (.returned (.agg lg.cells.toArray)) WF) := ⟨lg, rfl, hrF, hlen9, hsh9, hcp9, hcf9, hc9.within hwF (by omega), within_two hw9 hwF (Nat.le_refl _)⟩
  have HO := log_one lg
  have HI : Hid ((Tryz.prog.info? 26).map (·.size) = some lg.cells.length) := log_info lg
  clear hrF bF hwF hsF hWF hw9 hc9 HRD hlen9 hsh9 hcp9 hcf9 bL9 bR9
  go_wp2_with (first | (guard_target = wpList _ _ _ (Oper.mk (some 48) _ _ _ _ _ :: _) _ _; refine wpList_load_mid rfl 26 (.tmp 5) rfl L 0 rfl lg.cells _ r9 Tryz.underlying26 rfl HI.out ?_) | (guard_target = wpList _ _ _ (Oper.mk none (Op.store _ (Operand.tmp 4) _) _ _ _ _ :: _) _ _; refine wpList_store_mid rfl 26 (.tmp 4) (.tmp 48) rfl w.heap.size 0 lg.cells.toArray rfl rfl HTF.out HI.out HO ?_; rw [hWF'.out]) | fail)
  exact bodyPost_ret (v := .agg lg.cells.toArray) (results_one Tryz.results29 rfl HLF.out) rfl HEND.out
 ·subst hx
  have m0 := bL5.cell 0 _ (show t.cells[0]? = some (.slice t.a t.recs.length t.c) from rfl)
  by_cases h0 : 0 < t.recs.length
  ·have h0b : (t.recs.length : Int) > 0 := by omega
   have C6 := l1Below_any B zs (t.recs.length : Int) w5 hc5 hl (by omega)
   go_wp2_with fail
   refine C6.mono ?_
   clear C6 m0
   rintro r w6 ⟨k, rfl, hk, hc6, hg6⟩
   have hkl : k < t.recs.length := by have := hk (by omega); omega
   have hwB6 := within_cur hg6
   have ot6 : t.own w6 w1.heap.size w2.heap.size := LogA.own.within ot5 hwB6 (.inr (by omega))
   have bL6 := bL5.within hwB6 (by omega)
   have bR6 := bR5.within hwB6 (by omega)
   have hw6 := hw5.trans hwB6
   have hs6 := hwB6.size
   clear hk hg6 hwB6 ot5 bL5 bR5 hw5 hc5 h0b
   obtain ⟨g, hg⟩ : ∃ g, t.a = some ⟨g, 0, none⟩ := by
    rcases (OwnRs.row ot6).2 with ⟨_, h1⟩ | ⟨g', cap', cur, hv, _⟩
    ·omega
    ·simp only [Value.slice.injEq] at hv; exact ⟨g', hv.1⟩
   have HMS : Hid (∀ u, Box u w2.heap.size t.cells 26 → u.cell? ⟨w2.heap.size, 0, none⟩ = some (.slice (some ⟨g, 0, none⟩) t.recs.length t.c)) := fun u hu => by
    have := hu.cell 0 _ (show t.cells[0]? = some (.slice t.a t.recs.length t.c) from rfl)
    rwa [hg] at this
   have ND : Below w6.heap.size w6 w6.drew := (Below.refl _ _).drew
   have ot7 : OwnRs w6.drew w1.heap.size w2.heap.size (some ⟨g, 0, none⟩) t.c t.recs := by have h1 := LogA.own.below ot6 ND; rw [← hg]; exact h1
   have bL7 := bL6.below ND bL6.lt
   have bR7 := bR6.below ND bR6.lt
   have hc7 := hc6.below ND
   have hzr := (row_rec ot7.row rfl k hkl).1
   have hmem := recD_mem t.recs k hkl
   have oz := ot7.each _ hmem
   have hshz := hsh _ hmem
   obtain ⟨z, hz⟩ : ∃ z, Hid (t.recs.getD k zeroR = z) := ⟨_, rfl⟩
   rw [hz.out] at hzr oz hshz
   have HI : Hid ((Tryz.prog.info? 39).map (·.size) = some z.cells.length) := rec_info z
   have C8 := l4Bend_any B w1.heap.size w2.heap.size zs z w6.drew hc7 hl oz (by omega) (by omega) hshz
   have hkk : (k : Int) < (t.recs.length : Int) := by omega
   have hk0 : (0 : Int) ≤ (k : Int) := by omega
   have HGA : Hid (t.a = some ⟨g, 0, none⟩) := hg
   clear hg
   go_upto_region 8 with fail
   refine wp_region_held_drew (S := fun w' => w'.cell? ⟨w2.heap.size, 0, none⟩ = some (.slice (some ⟨g, 0, none⟩) t.recs.length t.c) ∧ True) (by kernel_rfl) ?_ (fun hHeld => ?_)
   ·exact ⟨HMS.out _ bL7, trivial⟩
   refine tk 0 (v := .pointer (some ⟨w2.heap.size, 0, none⟩)) rfl (Or.inl ⟨by rfl, ?_⟩) hHeld ?_
   ·intro w' hSw
    go_simp <;> rfl
   try simp only [Act.put, zA, zB, zD, zE, zF]
   refine tk 1 (v := .slice (some ⟨g, 0, none⟩) t.recs.length t.c) rfl (Or.inl ⟨by rfl, ?_⟩) hHeld ?_
   ·intro w' hSw
    have hx := hSw.1
    go_simp <;> rfl
   try simp only [Act.put, zA, zB, zC, zD, zE, zF]
   refine tk 2 (v := .int .i64 k) rfl (Or.inl ⟨by rfl, ?_⟩) hHeld ?_
   ·intro w' hSw
    go_simp <;> rfl
   try simp only [Act.put, zA, zB, zC, zD, zE, zF]
   refine tk 3 (v := .pointer (some ⟨B, 0, none⟩)) rfl (Or.inl ⟨by rfl, ?_⟩) hHeld ?_
   ·intro w' hSw
    go_simp <;> rfl
   try simp only [Act.put, zA, zB, zC, zD, zE, zF]
   refine tk 4 (v := .pointer (some ⟨w2.heap.size, 0, none⟩)) rfl (Or.inl ⟨by rfl, ?_⟩) hHeld ?_
   ·intro w' hSw
    go_simp <;> rfl
   try simp only [Act.put, zA, zB, zC, zD, zE, zF]
   refine tk 5 (v := .slice (some ⟨g, 0, none⟩) t.recs.length t.c) rfl (Or.inl ⟨by rfl, ?_⟩) hHeld ?_
   ·intro w' hSw
    have hx := hSw.1
    go_simp <;> rfl
   try simp only [Act.put, zA, zB, zC, zD, zE, zF]
   refine tk 6 (v := .int .i64 k) rfl (Or.inl ⟨by rfl, ?_⟩) hHeld ?_
   ·intro w' hSw
    go_simp <;> rfl
   try simp only [Act.put, zA, zB, zC, zD, zE, zF]
   refine tk 7 (v := .pointer (some ⟨g, k * 15, none⟩)) rfl (Or.inl ⟨by rfl, ?_⟩) hHeld ?_
   ·intro w' hSw
    go_simp <;> rfl
   try simp only [Act.put, zA, zB, zC, zD, zE, zF]
   refine wpAnyH_ready (rs := [8]) (by kernel_rfl) (by simp) ?_
   refine AllReadyH.cons rfl (fun K hK => ?_) AllReadyH.nil
   rw [if_pos (by rfl)]
   refine wp_load_mid 39 (.tmp 44) rfl g (k * 15) rfl z.cells _ hzr Tryz.underlying39 rfl HI.out ?_
   refine hK.out _ _ (hHeld) (fun hHeld => ?_)
   clear hK K
   try simp only [Act.put, zA, zB, zC, zD, zE, zF]
   refine wpAnyH_ready (rs := [9]) (by kernel_rfl) (by simp) ?_
   refine AllReadyH.cons rfl (fun K hK => ?_) AllReadyH.nil
   go_simp
   refine C8.mono ?_
   clear C8
   rintro r w8 ⟨y, rfl, hysh, oy, _, hc8, hwB8⟩
   have ot8 : OwnRs w8 w1.heap.size w2.heap.size (some ⟨g, 0, none⟩) t.c t.recs := ot7.within hwB8 (.inr (by omega))
   have bL8 := bL7.within hwB8 (by omega)
   have bR8 := bR7.within hwB8 (by omega)
   have hs8 := hwB8.size
   have hs7 := ND.size
   refine hK.out _ _ (⟨HMS.out _ bL8, trivial⟩) (fun hHeld => ?_)
   clear hK K
   try simp only [Act.put, zA, zB, zC, zD, zE, zF]
   have hkt : (t.recs.take k).length = k := by rw [List.length_take]; omega
   obtain ⟨P9, hP9, tP, hsP, hRP⟩ := recs_put (A := t.recs.take k) (z := z) (B := t.recs.drop (k + 1)) (by rw [← hz.out, ← recD_split t.recs k hkl]; exact ot8) y oy
   rw [hkt] at hP9
   have hgl : g < w2.heap.size := ot8.blk g rfl
   have hgl1 : w1.heap.size ≤ g := (ot8.row.lt g rfl).1
   have bLP := bL8.touch tP (by simp; omega)
   have bRz := bR8.touch tP (by simp; omega)
   have hcz := hc8.touch tP (fun i hi => by have := List.mem_singleton.1 hi; omega)
   have hwz : Within B (B + 1) w P9 := by
    have h1 : Within B (B + 1) w w8 := hw6.trans ((Within.of_below ND).trans hwB8)
    exact ⟨tP.os.trans h1.os, tP.tape.trans h1.tape, tP.output.trans h1.output, Nat.le_trans h1.size tP.size, fun i hi hn1 => (tP.block i (by have := h1.size; omega) (fun hm => by have := List.mem_singleton.1 hm; omega)).trans (h1.block i hi hn1)⟩
   have hP9' : Hid (w8.setCells g (k * 15) y.cells.toArray.toList = P9) := hP9.out
   have HTH : Hid (w8.there g (k * 15) y.cells.toArray.size) := (row_rec ot8.row rfl k hkl).2
   refine tk 10 (v := .pointer (some ⟨g, k * 15, none⟩)) rfl (Or.inl ⟨by rfl, ?_⟩) hHeld ?_
   ·intro w' hSw
    go_simp <;> rfl
   try simp only [Act.put, zA, zB, zC, zD, zE, zF]
   refine wpAnyH_ready (rs := [11]) (by kernel_rfl) (by simp) ?_
   refine AllReadyH.cons rfl (fun K hK => ?_) AllReadyH.nil
   rw [if_pos (by rfl)]
   refine wp_store_mid 39 (.tmp 47) (.tmp 46) rfl g (k * 15) y.cells.toArray rfl rfl HTH.out (rec_info y) (rec_one y) ?_
   rw [hP9'.out]
   refine hK.out _ _ (⟨HMS.out _ bLP, trivial⟩) (fun hHeld => ?_)
   clear hK K
   try simp only [Act.put, zA, zB, zC]
   refine wpAnyH_done (by kernel_rfl) ?_ _
   obtain ⟨W9, hW9⟩ : ∃ W9, Hid (P9 = W9) := ⟨_, rfl⟩
   obtain ⟨L, hL⟩ : ∃ L, Hid (w2.heap.size = L) := ⟨_, rfl⟩
   obtain ⟨lg, hlg⟩ : ∃ lg, Hid ((⟨t.recs.take k ++ y :: t.recs.drop (k + 1), t.sure, some ⟨g, 0, none⟩, t.c⟩ : LogA) = lg) := ⟨_, rfl⟩
   have hll : (t.recs.take k ++ y :: t.recs.drop (k + 1)).length = t.recs.length := by rw [List.length_append, List.length_cons, List.length_take, List.length_drop]; omega
   have hmemz : ∀ v ∈ t.recs.take k ++ y :: t.recs.drop (k + 1), v ∈ t.recs ∨ v = y := fun v hv => by
    rcases List.mem_append.1 hv with h1 | h1
    ·exact .inl (List.mem_of_mem_take h1)
    ·rcases List.mem_cons.1 h1 with h1 | h1
     ·exact .inr h1
     ·exact .inl (List.mem_of_mem_drop h1)
   have bL9 : Box W9 L lg.cells 26 := by
    rw [← hW9.out, ← hL.out, ← hlg.out]
    have h1 := bLP
    simp only [LogA.cells, HGA.out] at h1
    simp only [LogA.cells, hll]
    exact h1
   have bR9 : Box W9 w.heap.size [.slice none 0 0, .int .i64 0] 26 := by rw [← hW9.out]; exact bRz
   have hc9 : CurAt W9 B zs := by rw [← hW9.out]; exact hcz
   have hw9 : Within B (B + 1) w W9 := by rw [← hW9.out]; exact hwz
   have HRD : Hid (∀ v bl, Touch bl W9 v → (∀ k ∈ bl, k ≤ w.heap.size) → lg.reads v) := fun v bl hv hbl => by
    rw [← hW9.out] at hv
    rw [← hlg.out]
    exact hRP v bl hv (fun k hk => by have := hbl k hk; omega) (Nat.le_refl _)
   have hlen9 : lg.recs.length ≤ 262144 := by rw [← hlg.out]; show (t.recs.take k ++ y :: t.recs.drop (k + 1)).length ≤ _; rw [hll]; exact hlen
   have hsh9 : ∀ v ∈ lg.recs, v.short 12 := fun v hv => by
    rw [← hlg.out] at hv
    rcases hmemz v hv with h1 | h1
    ·have h2 := hsh v h1
     exact ⟨⟨by have := h2.bf.1; omega, by have := h2.bf.2; omega⟩, ⟨by have := h2.af.1; omega, by have := h2.af.2; omega⟩, by have := h2.txs; omega⟩
    ·rw [h1]; exact hysh
   have hcp9 : ∀ v ∈ lg.recs, v.aL = none → v.cL = 0 := fun v hv => by
    rw [← hlg.out] at hv
    rcases hmemz v hv with h1 | h1
    ·exact (ot8.each v h1).txs.nocap
    ·rw [h1]; exact oy.txs.nocap
   have hcf9 : CapFit lg := by
    rw [← hlg.out]
    refine ⟨?_, fun hh => by cases hh⟩
    show (t.recs.take k ++ y :: t.recs.drop (k + 1)).length ≤ t.c
    rw [hll]
    exact OwnRs.capLen ot8
   clear hHeld hP9' hP9 HTH tP hRP bLP bRz hcz hwz hmemz hll hlg ot8 bL8 bR8 oy ot7 bL7 bR7 hc7 hc8 hc6 oz hzr HMS HGA hlen hsh hwB8 hw6 ot6 bL6 bR6
   rw [hW9.out, hL.out]
   have r9 : W9.rangeAt L 0 lg.cells := Box.range [] lg.cells [] (by simpa using bL9)
   obtain ⟨WF, hWF, hwF, hsF, HTF, HLF, bF⟩ := log_out lg _ rfl bR9
   have hWF' : Hid (W9.setCells w.heap.size 0 lg.cells.toArray.toList = WF) := hWF.out
   have hrF : ∀ v bl, Touch bl WF v → (∀ k ∈ bl, k < w.heap.size) → lg.reads v := fun v bl hv hb => HRD.out v (w.heap.size :: bl) (((touch_of hwF).mono (by simp)).trans (hv.mono (fun k hk => List.mem_cons_of_mem _ hk))) (fun k hk => (List.mem_cons.1 hk).elim (fun h1 => by omega) (fun h1 => by have := hb k h1; omega))
   have HEND : Hid (LogAny B zs w (.returned (.agg lg.cells.toArray)) WF) := ⟨lg, rfl, hrF, hlen9, hsh9, hcp9, hcf9, hc9.within hwF (by omega), within_two hw9 hwF (Nat.le_refl _)⟩
   have HO := log_one lg
   have HI : Hid ((Tryz.prog.info? 26).map (·.size) = some lg.cells.length) := log_info lg
   clear hrF bF hwF hsF hWF hw9 hc9 HRD hlen9 hsh9 hcp9 hcf9 bL9 bR9
   go_wp2_with (first | (guard_target = wpList _ _ _ (Oper.mk (some 48) _ _ _ _ _ :: _) _ _; refine wpList_load_mid rfl 26 (.tmp 5) rfl L 0 rfl lg.cells _ r9 Tryz.underlying26 rfl HI.out ?_) | (guard_target = wpList _ _ _ (Oper.mk none (Op.store _ (Operand.tmp 4) _) _ _ _ _ :: _) _ _; refine wpList_store_mid rfl 26 (.tmp 4) (.tmp 48) rfl w.heap.size 0 lg.cells.toArray rfl rfl HTF.out HI.out HO ?_; rw [hWF'.out]) | fail)
   exact bodyPost_ret (v := .agg lg.cells.toArray) (results_one Tryz.results29 rfl HLF.out) rfl HEND.out
  ·have h0b : ¬ (t.recs.length : Int) > 0 := by omega
   go_upto_region 9 with fail
   obtain ⟨W9, hW9⟩ : ∃ W9, Hid (w5 = W9) := ⟨_, rfl⟩
   obtain ⟨L, hL⟩ : ∃ L, Hid (w2.heap.size = L) := ⟨_, rfl⟩
   obtain ⟨lg, hlg⟩ : ∃ lg, Hid (t = lg) := ⟨_, rfl⟩
   have otz := ot5
   have bLz := bL5
   have bRz := bR5
   have hcz := hc5
   have hwz := hw5
   clear ot5 bL5 bR5 hw5 hc5 hs5 m0 h0b h0
   have bL9 : Box W9 L lg.cells 26 := by rw [← hW9.out, ← hL.out, ← hlg.out]; exact bLz
   have bR9 : Box W9 w.heap.size [.slice none 0 0, .int .i64 0] 26 := by rw [← hW9.out]; exact bRz
   have hc9 : CurAt W9 B zs := by rw [← hW9.out]; exact hcz
   have hw9 : Within B (B + 1) w W9 := by rw [← hW9.out]; exact hwz
   have HRD : Hid (∀ v bl, Touch bl W9 v → (∀ k ∈ bl, k ≤ w.heap.size) → lg.reads v) := fun v bl hv hbl => by
    rw [← hW9.out] at hv
    rw [← hlg.out]
    exact LogA.own.reads (LogA.own.touch otz hv (fun k hk hm => by have := (LogA.own.blocks_lt otz k hk).1; have := hbl k hm; omega))
   have hlen9 : lg.recs.length ≤ 262144 := by rw [← hlg.out]; exact hlen
   have hsh9 : ∀ y ∈ lg.recs, y.short 12 := fun y hy => by
    rw [← hlg.out] at hy
    have h1 := hsh y hy
    exact ⟨⟨by have := h1.bf.1; omega, by have := h1.bf.2; omega⟩, ⟨by have := h1.af.1; omega, by have := h1.af.2; omega⟩, by have := h1.txs; omega⟩
   have hcp9 : ∀ y ∈ lg.recs, y.aL = none → y.cL = 0 := fun y hy => by
    rw [← hlg.out] at hy
    exact (OwnRs.each otz y hy).txs.nocap
   have hcf9 : CapFit lg := by rw [← hlg.out]; exact ⟨OwnRs.capLen otz, OwnRs.nilLen otz⟩
   clear otz bLz bRz hwz hcz
   rw [hW9.out, hL.out]
   clear hlen hsh hlg
   have r9 : W9.rangeAt L 0 lg.cells := Box.range [] lg.cells [] (by simpa using bL9)
   obtain ⟨WF, hWF, hwF, hsF, HTF, HLF, bF⟩ := log_out lg _ rfl bR9
   have hWF' : Hid (W9.setCells w.heap.size 0 lg.cells.toArray.toList = WF) := hWF.out
   have hrF : ∀ v bl, Touch bl WF v → (∀ k ∈ bl, k < w.heap.size) → lg.reads v := fun v bl hv hb => HRD.out v (w.heap.size :: bl) (((touch_of hwF).mono (by simp)).trans (hv.mono (fun k hk => List.mem_cons_of_mem _ hk))) (fun k hk => (List.mem_cons.1 hk).elim (fun h1 => by omega) (fun h1 => by have := hb k h1; omega))
   have HEND : Hid (LogAny B zs w (.returned (.agg lg.cells.toArray)) WF) := ⟨lg, rfl, hrF, hlen9, hsh9, hcp9, hcf9, hc9.within hwF (by omega), within_two hw9 hwF (Nat.le_refl _)⟩
   have HO := log_one lg
   have HI : Hid ((Tryz.prog.info? 26).map (·.size) = some lg.cells.length) := log_info lg
   clear hrF bF hwF hsF hWF hw9 hc9 HRD hlen9 hsh9 hcp9 hcf9 bL9 bR9
   go_wp2_with (first | (guard_target = wpList _ _ _ (Oper.mk (some 48) _ _ _ _ _ :: _) _ _; refine wpList_load_mid rfl 26 (.tmp 5) rfl L 0 rfl lg.cells _ r9 Tryz.underlying26 rfl HI.out ?_) | (guard_target = wpList _ _ _ (Oper.mk none (Op.store _ (Operand.tmp 4) _) _ _ _ _ :: _) _ _; refine wpList_store_mid rfl 26 (.tmp 4) (.tmp 48) rfl w.heap.size 0 lg.cells.toArray rfl rfl HTF.out HI.out HO ?_; rw [hWF'.out]) | fail)
   exact bodyPost_ret (v := .agg lg.cells.toArray) (results_one Tryz.results29 rfl HLF.out) rfl HEND.out
 ·have hx0 : ((x : Int) == 0) = false := by simp; omega
  have hx1 : ((x : Int) == 1) = false := by simp; omega
  obtain ⟨W9, hW9⟩ : ∃ W9, Hid (w5 = W9) := ⟨_, rfl⟩
  obtain ⟨L, hL⟩ : ∃ L, Hid (w2.heap.size = L) := ⟨_, rfl⟩
  obtain ⟨lg, hlg⟩ : ∃ lg, Hid (t = lg) := ⟨_, rfl⟩
  have otz := ot5
  have bLz := bL5
  have bRz := bR5
  have hcz := hc5
  have hwz := hw5
  clear ot5 bL5 bR5 hw5 hc5 hs5
  have bL9 : Box W9 L lg.cells 26 := by rw [← hW9.out, ← hL.out, ← hlg.out]; exact bLz
  have bR9 : Box W9 w.heap.size [.slice none 0 0, .int .i64 0] 26 := by rw [← hW9.out]; exact bRz
  have hc9 : CurAt W9 B zs := by rw [← hW9.out]; exact hcz
  have hw9 : Within B (B + 1) w W9 := by rw [← hW9.out]; exact hwz
  have HRD : Hid (∀ v bl, Touch bl W9 v → (∀ k ∈ bl, k ≤ w.heap.size) → lg.reads v) := fun v bl hv hbl => by
   rw [← hW9.out] at hv
   rw [← hlg.out]
   exact LogA.own.reads (LogA.own.touch otz hv (fun k hk hm => by have := (LogA.own.blocks_lt otz k hk).1; have := hbl k hm; omega))
  have hlen9 : lg.recs.length ≤ 262144 := by rw [← hlg.out]; exact hlen
  have hsh9 : ∀ y ∈ lg.recs, y.short 12 := fun y hy => by
   rw [← hlg.out] at hy
   have h1 := hsh y hy
   exact ⟨⟨by have := h1.bf.1; omega, by have := h1.bf.2; omega⟩, ⟨by have := h1.af.1; omega, by have := h1.af.2; omega⟩, by have := h1.txs; omega⟩
  have hcp9 : ∀ y ∈ lg.recs, y.aL = none → y.cL = 0 := fun y hy => by
   rw [← hlg.out] at hy
   exact (OwnRs.each otz y hy).txs.nocap
  have hcf9 : CapFit lg := by rw [← hlg.out]; exact ⟨OwnRs.capLen otz, OwnRs.nilLen otz⟩
  clear otz bLz bRz hwz hcz
  rw [hW9.out, hL.out]
  clear hlen hsh hlg
  have r9 : W9.rangeAt L 0 lg.cells := Box.range [] lg.cells [] (by simpa using bL9)
  obtain ⟨WF, hWF, hwF, hsF, HTF, HLF, bF⟩ := log_out lg _ rfl bR9
  have hWF' : Hid (W9.setCells w.heap.size 0 lg.cells.toArray.toList = WF) := hWF.out
  have hrF : ∀ v bl, Touch bl WF v → (∀ k ∈ bl, k < w.heap.size) → lg.reads v := fun v bl hv hb => HRD.out v (w.heap.size :: bl) (((touch_of hwF).mono (by simp)).trans (hv.mono (fun k hk => List.mem_cons_of_mem _ hk))) (fun k hk => (List.mem_cons.1 hk).elim (fun h1 => by omega) (fun h1 => by have := hb k h1; omega))
  have HEND : Hid (LogAny B zs w (.returned (.agg lg.cells.toArray)) WF) := ⟨lg, rfl, hrF, hlen9, hsh9, hcp9, hcf9, hc9.within hwF (by omega), within_two hw9 hwF (Nat.le_refl _)⟩
  have HO := log_one lg
  have HI : Hid ((Tryz.prog.info? 26).map (·.size) = some lg.cells.length) := log_info lg
  clear hrF bF hwF hsF hWF hw9 hc9 HRD hlen9 hsh9 hcp9 hcf9 bL9 bR9
  go_wp2_with (first | (guard_target = wpList _ _ _ (Oper.mk (some 48) _ _ _ _ _ :: _) _ _; refine wpList_load_mid rfl 26 (.tmp 5) rfl L 0 rfl lg.cells _ r9 Tryz.underlying26 rfl HI.out ?_) | (guard_target = wpList _ _ _ (Oper.mk none (Op.store _ (Operand.tmp 4) _) _ _ _ _ :: _) _ _; refine wpList_store_mid rfl 26 (.tmp 4) (.tmp 48) rfl w.heap.size 0 lg.cells.toArray rfl rfl HTF.out HI.out HO ?_; rw [hWF'.out]) | fail)
  exact bodyPost_ret (v := .agg lg.cells.toArray) (results_one Tryz.results29 rfl HLF.out) rfl HEND.out
end Go.Proofs.YtoboickdkednkaaGreatDoor
namespace Go.Proofs.YtoboickdkednkaaGreatDoor
open Go.RowKit
attribute [local go_sem ↓] Go.wp_at_zero Go.wp_at_succ
theorem l1Size_any (a : Option Addr) (c : Nat) (zs : List Int) (m : Nat) (w : World) (hl : zs.length ≤ 70368744177664) (hm : 0 < m) :
  Calls Tryz.prog 30 #[.slice a zs.length c, .int .i64 m] w fun r w' => ∃ n : Nat, r = .returned (.int .i64 n) ∧ 0 < n ∧ n ≤ m ∧ w' = w := by
 by_cases h : 3 + (zs.length : Int) / 12 > (m : Int)
 ·go_enter Tryz.func30, Tryz.ntmps30
  go_wp2
  go_ret
  exact ⟨m, rfl, hm, Nat.le_refl _, rfl⟩
 ·go_enter Tryz.func30, Tryz.ntmps30
  go_wp2
  go_ret
  exact ⟨3 + zs.length / 12, ret_int (by omega), by omega, by omega, rfl⟩
def TearDrawn (w : World) (r : Ending) (w' : World) : Prop := ∃ (l : LogA) (keep : Int), r = .returned (.tuple #[.agg l.cells.toArray, .int .i64 keep]) ∧ l.reads w' ∧ l.recs.length ≤ 262144 ∧ (∀ x ∈ l.recs, x.short 12) ∧ (∀ x ∈ l.recs, x.aL = none → x.cL = 0) ∧ CapFit l ∧ -1 ≤ keep ∧ keep ≤ 9223372036854775807 ∧ Below w.heap.size w w'
theorem keep_lit (j : Nat) (hj : j < [0, 1, 2, 100, -1, (9223372036854775807 : Int)].length) : -1 ≤ [0, 1, 2, 100, -1, (9223372036854775807 : Int)].getD j 0 ∧ [0, 1, 2, 100, -1, (9223372036854775807 : Int)].getD j 0 ≤ 9223372036854775807 := by
 have hj6 : j < 6 := hj
 match j, hj6 with
 | 0, _ => decide
 | 1, _ => decide
 | 2, _ => decide
 | 3, _ => decide
 | 4, _ => decide
 | 5, _ => decide
theorem drawTear_any (a : Option Addr) (c : Nat) (zs : List Int) (w : World) (hr : Reads w a zs) (hl : zs.length ≤ 70368744177664) :
  Calls Tryz.prog 8 #[.slice a zs.length c] w fun r w' => TearDrawn w r w' := by
 obtain ⟨W, hW, bR, hbW, hsW⟩ := boxes1 w [.slice none 0 0, .int .i64 0] 26
 have hW' : Hid (w.alloc (.cells #[.slice none 0 0, .int .i64 0] 26) = W) := hW.out
 have hws : w.heap.size < W.heap.size := bR.lt
 have C1 := l1New_any a c zs W (hr.below hbW) hl
 clear hW hsW
 go_enter Tryz.func8, Tryz.ntmps8
 go_wp2_with fail
 rw [hW'.out]
 refine C1.mono ?_
 clear C1 hW'
 rintro r w1 ⟨rfl, hc1, hb1⟩
 have s1 := hb1.size
 have lc := hc1.lt
 have bR1 := bR.below hb1 bR.lt
 have N1 : Below w.heap.size w w1 := hbW.trans (hb1.mono hbW.size)
 have C2 := l1Size_any a c zs 16 w1 hl (by omega)
 clear hb1 hbW bR
 go_wp2_with fail
 refine C2.mono ?_
 clear C2
 rintro r w2 ⟨n, rfl, hn0, hn16, rfl⟩
 have C3 := l5DrawAny_any W.heap.size zs (n : Int) w2 hc1 hl (by omega) (by omega)
 go_wp2_with fail
 refine C3.mono ?_
 clear C3
 rintro r w3 ⟨l, rfl, hrd, hlen, hsh, hcp, hcf, hc3, hw3⟩
 have s3 := hw3.size
 have bR3 := bR1.within hw3 (by omega)
 have N3 : Below w.heap.size w w3 := N1.trans (hw3.below (by omega) (by omega))
 obtain ⟨W4, hW4, b4, hb4, hs4⟩ := boxes1 w3 ([0, 1, 2, 100, -1, (9223372036854775807 : Int)].map (Value.int .i64)) 3
 have hW4' : Hid (w3.alloc (.cells #[.int .i64 0, .int .i64 1, .int .i64 2, .int .i64 100, .int .i64 (-1), .int .i64 9223372036854775807] 3) = W4) := hW4.out
 have rI := readsI_list [0, 1, 2, 100, -1, (9223372036854775807 : Int)] b4
 have C5 := l1Int_any W.heap.size zs (some ⟨w3.heap.size, 0, none⟩) 6 [0, 1, 2, 100, -1, (9223372036854775807 : Int)] W4 (hc3.below hb4) hl rI (fun b off hb => by cases hb; omega) (by simp) (by simp)
 have bR4 := bR3.below hb4 bR3.lt
 have N4 : Below w.heap.size w W4 := N3.trans (hb4.mono N3.size)
 have s4 := hb4.size
 have T34 : Touch [W.heap.size] w3 W4 := Touch.of_below hb4
 clear hs4 hW4 b4 hb4 rI bR1 bR3 N1 hc1 hw3
 go_wp2_with fail
 rw [hW4'.out]
 refine C5.mono ?_
 clear C5 hW4'
 rintro r w5 ⟨j, hj, rfl, hc5, hg5⟩
 obtain ⟨hk1, hk2⟩ := keep_lit j hj
 obtain ⟨kp, hkp⟩ : ∃ kp, Hid ([0, 1, 2, 100, -1, (9223372036854775807 : Int)].getD j 0 = kp) := ⟨_, rfl⟩
 rw [hkp.out] at hk1 hk2
 rw [hkp.out]
 have hwB := within_cur hg5
 have bR5 := bR4.within hwB (by omega)
 have N5 : Below w.heap.size w w5 := N4.trans (hwB.below (by omega) (by omega))
 have T35 : Touch [W.heap.size] w3 w5 := T34.trans (touch_of hwB)
 have s5 := hwB.size
 obtain ⟨WF, hWF, hwF, hsF, HTF, HLF, bF⟩ := log_out l _ rfl bR5
 have hrF : l.reads WF := hrd WF [W.heap.size, w.heap.size] ((T35.mono (by simp)).trans ((touch_of hwF).mono (by simp))) (fun k hk => by
  simp only [List.mem_cons, List.not_mem_nil, or_false] at hk
  rcases hk with h1 | h1 <;> omega)
 have NF : Below w.heap.size w WF := N5.trans (hwF.below (Nat.le_refl _) (by omega))
 have HEND : Hid (TearDrawn w (.returned (.tuple #[.agg l.cells.toArray, .int .i64 kp])) WF) := ⟨l, kp, rfl, hrF, hlen, hsh, hcp, hcf, hk1, hk2, NF⟩
 have hWF' : Hid (w5.setCells w.heap.size 0 l.cells.toArray.toList = WF) := hWF.out
 have HO := log_one l
 have HI : Hid ((Tryz.prog.info? 26).map (·.size) = some l.cells.toArray.size) := log_info l
 clear hrF NF bF hwF hsF hWF bR5 bR4 hwB hg5 hkp N5 N4 N3
 go_wp2_with (first | (guard_target = wpList _ _ _ (Oper.mk none (Op.store _ (Operand.tmp 2) _) _ _ _ _ :: _) _ _; refine wpList_store_mid rfl 26 (.tmp 2) (.tmp 10) rfl w.heap.size 0 l.cells.toArray rfl rfl HTF.out HI.out HO ?_; rw [hWF'.out]) | fail)
 exact bodyPost_ret (v := .tuple #[.agg l.cells.toArray, .int .i64 kp]) (results_cell_flag Tryz.results8 rfl HLF.out rfl) rfl HEND.out
end Go.Proofs.YtoboickdkednkaaGreatDoor
namespace Go.Proofs.YtoboickdkednkaaGreatDoor
open Go.ChangeShapes Go.WideShapes Go.ChangeAt Go.RowKit
section
variable {H : Type} {enc : TypeId × Value → H} {w : World} {base : Nat} {spare : Nat → Bool} {held : Bool}
theorem trod_bytes {fuel : Nat} {cs : List Value} {x : DataW H × List MemPlace} (h : DataW.trod enc Tryz.prog w base spare held fuel 22 cs = some x) :
  ∃ (a : Option Addr) (c : Nat) (ns : List Int), cs = [.slice a ns.length c] ∧ Reads w a ns ∧ (a = none → c = 0) ∧ ns.length ≤ maxLen := by
 rcases open_ints Tryz.underlying22 Tryz.underlying5 (by kernel_rfl) h with ⟨rfl, _⟩ | ⟨a, len, cap, zs, rfl, _, hl, hm, hz, _, hcell, hwf⟩
 ·exact ⟨none, 0, [], rfl, ⟨by simp, by simp⟩, fun _ => rfl, by simp⟩
 ·have hlz : len ≤ zs.length := by rw [hz]; split <;> omega
  refine ⟨some a, cap, zs.take len, by simp; omega, ⟨fun z hzz => ?_, ?_⟩, (fun h => by cases h), by simp; omega⟩
  ·have := hwf z (List.mem_of_mem_take hzz)
   simp [Lit.wf, IntKind.min, IntKind.max, IntKind.signed, IntKind.bits] at this
   omega
  ·intro hne
   have hpos := List.length_pos_iff.2 hne
   simp at hpos
   obtain ⟨b, off, spot⟩ := a
   have hc0 := hcell 0 (by omega)
   have hspot : spot = none := by simpa [Addr.add] using World.cell?_spot hc0
   subst hspot
   refine ⟨b, off, rfl, fun i hi => ?_⟩
   have hi' : i < len := by simp at hi; omega
   have := hcell i (by omega)
   have e : (List.take len zs).getD i 0 = zs.getD i 0 := by simp [List.getD, hi']
   rw [e, ← Addr_add]
   exact this
theorem open_bytes {b0 : Nat} {v : Value} {d : DataW H} {ps : List MemPlace} (hval : Value.okWide Tryz.prog w .any b0 22 v) (h : DataW.Trod enc Tryz.prog w base spare held 22 v d ps) :
  ∃ (a : Option Addr) (c : Nat) (ns : List Int), v = .slice a ns.length c ∧ Reads w a ns ∧ (a = none → c = 0) ∧ ns.length ≤ maxLen := by
 obtain ⟨a, len, cap, hv⟩ := okWide_slice (e := 5) Tryz.underlying22 hval
 subst hv
 obtain ⟨fuel, hf⟩ := h
 have e : (Value.slice a len cap).cells.toList = [Value.slice a len cap] := rfl
 rw [e] at hf
 obtain ⟨a', c', ns, hc, rest⟩ := trod_bytes hf
 simp only [List.cons.injEq, and_true] at hc
 exact ⟨a', c', ns, hc, rest⟩
end
end Go.Proofs.YtoboickdkednkaaGreatDoor