/- Several texts in one, in their order. -/
import Derived.Test.YtickiokdcbeefaaGreatDoorPFnLogsx12
import Derived.Test.YtickiokdcbeefaaGreatDoorPFnLogsx4
import Derived.Test.YtickiokdcbeefaaGreatDoorPFnLogsx6
import Derived.Test.YtickiokdcbeefaaGreatDoorPFnLogsx7
import Derived.Test.YtickiokdcbeefaaGreatDoorPFnLogsx8
import Derived.Deep.CutRange
import Derived.Deep.MidRow
import Derived.Deep.RegionHeld3
import Derived.Test.YtickiokdcbeefaaGreatDoorPFnLogsx2
import Derived.Test.YtickiokdcbeefaaGreatDoorPFnLogsx1
import Derived.Lib.AppendStr
import Derived.Lib.OthersKept
import Derived.Laws.DeepStrings4
import Derived.Deep.QuietTactic
import Derived.BigQuiet
set_option maxHeartbeats 8000000
set_option maxRecDepth 100000
namespace Go.Proofs.YtickiokdcbeefaaGreatDoor
open Go.RowKit
def BentAt (lo hi : Nat) (w w' : World) (B : Nat) (zs : List Int) (e : Ending) : Prop := ∃ t : RecA, e = .returned (.agg t.cells.toArray) ∧ t.short 12 ∧ t.own w' lo w'.heap.size ∧ (∀ k ∈ t.blocks, k < hi ∨ w.heap.size ≤ k) ∧ CurAt w' B zs ∧ Within B (B + 1) w w'
theorem own_past {w w' : World} {r : RecA} {lo hi X : Nat} (h : r.own w lo hi) (hw : Within X (X + 1) w w') (hd : ∀ k ∈ r.blocks, k ≠ X) : r.own w' lo hi := by
 have ht : Touch [X] w w' := ⟨hw.os, hw.tape, hw.output, hw.size, fun k hk hn => hw.block k hk (fun h => hn (by simp; omega))⟩
 have hd' : ∀ k ∈ r.blocks, k ∉ [X] := fun k hk h => hd k hk (by simpa using h)
 simp only [RecA.blocks, List.mem_append, Option.mem_toList] at hd'
 exact ⟨SlotA.touch h.bf ht (fun k hk => hd' k (.inl hk)), SlotA.touch h.af ht (fun k hk => hd' k (.inr (.inl hk))), h.txs.touch ht (fun k hk => hd' k (.inr (.inr hk))), h.apart⟩
theorem own_fresh {w : World} {r : RecA} {lo hi lo' hi' : Nat} {aL : Option Addr} {cL : Nat} {ls : List LiveV} (h : r.own w lo hi) (hL : OwnL w lo' hi' aL cL ls) (h1 : hi ≤ lo') (h2 : lo ≤ lo') (h3 : lo' ≤ hi') : (⟨r.lsn, r.tx, r.prev, r.kind, r.oid, r.bf, r.af, r.next, ls, aL, cL⟩ : RecA).own w lo hi' := by
 have hh : hi' ≤ w.heap.size := hL.2.1
 refine ⟨OwnO.widen h.bf (Nat.le_refl _) (by omega) hh, OwnO.widen h.af (Nat.le_refl _) (by omega) hh, hL.widen h2 (Nat.le_refl _) hh, ?_⟩
 have ha := h.apart
 simp only [RecA.blocks] at ha ⊢
 rw [List.nodup_append] at ha ⊢
 obtain ⟨a1, a2, a3⟩ := ha
 rw [List.nodup_append] at a2 ⊢
 refine ⟨a1, ⟨a2.1, by cases (Value.slice aL ls.length cL).ownBlock <;> simp, ?_⟩, ?_⟩
 ·intro x hx y hy e
  have b1 := SlotA.blocks_lt h.af x hx
  have b2 := hL.lt y (Option.mem_toList.1 hy)
  omega
 ·intro x hx y hy
  rcases List.mem_append.1 hy with hy | hy
  ·exact a3 x hx y (List.mem_append.2 (.inl hy))
  ·intro e
   have b1 := SlotA.blocks_lt h.bf x hx
   have b2 := hL.lt y (Option.mem_toList.1 hy)
   omega
theorem l4Bend_any (B lo hi : Nat) (zs : List Int) (r : RecA) (w : World) (hc : CurAt w B zs) (hl : zs.length ≤ 70368744177664) (ho : r.own w lo hi) (hB : B < lo) (hh : lo ≤ hi) (hsh : r.short 10) :
  Calls Tryz.prog 48 #[.pointer (some ⟨B, 0, none⟩), .agg r.cells.toArray] w fun e w' => BentAt lo hi w w' B zs e := by
 have hBw := hc.lt
 have hhw : hi ≤ w.heap.size := ho.txs.2.1
 obtain ⟨W, hW, bX, bR, hbW, hsW⟩ := boxes2 w r.cells [.int .i64 0, .int .i64 0, .int .i64 0, .int .i64 0, .int .i64 0, .bool false, .int .i64 0, .slice none 0 0, .slice none 0 0, .bool false, .int .i64 0, .slice none 0 0, .slice none 0 0, .int .i64 0, .slice none 0 0] 42 42
 have HW : Within B (B + 1) w W := Within.of_below hbW
 replace hc : CurAt W B zs := hc.below hbW
 replace ho := ho.below hbW
 have hsW' : w.heap.size + 1 < W.heap.size := bR.lt
 have HSH : Hid (r.short 10) := hsh
 simp only [RecA.cells] at hW bX ⊢
 clear hsW hbW hsh
 go_enter Tryz.func48, Tryz.ntmps48
 go_wp2_with fail
 rw [hW.out]
 clear hW
 refine (l1Below_any B zs 8 W hc hl (by omega)).mono ?_
 clear hc
 rintro e v1 ⟨x, rfl, hx, hc, hgv1⟩
 replace hx : (x : Int) < 8 := hx (by decide)
 have hwv1 := within_cur hgv1
 clear hgv1
 have sv1 := hwv1.size
 replace bR := bR.within hwv1 (by omega)
 replace bX := bX.within hwv1 (by omega)
 replace ho := ho.within hwv1 (by omega)
 replace HW := HW.trans hwv1
 clear hwv1
 by_cases q0 : x = 0
 case pos =>
  have t0_ : ((x : Int) == 0) = true := by simp; omega
  clear q0
  obtain ⟨v2, hv2, bI, hbv2, ev2⟩ := boxes1 v1 [.int .i64 (0), .int .i64 (1), .int .i64 (1000000), .int .i64 (1000001)] 3
  have lIv2 := bI.lt
  clear ev2
  go_wp2_with fail
  rw [hv2.out]
  clear hv2
  have sv2 := hbv2.size
  replace hc := hc.below hbv2
  replace bR := bR.below hbv2 bR.lt
  replace bX := bX.below hbv2 bX.lt
  replace ho := ho.below hbv2
  replace HW := HW.trans (Within.of_below hbv2)
  clear hbv2
  refine (l1Int_any B zs (some ⟨v1.heap.size, 0, none⟩) 4 [0, 1, 1000000, 1000001] v2 hc hl (readsI_box [0, 1, 1000000, 1000001] bI) (fun b off h => by cases h; omega) (by simp) (by simp)).mono ?_
  clear hc bI
  rintro e v3 ⟨jv3, hjv3, rfl, hc, hgv3⟩
  generalize ([0, 1, 1000000, 1000001] : List Int).getD jv3 0 = nv at *
  clear hjv3
  have hwv3 := within_cur hgv3
  clear hgv3
  have sv3 := hwv3.size
  replace bR := bR.within hwv3 (by omega)
  replace bX := bX.within hwv3 (by omega)
  replace ho := ho.within hwv3 (by omega)
  replace HW := HW.trans hwv3
  clear hwv3
  have cx0 := bX.cell 0 _ rfl
  have cf0 := bX.frozen 0
  obtain ⟨v4, hv4, bX2, hwv4, ev4⟩ := box_set bX 0 (.int .i64 nv)
  have e1v4 := Nat.le_of_eq ev4
  have e2v4 := Nat.le_of_eq ev4.symm
  clear ev4
  simp only [List.set] at bX2
  replace hc := hc.within hwv4 (by omega)
  replace bR := bR.within hwv4 (by omega)
  replace ho := ho.within hwv4 (by omega)
  replace HW := HW.new hwv4 (by omega)
  clear bX hwv4
  have bX := bX2
  clear bX2
  go_upto_region 16 with fail
  rw [hv4.out]
  clear hv4 cx0 cf0
  have bT : Box v4 w.heap.size (RecA.cells ⟨nv, r.tx, r.prev, r.kind, r.oid, r.bf, r.af, r.next, r.txs, r.aL, r.cL⟩) 42 := bX
  have HST : Hid (RecA.short ⟨nv, r.tx, r.prev, r.kind, r.oid, r.bf, r.af, r.next, r.txs, r.aL, r.cL⟩ 12) := ⟨by have := HSH.out.bf; show r.bf.v.o.ints.length ≤ 12 ∧ r.bf.v.o.refs.length ≤ 12; omega, by have := HSH.out.af; show r.af.v.o.ints.length ≤ 12 ∧ r.af.v.o.refs.length ≤ 12; omega, by have := HSH.out.txs; show r.txs.length ≤ 12; omega⟩
  obtain ⟨WF, hWF, hwF, hsF, HTF, HLF, _⟩ := rec_out ⟨nv, r.tx, r.prev, r.kind, r.oid, r.bf, r.af, r.next, r.txs, r.aL, r.cL⟩ _ rfl bR
  have oT : RecA.own WF lo WF.heap.size ⟨nv, r.tx, r.prev, r.kind, r.oid, r.bf, r.af, r.next, r.txs, r.aL, r.cL⟩ := (⟨OwnO.widen (OwnO.within ho.bf hwF (by omega)) (Nat.le_refl _) (by omega) (Nat.le_refl _), OwnO.widen (OwnO.within ho.af hwF (by omega)) (Nat.le_refl _) (by omega) (Nat.le_refl _), (ho.txs.within hwF (by omega)).widen (Nat.le_refl _) (by omega) (Nat.le_refl _), ho.apart⟩)
  have HBL : Hid (∀ k ∈ RecA.blocks ⟨nv, r.tx, r.prev, r.kind, r.oid, r.bf, r.af, r.next, r.txs, r.aL, r.cL⟩, k < hi ∨ w.heap.size ≤ k) := fun k hk => .inl (ho.blocks_lt k hk).2
  have HF : Hid (BentAt lo hi w WF B zs (.returned (.agg (RecA.cells ⟨nv, r.tx, r.prev, r.kind, r.oid, r.bf, r.af, r.next, r.txs, r.aL, r.cL⟩).toArray))) := ⟨_, rfl, HST.out, oT, HBL.out, hc.within hwF (by omega), HW.new hwF (by omega)⟩
  have rT : v4.rangeAt w.heap.size 0 (RecA.cells ⟨nv, r.tx, r.prev, r.kind, r.oid, r.bf, r.af, r.next, r.txs, r.aL, r.cL⟩) := Box.range [] _ [] (by simpa using bT)
  clear hwF hsF bX oT HBL
  generalize hT : ((⟨nv, r.tx, r.prev, r.kind, r.oid, r.bf, r.af, r.next, r.txs, r.aL, r.cL⟩) : RecA) = TT at *
  clear hT
  go_wp2_with (first | (guard_target = wpList _ _ _ (Oper.mk (some 63) _ _ _ _ _ :: _) _ _; refine wpList_load_mid rfl 42 (.tmp 3) rfl w.heap.size 0 rfl TT.cells _ rT Tryz.underlying42 rfl (rec_info _) ?_) | (guard_target = wpList _ _ _ (Oper.mk none (Op.store _ (Operand.tmp 4) _) _ _ _ _ :: _) _ _; refine wpList_store_mid rfl 42 (.tmp 4) (.tmp 63) rfl (w.heap.size + 1) 0 TT.cells.toArray rfl rfl HTF.out (by rw [List.size_toArray]; exact rec_info _) (rec_one _) ?_) | fail)
  rw [hWF.out]
  exact bodyPost_ret (v := .agg TT.cells.toArray) (results_one Tryz.results48 rfl HLF.out) rfl HF.out
 case neg =>
 by_cases q1 : x = 1
 case pos =>
  have t1_ : ((x : Int) == 1) = true := by simp; omega
  have f0_ : ((x : Int) == 0) = false := by simp; omega
  clear q0 q1
  obtain ⟨v2, hv2, bI, hbv2, ev2⟩ := boxes1 v1 [.int .i64 (0), .int .i64 (1000), .int .i64 (1001)] 3
  have lIv2 := bI.lt
  clear ev2
  go_wp2_with fail
  rw [hv2.out]
  clear hv2
  have sv2 := hbv2.size
  replace hc := hc.below hbv2
  replace bR := bR.below hbv2 bR.lt
  replace bX := bX.below hbv2 bX.lt
  replace ho := ho.below hbv2
  replace HW := HW.trans (Within.of_below hbv2)
  clear hbv2
  refine (l1Int_any B zs (some ⟨v1.heap.size, 0, none⟩) 3 [0, 1000, 1001] v2 hc hl (readsI_box [0, 1000, 1001] bI) (fun b off h => by cases h; omega) (by simp) (by simp)).mono ?_
  clear hc bI
  rintro e v3 ⟨jv3, hjv3, rfl, hc, hgv3⟩
  generalize ([0, 1000, 1001] : List Int).getD jv3 0 = nv at *
  clear hjv3
  have hwv3 := within_cur hgv3
  clear hgv3
  have sv3 := hwv3.size
  replace bR := bR.within hwv3 (by omega)
  replace bX := bX.within hwv3 (by omega)
  replace ho := ho.within hwv3 (by omega)
  replace HW := HW.trans hwv3
  clear hwv3
  have cx1 := bX.cell 1 _ rfl
  have cf1 := bX.frozen 1
  obtain ⟨v4, hv4, bX2, hwv4, ev4⟩ := box_set bX 1 (.int .i64 nv)
  have e1v4 := Nat.le_of_eq ev4
  have e2v4 := Nat.le_of_eq ev4.symm
  clear ev4
  simp only [List.set] at bX2
  replace hc := hc.within hwv4 (by omega)
  replace bR := bR.within hwv4 (by omega)
  replace ho := ho.within hwv4 (by omega)
  replace HW := HW.new hwv4 (by omega)
  clear bX hwv4
  have bX := bX2
  clear bX2
  go_upto_region 16 with fail
  rw [hv4.out]
  clear hv4 cx1 cf1
  have bT : Box v4 w.heap.size (RecA.cells ⟨r.lsn, nv, r.prev, r.kind, r.oid, r.bf, r.af, r.next, r.txs, r.aL, r.cL⟩) 42 := bX
  have HST : Hid (RecA.short ⟨r.lsn, nv, r.prev, r.kind, r.oid, r.bf, r.af, r.next, r.txs, r.aL, r.cL⟩ 12) := ⟨by have := HSH.out.bf; show r.bf.v.o.ints.length ≤ 12 ∧ r.bf.v.o.refs.length ≤ 12; omega, by have := HSH.out.af; show r.af.v.o.ints.length ≤ 12 ∧ r.af.v.o.refs.length ≤ 12; omega, by have := HSH.out.txs; show r.txs.length ≤ 12; omega⟩
  obtain ⟨WF, hWF, hwF, hsF, HTF, HLF, _⟩ := rec_out ⟨r.lsn, nv, r.prev, r.kind, r.oid, r.bf, r.af, r.next, r.txs, r.aL, r.cL⟩ _ rfl bR
  have oT : RecA.own WF lo WF.heap.size ⟨r.lsn, nv, r.prev, r.kind, r.oid, r.bf, r.af, r.next, r.txs, r.aL, r.cL⟩ := (⟨OwnO.widen (OwnO.within ho.bf hwF (by omega)) (Nat.le_refl _) (by omega) (Nat.le_refl _), OwnO.widen (OwnO.within ho.af hwF (by omega)) (Nat.le_refl _) (by omega) (Nat.le_refl _), (ho.txs.within hwF (by omega)).widen (Nat.le_refl _) (by omega) (Nat.le_refl _), ho.apart⟩)
  have HBL : Hid (∀ k ∈ RecA.blocks ⟨r.lsn, nv, r.prev, r.kind, r.oid, r.bf, r.af, r.next, r.txs, r.aL, r.cL⟩, k < hi ∨ w.heap.size ≤ k) := fun k hk => .inl (ho.blocks_lt k hk).2
  have HF : Hid (BentAt lo hi w WF B zs (.returned (.agg (RecA.cells ⟨r.lsn, nv, r.prev, r.kind, r.oid, r.bf, r.af, r.next, r.txs, r.aL, r.cL⟩).toArray))) := ⟨_, rfl, HST.out, oT, HBL.out, hc.within hwF (by omega), HW.new hwF (by omega)⟩
  have rT : v4.rangeAt w.heap.size 0 (RecA.cells ⟨r.lsn, nv, r.prev, r.kind, r.oid, r.bf, r.af, r.next, r.txs, r.aL, r.cL⟩) := Box.range [] _ [] (by simpa using bT)
  clear hwF hsF bX oT HBL
  generalize hT : ((⟨r.lsn, nv, r.prev, r.kind, r.oid, r.bf, r.af, r.next, r.txs, r.aL, r.cL⟩) : RecA) = TT at *
  clear hT
  go_wp2_with (first | (guard_target = wpList _ _ _ (Oper.mk (some 63) _ _ _ _ _ :: _) _ _; refine wpList_load_mid rfl 42 (.tmp 3) rfl w.heap.size 0 rfl TT.cells _ rT Tryz.underlying42 rfl (rec_info _) ?_) | (guard_target = wpList _ _ _ (Oper.mk none (Op.store _ (Operand.tmp 4) _) _ _ _ _ :: _) _ _; refine wpList_store_mid rfl 42 (.tmp 4) (.tmp 63) rfl (w.heap.size + 1) 0 TT.cells.toArray rfl rfl HTF.out (by rw [List.size_toArray]; exact rec_info _) (rec_one _) ?_) | fail)
  rw [hWF.out]
  exact bodyPost_ret (v := .agg TT.cells.toArray) (results_one Tryz.results48 rfl HLF.out) rfl HF.out
 case neg =>
 by_cases q2 : x = 2
 case pos =>
  have t2_ : ((x : Int) == 2) = true := by simp; omega
  have f0_ : ((x : Int) == 0) = false := by simp; omega
  have f1_ : ((x : Int) == 1) = false := by simp; omega
  clear q0 q1 q2
  have k0 := bX.cell 0 _ rfl
  obtain ⟨v2, hv2, bI, hbv2, ev2⟩ := boxes1 v1 [.int .i64 (-1), .int .i64 (r.lsn), .int .i64 (0)] 3
  have lIv2 := bI.lt
  clear ev2
  go_wp2_with fail
  rw [hv2.out]
  clear hv2
  have sv2 := hbv2.size
  replace hc := hc.below hbv2
  replace bR := bR.below hbv2 bR.lt
  replace bX := bX.below hbv2 bX.lt
  replace ho := ho.below hbv2
  replace HW := HW.trans (Within.of_below hbv2)
  clear hbv2
  refine (l1Int_any B zs (some ⟨v1.heap.size, 0, none⟩) 3 [-1, r.lsn, 0] v2 hc hl (readsI_box [-1, r.lsn, 0] bI) (fun b off h => by cases h; omega) (by simp) (by simp)).mono ?_
  clear hc bI
  rintro e v3 ⟨jv3, hjv3, rfl, hc, hgv3⟩
  generalize ([-1, r.lsn, 0] : List Int).getD jv3 0 = nv at *
  clear hjv3
  have hwv3 := within_cur hgv3
  clear hgv3
  have sv3 := hwv3.size
  replace bR := bR.within hwv3 (by omega)
  replace bX := bX.within hwv3 (by omega)
  replace ho := ho.within hwv3 (by omega)
  replace HW := HW.trans hwv3
  clear hwv3
  clear k0
  have cx2 := bX.cell 2 _ rfl
  have cf2 := bX.frozen 2
  obtain ⟨v4, hv4, bX2, hwv4, ev4⟩ := box_set bX 2 (.int .i64 nv)
  have e1v4 := Nat.le_of_eq ev4
  have e2v4 := Nat.le_of_eq ev4.symm
  clear ev4
  simp only [List.set] at bX2
  replace hc := hc.within hwv4 (by omega)
  replace bR := bR.within hwv4 (by omega)
  replace ho := ho.within hwv4 (by omega)
  replace HW := HW.new hwv4 (by omega)
  clear bX hwv4
  have bX := bX2
  clear bX2
  go_upto_region 16 with fail
  rw [hv4.out]
  clear hv4 cx2 cf2
  have bT : Box v4 w.heap.size (RecA.cells ⟨r.lsn, r.tx, nv, r.kind, r.oid, r.bf, r.af, r.next, r.txs, r.aL, r.cL⟩) 42 := bX
  have HST : Hid (RecA.short ⟨r.lsn, r.tx, nv, r.kind, r.oid, r.bf, r.af, r.next, r.txs, r.aL, r.cL⟩ 12) := ⟨by have := HSH.out.bf; show r.bf.v.o.ints.length ≤ 12 ∧ r.bf.v.o.refs.length ≤ 12; omega, by have := HSH.out.af; show r.af.v.o.ints.length ≤ 12 ∧ r.af.v.o.refs.length ≤ 12; omega, by have := HSH.out.txs; show r.txs.length ≤ 12; omega⟩
  obtain ⟨WF, hWF, hwF, hsF, HTF, HLF, _⟩ := rec_out ⟨r.lsn, r.tx, nv, r.kind, r.oid, r.bf, r.af, r.next, r.txs, r.aL, r.cL⟩ _ rfl bR
  have oT : RecA.own WF lo WF.heap.size ⟨r.lsn, r.tx, nv, r.kind, r.oid, r.bf, r.af, r.next, r.txs, r.aL, r.cL⟩ := (⟨OwnO.widen (OwnO.within ho.bf hwF (by omega)) (Nat.le_refl _) (by omega) (Nat.le_refl _), OwnO.widen (OwnO.within ho.af hwF (by omega)) (Nat.le_refl _) (by omega) (Nat.le_refl _), (ho.txs.within hwF (by omega)).widen (Nat.le_refl _) (by omega) (Nat.le_refl _), ho.apart⟩)
  have HBL : Hid (∀ k ∈ RecA.blocks ⟨r.lsn, r.tx, nv, r.kind, r.oid, r.bf, r.af, r.next, r.txs, r.aL, r.cL⟩, k < hi ∨ w.heap.size ≤ k) := fun k hk => .inl (ho.blocks_lt k hk).2
  have HF : Hid (BentAt lo hi w WF B zs (.returned (.agg (RecA.cells ⟨r.lsn, r.tx, nv, r.kind, r.oid, r.bf, r.af, r.next, r.txs, r.aL, r.cL⟩).toArray))) := ⟨_, rfl, HST.out, oT, HBL.out, hc.within hwF (by omega), HW.new hwF (by omega)⟩
  have rT : v4.rangeAt w.heap.size 0 (RecA.cells ⟨r.lsn, r.tx, nv, r.kind, r.oid, r.bf, r.af, r.next, r.txs, r.aL, r.cL⟩) := Box.range [] _ [] (by simpa using bT)
  clear hwF hsF bX oT HBL
  generalize hT : ((⟨r.lsn, r.tx, nv, r.kind, r.oid, r.bf, r.af, r.next, r.txs, r.aL, r.cL⟩) : RecA) = TT at *
  clear hT
  go_wp2_with (first | (guard_target = wpList _ _ _ (Oper.mk (some 63) _ _ _ _ _ :: _) _ _; refine wpList_load_mid rfl 42 (.tmp 3) rfl w.heap.size 0 rfl TT.cells _ rT Tryz.underlying42 rfl (rec_info _) ?_) | (guard_target = wpList _ _ _ (Oper.mk none (Op.store _ (Operand.tmp 4) _) _ _ _ _ :: _) _ _; refine wpList_store_mid rfl 42 (.tmp 4) (.tmp 63) rfl (w.heap.size + 1) 0 TT.cells.toArray rfl rfl HTF.out (by rw [List.size_toArray]; exact rec_info _) (rec_one _) ?_) | fail)
  rw [hWF.out]
  exact bodyPost_ret (v := .agg TT.cells.toArray) (results_one Tryz.results48 rfl HLF.out) rfl HF.out
 case neg =>
 by_cases q3 : x = 3
 case pos =>
  have t3_ : ((x : Int) == 3) = true := by simp; omega
  have f0_ : ((x : Int) == 0) = false := by simp; omega
  have f1_ : ((x : Int) == 1) = false := by simp; omega
  have f2_ : ((x : Int) == 2) = false := by simp; omega
  clear q0 q1 q2 q3
  obtain ⟨v2, hv2, bI, hbv2, ev2⟩ := boxes1 v1 [.int .i64 (0), .int .i64 (7), .int .i64 (1), .int .i64 (4)] 3
  have lIv2 := bI.lt
  clear ev2
  go_wp2_with fail
  rw [hv2.out]
  clear hv2
  have sv2 := hbv2.size
  replace hc := hc.below hbv2
  replace bR := bR.below hbv2 bR.lt
  replace bX := bX.below hbv2 bX.lt
  replace ho := ho.below hbv2
  replace HW := HW.trans (Within.of_below hbv2)
  clear hbv2
  refine (l1Int_any B zs (some ⟨v1.heap.size, 0, none⟩) 4 [0, 7, 1, 4] v2 hc hl (readsI_box [0, 7, 1, 4] bI) (fun b off h => by cases h; omega) (by simp) (by simp)).mono ?_
  clear hc bI
  rintro e v3 ⟨jv3, hjv3, rfl, hc, hgv3⟩
  generalize ([0, 7, 1, 4] : List Int).getD jv3 0 = nv at *
  clear hjv3
  have hwv3 := within_cur hgv3
  clear hgv3
  have sv3 := hwv3.size
  replace bR := bR.within hwv3 (by omega)
  replace bX := bX.within hwv3 (by omega)
  replace ho := ho.within hwv3 (by omega)
  replace HW := HW.trans hwv3
  clear hwv3
  have cx3 := bX.cell 3 _ rfl
  have cf3 := bX.frozen 3
  obtain ⟨v4, hv4, bX2, hwv4, ev4⟩ := box_set bX 3 (.int .i64 nv)
  have e1v4 := Nat.le_of_eq ev4
  have e2v4 := Nat.le_of_eq ev4.symm
  clear ev4
  simp only [List.set] at bX2
  replace hc := hc.within hwv4 (by omega)
  replace bR := bR.within hwv4 (by omega)
  replace ho := ho.within hwv4 (by omega)
  replace HW := HW.new hwv4 (by omega)
  clear bX hwv4
  have bX := bX2
  clear bX2
  go_upto_region 16 with fail
  rw [hv4.out]
  clear hv4 cx3 cf3
  have bT : Box v4 w.heap.size (RecA.cells ⟨r.lsn, r.tx, r.prev, nv, r.oid, r.bf, r.af, r.next, r.txs, r.aL, r.cL⟩) 42 := bX
  have HST : Hid (RecA.short ⟨r.lsn, r.tx, r.prev, nv, r.oid, r.bf, r.af, r.next, r.txs, r.aL, r.cL⟩ 12) := ⟨by have := HSH.out.bf; show r.bf.v.o.ints.length ≤ 12 ∧ r.bf.v.o.refs.length ≤ 12; omega, by have := HSH.out.af; show r.af.v.o.ints.length ≤ 12 ∧ r.af.v.o.refs.length ≤ 12; omega, by have := HSH.out.txs; show r.txs.length ≤ 12; omega⟩
  obtain ⟨WF, hWF, hwF, hsF, HTF, HLF, _⟩ := rec_out ⟨r.lsn, r.tx, r.prev, nv, r.oid, r.bf, r.af, r.next, r.txs, r.aL, r.cL⟩ _ rfl bR
  have oT : RecA.own WF lo WF.heap.size ⟨r.lsn, r.tx, r.prev, nv, r.oid, r.bf, r.af, r.next, r.txs, r.aL, r.cL⟩ := (⟨OwnO.widen (OwnO.within ho.bf hwF (by omega)) (Nat.le_refl _) (by omega) (Nat.le_refl _), OwnO.widen (OwnO.within ho.af hwF (by omega)) (Nat.le_refl _) (by omega) (Nat.le_refl _), (ho.txs.within hwF (by omega)).widen (Nat.le_refl _) (by omega) (Nat.le_refl _), ho.apart⟩)
  have HBL : Hid (∀ k ∈ RecA.blocks ⟨r.lsn, r.tx, r.prev, nv, r.oid, r.bf, r.af, r.next, r.txs, r.aL, r.cL⟩, k < hi ∨ w.heap.size ≤ k) := fun k hk => .inl (ho.blocks_lt k hk).2
  have HF : Hid (BentAt lo hi w WF B zs (.returned (.agg (RecA.cells ⟨r.lsn, r.tx, r.prev, nv, r.oid, r.bf, r.af, r.next, r.txs, r.aL, r.cL⟩).toArray))) := ⟨_, rfl, HST.out, oT, HBL.out, hc.within hwF (by omega), HW.new hwF (by omega)⟩
  have rT : v4.rangeAt w.heap.size 0 (RecA.cells ⟨r.lsn, r.tx, r.prev, nv, r.oid, r.bf, r.af, r.next, r.txs, r.aL, r.cL⟩) := Box.range [] _ [] (by simpa using bT)
  clear hwF hsF bX oT HBL
  generalize hT : ((⟨r.lsn, r.tx, r.prev, nv, r.oid, r.bf, r.af, r.next, r.txs, r.aL, r.cL⟩) : RecA) = TT at *
  clear hT
  go_wp2_with (first | (guard_target = wpList _ _ _ (Oper.mk (some 63) _ _ _ _ _ :: _) _ _; refine wpList_load_mid rfl 42 (.tmp 3) rfl w.heap.size 0 rfl TT.cells _ rT Tryz.underlying42 rfl (rec_info _) ?_) | (guard_target = wpList _ _ _ (Oper.mk none (Op.store _ (Operand.tmp 4) _) _ _ _ _ :: _) _ _; refine wpList_store_mid rfl 42 (.tmp 4) (.tmp 63) rfl (w.heap.size + 1) 0 TT.cells.toArray rfl rfl HTF.out (by rw [List.size_toArray]; exact rec_info _) (rec_one _) ?_) | fail)
  rw [hWF.out]
  exact bodyPost_ret (v := .agg TT.cells.toArray) (results_one Tryz.results48 rfl HLF.out) rfl HF.out
 case neg =>
 by_cases q4 : x = 4
 case pos =>
  have t4_ : ((x : Int) == 4) = true := by simp; omega
  have f0_ : ((x : Int) == 0) = false := by simp; omega
  have f1_ : ((x : Int) == 1) = false := by simp; omega
  have f2_ : ((x : Int) == 2) = false := by simp; omega
  have f3_ : ((x : Int) == 3) = false := by simp; omega
  clear q0 q1 q2 q3 q4
  obtain ⟨v2, hv2, bI, hbv2, ev2⟩ := boxes1 v1 [.int .i64 (0), .int .i64 (31), .int .i64 (32)] 3
  have lIv2 := bI.lt
  clear ev2
  go_wp2_with fail
  rw [hv2.out]
  clear hv2
  have sv2 := hbv2.size
  replace hc := hc.below hbv2
  replace bR := bR.below hbv2 bR.lt
  replace bX := bX.below hbv2 bX.lt
  replace ho := ho.below hbv2
  replace HW := HW.trans (Within.of_below hbv2)
  clear hbv2
  refine (l1Int_any B zs (some ⟨v1.heap.size, 0, none⟩) 3 [0, 31, 32] v2 hc hl (readsI_box [0, 31, 32] bI) (fun b off h => by cases h; omega) (by simp) (by simp)).mono ?_
  clear hc bI
  rintro e v3 ⟨jv3, hjv3, rfl, hc, hgv3⟩
  generalize ([0, 31, 32] : List Int).getD jv3 0 = nv at *
  clear hjv3
  have hwv3 := within_cur hgv3
  clear hgv3
  have sv3 := hwv3.size
  replace bR := bR.within hwv3 (by omega)
  replace bX := bX.within hwv3 (by omega)
  replace ho := ho.within hwv3 (by omega)
  replace HW := HW.trans hwv3
  clear hwv3
  have cx4 := bX.cell 4 _ rfl
  have cf4 := bX.frozen 4
  obtain ⟨v4, hv4, bX2, hwv4, ev4⟩ := box_set bX 4 (.int .i64 nv)
  have e1v4 := Nat.le_of_eq ev4
  have e2v4 := Nat.le_of_eq ev4.symm
  clear ev4
  simp only [List.set] at bX2
  replace hc := hc.within hwv4 (by omega)
  replace bR := bR.within hwv4 (by omega)
  replace ho := ho.within hwv4 (by omega)
  replace HW := HW.new hwv4 (by omega)
  clear bX hwv4
  have bX := bX2
  clear bX2
  go_upto_region 16 with fail
  rw [hv4.out]
  clear hv4 cx4 cf4
  have bT : Box v4 w.heap.size (RecA.cells ⟨r.lsn, r.tx, r.prev, r.kind, nv, r.bf, r.af, r.next, r.txs, r.aL, r.cL⟩) 42 := bX
  have HST : Hid (RecA.short ⟨r.lsn, r.tx, r.prev, r.kind, nv, r.bf, r.af, r.next, r.txs, r.aL, r.cL⟩ 12) := ⟨by have := HSH.out.bf; show r.bf.v.o.ints.length ≤ 12 ∧ r.bf.v.o.refs.length ≤ 12; omega, by have := HSH.out.af; show r.af.v.o.ints.length ≤ 12 ∧ r.af.v.o.refs.length ≤ 12; omega, by have := HSH.out.txs; show r.txs.length ≤ 12; omega⟩
  obtain ⟨WF, hWF, hwF, hsF, HTF, HLF, _⟩ := rec_out ⟨r.lsn, r.tx, r.prev, r.kind, nv, r.bf, r.af, r.next, r.txs, r.aL, r.cL⟩ _ rfl bR
  have oT : RecA.own WF lo WF.heap.size ⟨r.lsn, r.tx, r.prev, r.kind, nv, r.bf, r.af, r.next, r.txs, r.aL, r.cL⟩ := (⟨OwnO.widen (OwnO.within ho.bf hwF (by omega)) (Nat.le_refl _) (by omega) (Nat.le_refl _), OwnO.widen (OwnO.within ho.af hwF (by omega)) (Nat.le_refl _) (by omega) (Nat.le_refl _), (ho.txs.within hwF (by omega)).widen (Nat.le_refl _) (by omega) (Nat.le_refl _), ho.apart⟩)
  have HBL : Hid (∀ k ∈ RecA.blocks ⟨r.lsn, r.tx, r.prev, r.kind, nv, r.bf, r.af, r.next, r.txs, r.aL, r.cL⟩, k < hi ∨ w.heap.size ≤ k) := fun k hk => .inl (ho.blocks_lt k hk).2
  have HF : Hid (BentAt lo hi w WF B zs (.returned (.agg (RecA.cells ⟨r.lsn, r.tx, r.prev, r.kind, nv, r.bf, r.af, r.next, r.txs, r.aL, r.cL⟩).toArray))) := ⟨_, rfl, HST.out, oT, HBL.out, hc.within hwF (by omega), HW.new hwF (by omega)⟩
  have rT : v4.rangeAt w.heap.size 0 (RecA.cells ⟨r.lsn, r.tx, r.prev, r.kind, nv, r.bf, r.af, r.next, r.txs, r.aL, r.cL⟩) := Box.range [] _ [] (by simpa using bT)
  clear hwF hsF bX oT HBL
  generalize hT : ((⟨r.lsn, r.tx, r.prev, r.kind, nv, r.bf, r.af, r.next, r.txs, r.aL, r.cL⟩) : RecA) = TT at *
  clear hT
  go_wp2_with (first | (guard_target = wpList _ _ _ (Oper.mk (some 63) _ _ _ _ _ :: _) _ _; refine wpList_load_mid rfl 42 (.tmp 3) rfl w.heap.size 0 rfl TT.cells _ rT Tryz.underlying42 rfl (rec_info _) ?_) | (guard_target = wpList _ _ _ (Oper.mk none (Op.store _ (Operand.tmp 4) _) _ _ _ _ :: _) _ _; refine wpList_store_mid rfl 42 (.tmp 4) (.tmp 63) rfl (w.heap.size + 1) 0 TT.cells.toArray rfl rfl HTF.out (by rw [List.size_toArray]; exact rec_info _) (rec_one _) ?_) | fail)
  rw [hWF.out]
  exact bodyPost_ret (v := .agg TT.cells.toArray) (results_one Tryz.results48 rfl HLF.out) rfl HF.out
 case neg =>
 by_cases q5 : x = 5
 case pos =>
  have t5_ : ((x : Int) == 5) = true := by simp; omega
  have f0_ : ((x : Int) == 0) = false := by simp; omega
  have f1_ : ((x : Int) == 1) = false := by simp; omega
  have f2_ : ((x : Int) == 2) = false := by simp; omega
  have f3_ : ((x : Int) == 3) = false := by simp; omega
  have f4_ : ((x : Int) == 4) = false := by simp; omega
  clear q0 q1 q2 q3 q4 q5
  have k0 := bX.cell 0 _ rfl
  obtain ⟨v2, hv2, bI, hbv2, ev2⟩ := boxes1 v1 [.int .i64 (1), .int .i64 (-1), .int .i64 (r.lsn)] 3
  have lIv2 := bI.lt
  clear ev2
  go_wp2_with fail
  rw [hv2.out]
  clear hv2
  have sv2 := hbv2.size
  replace hc := hc.below hbv2
  replace bR := bR.below hbv2 bR.lt
  replace bX := bX.below hbv2 bX.lt
  replace ho := ho.below hbv2
  replace HW := HW.trans (Within.of_below hbv2)
  clear hbv2
  refine (l1Int_any B zs (some ⟨v1.heap.size, 0, none⟩) 3 [1, -1, r.lsn] v2 hc hl (readsI_box [1, -1, r.lsn] bI) (fun b off h => by cases h; omega) (by simp) (by simp)).mono ?_
  clear hc bI
  rintro e v3 ⟨jv3, hjv3, rfl, hc, hgv3⟩
  generalize ([1, -1, r.lsn] : List Int).getD jv3 0 = nv at *
  clear hjv3
  have hwv3 := within_cur hgv3
  clear hgv3
  have sv3 := hwv3.size
  replace bR := bR.within hwv3 (by omega)
  replace bX := bX.within hwv3 (by omega)
  replace ho := ho.within hwv3 (by omega)
  replace HW := HW.trans hwv3
  clear hwv3
  clear k0
  have cx13 := bX.cell 13 _ rfl
  have cf13 := bX.frozen 13
  obtain ⟨v4, hv4, bX2, hwv4, ev4⟩ := box_set bX 13 (.int .i64 nv)
  have e1v4 := Nat.le_of_eq ev4
  have e2v4 := Nat.le_of_eq ev4.symm
  clear ev4
  simp only [List.set] at bX2
  replace hc := hc.within hwv4 (by omega)
  replace bR := bR.within hwv4 (by omega)
  replace ho := ho.within hwv4 (by omega)
  replace HW := HW.new hwv4 (by omega)
  clear bX hwv4
  have bX := bX2
  clear bX2
  go_upto_region 16 with fail
  rw [hv4.out]
  clear hv4 cx13 cf13
  have bT : Box v4 w.heap.size (RecA.cells ⟨r.lsn, r.tx, r.prev, r.kind, r.oid, r.bf, r.af, nv, r.txs, r.aL, r.cL⟩) 42 := bX
  have HST : Hid (RecA.short ⟨r.lsn, r.tx, r.prev, r.kind, r.oid, r.bf, r.af, nv, r.txs, r.aL, r.cL⟩ 12) := ⟨by have := HSH.out.bf; show r.bf.v.o.ints.length ≤ 12 ∧ r.bf.v.o.refs.length ≤ 12; omega, by have := HSH.out.af; show r.af.v.o.ints.length ≤ 12 ∧ r.af.v.o.refs.length ≤ 12; omega, by have := HSH.out.txs; show r.txs.length ≤ 12; omega⟩
  obtain ⟨WF, hWF, hwF, hsF, HTF, HLF, _⟩ := rec_out ⟨r.lsn, r.tx, r.prev, r.kind, r.oid, r.bf, r.af, nv, r.txs, r.aL, r.cL⟩ _ rfl bR
  have oT : RecA.own WF lo WF.heap.size ⟨r.lsn, r.tx, r.prev, r.kind, r.oid, r.bf, r.af, nv, r.txs, r.aL, r.cL⟩ := (⟨OwnO.widen (OwnO.within ho.bf hwF (by omega)) (Nat.le_refl _) (by omega) (Nat.le_refl _), OwnO.widen (OwnO.within ho.af hwF (by omega)) (Nat.le_refl _) (by omega) (Nat.le_refl _), (ho.txs.within hwF (by omega)).widen (Nat.le_refl _) (by omega) (Nat.le_refl _), ho.apart⟩)
  have HBL : Hid (∀ k ∈ RecA.blocks ⟨r.lsn, r.tx, r.prev, r.kind, r.oid, r.bf, r.af, nv, r.txs, r.aL, r.cL⟩, k < hi ∨ w.heap.size ≤ k) := fun k hk => .inl (ho.blocks_lt k hk).2
  have HF : Hid (BentAt lo hi w WF B zs (.returned (.agg (RecA.cells ⟨r.lsn, r.tx, r.prev, r.kind, r.oid, r.bf, r.af, nv, r.txs, r.aL, r.cL⟩).toArray))) := ⟨_, rfl, HST.out, oT, HBL.out, hc.within hwF (by omega), HW.new hwF (by omega)⟩
  have rT : v4.rangeAt w.heap.size 0 (RecA.cells ⟨r.lsn, r.tx, r.prev, r.kind, r.oid, r.bf, r.af, nv, r.txs, r.aL, r.cL⟩) := Box.range [] _ [] (by simpa using bT)
  clear hwF hsF bX oT HBL
  generalize hT : ((⟨r.lsn, r.tx, r.prev, r.kind, r.oid, r.bf, r.af, nv, r.txs, r.aL, r.cL⟩) : RecA) = TT at *
  clear hT
  go_wp2_with (first | (guard_target = wpList _ _ _ (Oper.mk (some 63) _ _ _ _ _ :: _) _ _; refine wpList_load_mid rfl 42 (.tmp 3) rfl w.heap.size 0 rfl TT.cells _ rT Tryz.underlying42 rfl (rec_info _) ?_) | (guard_target = wpList _ _ _ (Oper.mk none (Op.store _ (Operand.tmp 4) _) _ _ _ _ :: _) _ _; refine wpList_store_mid rfl 42 (.tmp 4) (.tmp 63) rfl (w.heap.size + 1) 0 TT.cells.toArray rfl rfl HTF.out (by rw [List.size_toArray]; exact rec_info _) (rec_one _) ?_) | fail)
  rw [hWF.out]
  exact bodyPost_ret (v := .agg TT.cells.toArray) (results_one Tryz.results48 rfl HLF.out) rfl HF.out
 case neg =>
 by_cases q6 : x = 6
 case neg =>
  have f0_ : ((x : Int) == 0) = false := by simp; omega
  have f1_ : ((x : Int) == 1) = false := by simp; omega
  have f2_ : ((x : Int) == 2) = false := by simp; omega
  have f3_ : ((x : Int) == 3) = false := by simp; omega
  have f4_ : ((x : Int) == 4) = false := by simp; omega
  have f5_ : ((x : Int) == 5) = false := by simp; omega
  have f6_ : ((x : Int) == 6) = false := by simp; omega
  clear q0 q1 q2 q3 q4 q5 q6
  go_upto_region 16 with fail
  have bT : Box v1 w.heap.size (RecA.cells ⟨r.lsn, r.tx, r.prev, r.kind, r.oid, r.bf, r.af, r.next, r.txs, r.aL, r.cL⟩) 42 := bX
  have HST : Hid (RecA.short ⟨r.lsn, r.tx, r.prev, r.kind, r.oid, r.bf, r.af, r.next, r.txs, r.aL, r.cL⟩ 12) := ⟨by have := HSH.out.bf; show r.bf.v.o.ints.length ≤ 12 ∧ r.bf.v.o.refs.length ≤ 12; omega, by have := HSH.out.af; show r.af.v.o.ints.length ≤ 12 ∧ r.af.v.o.refs.length ≤ 12; omega, by have := HSH.out.txs; show r.txs.length ≤ 12; omega⟩
  obtain ⟨WF, hWF, hwF, hsF, HTF, HLF, _⟩ := rec_out ⟨r.lsn, r.tx, r.prev, r.kind, r.oid, r.bf, r.af, r.next, r.txs, r.aL, r.cL⟩ _ rfl bR
  have oT : RecA.own WF lo WF.heap.size ⟨r.lsn, r.tx, r.prev, r.kind, r.oid, r.bf, r.af, r.next, r.txs, r.aL, r.cL⟩ := (⟨OwnO.widen (OwnO.within ho.bf hwF (by omega)) (Nat.le_refl _) (by omega) (Nat.le_refl _), OwnO.widen (OwnO.within ho.af hwF (by omega)) (Nat.le_refl _) (by omega) (Nat.le_refl _), (ho.txs.within hwF (by omega)).widen (Nat.le_refl _) (by omega) (Nat.le_refl _), ho.apart⟩)
  have HBL : Hid (∀ k ∈ RecA.blocks ⟨r.lsn, r.tx, r.prev, r.kind, r.oid, r.bf, r.af, r.next, r.txs, r.aL, r.cL⟩, k < hi ∨ w.heap.size ≤ k) := fun k hk => .inl (ho.blocks_lt k hk).2
  have HF : Hid (BentAt lo hi w WF B zs (.returned (.agg (RecA.cells ⟨r.lsn, r.tx, r.prev, r.kind, r.oid, r.bf, r.af, r.next, r.txs, r.aL, r.cL⟩).toArray))) := ⟨_, rfl, HST.out, oT, HBL.out, hc.within hwF (by omega), HW.new hwF (by omega)⟩
  have rT : v1.rangeAt w.heap.size 0 (RecA.cells ⟨r.lsn, r.tx, r.prev, r.kind, r.oid, r.bf, r.af, r.next, r.txs, r.aL, r.cL⟩) := Box.range [] _ [] (by simpa using bT)
  clear hwF hsF bX oT HBL
  generalize hT : ((⟨r.lsn, r.tx, r.prev, r.kind, r.oid, r.bf, r.af, r.next, r.txs, r.aL, r.cL⟩) : RecA) = TT at *
  clear hT
  go_wp2_with (first | (guard_target = wpList _ _ _ (Oper.mk (some 63) _ _ _ _ _ :: _) _ _; refine wpList_load_mid rfl 42 (.tmp 3) rfl w.heap.size 0 rfl TT.cells _ rT Tryz.underlying42 rfl (rec_info _) ?_) | (guard_target = wpList _ _ _ (Oper.mk none (Op.store _ (Operand.tmp 4) _) _ _ _ _ :: _) _ _; refine wpList_store_mid rfl 42 (.tmp 4) (.tmp 63) rfl (w.heap.size + 1) 0 TT.cells.toArray rfl rfl HTF.out (by rw [List.size_toArray]; exact rec_info _) (rec_one _) ?_) | fail)
  rw [hWF.out]
  exact bodyPost_ret (v := .agg TT.cells.toArray) (results_one Tryz.results48 rfl HLF.out) rfl HF.out
 case pos =>
  have t6_ : ((x : Int) == 6) = true := by simp; omega
  have f0_ : ((x : Int) == 0) = false := by simp; omega
  have f1_ : ((x : Int) == 1) = false := by simp; omega
  have f2_ : ((x : Int) == 2) = false := by simp; omega
  have f3_ : ((x : Int) == 3) = false := by simp; omega
  have f4_ : ((x : Int) == 4) = false := by simp; omega
  have f5_ : ((x : Int) == 5) = false := by simp; omega
  clear q0 q1 q2 q3 q4 q5 q6
  obtain ⟨v2, hv2, bE, hbv2, ev2⟩ := boxes1 v1 [] 62
  clear ev2
  have lE := bE.lt
  have oE : OwnL v2 v1.heap.size v2.heap.size (some ⟨v1.heap.size, 0, none⟩) 0 [] := by
   have h1 : OwnL (v1.alloc (.cells #[] 62)) v1.heap.size (v1.alloc (.cells #[] 62)).heap.size (some ⟨v1.heap.size, 0, none⟩) 0 [] := by
    refine ⟨World.ownsRow_lit (size := 3) v1 #[] 0 (Nat.le_refl _) (by simp [maxLen]) rfl, Nat.le_refl _, fun k hk => ?_⟩
    simp [Value.ownBlock] at hk
    try (rw [World.size_alloc]; omega)
   have h2 : v1.alloc (.cells #[] 62) = v2 := hv2.out
   rw [h2] at h1
   exact h1
  have sv2 := hbv2.size
  replace hc := hc.below hbv2
  replace bR := bR.below hbv2 bR.lt
  replace bX := bX.below hbv2 bX.lt
  replace ho := ho.below hbv2
  replace HW := HW.trans (Within.of_below hbv2)
  clear hbv2
  have k14 := bX.cell 14 _ rfl
  have hA1 : ([] : List LiveV).length + r.txs.length ≤ 1099511627776 := by have := HSH.out.txs; simp only [List.length_nil]; omega
  have k14' : (v1.alloc (.cells #[] 62)).cell? ⟨w.heap.size, 14, none⟩ = some (.slice r.aL r.txs.length r.cL) := by have h2 : v1.alloc (.cells #[] 62) = v2 := hv2.out; rw [h2]; exact k14
  have hrt : ReadsL v2 r.aL r.txs := ho.txs.reads
  have hnc := ho.txs.nocap
  go_wp2_with (at_builtin; refine append_lives rfl _ _ rfl v1.heap.size _ (some ⟨v1.heap.size, 0, none⟩) 0 [] rfl (by rw [hv2.out]; exact oE) r.aL r.cL r.txs rfl (by rw [hv2.out]; exact hrt) hnc hA1 (by rw [hv2.out]; omega) ?_)
  intro a9 c9 ys w9 hys o9 g9
  rw [hv2.out] at g9
  have hw9 : Within v1.heap.size v2.heap.size v2 w9 := Within.of_grown g9 (fun j hj => oE.lt j hj)
  have HYS : Hid (ys = r.txs) := hys.out.trans (List.nil_append _)
  clear hys g9 oE hv2 k14 k14' hrt hnc hA1 bE
  have z9 := hw9.size
  replace hc := hc.within hw9 (by omega)
  replace bX := bX.within hw9 (by omega)
  replace bR := bR.within hw9 (by omega)
  replace ho := ho.within hw9 (by omega)
  replace HW := HW.new hw9 (by omega)
  clear hw9
  obtain ⟨v3, hv3, bI, hbv3, ev3⟩ := boxes1 w9 [.int .i64 (1), .int .i64 (9), .int .i64 (0)] 3
  have lIv3 := bI.lt
  clear ev3
  go_wp2_with fail
  rw [hv3.out]
  clear hv3
  have sv3 := hbv3.size
  replace hc := hc.below hbv3
  replace bR := bR.below hbv3 bR.lt
  replace bX := bX.below hbv3 bX.lt
  replace ho := ho.below hbv3
  replace o9 := o9.below hbv3
  replace HW := HW.trans (Within.of_below hbv3)
  clear hbv3
  refine (l1Int_any B zs (some ⟨w9.heap.size, 0, none⟩) 3 [1, 9, 0] v3 hc hl (readsI_box [1, 9, 0] bI) (fun b off h => by cases h; omega) (by simp) (by simp)).mono ?_
  clear hc bI
  rintro e v4 ⟨jv4, hjv4, rfl, hc, hgv4⟩
  generalize ([1, 9, 0] : List Int).getD jv4 0 = na at *
  clear hjv4
  have hwv4 := within_cur hgv4
  clear hgv4
  have sv4 := hwv4.size
  replace bR := bR.within hwv4 (by omega)
  replace bX := bX.within hwv4 (by omega)
  replace ho := ho.within hwv4 (by omega)
  replace o9 := o9.within hwv4 (by omega)
  replace HW := HW.trans hwv4
  clear hwv4
  obtain ⟨v5, hv5, bI, hbv5, ev5⟩ := boxes1 v4 [.int .i64 (0), .int .i64 (1), .int .i64 (99)] 3
  have lIv5 := bI.lt
  clear ev5
  go_wp2_with fail
  rw [hv5.out]
  clear hv5
  have sv5 := hbv5.size
  replace hc := hc.below hbv5
  replace bR := bR.below hbv5 bR.lt
  replace bX := bX.below hbv5 bX.lt
  replace ho := ho.below hbv5
  replace o9 := o9.below hbv5
  replace HW := HW.trans (Within.of_below hbv5)
  clear hbv5
  refine (l1Int_any B zs (some ⟨v4.heap.size, 0, none⟩) 3 [0, 1, 99] v5 hc hl (readsI_box [0, 1, 99] bI) (fun b off h => by cases h; omega) (by simp) (by simp)).mono ?_
  clear hc bI
  rintro e v6 ⟨jv6, hjv6, rfl, hc, hgv6⟩
  generalize ([0, 1, 99] : List Int).getD jv6 0 = nb at *
  clear hjv6
  have hwv6 := within_cur hgv6
  clear hgv6
  have sv6 := hwv6.size
  replace bR := bR.within hwv6 (by omega)
  replace bX := bX.within hwv6 (by omega)
  replace ho := ho.within hwv6 (by omega)
  replace o9 := o9.within hwv6 (by omega)
  replace HW := HW.trans hwv6
  clear hwv6
  have hrz := readsL_one v6 ⟨na, nb, false⟩ 62
  simp only at hrz
  have hbA : Below v6.heap.size v6 (v6.alloc (.cells #[.int .i64 na, .int .i64 nb, .bool false] 62)) := (Below.refl _ _).alloc (Nat.le_refl _) _
  have zA := hbA.size
  have oLA := o9.below hbA
  have hA1 : ys.length + ([⟨na, nb, false⟩] : List LiveV).length ≤ 1099511627776 := by have := HSH.out.txs; rw [HYS.out]; simp only [List.length_cons, List.length_nil]; omega
  have hA2 : v1.heap.size ≤ (v6.alloc (.cells #[.int .i64 na, .int .i64 nb, .bool false] 62)).heap.size := by rw [World.size_alloc]; omega
  go_wp2_with (at_builtin; refine append_lives rfl _ _ rfl v1.heap.size _ a9 c9 ys rfl oLA (some ⟨v6.heap.size, 0, none⟩) 1 [⟨na, nb, false⟩] rfl hrz (fun h => by cases h) hA1 hA2 ?_)
  intro a10 c10 y10 w10 hy10 o10 g10
  have hw10 : Within v1.heap.size w9.heap.size (v6.alloc (.cells #[.int .i64 na, .int .i64 nb, .bool false] 62)) w10 := Within.of_grown g10 (fun j hj => oLA.lt j hj)
  have HYL : Hid (y10.length ≤ 11) := by rw [Hid, hy10.out, HYS.out]; have := HSH.out.txs; simp; omega
  clear hy10 g10 oLA hrz hA1 hA2 o9
  have z10 := hw10.size
  replace hc := (hc.below hbA).within hw10 (by omega)
  replace bX := (bX.below hbA bX.lt).within hw10 (by omega)
  replace bR := (bR.below hbA bR.lt).within hw10 (by omega)
  replace ho := (ho.below hbA).within hw10 (by omega)
  replace HW := (HW.trans (Within.of_below hbA)).new hw10 (by omega)
  clear hw10 hbA
  have cx14 := bX.cell 14 _ rfl
  have cf14 := bX.frozen 14
  obtain ⟨v7, hv7, bX2, hwv7, ev7⟩ := box_set bX 14 (.slice a10 y10.length c10)
  have e1v7 := Nat.le_of_eq ev7
  have e2v7 := Nat.le_of_eq ev7.symm
  clear ev7
  simp only [List.set] at bX2
  replace hc := hc.within hwv7 (by omega)
  replace bR := bR.within hwv7 (by omega)
  replace ho := ho.within hwv7 (by omega)
  replace o10 := o10.within hwv7 (by omega)
  replace HW := HW.new hwv7 (by omega)
  clear bX hwv7
  have bX := bX2
  clear bX2
  go_upto_region 16 with fail
  rw [hv7.out]
  clear hv7 cx14 cf14
  have bT : Box v7 w.heap.size (RecA.cells ⟨r.lsn, r.tx, r.prev, r.kind, r.oid, r.bf, r.af, r.next, y10, a10, c10⟩) 42 := bX
  have HST : Hid (RecA.short ⟨r.lsn, r.tx, r.prev, r.kind, r.oid, r.bf, r.af, r.next, y10, a10, c10⟩ 12) := ⟨by have := HSH.out.bf; show r.bf.v.o.ints.length ≤ 12 ∧ r.bf.v.o.refs.length ≤ 12; omega, by have := HSH.out.af; show r.af.v.o.ints.length ≤ 12 ∧ r.af.v.o.refs.length ≤ 12; omega, by have := HYL.out; show y10.length ≤ 12; omega⟩
  obtain ⟨WF, hWF, hwF, hsF, HTF, HLF, _⟩ := rec_out ⟨r.lsn, r.tx, r.prev, r.kind, r.oid, r.bf, r.af, r.next, y10, a10, c10⟩ _ rfl bR
  have oT : RecA.own WF lo WF.heap.size ⟨r.lsn, r.tx, r.prev, r.kind, r.oid, r.bf, r.af, r.next, y10, a10, c10⟩ := (own_fresh (ho.within hwF (by omega)) ((o10.within hwF (by omega)).widen (Nat.le_refl _) (by omega) (Nat.le_refl _)) (by omega) (by omega) (by omega))
  have HBL : Hid (∀ k ∈ RecA.blocks ⟨r.lsn, r.tx, r.prev, r.kind, r.oid, r.bf, r.af, r.next, y10, a10, c10⟩, k < hi ∨ w.heap.size ≤ k) := (by intro k hk; simp only [RecA.blocks, List.mem_append, Option.mem_toList] at hk; rcases hk with h1 | h1 | h1 <;> first | exact .inl (SlotA.blocks_lt ho.bf k h1).2 | exact .inl (SlotA.blocks_lt ho.af k h1).2 | exact .inr (by have := (o10.lt k h1).1; omega))
  have HF : Hid (BentAt lo hi w WF B zs (.returned (.agg (RecA.cells ⟨r.lsn, r.tx, r.prev, r.kind, r.oid, r.bf, r.af, r.next, y10, a10, c10⟩).toArray))) := ⟨_, rfl, HST.out, oT, HBL.out, hc.within hwF (by omega), HW.new hwF (by omega)⟩
  have rT : v7.rangeAt w.heap.size 0 (RecA.cells ⟨r.lsn, r.tx, r.prev, r.kind, r.oid, r.bf, r.af, r.next, y10, a10, c10⟩) := Box.range [] _ [] (by simpa using bT)
  clear hwF hsF bX oT HBL
  generalize hT : ((⟨r.lsn, r.tx, r.prev, r.kind, r.oid, r.bf, r.af, r.next, y10, a10, c10⟩) : RecA) = TT at *
  clear hT
  go_wp2_with (first | (guard_target = wpList _ _ _ (Oper.mk (some 63) _ _ _ _ _ :: _) _ _; refine wpList_load_mid rfl 42 (.tmp 3) rfl w.heap.size 0 rfl TT.cells _ rT Tryz.underlying42 rfl (rec_info _) ?_) | (guard_target = wpList _ _ _ (Oper.mk none (Op.store _ (Operand.tmp 4) _) _ _ _ _ :: _) _ _; refine wpList_store_mid rfl 42 (.tmp 4) (.tmp 63) rfl (w.heap.size + 1) 0 TT.cells.toArray rfl rfl HTF.out (by rw [List.size_toArray]; exact rec_info _) (rec_one _) ?_) | fail)
  rw [hWF.out]
  exact bodyPost_ret (v := .agg TT.cells.toArray) (results_one Tryz.results48 rfl HLF.out) rfl HF.out
end Go.Proofs.YtickiokdcbeefaaGreatDoor
namespace Go.Proofs.YtickiokdcbeefaaGreatDoor
open Go.RowKit
attribute [local go_sem ↓] Go.wp_at_zero Go.wp_at_succ
theorem log_part {e : EngA} (h : e.shape) : e.cells.toArray.extract 138 140 = e.log.cells.toArray := by
 have e1 : e.cells = cellsPs e.disk ++ e.tail := rfl
 have hl := EngA.disk_len h
 apply Array.ext'
 rw [Array.toList_extract]
 show List.extract e.cells 138 140 = _
 rw [List.extract_eq_take_drop, e1, List.drop_append, hl, List.drop_eq_nil_of_le (by omega)]
 rfl
theorem run_log {e : EngA} (h : e.shape) (w : World) : (Instr.field 105 (.agg e.cells.toArray) 2).run Tryz.prog w = .ok (.agg e.log.cells.toArray) w := by
 have hp := log_part h
 generalize e.cells.toArray = cs at *
 have e2 : (Instr.field 105 (.agg cs) 2).run Tryz.prog w = .ok (.agg (cs.extract 138 140)) w := by kernel_rfl
 rw [e2, hp]
theorem own_raise {w : World} {lo lo' hi : Nat} {a : Option Addr} {c : Nat} {rs : List RecA} (h : OwnRs w lo hi a c rs) (hb : ∀ k ∈ blocksRs a c rs, lo' ≤ k) : OwnRs w lo' hi a c rs := by
 refine ⟨ownsRow_base h.row (fun k hk => hb k (List.mem_append.2 (.inl (Option.mem_toList.2 hk)))), h.top, h.blk, fun r hr => ?_, h.apart⟩
 have hr1 := h.each r hr
 have hk : ∀ k ∈ r.blocks, lo' ≤ k := fun k hk => hb k (List.mem_append.2 (.inr (List.mem_flatMap.2 ⟨r, hr, hk⟩)))
 simp only [RecA.blocks, SlotA.blocks, List.mem_append, Option.mem_toList] at hk
 exact ⟨⟨⟨ownsRow_base hr1.bf.ints.1 (fun k h1 => hk k (.inl (.inl h1))), hr1.bf.ints.2⟩, ⟨ownsRow_base hr1.bf.refs.1 (fun k h1 => hk k (.inl (.inr h1))), hr1.bf.refs.2⟩, hr1.bf.apart⟩, ⟨⟨ownsRow_base hr1.af.ints.1 (fun k h1 => hk k (.inr (.inl (.inl h1)))), hr1.af.ints.2⟩, ⟨ownsRow_base hr1.af.refs.1 (fun k h1 => hk k (.inr (.inl (.inr h1)))), hr1.af.refs.2⟩, hr1.af.apart⟩, ⟨ownsRow_base hr1.txs.1 (fun k h1 => hk k (.inr (.inr h1))), hr1.txs.2⟩, hr1.apart⟩
theorem within_new {B C : Nat} {w W w1 WF : World} (hbW : Below w.heap.size w W) (h1 : Within B (B + 1) W w1) (hF : Within C (C + 1) w1 WF) (hC : w.heap.size ≤ C) : Within B (B + 1) w WF :=
 ⟨hF.os.trans (h1.os.trans hbW.os), hF.tape.trans (h1.tape.trans hbW.tape), hF.output.trans (h1.output.trans hbW.output), Nat.le_trans hbW.size (Nat.le_trans h1.size hF.size), fun k hk hn => (hF.block k (by have := hbW.size; have := h1.size; omega) (by omega)).trans ((h1.block k (by have := hbW.size; omega) hn).trans (hbW.block k hk))⟩
def LogDrawn (B : Nat) (zs : List Int) (w : World) (r : Ending) (w' : World) : Prop := ∃ l : LogA, r = .returned (.agg l.cells.toArray) ∧ l.own w' w.heap.size w'.heap.size ∧ l.recs.length ≤ 262144 ∧ (∀ x ∈ l.recs, x.short 10) ∧ CurAt w' B zs ∧ Within B (B + 1) w w'
theorem l5Draw_any (B : Nat) (zs : List Int) (n : Int) (w : World) (hc : CurAt w B zs) (hl : zs.length ≤ 70368744177664) (hn0 : 0 < n) (hn : n ≤ 17) :
  Calls Tryz.prog 47 #[.pointer (some ⟨B, 0, none⟩), .int .i64 n] w fun r w' => LogDrawn B zs w r w' := by
 obtain ⟨W, hW, b0, hbW, hsW⟩ := boxes1 w [.slice none 0 0, .int .i64 0] 26
 have hW' : Hid (w.alloc (.cells #[.slice none 0 0, .int .i64 0] 26) = W) := hW.out
 have C := l7Draw_any B zs n W (hc.below hbW) hl hn0 hn
 have hBl := hc.lt
 have hws : w.heap.size < W.heap.size := by omega
 clear hW hsW
 go_enter Tryz.func47, Tryz.ntmps47
 go_wp2_with fail
 rw [hW'.out]
 refine C.mono ?_
 clear C hW'
 rintro r w1 ⟨e, i, rfl, hi, hd, hsh, ho, hfr, hc1, hw1⟩
 have hf := run_log hsh w1
 have b1 := b0.within hw1 (by omega)
 obtain ⟨WF, hWF, hwF, hsF, HTF, HLF, bF⟩ := log_out e.log _ rfl b1
 have hs1 := hw1.size
 have hlen : e.log.recs.length ≤ 262144 := by
  have h1 := hd.len
  have h2 : 2 ^ (i + 2) ≤ 2 ^ 18 := Nat.pow_le_pow_right (by omega) (by omega)
  have h3 : e.v.log.recs.length = e.log.recs.length := by simp [EngA.v, LogA.v]
  omega
 have hshort : ∀ x ∈ e.log.recs, x.short 10 := fun x hx => by
  have h1 := hd.sound.recs x.v (List.mem_map_of_mem hx)
  exact ⟨h1.1, h1.2.1, h1.2.2⟩
 have hfr' : ∀ k ∈ blocksRs e.log.a e.log.c e.log.recs, W.heap.size ≤ k := fun k hk => hfr k (EngA.mem_log hk)
 have ho1 : e.log.own w1 W.heap.size w1.heap.size := own_raise ho.log hfr'
 have hoF : e.log.own WF w.heap.size WF.heap.size := (LogA.own.within ho1 hwF (.inr (by omega))).widen (by omega) (by omega) (Nat.le_refl _)
 have hcF := hc1.within hwF (by omega)
 have hWin : Within B (B + 1) w WF := within_new hbW hw1 hwF (Nat.le_refl _)
 have HEND : Hid (LogDrawn B zs w (.returned (.agg e.log.cells.toArray)) WF) := ⟨e.log, rfl, hoF, hlen, hshort, hcF, hWin⟩
 have HO := log_one e.log
 have HI : Hid ((Tryz.prog.info? 26).map (·.size) = some e.log.cells.toArray.size) := log_info e.log
 have hWF' : Hid (w1.setCells w.heap.size 0 e.log.cells.toArray.toList = WF) := hWF.out
 clear hoF hcF hWin ho1 hfr' hshort hlen bF hwF hsF b1 hd ho hWF
 go_wp2_with (first | (guard_target = wpList _ _ _ (Oper.mk none (Op.store _ (Operand.tmp 4) _) _ _ _ _ :: _) _ _; refine wpList_store_mid rfl 26 (.tmp 4) (.tmp 8) rfl w.heap.size 0 e.log.cells.toArray rfl rfl HTF.out HI.out HO ?_; rw [hWF'.out]) | fail)
 exact bodyPost_ret (v := .agg e.log.cells.toArray) (results_one Tryz.results47 rfl HLF.out) rfl HEND.out
end Go.Proofs.YtickiokdcbeefaaGreatDoor
namespace Go.Proofs.YtickiokdcbeefaaGreatDoor
open Go.RowKit
theorem OwnRs.capLen {w : World} {lo hi : Nat} {a : Option Addr} {c : Nat} {rs : List RecA} (h : OwnRs w lo hi a c rs) : rs.length ≤ c := by
 rcases h.row.2 with ⟨hv', h00⟩ | ⟨g, cap, cur, hv', _, _, h1, _⟩
 ·omega
 ·simp only [Value.slice.injEq] at hv'; omega
theorem OwnRs.nilLen {w : World} {lo hi : Nat} {a : Option Addr} {c : Nat} {rs : List RecA} (h : OwnRs w lo hi a c rs) : a = none → rs.length = 0 ∧ c = 0 := fun ha => by
 have h1 := h.nocap ha
 have h2 := h.capLen
 exact ⟨by omega, h1⟩
theorem sureLog_any (a : Option Addr) (c m : Nat) (w : World) :
  Calls Tryz.prog 32 #[.slice a m c] w fun e w' => e = .returned (.agg #[.slice a m c, .int .i64 m]) ∧ Below w.heap.size w w' := by
 obtain ⟨W, hW, b0, hbW, hsW⟩ := boxes1 w [.slice a m c, .int .i64 m] 26
 have q0 := b0.cell 0 _ rfl
 have q1 := b0.cell 1 _ rfl
 clear b0 hsW
 go_enter Tryz.func32, Tryz.ntmps32
 go_wp2
 rw [hW.out]
 exact bodyPost_ret (v := .agg #[.slice a m c, .int .i64 m]) (by simp [results, Tryz.results32, go_sem, q0, q1]) rfl ⟨rfl, hbW⟩
end Go.Proofs.YtickiokdcbeefaaGreatDoor
namespace Go.Proofs.YtickiokdcbeefaaGreatDoor
open Go.RowKit
attribute [local go_sem ↓] Go.wp_at_zero Go.wp_at_succ
theorem recs_put {w : World} {lo hi g c : Nat} {A B : List RecA} {z : RecA} (h : OwnRs w lo hi (some ⟨g, 0, none⟩) c (A ++ z :: B)) (q : RecA) {l u : Nat} (hq : q.own w l u) :
  ∃ W, Hid (w.setCells g (A.length * 15) q.cells = W) ∧ Touch [g] w W ∧ W.heap.size = w.heap.size ∧ (∀ v bl, Touch bl W v → (∀ k ∈ bl, k < lo) → lo ≤ l → ReadsRs v (some ⟨g, 0, none⟩) (A ++ q :: B)) := by
 have hrow := h.row
 rw [cellsRs_app, cellsRs_cons, List.length_append, List.length_cons] at hrow
 obtain ⟨h1, h2⟩ := row_setCells q.cells (cellsRs A) z.cells (cellsRs B) w hrow rfl
 rw [cellsRs_len] at h1 h2
 have ht : Touch [g] w (w.setCells g (A.length * 15) q.cells) := Touch.of_grown h2 (fun k hk => by cases hk; simp)
 have hap : ∀ (r : RecA) {l u : Nat}, r.own w l u → ∀ k ∈ r.blocks, k ∉ [g] := fun r _ _ hr k hk hm => row_apart h.row hr g rfl (by rw [← List.mem_singleton.1 hm]; exact hk)
 refine ⟨_, rfl, ht, setCells_heap g q.cells (A.length * 15) w, fun v bl hv hC hll => ?_⟩
 have hno : ∀ (r : RecA) {l u : Nat}, r.own w l u → lo ≤ l → ∀ k ∈ r.blocks, k ∉ bl := fun r _ _ hr h1 k hk hm => by have := (hr.blocks_lt k hk).1; have := hC k hm; omega
 have hrow' : v.ownsRow lo 42 15 (.slice (some ⟨g, 0, none⟩) (A ++ q :: B).length c) (A ++ q :: B).length (cellsRs (A ++ q :: B)) := by
  rw [cellsRs_app, cellsRs_cons, List.length_append, List.length_cons]
  exact ownsRow_block h1 (fun k hk => hv.block k (h1.lt k hk).2 (fun hm => by have := (h1.lt k hk).1; have := hC k hm; omega))
 intro _
 refine ⟨g, 0, rfl, fun k hk => ?_⟩
 rw [Nat.zero_add]
 refine ⟨(row_rec hrow' rfl k hk).1, ?_⟩
 have hmem := recD_mem (A ++ q :: B) k hk
 rcases List.mem_append.1 hmem with h3 | h3
 ·have h4 := h.each _ (List.mem_append.2 (.inl h3))
  exact ((h4.touch ht (hap _ h4)).touch hv (hno _ h4 (Nat.le_refl _))).reads
 ·rcases List.mem_cons.1 h3 with h3 | h3
  ·rw [h3]; exact ((hq.touch ht (hap _ hq)).touch hv (hno _ hq hll)).reads
  ·have h4 := h.each _ (List.mem_append.2 (.inr (List.mem_cons_of_mem _ h3)))
   exact ((h4.touch ht (hap _ h4)).touch hv (hno _ h4 (Nat.le_refl _))).reads
theorem touch_of {C : Nat} {w w' : World} (h : Within C (C + 1) w w') : Touch [C] w w' := ⟨h.os, h.tape, h.output, h.size, fun j hj hn => h.block j hj (fun hh => hn (by simp; omega))⟩
theorem within_two {B C : Nat} {w w1 w2 : World} (h : Within B (B + 1) w w1) (hF : Within C (C + 1) w1 w2) (hC : w.heap.size ≤ C) : Within B (B + 1) w w2 :=
 ⟨hF.os.trans h.os, hF.tape.trans h.tape, hF.output.trans h.output, Nat.le_trans h.size hF.size, fun k hk hn => (hF.block k (by have := h.size; omega) (by omega)).trans (h.block k hk hn)⟩
def CapFit (l : LogA) : Prop := l.recs.length ≤ l.c ∧ (l.a = none → l.recs.length = 0 ∧ l.c = 0)
def LogAny (B : Nat) (zs : List Int) (w : World) (r : Ending) (w' : World) : Prop := ∃ l : LogA, r = .returned (.agg l.cells.toArray) ∧ (∀ v bl, Touch bl w' v → (∀ k ∈ bl, k < w.heap.size) → l.reads v) ∧ l.recs.length ≤ 262144 ∧ (∀ x ∈ l.recs, x.short 12) ∧ (∀ x ∈ l.recs, x.aL = none → x.cL = 0) ∧ CapFit l ∧ CurAt w' B zs ∧ Within B (B + 1) w w'
theorem l5DrawAny_any (B : Nat) (zs : List Int) (n : Int) (w : World) (hc : CurAt w B zs) (hl : zs.length ≤ 70368744177664) (hn0 : 0 < n) (hn : n ≤ 17) :
  Calls Tryz.prog 24 #[.pointer (some ⟨B, 0, none⟩), .int .i64 n] w fun r w' => LogAny B zs w r w' := by
 obtain ⟨W, hW, b0, hbW, hsW⟩ := boxes1 w [.slice none 0 0, .int .i64 0] 26
 have hW' : Hid (w.alloc (.cells #[.slice none 0 0, .int .i64 0] 26) = W) := hW.out
 have C := l5Draw_any B zs n W (hc.below hbW) hl hn0 hn
 have hBl := hc.lt
 have hws : w.heap.size < W.heap.size := by omega
 clear hW hsW
 go_enter Tryz.func24, Tryz.ntmps24
 go_wp2_with fail
 rw [hW'.out]
 refine C.mono ?_
 clear C hW'
 rintro r w1 ⟨l0, rfl, o0, hl0, hs0, hc1, hw1⟩
 have bR1 := b0.within hw1 (by omega)
 have hs1 := hw1.size
 have C2 := l5Copy_any l0 w1 o0.reads ⟨by omega, fun x hx => ⟨⟨by have := (hs0 x hx).bf.1; omega, by have := (hs0 x hx).bf.2; omega⟩, ⟨by have := (hs0 x hx).af.1; omega, by have := (hs0 x hx).af.2; omega⟩, by have := (hs0 x hx).txs; omega⟩⟩ (fun x hx => (OwnRs.each o0 x hx).txs.nocap)
 go_wp2_with fail
 refine C2.mono ?_
 clear C2
 rintro r w2 ⟨t, rfl, htv, ot, hb2⟩
 have htr : t.recs.map RecA.v = l0.recs.map RecA.v := by have := congrArg LogV.recs htv.out; exact this
 have hlen : t.recs.length ≤ 262144 := by have := congrArg List.length htr; simp only [List.length_map] at this; omega
 have hsh : ∀ x ∈ t.recs, x.short 10 := fun x hx => by
  have h1 : x.v ∈ l0.recs.map RecA.v := by rw [← htr]; exact List.mem_map_of_mem hx
  obtain ⟨y, hy, hyx⟩ := List.mem_map.1 h1
  exact short_of hyx.symm (hs0 y hy)
 obtain ⟨W3, hW3, b3, hb3, hs3⟩ := boxes1 w2 [.slice none 0 0, .int .i64 0] 26
 obtain ⟨W4, hW4, hw4, hs4, HT4, _, bL⟩ := log_out t _ rfl b3
 have hW3' : Hid (w2.alloc (.cells #[.slice none 0 0, .int .i64 0] 26) = W3) := hW3.out
 have hW4' : Hid (W3.setCells w2.heap.size 0 t.cells.toArray.toList = W4) := hW4.out
 have N24 : Below w2.heap.size w2 W4 := hb3.trans (hw4.below (Nat.le_refl _) (by omega))
 have N14 : Below w1.heap.size w1 W4 := hb2.trans (N24.mono hb2.size)
 have hs2 := hb2.size
 have bR4 := bR1.below N14 bR1.lt
 have hc4 := hc1.below N14
 have ot4 : t.own W4 w1.heap.size w2.heap.size := LogA.own.below ot N24
 have hw14 : Within B (B + 1) w W4 := ⟨N14.os.trans (hw1.os.trans hbW.os), N14.tape.trans (hw1.tape.trans hbW.tape), N14.output.trans (hw1.output.trans hbW.output), by have := N14.size; have := hbW.size; omega, fun k hk hn1 => (N14.block k (by have := hbW.size; omega)).trans ((hw1.block k (by have := hbW.size; omega) hn1).trans (hbW.block k hk))⟩
 have HO4 := log_one t
 have HI4 : Hid ((Tryz.prog.info? 26).map (·.size) = some t.cells.toArray.size) := log_info t
 have hLt := bL.lt
 have C5 := l1Below_any B zs 10 W4 hc4 hl (by omega)
 have hR1 := bR1.lt
 clear hW3 hW4 hs3 hs4 hw4 hb3 b3 b0 o0 hs0 htr htv hl0 hw1 hbW hc hc1 bR1 ot N14 N24
 go_wp2_with (first | (guard_target = wpList _ _ _ (Oper.mk none (Op.store _ (Operand.tmp 5) _) _ _ _ _ :: _) _ _; refine wpList_store_mid rfl 26 (.tmp 5) (.tmp 10) rfl w2.heap.size 0 t.cells.toArray rfl rfl (by rw [hW3'.out]; exact HT4.out) HI4.out HO4 ?_; rw [hW3'.out, hW4'.out]) | fail)
 refine C5.mono ?_
 clear C5 hW3' hW4' HT4 HI4 HO4
 rintro r w5 ⟨x, rfl, hx10, hc5, hg5⟩
 have hwB5 := within_cur hg5
 have ot5 : t.own w5 w1.heap.size w2.heap.size := LogA.own.within ot4 hwB5 (.inr (by omega))
 have bL5 := bL.within hwB5 (by omega)
 have bR5 := bR4.within hwB5 (by omega)
 have hw5 : Within B (B + 1) w w5 := hw14.trans hwB5
 have hs5 := hwB5.size
 clear hx10 hg5 ot4 bL bR4 hw14 hwB5
 rcases (by omega : x = 0 ∨ x = 1 ∨ 2 ≤ x) with hx | hx | hx
 ·subst hx
  have m0 := bL5.cell 0 _ (show t.cells[0]? = some (.slice t.a t.recs.length t.c) from rfl)
  obtain ⟨W6, hW6, b6, hb6, hs6⟩ := boxes1 w5 ([-1, (t.recs.length : Int), (t.recs.length : Int) + 1].map (Value.int .i64)) 3
  have hW6' : Hid (w5.alloc (.cells #[.int .i64 (-1), .int .i64 (t.recs.length : Int), .int .i64 ((t.recs.length : Int) + 1)] 3) = W6) := hW6.out
  have rI := readsI_list [-1, (t.recs.length : Int), (t.recs.length : Int) + 1] b6
  have C6 := l1Int_any B zs (some ⟨w5.heap.size, 0, none⟩) 3 [-1, (t.recs.length : Int), (t.recs.length : Int) + 1] W6 (hc5.below hb6) hl rI (fun b off hb => by cases hb; have := hc5.lt; omega) (by simp) (by simp)
  have ot6 := LogA.own.below ot5 hb6
  have bL6 := bL5.below hb6 bL5.lt
  have bR6 := bR5.below hb6 bR5.lt
  have hw6 : Within B (B + 1) w W6 := ⟨hb6.os.trans hw5.os, hb6.tape.trans hw5.tape, hb6.output.trans hw5.output, Nat.le_trans hw5.size hb6.size, fun k hk hn1 => (hb6.block k (by have := hw5.size; omega)).trans (hw5.block k hk hn1)⟩
  have hs56 := hb6.size
  clear hs6 hW6 b6 hb6 rI ot5 bL5 bR5 hw5 hc5
  go_wp2_with fail
  rw [hW6'.out]
  refine C6.mono ?_
  clear C6 hW6' m0
  rintro r w7 ⟨y, hy, rfl, hc7, hg7⟩
  obtain ⟨sv, hsv⟩ : ∃ sv, Hid ([-1, (t.recs.length : Int), (t.recs.length : Int) + 1].getD y 0 = sv) := ⟨_, rfl⟩
  rw [hsv.out]
  have hwB7 := within_cur hg7
  have ot7 : t.own w7 w1.heap.size w2.heap.size := LogA.own.within ot6 hwB7 (.inr (by omega))
  have bL7 := bL6.within hwB7 (by omega)
  have bR7 := bR6.within hwB7 (by omega)
  have hw7 := hw6.trans hwB7
  have hs67 := hwB7.size
  have m1 := bL7.cell 1 _ (show t.cells[1]? = some (.int .i64 t.sure) from rfl)
  have f1 := bL7.frozen 1
  obtain ⟨W8, hW8, bL8, hw8, hs8⟩ := box_set bL7 1 (.int .i64 sv)
  have otz : (({ t with sure := sv } : LogA)).own W8 w1.heap.size w2.heap.size := LogA.own.within (l := t) ot7 hw8 (.inl (Nat.le_refl _))
  have bLz : Box W8 w2.heap.size ({ t with sure := sv } : LogA).cells 26 := bL8
  have bRz := bR7.within hw8 (by omega)
  have hcz := hc7.within hw8 (by omega)
  have hwz : Within B (B + 1) w W8 := within_two hw7 hw8 (by omega)
  clear ot6 bL6 bR6 hw6 hwB7 hg7 hc7 ot7 hw7 bR7 bL8 hw8 hs8 hsv
  go_upto_region 9 with fail
  rw [hW8.out]
  clear hW8 m1 f1 bL7
  obtain ⟨W9, hW9⟩ : ∃ W9, Hid (W8 = W9) := ⟨_, rfl⟩
  obtain ⟨L, hL⟩ : ∃ L, Hid (w2.heap.size = L) := ⟨_, rfl⟩
  obtain ⟨lg, hlg⟩ : ∃ lg, Hid (({ t with sure := sv } : LogA) = lg) := ⟨_, rfl⟩
  have bL9 : Box W9 L lg.cells 26 := by rw [← hW9.out, ← hL.out, ← hlg.out]; exact bLz
  have bR9 : Box W9 w.heap.size [.slice none 0 0, .int .i64 0] 26 := by rw [← hW9.out]; exact bRz
  have hc9 : CurAt W9 B zs := by rw [← hW9.out]; exact hcz
  have hw9 : Within B (B + 1) w W9 := by rw [← hW9.out]; exact hwz
  have HRD : Hid (∀ v bl, Touch bl W9 v → (∀ k ∈ bl, k ≤ w.heap.size) → lg.reads v) := fun v bl hv hbl => by
   rw [← hW9.out] at hv
   rw [← hlg.out]
   exact LogA.own.reads (LogA.own.touch otz hv (fun k hk hm => by have := (LogA.own.blocks_lt otz k hk).1; have := hbl k hm; omega))
  have hlen9 : lg.recs.length ≤ 262144 := by rw [← hlg.out]; exact hlen
  have hsh9 : ∀ y ∈ lg.recs, y.short 12 := fun y hy => by
   rw [← hlg.out] at hy
   have h1 := hsh y hy
   exact ⟨⟨by have := h1.bf.1; omega, by have := h1.bf.2; omega⟩, ⟨by have := h1.af.1; omega, by have := h1.af.2; omega⟩, by have := h1.txs; omega⟩
  have hcp9 : ∀ y ∈ lg.recs, y.aL = none → y.cL = 0 := fun y hy => by
   rw [← hlg.out] at hy
   exact (OwnRs.each otz y hy).txs.nocap
  have hcf9 : CapFit lg := by rw [← hlg.out]; exact ⟨OwnRs.capLen otz, OwnRs.nilLen otz⟩
  clear otz bLz bRz hwz hcz
  rw [hW9.out, hL.out]
  clear hlen hsh hlg
  have r9 : W9.rangeAt L 0 lg.cells := Box.range [] lg.cells [] (by simpa using bL9)
  obtain ⟨WF, hWF, hwF, hsF, HTF, HLF, bF⟩ := log_out lg _ rfl bR9
  have hWF' : Hid (W9.setCells w.heap.size 0 lg.cells.toArray.toList = WF) := hWF.out
  have hrF : ∀ v bl, Touch bl WF v → (∀ k ∈ bl, k < w.heap.size) → lg.reads v := fun v bl hv hb => HRD.out v (w.heap.size :: bl) (((touch_of hwF).mono (by simp)).trans (hv.mono (fun k hk => List.mem_cons_of_mem _ hk))) (fun k hk => (List.mem_cons.1 hk).elim (fun h1 => by omega) (fun h1 => by have := hb k h1; omega))
  have HEND : Hid (LogAny B zs w (.returned (.agg lg.cells.toArray)) WF) := ⟨lg, rfl, hrF, hlen9, hsh9, hcp9, hcf9, hc9.within hwF (by omega), within_two hw9 hwF (Nat.le_refl _)⟩
  have HO := log_one lg
  have HI : Hid ((Tryz.prog.info? 26).map (·.size) = some lg.cells.length) := log_info lg
  clear hrF bF hwF hsF hWF hw9 hc9 HRD hlen9 hsh9 hcp9 hcf9 bL9 bR9
  go_wp2_with (first | (guard_target = wpList _ _ _ (Oper.mk (some 48) _ _ _ _ _ :: _) _ _; refine wpList_load_mid rfl 26 (.tmp 5) rfl L 0 rfl lg.cells _ r9 Tryz.underlying26 rfl HI.out ?_) | (guard_target = wpList _ _ _ (Oper.mk none (Op.store _ (Operand.tmp 4) _) _ _ _ _ :: _) _ _; refine wpList_store_mid rfl 26 (.tmp 4) (.tmp 48) rfl w.heap.size 0 lg.cells.toArray rfl rfl HTF.out HI.out HO ?_; rw [hWF'.out]) | fail)
  exact bodyPost_ret (v := .agg lg.cells.toArray) (results_one Tryz.results24 rfl HLF.out) rfl HEND.out
 ·subst hx
  have m0 := bL5.cell 0 _ (show t.cells[0]? = some (.slice t.a t.recs.length t.c) from rfl)
  by_cases h0 : 0 < t.recs.length
  ·have h0b : (t.recs.length : Int) > 0 := by omega
   have C6 := l1Below_any B zs (t.recs.length : Int) w5 hc5 hl (by omega)
   go_wp2_with fail
   refine C6.mono ?_
   clear C6 m0
   rintro r w6 ⟨k, rfl, hk, hc6, hg6⟩
   have hkl : k < t.recs.length := by have := hk (by omega); omega
   have hwB6 := within_cur hg6
   have ot6 : t.own w6 w1.heap.size w2.heap.size := LogA.own.within ot5 hwB6 (.inr (by omega))
   have bL6 := bL5.within hwB6 (by omega)
   have bR6 := bR5.within hwB6 (by omega)
   have hw6 := hw5.trans hwB6
   have hs6 := hwB6.size
   clear hk hg6 hwB6 ot5 bL5 bR5 hw5 hc5 h0b
   obtain ⟨g, hg⟩ : ∃ g, t.a = some ⟨g, 0, none⟩ := by
    rcases (OwnRs.row ot6).2 with ⟨_, h1⟩ | ⟨g', cap', cur, hv, _⟩
    ·omega
    ·simp only [Value.slice.injEq] at hv; exact ⟨g', hv.1⟩
   have HMS : Hid (∀ u, Box u w2.heap.size t.cells 26 → u.cell? ⟨w2.heap.size, 0, none⟩ = some (.slice (some ⟨g, 0, none⟩) t.recs.length t.c)) := fun u hu => by
    have := hu.cell 0 _ (show t.cells[0]? = some (.slice t.a t.recs.length t.c) from rfl)
    rwa [hg] at this
   have ND : Below w6.heap.size w6 w6.drew := (Below.refl _ _).drew
   have ot7 : OwnRs w6.drew w1.heap.size w2.heap.size (some ⟨g, 0, none⟩) t.c t.recs := by have h1 := LogA.own.below ot6 ND; rw [← hg]; exact h1
   have bL7 := bL6.below ND bL6.lt
   have bR7 := bR6.below ND bR6.lt
   have hc7 := hc6.below ND
   have hzr := (row_rec ot7.row rfl k hkl).1
   have hmem := recD_mem t.recs k hkl
   have oz := ot7.each _ hmem
   have hshz := hsh _ hmem
   obtain ⟨z, hz⟩ : ∃ z, Hid (t.recs.getD k zeroR = z) := ⟨_, rfl⟩
   rw [hz.out] at hzr oz hshz
   have HI : Hid ((Tryz.prog.info? 42).map (·.size) = some z.cells.length) := rec_info z
   have C8 := l4Bend_any B w1.heap.size w2.heap.size zs z w6.drew hc7 hl oz (by omega) (by omega) hshz
   have hkk : (k : Int) < (t.recs.length : Int) := by omega
   have hk0 : (0 : Int) ≤ (k : Int) := by omega
   have HGA : Hid (t.a = some ⟨g, 0, none⟩) := hg
   clear hg
   go_upto_region 8 with fail
   refine wp_region_held_drew (S := fun w' => w'.cell? ⟨w2.heap.size, 0, none⟩ = some (.slice (some ⟨g, 0, none⟩) t.recs.length t.c) ∧ True) (by kernel_rfl) ?_ (fun hHeld => ?_)
   ·exact ⟨HMS.out _ bL7, trivial⟩
   refine tk 0 (v := .pointer (some ⟨w2.heap.size, 0, none⟩)) rfl (Or.inl ⟨by rfl, ?_⟩) hHeld ?_
   ·intro w' hSw
    go_simp <;> rfl
   try simp only [Act.put, zA, zB, zD, zE, zF]
   refine tk 1 (v := .slice (some ⟨g, 0, none⟩) t.recs.length t.c) rfl (Or.inl ⟨by rfl, ?_⟩) hHeld ?_
   ·intro w' hSw
    have hx := hSw.1
    go_simp <;> rfl
   try simp only [Act.put, zA, zB, zC, zD, zE, zF]
   refine tk 2 (v := .int .i64 k) rfl (Or.inl ⟨by rfl, ?_⟩) hHeld ?_
   ·intro w' hSw
    go_simp <;> rfl
   try simp only [Act.put, zA, zB, zC, zD, zE, zF]
   refine tk 3 (v := .pointer (some ⟨B, 0, none⟩)) rfl (Or.inl ⟨by rfl, ?_⟩) hHeld ?_
   ·intro w' hSw
    go_simp <;> rfl
   try simp only [Act.put, zA, zB, zC, zD, zE, zF]
   refine tk 4 (v := .pointer (some ⟨w2.heap.size, 0, none⟩)) rfl (Or.inl ⟨by rfl, ?_⟩) hHeld ?_
   ·intro w' hSw
    go_simp <;> rfl
   try simp only [Act.put, zA, zB, zC, zD, zE, zF]
   refine tk 5 (v := .slice (some ⟨g, 0, none⟩) t.recs.length t.c) rfl (Or.inl ⟨by rfl, ?_⟩) hHeld ?_
   ·intro w' hSw
    have hx := hSw.1
    go_simp <;> rfl
   try simp only [Act.put, zA, zB, zC, zD, zE, zF]
   refine tk 6 (v := .int .i64 k) rfl (Or.inl ⟨by rfl, ?_⟩) hHeld ?_
   ·intro w' hSw
    go_simp <;> rfl
   try simp only [Act.put, zA, zB, zC, zD, zE, zF]
   refine tk 7 (v := .pointer (some ⟨g, k * 15, none⟩)) rfl (Or.inl ⟨by rfl, ?_⟩) hHeld ?_
   ·intro w' hSw
    go_simp <;> rfl
   try simp only [Act.put, zA, zB, zC, zD, zE, zF]
   refine wpAnyH_ready (rs := [8]) (by kernel_rfl) (by simp) ?_
   refine AllReadyH.cons rfl (fun K hK => ?_) AllReadyH.nil
   rw [if_pos (by rfl)]
   refine wp_load_mid 42 (.tmp 44) rfl g (k * 15) rfl z.cells _ hzr Tryz.underlying42 rfl HI.out ?_
   refine hK.out _ _ (hHeld) (fun hHeld => ?_)
   clear hK K
   try simp only [Act.put, zA, zB, zC, zD, zE, zF]
   refine wpAnyH_ready (rs := [9]) (by kernel_rfl) (by simp) ?_
   refine AllReadyH.cons rfl (fun K hK => ?_) AllReadyH.nil
   go_simp
   refine C8.mono ?_
   clear C8
   rintro r w8 ⟨y, rfl, hysh, oy, _, hc8, hwB8⟩
   have ot8 : OwnRs w8 w1.heap.size w2.heap.size (some ⟨g, 0, none⟩) t.c t.recs := ot7.within hwB8 (.inr (by omega))
   have bL8 := bL7.within hwB8 (by omega)
   have bR8 := bR7.within hwB8 (by omega)
   have hs8 := hwB8.size
   have hs7 := ND.size
   refine hK.out _ _ (⟨HMS.out _ bL8, trivial⟩) (fun hHeld => ?_)
   clear hK K
   try simp only [Act.put, zA, zB, zC, zD, zE, zF]
   have hkt : (t.recs.take k).length = k := by rw [List.length_take]; omega
   obtain ⟨P9, hP9, tP, hsP, hRP⟩ := recs_put (A := t.recs.take k) (z := z) (B := t.recs.drop (k + 1)) (by rw [← hz.out, ← recD_split t.recs k hkl]; exact ot8) y oy
   rw [hkt] at hP9
   have hgl : g < w2.heap.size := ot8.blk g rfl
   have hgl1 : w1.heap.size ≤ g := (ot8.row.lt g rfl).1
   have bLP := bL8.touch tP (by simp; omega)
   have bRz := bR8.touch tP (by simp; omega)
   have hcz := hc8.touch tP (fun i hi => by have := List.mem_singleton.1 hi; omega)
   have hwz : Within B (B + 1) w P9 := by
    have h1 : Within B (B + 1) w w8 := hw6.trans ((Within.of_below ND).trans hwB8)
    exact ⟨tP.os.trans h1.os, tP.tape.trans h1.tape, tP.output.trans h1.output, Nat.le_trans h1.size tP.size, fun i hi hn1 => (tP.block i (by have := h1.size; omega) (fun hm => by have := List.mem_singleton.1 hm; omega)).trans (h1.block i hi hn1)⟩
   have hP9' : Hid (w8.setCells g (k * 15) y.cells.toArray.toList = P9) := hP9.out
   have HTH : Hid (w8.there g (k * 15) y.cells.toArray.size) := (row_rec ot8.row rfl k hkl).2
   refine tk 10 (v := .pointer (some ⟨g, k * 15, none⟩)) rfl (Or.inl ⟨by rfl, ?_⟩) hHeld ?_
   ·intro w' hSw
    go_simp <;> rfl
   try simp only [Act.put, zA, zB, zC, zD, zE, zF]
   refine wpAnyH_ready (rs := [11]) (by kernel_rfl) (by simp) ?_
   refine AllReadyH.cons rfl (fun K hK => ?_) AllReadyH.nil
   rw [if_pos (by rfl)]
   refine wp_store_mid 42 (.tmp 47) (.tmp 46) rfl g (k * 15) y.cells.toArray rfl rfl HTH.out (rec_info y) (rec_one y) ?_
   rw [hP9'.out]
   refine hK.out _ _ (⟨HMS.out _ bLP, trivial⟩) (fun hHeld => ?_)
   clear hK K
   try simp only [Act.put, zA, zB, zC]
   refine wpAnyH_done (by kernel_rfl) ?_ _
   obtain ⟨W9, hW9⟩ : ∃ W9, Hid (P9 = W9) := ⟨_, rfl⟩
   obtain ⟨L, hL⟩ : ∃ L, Hid (w2.heap.size = L) := ⟨_, rfl⟩
   obtain ⟨lg, hlg⟩ : ∃ lg, Hid ((⟨t.recs.take k ++ y :: t.recs.drop (k + 1), t.sure, some ⟨g, 0, none⟩, t.c⟩ : LogA) = lg) := ⟨_, rfl⟩
   have hll : (t.recs.take k ++ y :: t.recs.drop (k + 1)).length = t.recs.length := by rw [List.length_append, List.length_cons, List.length_take, List.length_drop]; omega
   have hmemz : ∀ v ∈ t.recs.take k ++ y :: t.recs.drop (k + 1), v ∈ t.recs ∨ v = y := fun v hv => by
    rcases List.mem_append.1 hv with h1 | h1
    ·exact .inl (List.mem_of_mem_take h1)
    ·rcases List.mem_cons.1 h1 with h1 | h1
     ·exact .inr h1
     ·exact .inl (List.mem_of_mem_drop h1)
   have bL9 : Box W9 L lg.cells 26 := by
    rw [← hW9.out, ← hL.out, ← hlg.out]
    have h1 := bLP
    simp only [LogA.cells, HGA.out] at h1
    simp only [LogA.cells, hll]
    exact h1
   have bR9 : Box W9 w.heap.size [.slice none 0 0, .int .i64 0] 26 := by rw [← hW9.out]; exact bRz
   have hc9 : CurAt W9 B zs := by rw [← hW9.out]; exact hcz
   have hw9 : Within B (B + 1) w W9 := by rw [← hW9.out]; exact hwz
   have HRD : Hid (∀ v bl, Touch bl W9 v → (∀ k ∈ bl, k ≤ w.heap.size) → lg.reads v) := fun v bl hv hbl => by
    rw [← hW9.out] at hv
    rw [← hlg.out]
    exact hRP v bl hv (fun k hk => by have := hbl k hk; omega) (Nat.le_refl _)
   have hlen9 : lg.recs.length ≤ 262144 := by rw [← hlg.out]; show (t.recs.take k ++ y :: t.recs.drop (k + 1)).length ≤ _; rw [hll]; exact hlen
   have hsh9 : ∀ v ∈ lg.recs, v.short 12 := fun v hv => by
    rw [← hlg.out] at hv
    rcases hmemz v hv with h1 | h1
    ·have h2 := hsh v h1
     exact ⟨⟨by have := h2.bf.1; omega, by have := h2.bf.2; omega⟩, ⟨by have := h2.af.1; omega, by have := h2.af.2; omega⟩, by have := h2.txs; omega⟩
    ·rw [h1]; exact hysh
   have hcp9 : ∀ v ∈ lg.recs, v.aL = none → v.cL = 0 := fun v hv => by
    rw [← hlg.out] at hv
    rcases hmemz v hv with h1 | h1
    ·exact (ot8.each v h1).txs.nocap
    ·rw [h1]; exact oy.txs.nocap
   have hcf9 : CapFit lg := by
    rw [← hlg.out]
    refine ⟨?_, fun hh => by cases hh⟩
    show (t.recs.take k ++ y :: t.recs.drop (k + 1)).length ≤ t.c
    rw [hll]
    exact OwnRs.capLen ot8
   clear hHeld hP9' hP9 HTH tP hRP bLP bRz hcz hwz hmemz hll hlg ot8 bL8 bR8 oy ot7 bL7 bR7 hc7 hc8 hc6 oz hzr HMS HGA hlen hsh hwB8 hw6 ot6 bL6 bR6
   rw [hW9.out, hL.out]
   have r9 : W9.rangeAt L 0 lg.cells := Box.range [] lg.cells [] (by simpa using bL9)
   obtain ⟨WF, hWF, hwF, hsF, HTF, HLF, bF⟩ := log_out lg _ rfl bR9
   have hWF' : Hid (W9.setCells w.heap.size 0 lg.cells.toArray.toList = WF) := hWF.out
   have hrF : ∀ v bl, Touch bl WF v → (∀ k ∈ bl, k < w.heap.size) → lg.reads v := fun v bl hv hb => HRD.out v (w.heap.size :: bl) (((touch_of hwF).mono (by simp)).trans (hv.mono (fun k hk => List.mem_cons_of_mem _ hk))) (fun k hk => (List.mem_cons.1 hk).elim (fun h1 => by omega) (fun h1 => by have := hb k h1; omega))
   have HEND : Hid (LogAny B zs w (.returned (.agg lg.cells.toArray)) WF) := ⟨lg, rfl, hrF, hlen9, hsh9, hcp9, hcf9, hc9.within hwF (by omega), within_two hw9 hwF (Nat.le_refl _)⟩
   have HO := log_one lg
   have HI : Hid ((Tryz.prog.info? 26).map (·.size) = some lg.cells.length) := log_info lg
   clear hrF bF hwF hsF hWF hw9 hc9 HRD hlen9 hsh9 hcp9 hcf9 bL9 bR9
   go_wp2_with (first | (guard_target = wpList _ _ _ (Oper.mk (some 48) _ _ _ _ _ :: _) _ _; refine wpList_load_mid rfl 26 (.tmp 5) rfl L 0 rfl lg.cells _ r9 Tryz.underlying26 rfl HI.out ?_) | (guard_target = wpList _ _ _ (Oper.mk none (Op.store _ (Operand.tmp 4) _) _ _ _ _ :: _) _ _; refine wpList_store_mid rfl 26 (.tmp 4) (.tmp 48) rfl w.heap.size 0 lg.cells.toArray rfl rfl HTF.out HI.out HO ?_; rw [hWF'.out]) | fail)
   exact bodyPost_ret (v := .agg lg.cells.toArray) (results_one Tryz.results24 rfl HLF.out) rfl HEND.out
  ·have h0b : ¬ (t.recs.length : Int) > 0 := by omega
   go_upto_region 9 with fail
   obtain ⟨W9, hW9⟩ : ∃ W9, Hid (w5 = W9) := ⟨_, rfl⟩
   obtain ⟨L, hL⟩ : ∃ L, Hid (w2.heap.size = L) := ⟨_, rfl⟩
   obtain ⟨lg, hlg⟩ : ∃ lg, Hid (t = lg) := ⟨_, rfl⟩
   have otz := ot5
   have bLz := bL5
   have bRz := bR5
   have hcz := hc5
   have hwz := hw5
   clear ot5 bL5 bR5 hw5 hc5 hs5 m0 h0b h0
   have bL9 : Box W9 L lg.cells 26 := by rw [← hW9.out, ← hL.out, ← hlg.out]; exact bLz
   have bR9 : Box W9 w.heap.size [.slice none 0 0, .int .i64 0] 26 := by rw [← hW9.out]; exact bRz
   have hc9 : CurAt W9 B zs := by rw [← hW9.out]; exact hcz
   have hw9 : Within B (B + 1) w W9 := by rw [← hW9.out]; exact hwz
   have HRD : Hid (∀ v bl, Touch bl W9 v → (∀ k ∈ bl, k ≤ w.heap.size) → lg.reads v) := fun v bl hv hbl => by
    rw [← hW9.out] at hv
    rw [← hlg.out]
    exact LogA.own.reads (LogA.own.touch otz hv (fun k hk hm => by have := (LogA.own.blocks_lt otz k hk).1; have := hbl k hm; omega))
   have hlen9 : lg.recs.length ≤ 262144 := by rw [← hlg.out]; exact hlen
   have hsh9 : ∀ y ∈ lg.recs, y.short 12 := fun y hy => by
    rw [← hlg.out] at hy
    have h1 := hsh y hy
    exact ⟨⟨by have := h1.bf.1; omega, by have := h1.bf.2; omega⟩, ⟨by have := h1.af.1; omega, by have := h1.af.2; omega⟩, by have := h1.txs; omega⟩
   have hcp9 : ∀ y ∈ lg.recs, y.aL = none → y.cL = 0 := fun y hy => by
    rw [← hlg.out] at hy
    exact (OwnRs.each otz y hy).txs.nocap
   have hcf9 : CapFit lg := by rw [← hlg.out]; exact ⟨OwnRs.capLen otz, OwnRs.nilLen otz⟩
   clear otz bLz bRz hwz hcz
   rw [hW9.out, hL.out]
   clear hlen hsh hlg
   have r9 : W9.rangeAt L 0 lg.cells := Box.range [] lg.cells [] (by simpa using bL9)
   obtain ⟨WF, hWF, hwF, hsF, HTF, HLF, bF⟩ := log_out lg _ rfl bR9
   have hWF' : Hid (W9.setCells w.heap.size 0 lg.cells.toArray.toList = WF) := hWF.out
   have hrF : ∀ v bl, Touch bl WF v → (∀ k ∈ bl, k < w.heap.size) → lg.reads v := fun v bl hv hb => HRD.out v (w.heap.size :: bl) (((touch_of hwF).mono (by simp)).trans (hv.mono (fun k hk => List.mem_cons_of_mem _ hk))) (fun k hk => (List.mem_cons.1 hk).elim (fun h1 => by omega) (fun h1 => by have := hb k h1; omega))
   have HEND : Hid (LogAny B zs w (.returned (.agg lg.cells.toArray)) WF) := ⟨lg, rfl, hrF, hlen9, hsh9, hcp9, hcf9, hc9.within hwF (by omega), within_two hw9 hwF (Nat.le_refl _)⟩
   have HO := log_one lg
   have HI : Hid ((Tryz.prog.info? 26).map (·.size) = some lg.cells.length) := log_info lg
   clear hrF bF hwF hsF hWF hw9 hc9 HRD hlen9 hsh9 hcp9 hcf9 bL9 bR9
   go_wp2_with (first | (guard_target = wpList _ _ _ (Oper.mk (some 48) _ _ _ _ _ :: _) _ _; refine wpList_load_mid rfl 26 (.tmp 5) rfl L 0 rfl lg.cells _ r9 Tryz.underlying26 rfl HI.out ?_) | (guard_target = wpList _ _ _ (Oper.mk none (Op.store _ (Operand.tmp 4) _) _ _ _ _ :: _) _ _; refine wpList_store_mid rfl 26 (.tmp 4) (.tmp 48) rfl w.heap.size 0 lg.cells.toArray rfl rfl HTF.out HI.out HO ?_; rw [hWF'.out]) | fail)
   exact bodyPost_ret (v := .agg lg.cells.toArray) (results_one Tryz.results24 rfl HLF.out) rfl HEND.out
 ·have hx0 : ((x : Int) == 0) = false := by simp; omega
  have hx1 : ((x : Int) == 1) = false := by simp; omega
  obtain ⟨W9, hW9⟩ : ∃ W9, Hid (w5 = W9) := ⟨_, rfl⟩
  obtain ⟨L, hL⟩ : ∃ L, Hid (w2.heap.size = L) := ⟨_, rfl⟩
  obtain ⟨lg, hlg⟩ : ∃ lg, Hid (t = lg) := ⟨_, rfl⟩
  have otz := ot5
  have bLz := bL5
  have bRz := bR5
  have hcz := hc5
  have hwz := hw5
  clear ot5 bL5 bR5 hw5 hc5 hs5
  have bL9 : Box W9 L lg.cells 26 := by rw [← hW9.out, ← hL.out, ← hlg.out]; exact bLz
  have bR9 : Box W9 w.heap.size [.slice none 0 0, .int .i64 0] 26 := by rw [← hW9.out]; exact bRz
  have hc9 : CurAt W9 B zs := by rw [← hW9.out]; exact hcz
  have hw9 : Within B (B + 1) w W9 := by rw [← hW9.out]; exact hwz
  have HRD : Hid (∀ v bl, Touch bl W9 v → (∀ k ∈ bl, k ≤ w.heap.size) → lg.reads v) := fun v bl hv hbl => by
   rw [← hW9.out] at hv
   rw [← hlg.out]
   exact LogA.own.reads (LogA.own.touch otz hv (fun k hk hm => by have := (LogA.own.blocks_lt otz k hk).1; have := hbl k hm; omega))
  have hlen9 : lg.recs.length ≤ 262144 := by rw [← hlg.out]; exact hlen
  have hsh9 : ∀ y ∈ lg.recs, y.short 12 := fun y hy => by
   rw [← hlg.out] at hy
   have h1 := hsh y hy
   exact ⟨⟨by have := h1.bf.1; omega, by have := h1.bf.2; omega⟩, ⟨by have := h1.af.1; omega, by have := h1.af.2; omega⟩, by have := h1.txs; omega⟩
  have hcp9 : ∀ y ∈ lg.recs, y.aL = none → y.cL = 0 := fun y hy => by
   rw [← hlg.out] at hy
   exact (OwnRs.each otz y hy).txs.nocap
  have hcf9 : CapFit lg := by rw [← hlg.out]; exact ⟨OwnRs.capLen otz, OwnRs.nilLen otz⟩
  clear otz bLz bRz hwz hcz
  rw [hW9.out, hL.out]
  clear hlen hsh hlg
  have r9 : W9.rangeAt L 0 lg.cells := Box.range [] lg.cells [] (by simpa using bL9)
  obtain ⟨WF, hWF, hwF, hsF, HTF, HLF, bF⟩ := log_out lg _ rfl bR9
  have hWF' : Hid (W9.setCells w.heap.size 0 lg.cells.toArray.toList = WF) := hWF.out
  have hrF : ∀ v bl, Touch bl WF v → (∀ k ∈ bl, k < w.heap.size) → lg.reads v := fun v bl hv hb => HRD.out v (w.heap.size :: bl) (((touch_of hwF).mono (by simp)).trans (hv.mono (fun k hk => List.mem_cons_of_mem _ hk))) (fun k hk => (List.mem_cons.1 hk).elim (fun h1 => by omega) (fun h1 => by have := hb k h1; omega))
  have HEND : Hid (LogAny B zs w (.returned (.agg lg.cells.toArray)) WF) := ⟨lg, rfl, hrF, hlen9, hsh9, hcp9, hcf9, hc9.within hwF (by omega), within_two hw9 hwF (Nat.le_refl _)⟩
  have HO := log_one lg
  have HI : Hid ((Tryz.prog.info? 26).map (·.size) = some lg.cells.length) := log_info lg
  clear hrF bF hwF hsF hWF hw9 hc9 HRD hlen9 hsh9 hcp9 hcf9 bL9 bR9
  go_wp2_with (first | (guard_target = wpList _ _ _ (Oper.mk (some 48) _ _ _ _ _ :: _) _ _; refine wpList_load_mid rfl 26 (.tmp 5) rfl L 0 rfl lg.cells _ r9 Tryz.underlying26 rfl HI.out ?_) | (guard_target = wpList _ _ _ (Oper.mk none (Op.store _ (Operand.tmp 4) _) _ _ _ _ :: _) _ _; refine wpList_store_mid rfl 26 (.tmp 4) (.tmp 48) rfl w.heap.size 0 lg.cells.toArray rfl rfl HTF.out HI.out HO ?_; rw [hWF'.out]) | fail)
  exact bodyPost_ret (v := .agg lg.cells.toArray) (results_one Tryz.results24 rfl HLF.out) rfl HEND.out
end Go.Proofs.YtickiokdcbeefaaGreatDoor
namespace Go.Proofs.YtickiokdcbeefaaGreatDoor
open Go.RowKit
attribute [local go_sem ↓] Go.wp_at_zero Go.wp_at_succ
theorem l1Size_any (a : Option Addr) (c : Nat) (zs : List Int) (m : Nat) (w : World) (hl : zs.length ≤ 70368744177664) (hm : 0 < m) :
  Calls Tryz.prog 25 #[.slice a zs.length c, .int .i64 m] w fun r w' => ∃ n : Nat, r = .returned (.int .i64 n) ∧ 0 < n ∧ n ≤ m ∧ w' = w := by
 by_cases h : 3 + (zs.length : Int) / 12 > (m : Int)
 ·go_enter Tryz.func25, Tryz.ntmps25
  go_wp2
  go_ret
  exact ⟨m, rfl, hm, Nat.le_refl _, rfl⟩
 ·go_enter Tryz.func25, Tryz.ntmps25
  go_wp2
  go_ret
  exact ⟨3 + zs.length / 12, ret_int (by omega), by omega, by omega, rfl⟩
end Go.Proofs.YtickiokdcbeefaaGreatDoor
namespace Go.Proofs.YtickiokdcbeefaaGreatDoor
open Go.RowKit
theorem putParts_any (a : Option Addr) (c : Nat) (xs : List Int) (aL : Option Addr) (cL : Nat) (l : List Int) (w : World) (hr : Reads w a xs) (hc : a = none → c = 0) (hL : ReadsI w aL l) (hx : xs.length ≤ 1000000) (hl : l.length ≤ 1000) :
  Calls Tryz.prog 93 #[.slice a xs.length c, .slice aL l.length cL] w fun e w' => ∃ a' c' ys, e = .returned (.slice a' ys.length c') ∧ Hid (ys = xs ++ putList l) ∧ OwnB w' w.heap.size a' c' ys ∧ Below w.heap.size w w' := by
 have HC : Hid (a = none → c = 0) := hc
 clear hc
 have hbA : Below w.heap.size w (w.alloc (.cells #[.int .i64 (l.length : Int)] 3)) := (Below.refl _ _).alloc (Nat.le_refl _) _
 go_enter Tryz.func93, Tryz.ntmps93
 go_wp2_with fail
 refine (putInts_any a c xs _ _ [(l.length : Int)] _ (hr.alloc _) HC.out (readsI_one w l.length _) (by simp; omega)).mono ?_
 rintro e w1 ⟨a1, c1, y1, rfl, hy1, ho1, hb1⟩
 have HY1 : Hid (y1 = xs ++ putOf l.length) := by rw [Hid, hy1]; simp
 have hl1 : y1.length ≤ 1000065 := by have := (putOf_len l.length).2; rw [HY1.out, List.length_append]; omega
 have hb1' : Below w.heap.size w w1 := hbA.trans (hb1.mono hbA.size)
 have ho1' := ho1.base hbA.size
 clear hy1 hb1 ho1 hbA
 go_wp2_with fail
 refine (putInts_any a1 c1 y1 aL cL l w1 ho1'.reads ho1'.nocap (hL.below hb1') (by omega)).mono ?_
 rintro e w2 ⟨a2, c2, y2, rfl, hy2, ho2, hb2⟩
 have HY2 : Hid (y2 = xs ++ putList l) := by rw [Hid, hy2, HY1.out]; simp [putList]
 clear hy2
 go_wp2
 go_ret
 exact ⟨a2, c2, y2, rfl, HY2, ho2.base hb1'.size, hb1'.trans (hb2.mono hb1'.size)⟩
theorem implPutObj_any (o : ObjV) (aI : Option Addr) (cI : Nat) (aR : Option Addr) (cR : Nat) (w : World) (hg : ErrT w) (hr : ReadsO w aI cI aR cR o) (hnI : o.ints.length ≤ 140737488355328) (hnR : o.refs.length ≤ 140737488355328) :
  Calls Tryz.prog 63 #[.agg #[.int .i64 o.kind, .slice aI o.ints.length cI, .slice aR o.refs.length cR]] w fun e w' => ∃ a' c' ys, e = .returned (.slice a' ys.length c') ∧ Hid (ys = putObjOf o) ∧ OwnB w' w.heap.size a' c' ys ∧ Below w.heap.size w w' := by
 have hok := fun w' (g : ErrT w') (h : ReadsO w' aI cI aR cR o) => implObjOk_any o aI cI aR cR w' g h hnI hnR
 have HPT : Hid (okB o = true → putObjOf o = (putOf o.kind ++ putList o.ints) ++ putList o.refs) := fun h => by unfold putObjOf; rw [if_pos h]
 have HPF : Hid (okB o = false → putObjOf o = []) := fun h => by unfold putObjOf; rw [if_neg (by rw [h]; decide)]
 have HLN : Hid (okB o = true → o.ints.length ≤ 5 ∧ o.refs.length ≤ 5) := fun h => by simp [okB] at h; exact ⟨h.2.1, h.2.2.1⟩
 have hcs : okB o = true ∨ okB o = false := by cases okB o <;> simp
 generalize hP : putObjOf o = P at *
 clear hP
 obtain ⟨k, ints, refs⟩ := o
 have hr' := hr
 obtain ⟨hI, hR, _, _⟩ := hr
 simp only at *
 obtain ⟨W, hW, b0, hbW, hsW⟩ := boxes1 w [.int .i64 k, .slice aI ints.length cI, .slice aR refs.length cR] 37
 go_enter Tryz.func63, Tryz.ntmps63
 go_wp2_with fail
 rw [hW.out]
 refine (hok W (hg.keep hbW) (hr'.below hbW)).mono ?_
 rintro e w1 ⟨rfl, hb1⟩
 have hbw1 : Below w.heap.size w w1 := hbW.trans (hb1.mono hbW.size)
 have b1 := b0.below hb1 b0.lt
 have x0 := b1.cell 0 _ rfl
 have x1 := b1.cell 1 _ rfl
 have x2 := b1.cell 2 _ rfl
 rcases hcs with hB | hB
 ·have HP : Hid (_ = _) := HPT.out hB
  obtain ⟨h5, h6⟩ := HLN.out hB
  rw [hB]
  clear hB hok
  have hL1 := (putOf_len k).2
  have HL2 : Hid (_ ≤ _) := putList_len ints
  have hlt1 := b1.lt
  have hkeep : ∀ w', Below w1.heap.size w1 w' → w'.cell? ⟨w.heap.size, 0, none⟩ = some (.int .i64 k) ∧ w'.cell? ⟨w.heap.size, 1, none⟩ = some (.slice aI ints.length cI) ∧ w'.cell? ⟨w.heap.size, 2, none⟩ = some (.slice aR refs.length cR) :=
   fun w' hh => ⟨(b1.below hh hlt1).cell 0 _ rfl, (b1.below hh hlt1).cell 1 _ rfl, (b1.below hh hlt1).cell 2 _ rfl⟩
  have hbA : Below w1.heap.size w1 (w1.alloc (.cells #[.int .i64 k] 3)).drew := ((Below.refl _ _).alloc (Nat.le_refl _) _).drew
  have hrA : ReadsI (w1.alloc (.cells #[.int .i64 k] 3)).drew (some ⟨w1.heap.size, 0, none⟩) [k] := (readsI_one w1 k _).below (Below.refl _ _).drew
  go_wp2_with fail
  go_region_held3 (fun w' => w'.cell? ⟨w.heap.size, 0, none⟩ = some (.int .i64 k) ∧ w'.cell? ⟨w.heap.size, 1, none⟩ = some (.slice aI ints.length cI) ∧ w'.cell? ⟨w.heap.size, 2, none⟩ = some (.slice aR refs.length cR))
   (first | exact hkeep _ ((Below.refl _ _).alloc (Nat.le_refl _) _).drew | exact hkeep _ ((Below.refl _ _).alloc (Nat.le_refl _) _) | exact hkeep _ hw4 | exact hkeep _ hw3 | exact hkeep _ hw2 | go_keep)
   (first
   | (go_at_call 33; refine (putInts_any none 0 [] _ _ [k] _ ⟨by simp, by simp⟩ (fun _ => rfl) hrA (by simp)).mono ?_; rintro e w2 ⟨a2, c2, y2, rfl, hy2, ho2, hb2⟩; have hw2 : Below w1.heap.size w1 w2 := hbA.trans (hb2.mono hbA.size); have HY2 : Hid (y2 = [] ++ putOf k) := (by rw [Hid, hy2]; simp); have hl2 : y2.length ≤ 65 := (by rw [HY2.out]; simp; omega); clear hy2)
   | (go_at_call_of 93 (Value.slice a2 y2.length c2); refine (putParts_any a2 c2 y2 aI cI ints w2 ho2.reads ho2.nocap (hI.below (hbw1.trans (hw2.mono hbw1.size))) (by omega) (by omega)).mono ?_; rintro e w3 ⟨a3, c3, y3, rfl, HY3, ho3, hb3⟩; have hw3 : Below w1.heap.size w1 w3 := hw2.trans (hb3.mono hw2.size); have hl3 : y3.length ≤ 1000 := (by have := HL2.out; rw [HY3.out, List.length_append]; omega))
   | (go_at_call_of 93 (Value.slice a3 y3.length c3); refine (putParts_any a3 c3 y3 aR cR refs w3 ho3.reads ho3.nocap (hR.below (hbw1.trans (hw3.mono hbw1.size))) (by omega) (by omega)).mono ?_; rintro e w4 ⟨a4, c4, y4, rfl, HY4, ho4, hb4⟩; have hw4 : Below w1.heap.size w1 w4 := hw3.trans (hb4.mono hw3.size)))
  go_wp2
  go_ret
  exact ⟨a4, c4, y4, rfl, by rw [Hid, HP.out, HY4.out, HY3.out, HY2.out]; simp, ho4.base (Nat.le_trans hbw1.size hw3.size), hbw1.trans (hw4.mono hbw1.size)⟩
 ·have HP : Hid (_ = _) := HPF.out hB
  rw [hB]
  clear hB hok
  go_wp2
  go_ret
  exact ⟨_, 0, [], rfl, HP.out.symm, (own_lit0 w1).base hbw1.size, hbw1.alloc hbw1.size _⟩
theorem sBytes_cells (s : ByteArray) : (sBytes s).map (Value.int .u8) = Lib.strCells s := by
 simp [sBytes, Lib.strCells]
theorem append_text {w : World} {ops : Array Oper} {rest : List Oper} {o : Oper} {act : Act} {Q : Exit → Act → World → Prop} (hgd : o.guard = none) (sl x : Operand)
  (ho : o.op = .call { callee := .builtin .append, args := #[sl, x], argTypes := #[22, 9] })
  (base : Nat) (a : Option Addr) (c : Nat) (xs : List Int) (hs : act.eval sl = .slice a xs.length c) (hown : OwnB w base a c xs)
  (s : ByteArray) (hx : act.eval x = .string s) (hb : xs.length + s.size ≤ 70368744177664) (hbase : base ≤ w.heap.size)
  (h : ∀ a' c' ys w', Hid (ys = xs ++ sBytes s) → OwnB w' base a' c' ys → w.grownBy w' (Value.slice a xs.length c).ownBlock → wpList Tryz.prog ops Q rest (act.put o.dst (.slice a' ys.length c')) w') :
  wpList Tryz.prog ops Q (o :: rest) act w := by
 obtain ⟨i0, hi, hz0, hz1, hz2⟩ := info_parts Tryz.infoU8
 refine Lib.wpList_append_own_string w hgd sl x 22 9 ho base 5 i0 Tryz.underlying22 Tryz.underlying9 hi hz0 hz1 hz2 _ _ _ hs hown.2 s hx (by simp only [maxLen]; omega) (by omega) hbase ?_
 intro v' w' h1 h2 _
 have e1 : xs.length + s.size = (xs ++ sBytes s).length := by rw [List.length_append, sBytes_len]
 have e2 : xs.map (Value.int .u8) ++ Lib.strCells s = (xs ++ sBytes s).map (Value.int .u8) := by rw [List.map_append, sBytes_cells]
 rw [e1, e2] at h1
 have sh : ∃ a' c', v' = .slice a' (xs ++ sBytes s).length c' := by
  rcases h1.2 with ⟨rfl, h0⟩ | ⟨g, cap, cur, rfl, _⟩
  ·exact ⟨none, 0, by rw [h0]⟩
  ·exact ⟨_, _, rfl⟩
 obtain ⟨a', c', rfl⟩ := sh
 refine h a' c' (xs ++ sBytes s) w' rfl ⟨?_, h1⟩ h2
 intro z hz
 rcases List.mem_append.1 hz with h3 | h3
 ·exact hown.1 z h3
 ·exact sBytes_byte s z h3
theorem iter_kept {w w' : World} {base : Nat} {a : Option Addr} {c : Nat} {ys : List Int} {k pos : Nat} {s : ByteArray} (ho : OwnB w base a c ys) (hg : w.grownBy w' (Value.slice a ys.length c).ownBlock)
  (hk : w.heap[k]? = some (.stringIter s pos)) : w'.heap[k]? = some (.stringIter s pos) := by
 rw [hg.block k (Array.getElem?_eq_some_iff.1 hk).1 ?_]
 ·exact hk
 ·intro e
  rcases ho.2.2 with ⟨hv, _⟩ | ⟨g, cap, cur, hv, hg1, hgg, hr⟩
  ·rw [hv] at e; simp [Value.ownBlock] at e
  ·rw [hv] at e
   simp only [Value.ownBlock, Option.some.injEq] at e
   subst e
   rw [hgg] at hk
   cases hk
theorem OwnB.iterAt {w : World} {base : Nat} {a : Option Addr} {c : Nat} {ys : List Int} {k pos : Nat} {s : ByteArray} (ho : OwnB w base a c ys) (hk : w.heap[k]? = some (.stringIter s pos)) (pos' : Nat) : OwnB (w.iterAt k s pos') base a c ys := by
 refine ⟨ho.1, ho.2.1, ?_⟩
 rcases ho.2.2 with h0 | ⟨g, cap, cur, hv, hg1, hgg, hr⟩
 ·exact .inl h0
 ·refine .inr ⟨g, cap, cur, hv, hg1, ?_, hr⟩
  rw [Lib.iterAt_other w k g s pos' (by intro e; subst e; rw [hgg] at hk; cases hk)]
  exact hgg
theorem width_pos (s : ByteArray) (pos : Nat) (h : pos < s.size) : 1 ≤ (Utf8.decode s pos).2 := by
 by_cases ha : (s[pos]'h).toNat < 128
 ·rw [decode_ascii s pos h ha]; exact Nat.le_refl _
 ·exact (decode_high s pos h (by omega)).2
theorem appendRunes_any (base : Nat) (a : Option Addr) (c : Nat) (xs : List Int) (s : ByteArray) (w : World) (hown : OwnB w base a c xs) (hl : xs.length + s.size ≤ 70368744177000) (hbase : base ≤ w.heap.size) :
  Calls Tryz.prog 91 #[.slice a xs.length c, .string s] w fun e w' => ∃ a' c' ys, e = .returned (.slice a' ys.length c') ∧ ys = xs ++ sBytes s ∧ OwnB w' base a' c' ys ∧ Below base w w' := by
 go_enter Tryz.func91, Tryz.ntmps91
 go_wp2
 go_loopw [0, 5, 6] (fun out fr _ wr => ∃ (a' : Option Addr) (c' : Nat) (ys : List Int) (pos f : Nat), out = .slice a' ys.length c' ∧ fr = .int .i64 f ∧ f ≤ pos ∧ f ≤ s.size ∧ OwnB wr base a' c' ys ∧ Hid (ys = xs ++ (sBytes s).take f) ∧ wr.heap[w.heap.size]? = some (.stringIter s pos) ∧ Below base w wr)
  (fun _ _ _ wr => s.size - wr.iterPos w.heap.size)
 case atStart => exact ⟨a, c, xs, 0, 0, rfl, rfl, by omega, by omega, hown.alloc _, by simp [Hid], World.iter_heap w s 0, (Below.refl _ _).alloc hbase _⟩
 case round =>
  obtain ⟨a', c', ys, pos, f, rfl, rfl, hfp, hfs, ho, hy, hit, hnx⟩ := hrel
  have hsz := hnx.size
  clear hown
  have hyl : ys.length ≤ xs.length + f := by
   have e := congrArg List.length hy.out
   rw [List.length_append, List.length_take, sBytes_len] at e
   omega
  by_cases hp : pos < s.size
  ·have hnxt : ∀ ty, (Instr.next (.pointer (some ⟨w.heap.size, 0, none⟩)) true ty).run Tryz.prog wr = _ := fun ty => Lib.run_next_any_at wr w.heap.size s pos ty hit hp
   have hwd := width_pos s pos hp
   have hit2 := Lib.iterAt_heap wr w.heap.size s pos (pos + (Utf8.decode s pos).2) hit
   have ho1 := ho.iterAt hit (pos + (Utf8.decode s pos).2)
   have hb1 := Lib.below_iterAt hnx (k := w.heap.size) hbase s (pos + (Utf8.decode s pos).2)
   have hsz2 : base ≤ (wr.iterAt w.heap.size s (pos + (Utf8.decode s pos).2)).heap.size := by rw [Lib.iterAt_size]; omega
   have HST : Hid (_ = _) := sBytes_step s f pos hfp
   have hxl : (s.extract f pos).size ≤ s.size - f := by simp; omega
   have HI : Hid (wr.iterPos w.heap.size = pos) := by simp [Hid, World.iterPos, hit]
   go_wp2_with (at_builtin; refine append_text rfl _ _ rfl base a' c' ys rfl ho1 (s.extract f pos) rfl (by omega) hsz2 ?_; intro a2 c2 y2 w2 hy2 ho2 hg2)
   have hit3 := iter_kept ho1 hg2 hit2
   go_roundw
   case rel => exact ⟨a2, c2, y2, pos + (Utf8.decode s pos).2, pos, rfl, rfl, by omega, by omega, ho2, by rw [Hid, hy2.out, hy.out, List.append_assoc, HST.out], hit3, hb1.grown hg2 hsz2 (fun j hj => (ho1.2.lt j hj).1)⟩
   case measure => rw [HI.out]; simp only [World.iterPos, hit3]; omega
  ·have hnxt : ∀ ty, (Instr.next (.pointer (some ⟨w.heap.size, 0, none⟩)) true ty).run Tryz.prog wr = _ := fun ty => Lib.run_next_end_at wr w.heap.size s pos ty hit hp
   have HST : Hid (_ = _) := sBytes_rest s f hfs
   have hxl : (s.extract f s.size).size ≤ s.size := by simp
   have hsz2 : base ≤ wr.heap.size := by omega
   have hyl2 : ys.length + (s.extract f s.size).size ≤ 70368744177664 := by
    have e := congrArg List.length hy.out
    rw [List.length_append, List.length_take, sBytes_len] at e
    simp
    omega
   go_wp2_with (at_builtin; refine append_text rfl _ _ rfl base a' c' ys rfl ho (s.extract f s.size) rfl hyl2 hsz2 ?_; intro a2 c2 y2 w2 hy2 ho2 hg2)
   go_ret
   exact ⟨a2, c2, y2, rfl, by rw [hy2.out, hy.out, List.append_assoc, HST.out], ho2, hnx.grown hg2 hsz2 (fun j hj => (ho.2.lt j hj).1)⟩
def putTextOf (s : ByteArray) : List Int := putOf s.size ++ sBytes s
theorem implPutText_any (a : Option Addr) (c : Nat) (zs : List Int) (s : ByteArray) (w : World) (hr : Reads w a zs) (hc : a = none → c = 0) (hl : zs.length + s.size ≤ 70368744160000) :
  Calls Tryz.prog 62 #[.slice a zs.length c, .string s] w fun e w' => ∃ a' c' ys, e = .returned (.slice a' ys.length c') ∧ ys = zs ++ putTextOf s ∧ OwnB w' w.heap.size a' c' ys ∧ Below w.heap.size w w' := by
 have HC : Hid (a = none → c = 0) := hc
 have HL : Hid ((putOf (s.size : Int)).length ≤ 65) := (putOf_len _).2
 clear hc
 go_enter Tryz.func62, Tryz.ntmps62
 go_wp2_with fail
 refine (putInts_any a c zs _ _ [(s.size : Int)] _ (hr.alloc _) HC.out (readsI_one w _ _) (by simp; omega)).mono ?_
 rintro e w1 ⟨a1, c1, y1, rfl, hy1, ho1, hb1⟩
 have HY1 : Hid (y1 = zs ++ putOf s.size) := by rw [Hid, hy1]; simp
 have hyl : y1.length + s.size ≤ 70368744177000 := by
  have e := congrArg List.length HY1.out
  have := HL.out
  rw [List.length_append] at e
  omega
 have hbw : Below w.heap.size w w1 := ((Below.refl _ _).alloc (Nat.le_refl _) _).trans (hb1.mono (by simp))
 have ho1' : OwnB w1 w.heap.size a1 c1 y1 := ho1.base (by simp)
 clear hy1 hb1 ho1 hr
 go_wp2_with fail
 refine (appendRunes_any w.heap.size a1 c1 y1 s w1 ho1' hyl hbw.size).mono ?_
 rintro e w2 ⟨a2, c2, y2, rfl, hy2, ho2, hb2⟩
 have HY2 : Hid (y2 = zs ++ putTextOf s) := by rw [Hid, hy2, HY1.out, List.append_assoc]; rfl
 clear hy2
 go_wp2
 go_ret
 exact ⟨a2, c2, y2, rfl, HY2.out, ho2, hbw.trans hb2⟩
end Go.Proofs.YtickiokdcbeefaaGreatDoor
namespace Go.Proofs.YtickiokdcbeefaaGreatDoor
end Go.Proofs.YtickiokdcbeefaaGreatDoor
namespace Go.Proofs.YtickiokdcbeefaaGreatDoor
open Go.RowKit
theorem strOf_size (y : List Int) : (strOf y).size = y.length := by simp [strOf, ByteArray.size]
theorem sBytes_strOf (y : List Int) (h : Bytes y) : sBytes (strOf y) = y := by
 unfold sBytes strOf
 simp only [List.map_map]
 conv => rhs; rw [← List.map_id y]
 apply List.map_congr_left
 intro z hz
 have := h z hz
 simp
 omega
theorem putText_put (o : ObjV) : putTextOf (strOf (putObjOf o)) = putOf (putObjOf o).length ++ putObjOf o := by
 unfold putTextOf
 rw [strOf_size, sBytes_strOf _ (putObj_byte o)]
theorem putSlot_any (a : Option Addr) (c : Nat) (xs : List Int) (s : SlotA) (w : World) (hg : ErrT w) (hx : Reads w a xs) (hc : a = none → c = 0) (hr : s.reads w) (hl : Fit [s]) (hxl : xs.length ≤ 1000000) :
  Calls Tryz.prog 34 #[.slice a xs.length c, .agg s.cells.toArray] w fun e w' => ∃ a' c' ys, e = .returned (.slice a' ys.length c') ∧ Hid (ys = xs ++ (putOf (putObjOf s.v.o).length ++ putObjOf s.v.o)) ∧ OwnB w' w.heap.size a' c' ys ∧ Below w.heap.size w w' := by
 obtain ⟨h1, h2⟩ := hl s (List.mem_singleton.2 rfl)
 obtain ⟨W, hW, b0, hbW, hsW⟩ := boxes1 w s.cells 39
 have C1 := implPutObj_any s.v.o s.aI s.cI s.aR s.cR W (hg.keep hbW) (ReadsO.below hr hbW) (by omega) (by omega)
 have HT : Hid (_ = _) := putText_put s.v.o
 have hpl := putObj_len s.v.o
 have HC : Hid (a = none → c = 0) := hc
 simp only [SlotA.cells] at *
 clear hc
 go_enter Tryz.func34, Tryz.ntmps34
 go_wp2_with fail
 rw [hW.out]
 refine C1.mono ?_
 rintro e w1 ⟨a1, c1, y1, rfl, HY1, ho1, hb1⟩
 have hcv := run_text_own ho1
 have B1 : Below w.heap.size w w1 := hbW.trans (hb1.mono hbW.size)
 have hyl : (strOf y1).size ≤ 1000 := by rw [strOf_size, HY1.out]; exact hpl
 have HS : Hid (putTextOf (strOf y1) = putOf (putObjOf s.v.o).length ++ putObjOf s.v.o) := by rw [Hid, HY1.out]; exact HT.out
 generalize strOf y1 = t1 at *
 clear C1 HT
 go_wp2_with fail
 refine (implPutText_any a c xs t1 w1 (hx.below B1) HC.out (by omega)).mono ?_
 rintro e w2 ⟨a2, c2, y2, rfl, hy2, ho2, hb2⟩
 have HY2 : Hid (y2 = xs ++ (putOf (putObjOf s.v.o).length ++ putObjOf s.v.o)) := by rw [Hid, hy2, HS.out]
 clear hy2
 go_wp2
 go_ret
 exact ⟨a2, c2, y2, rfl, HY2, ho2.base B1.size, B1.trans (hb2.mono B1.size)⟩
theorem flagInt_any (b : Bool) (w : World) : Calls Tryz.prog 35 #[.bool b] w fun e w' => e = .returned (.int .i64 (if b then 1 else 0)) ∧ w' = w := by
 cases b
 ·go_enter Tryz.func35, Tryz.ntmps35
  go_wp2
  go_ret
  exact ⟨rfl, rfl⟩
 ·go_enter Tryz.func35, Tryz.ntmps35
  go_wp2
  go_ret
  exact ⟨rfl, rfl⟩
theorem bodyR_parts {r : RecV} (h : okR r = true) : bodyR r = ((((headR r).flatMap putOf ++ (putOf (putObjOf r.bf.o).length ++ putObjOf r.bf.o)) ++ (putOf (putObjOf r.af.o).length ++ putObjOf r.af.o)) ++ putOf r.txs.length) ++ r.txs.flatMap putLive := by
 have d := okR_bd h
 unfold bodyR
 rw [putSlot_one d.bf, putSlot_one d.af]
theorem implPutRec_any (r : RecA) (w : World) (hg : ErrT w) (hr : r.reads w) (hl : r.short 1099511627776) :
  Calls Tryz.prog 14 #[.agg r.cells.toArray] w fun e w' => ∃ a' c' ys, e = .returned (.slice a' ys.length c') ∧ Hid (ys = putRecOf r.v) ∧ OwnB w' w.heap.size a' c' ys ∧ Below w.heap.size w w' := by
 obtain ⟨W, hW, b0, hbW, hsW⟩ := boxes1 w r.cells 42
 have C1 := implRecOk_any r W (hg.keep hbW) (hr.below hbW) hl
 have HPT : Hid (okR r.v = true → putRecOf r.v = _) := fun h => (putRec_ok h).trans (bodyR_parts h)
 have HPF : Hid (okR r.v = false → putRecOf r.v = []) := fun h => putRec_no h
 have HT20 : Hid (okR r.v = true → r.txs.length ≤ 20) := fun h => okR_txs h
 have HX : Hid (∀ u, Below W.heap.size W u → Box u w.heap.size r.cells 42) := fun u hu => b0.below hu b0.lt
 generalize putRecOf r.v = R at *
 simp only [RecA.cells] at *
 have HC : Hid (∀ w', Box w' w.heap.size [.int .i64 r.lsn, .int .i64 r.tx, .int .i64 r.prev, .int .i64 r.kind, .int .i64 r.oid, .bool r.bf.v.has, .int .i64 r.bf.v.o.kind, .slice r.bf.aI r.bf.v.o.ints.length r.bf.cI, .slice r.bf.aR r.bf.v.o.refs.length r.bf.cR, .bool r.af.v.has, .int .i64 r.af.v.o.kind, .slice r.af.aI r.af.v.o.ints.length r.af.cI, .slice r.af.aR r.af.v.o.refs.length r.af.cR, .int .i64 r.next, .slice r.aL r.txs.length r.cL] 42 → w'.cell? ⟨w.heap.size, 5, none⟩ = some (.bool r.bf.v.has) ∧ w'.cell? ⟨w.heap.size, 6, none⟩ = some (.int .i64 r.bf.v.o.kind) ∧ w'.cell? ⟨w.heap.size, 7, none⟩ = some (.slice r.bf.aI r.bf.v.o.ints.length r.bf.cI) ∧ w'.cell? ⟨w.heap.size, 8, none⟩ = some (.slice r.bf.aR r.bf.v.o.refs.length r.bf.cR) ∧ w'.cell? ⟨w.heap.size, 9, none⟩ = some (.bool r.af.v.has) ∧ w'.cell? ⟨w.heap.size, 10, none⟩ = some (.int .i64 r.af.v.o.kind) ∧ w'.cell? ⟨w.heap.size, 11, none⟩ = some (.slice r.af.aI r.af.v.o.ints.length r.af.cI) ∧ w'.cell? ⟨w.heap.size, 12, none⟩ = some (.slice r.af.aR r.af.v.o.refs.length r.af.cR)) := fun w' b => ⟨b.cell 5 _ rfl, b.cell 6 _ rfl, b.cell 7 _ rfl, b.cell 8 _ rfl, b.cell 9 _ rfl, b.cell 10 _ rfl, b.cell 11 _ rfl, b.cell 12 _ rfl⟩
 clear hsW
 go_enter Tryz.func14, Tryz.ntmps14
 go_wp2_with fail
 rw [hW.out]
 clear hW
 refine C1.mono ?_
 clear C1 b0
 rintro e w1 ⟨rfl, hb1⟩
 have B1 : Below w.heap.size w w1 := hbW.trans (hb1.mono hbW.size)
 cases hok : okR r.v with
 | false =>
  have HR : Hid (R = []) := HPF.out hok
  clear hok HPT HPF HT20
  go_wp2
  go_ret
  exact ⟨_, 0, [], rfl, HR.out.symm, (own_lit0 w1).base B1.size, B1.alloc B1.size _⟩
 | true =>
  have HR : Hid (R = _) := HPT.out hok
  have h20 := HT20.out hok
  clear hok HPT HPF HT20
  obtain ⟨x0, x1, x2, x3, x4, _, _, _, _, _, _, _, _, x13, _⟩ := fifteen (HX.out w1 hb1)
  go_wp2_with fail
  refine (putInts_any none 0 [] _ _ [r.lsn, r.tx, r.prev, r.kind, r.oid, r.next] _ ⟨by simp, by simp⟩ (fun _ => rfl) (readsI_lit w1 [r.lsn, r.tx, r.prev, r.kind, r.oid, r.next] _) (by simp)).mono ?_
  clear x0 x1 x2 x3 x4 x13
  rintro e w2 ⟨a2, c2, y2, rfl, hy2, ho2, hb2⟩
  have HY2 : Hid (y2 = (headR r.v).flatMap putOf) := by rw [Hid, hy2]; rfl
  have hyl2 : y2.length ≤ 390 := by rw [HY2.out]; exact flatN_len _
  have hbA : Below w1.heap.size w1 (w1.alloc (.cells #[.int .i64 r.lsn, .int .i64 r.tx, .int .i64 r.prev, .int .i64 r.kind, .int .i64 r.oid, .int .i64 r.next] 3)) := (Below.refl _ _).alloc (Nat.le_refl _) _
  have N2 : Below w1.heap.size w1 w2 := hbA.trans (hb2.mono hbA.size)
  have M2 : Below W.heap.size W w2 := hb1.trans (N2.mono hb1.size)
  have B2 : Below w.heap.size w w2 := B1.trans (N2.mono B1.size)
  have ho2' : OwnB w2 w.heap.size a2 c2 y2 := ho2.base (Nat.le_trans B1.size hbA.size)
  clear hy2 hbA hb2 ho2 N2
  go_wp2_with fail
  refine wp_region_held_drew (S := fun w' => w'.cell? ⟨w.heap.size, 5, none⟩ = some (.bool r.bf.v.has) ∧ w'.cell? ⟨w.heap.size, 6, none⟩ = some (.int .i64 r.bf.v.o.kind) ∧ w'.cell? ⟨w.heap.size, 7, none⟩ = some (.slice r.bf.aI r.bf.v.o.ints.length r.bf.cI) ∧ w'.cell? ⟨w.heap.size, 8, none⟩ = some (.slice r.bf.aR r.bf.v.o.refs.length r.bf.cR) ∧ w'.cell? ⟨w.heap.size, 9, none⟩ = some (.bool r.af.v.has) ∧ w'.cell? ⟨w.heap.size, 10, none⟩ = some (.int .i64 r.af.v.o.kind) ∧ w'.cell? ⟨w.heap.size, 11, none⟩ = some (.slice r.af.aI r.af.v.o.ints.length r.af.cI) ∧ w'.cell? ⟨w.heap.size, 12, none⟩ = some (.slice r.af.aR r.af.v.o.refs.length r.af.cR)) (by kernel_rfl) (HC.out _ (HX.out _ M2.drew)) (fun hHeld => ?_)
  refine tk 0 (v := .slice a2 y2.length c2) rfl (Or.inl ⟨by rfl, ?_⟩) hHeld ?_
  ·intro w' hSw
   go_simp <;> rfl
  try simp only [Act.put, zA, zB, zD, zE, zF]
  refine tk 1 (v := .pointer (some ⟨w.heap.size, 5, none⟩)) rfl (Or.inl ⟨by rfl, ?_⟩) hHeld ?_
  ·intro w' hSw
   go_simp <;> rfl
  try simp only [Act.put, zA, zB, zC, zD, zE, zF]
  refine tk 2 (v := .agg #[.bool r.bf.v.has, .int .i64 r.bf.v.o.kind, .slice r.bf.aI r.bf.v.o.ints.length r.bf.cI, .slice r.bf.aR r.bf.v.o.refs.length r.bf.cR]) rfl (Or.inl ⟨by rfl, ?_⟩) hHeld ?_
  ·intro w' hSw
   go_simp <;> rfl
  try simp only [Act.put, zA, zB, zC, zD, zE, zF]
  refine tk 4 (v := .pointer (some ⟨w.heap.size, 9, none⟩)) rfl (Or.inl ⟨by rfl, ?_⟩) hHeld ?_
  ·intro w' hSw
   go_simp <;> rfl
  try simp only [Act.put, zA, zB, zC, zD, zE, zF]
  refine tk 5 (v := .agg #[.bool r.af.v.has, .int .i64 r.af.v.o.kind, .slice r.af.aI r.af.v.o.ints.length r.af.cI, .slice r.af.aR r.af.v.o.refs.length r.af.cR]) rfl (Or.inl ⟨by rfl, ?_⟩) hHeld ?_
  ·intro w' hSw
   go_simp <;> rfl
  try simp only [Act.put, zA, zB, zC, zD, zE, zF]
  refine wpAnyH_ready (rs := [3]) (by kernel_rfl) (by simp) ?_
  refine AllReadyH.cons rfl (fun K hK => ?_) AllReadyH.nil
  go_simp
  refine (putSlot_any a2 c2 y2 r.bf _ (hg.keep B2.drew) (ho2'.reads.below (Below.refl _ _).drew) ho2'.nocap (ReadsO.below hr.bf B2.drew) (one_fit hl.bf) (by omega)).mono ?_
  rintro e w3 ⟨a3, c3, y3, rfl, HY3, ho3, hb3⟩
  have hpb := putObj_len r.bf.v.o
  have hpo := (putOf_len ((putObjOf r.bf.v.o).length : Int)).2
  have hyl3 : y3.length ≤ 1500 := by rw [HY3.out]; simp only [List.length_append]; omega
  have M3 : Below W.heap.size W w3 := M2.drew.trans (hb3.mono M2.drew.size)
  have B3 : Below w.heap.size w w3 := B2.drew.trans (hb3.mono B2.drew.size)
  have ho3' : OwnB w3 w.heap.size a3 c3 y3 := ho3.base B2.size
  refine hK.out _ _ (HC.out _ (HX.out _ M3)) (fun hHeld => ?_)
  clear hK K
  try simp only [Act.put, zA, zB, zC, zD, zE, zF]
  refine wpAnyH_ready (rs := [6]) (by kernel_rfl) (by simp) ?_
  refine AllReadyH.cons rfl (fun K hK => ?_) AllReadyH.nil
  go_simp
  refine (putSlot_any a3 c3 y3 r.af _ (hg.keep B3) ho3'.reads ho3'.nocap (ReadsO.below hr.af B3) (one_fit hl.af) (by omega)).mono ?_
  rintro e w4 ⟨a4, c4, y4, rfl, HY4, ho4, hb4⟩
  have hpb' := putObj_len r.af.v.o
  have hpo' := (putOf_len ((putObjOf r.af.v.o).length : Int)).2
  have hyl4 : y4.length ≤ 3000 := by rw [HY4.out]; simp only [List.length_append]; omega
  have M4 : Below W.heap.size W w4 := M3.trans (hb4.mono M3.size)
  have B4 : Below w.heap.size w w4 := B3.trans (hb4.mono B3.size)
  have ho4' : OwnB w4 w.heap.size a4 c4 y4 := ho4.base B3.size
  refine hK.out _ _ (HC.out _ (HX.out _ M4)) (fun hHeld => ?_)
  clear hK K
  try simp only [Act.put, zA, zB, zC, zD, zE, zF]
  refine tk 7 (v := .slice a4 y4.length c4) rfl (Or.inl ⟨by rfl, ?_⟩) hHeld ?_
  ·intro w' hSw
   go_simp <;> rfl
  try simp only [Act.put, zA, zB, zC, zD, zE, zF]
  refine wpAnyH_done (by kernel_rfl) ?_ _
  have HP4 : Hid (y4 = (((headR r.v).flatMap putOf ++ (putOf (putObjOf r.bf.v.o).length ++ putObjOf r.bf.v.o)) ++ (putOf (putObjOf r.af.v.o).length ++ putObjOf r.af.v.o))) := by rw [Hid, HY4.out, HY3.out, HY2.out]
  have x14 := (HX.out w4 M4).cell 14 _ rfl
  clear hHeld HY4 HY3 HY2 ho4 ho3 ho3' ho2' hb3 hb4 hyl2 hyl3 hpb hpo hpb' hpo' M2 M3 B2 B3 HC
  go_wp2_with fail
  refine (putInts_any a4 c4 y4 _ _ [(r.txs.length : Int)] _ (ho4'.reads.below ((Below.refl _ _).alloc (Nat.le_refl _) _)) ho4'.nocap (readsI_one w4 _ _) (by simp only [List.length_cons, List.length_nil]; omega)).mono ?_
  clear x14
  rintro e w5 ⟨a5, c5, y5, rfl, hy5, ho5, hb5⟩
  have hbA : Below w4.heap.size w4 (w4.alloc (.cells #[.int .i64 (r.txs.length : Int)] 3)) := (Below.refl _ _).alloc (Nat.le_refl _) _
  have N5 : Below w4.heap.size w4 w5 := hbA.trans (hb5.mono hbA.size)
  have M5 : Below W.heap.size W w5 := M4.trans (N5.mono M4.size)
  have B5 : Below w.heap.size w w5 := B4.trans (N5.mono B4.size)
  have HY5 : Hid (y5 = y4 ++ putOf (r.txs.length : Int)) := by rw [Hid, hy5]; simp
  have ho5' : OwnB w5 w.heap.size a5 c5 y5 := ho5.base (Nat.le_trans B4.size hbA.size)
  have hyl5 : y5.length ≤ 4000 := by have := (putOf_len (r.txs.length : Int)).2; rw [HY5.out]; simp only [List.length_append]; omega
  have HRR : Hid (R = y5 ++ r.txs.flatMap putLive) := by rw [Hid, HR.out, HY5.out, HP4.out]; rfl
  have x14 := (HX.out w5 M5).cell 14 _ rfl
  have hrt := hr.txs.below B5
  clear hy5 hb5 ho5 hbA N5 HY5 HP4 HR ho4' M4 B4 hyl4
  generalize r.txs = ls at *
  generalize r.aL = aL at *
  generalize r.cL = cL at *
  go_wp2_with fail
  clear x14
  go_loopw [3, 40] (fun b i wr => ∃ (a' : Option Addr) (c' : Nat) (ys : List Int) (k : Nat), b = .slice a' ys.length c' ∧ i = .int .i64 k ∧ k ≤ ls.length ∧ Hid (ys = y5 ++ (ls.take k).flatMap putLive) ∧ OwnB wr w.heap.size a' c' ys ∧ Below w5.heap.size w5 wr)
   (fun _ i _ => ls.length - (intOf i).toNat)
  case atStart => exact ⟨a5, c5, y5, 0, rfl, rfl, Nat.zero_le _, by simp [Hid], ho5', Below.refl _ _⟩
  case round =>
   obtain ⟨a', c', ys, k, rfl, rfl, hk, hy, ho, hbl⟩ := hrel
   clear ho5'
   have Bl : Below w.heap.size w wr := B5.trans (hbl.mono B5.size)
   have hyl : ys.length ≤ 10000 := by
    have h1 := flatL_len (ls.take k)
    rw [hy.out, List.length_append]
    rw [List.length_take] at h1
    omega
   by_cases hlt : k < ls.length
   ·obtain ⟨b, off, rfl, hcell⟩ := (hrt.below hbl) (by intro e; rw [e] at hlt; simp at hlt)
    obtain ⟨c0, c1, c2'⟩ := hcell k hlt
    have HF : Hid (_ = _) := flatL_step ls k hlt
    have HPL : Hid (∀ z : LiveV, putLive z = (putOf z.tx ++ putOf z.last) ++ putOf (if z.aborts then 1 else 0)) := fun _ => rfl
    clear hcell hrt
    generalize ls.getD k zeroL = z at *
    obtain ⟨W6, hW6, b6, hb6, hs6⟩ := boxes1 wr [.int .i64 z.tx, .int .i64 z.last, .bool z.aborts] 62
    have HC6 : Hid (∀ w', Box w' wr.heap.size [.int .i64 z.tx, .int .i64 z.last, .bool z.aborts] 62 → w'.cell? ⟨wr.heap.size, 0, none⟩ = some (.int .i64 z.tx) ∧ w'.cell? ⟨wr.heap.size, 1, none⟩ = some (.int .i64 z.last) ∧ w'.cell? ⟨wr.heap.size, 2, none⟩ = some (.bool z.aborts)) := fun w' b => ⟨b.cell 0 _ rfl, b.cell 1 _ rfl, b.cell 2 _ rfl⟩
    have l6 := b6.lt
    have L6 : Below wr.heap.size wr W6 := hb6
    clear hs6 hb6
    go_wp2_with fail
    rw [hW6.out]
    clear hW6 c0 c1 c2'
    refine wp_region_held_drew (S := fun w' => w'.cell? ⟨wr.heap.size, 0, none⟩ = some (.int .i64 z.tx) ∧ w'.cell? ⟨wr.heap.size, 1, none⟩ = some (.int .i64 z.last) ∧ w'.cell? ⟨wr.heap.size, 2, none⟩ = some (.bool z.aborts)) (by kernel_rfl) (HC6.out _ (b6.below (Below.refl _ _).drew b6.lt)) (fun hHeld => ?_)
    refine tk 0 (v := (.slice a' ys.length c')) rfl (Or.inl ⟨by rfl, ?_⟩) hHeld ?_
    ·intro w' hSw
     go_simp <;> rfl
    try simp only [Act.put, zA, zB, zD, zE, zF]
    refine tk 1 (v := .pointer (some ⟨wr.heap.size, 0, none⟩)) rfl (Or.inl ⟨by rfl, ?_⟩) hHeld ?_
    ·intro w' hSw
     go_simp <;> rfl
    try simp only [Act.put, zA, zB, zC, zD, zE, zF]
    refine tk 2 (v := .int .i64 z.tx) rfl (Or.inl ⟨by rfl, ?_⟩) hHeld ?_
    ·intro w' hSw
     go_simp <;> rfl
    try simp only [Act.put, zA, zB, zC, zD, zE, zF]
    refine tk 3 (v := .pointer (some ⟨wr.heap.size, 1, none⟩)) rfl (Or.inl ⟨by rfl, ?_⟩) hHeld ?_
    ·intro w' hSw
     go_simp <;> rfl
    try simp only [Act.put, zA, zB, zC, zD, zE, zF]
    refine tk 4 (v := .int .i64 z.last) rfl (Or.inl ⟨by rfl, ?_⟩) hHeld ?_
    ·intro w' hSw
     go_simp <;> rfl
    try simp only [Act.put, zA, zB, zC, zD, zE, zF]
    refine tk 5 (v := .pointer (some ⟨wr.heap.size, 2, none⟩)) rfl (Or.inl ⟨by rfl, ?_⟩) hHeld ?_
    ·intro w' hSw
     go_simp <;> rfl
    try simp only [Act.put, zA, zB, zC, zD, zE, zF]
    refine tk 6 (v := .bool z.aborts) rfl (Or.inl ⟨by rfl, ?_⟩) hHeld ?_
    ·intro w' hSw
     go_simp <;> rfl
    try simp only [Act.put, zA, zB, zC, zD, zE, zF]
    refine wpAnyH_ready (rs := [7]) (by kernel_rfl) (by simp) ?_
    refine AllReadyH.cons rfl (fun K hK => ?_) AllReadyH.nil
    go_simp
    refine (flagInt_any z.aborts _).mono ?_
    rintro e u ⟨rfl, hu⟩
    rw [hu]
    clear hu u
    generalize hfl : (if z.aborts then (1 : Int) else 0) = fl at *
    refine hK.out _ _ (HC6.out _ (b6.below (Below.refl _ _).drew b6.lt)) (fun hHeld => ?_)
    clear hK K
    try simp only [Act.put, zA, zB, zC, zD, zE, zF]
    refine wpAnyH_ready (rs := [8]) (by kernel_rfl) (by simp) ?_
    refine AllReadyH.cons rfl (fun K hK => ?_) AllReadyH.nil
    go_simp
    refine hK.out _ _ (HC6.out _ (b6.below ((Below.refl _ _).drew.alloc (Nat.le_refl _) _) b6.lt)) (fun hHeld => ?_)
    clear hK K
    try simp only [Act.put, zA, zB, zC, zD, zE, zF]
    refine wpAnyH_ready (rs := [9]) (by kernel_rfl) (by simp) ?_
    refine AllReadyH.cons rfl (fun K hK => ?_) AllReadyH.nil
    go_simp
    have L7 : Below W6.heap.size W6 ((W6.drew).alloc (.cells #[.int .i64 z.tx, .int .i64 z.last, .int .i64 fl] 3)) := (Below.refl _ _).drew.alloc (Nat.le_refl _) _
    have L7' : Below wr.heap.size wr ((W6.drew).alloc (.cells #[.int .i64 z.tx, .int .i64 z.last, .int .i64 fl] 3)) := L6.trans (L7.mono L6.size)
    refine (putInts_any a' c' ys _ _ [z.tx, z.last, fl] _ (ho.reads.below L7') ho.nocap (readsI_lit W6.drew [z.tx, z.last, fl] _) (by simp only [List.length_cons, List.length_nil]; omega)).mono ?_
    rintro e w8 ⟨a8, c8, y8, rfl, hy8, ho8, hb8⟩
    have L8 : Below wr.heap.size wr w8 := L7'.trans (hb8.mono L7'.size)
    have M8 : Below W6.heap.size W6 w8 := L7.trans (hb8.mono L7.size)
    have HY : Hid (y8 = y5 ++ (ls.take (k + 1)).flatMap putLive) := by rw [Hid, hy8, hy.out, HF.out, HPL.out, hfl]; simp
    have ho8' : OwnB w8 w.heap.size a8 c8 y8 := ho8.base (Nat.le_trans Bl.size L7'.size)
    refine hK.out _ _ (HC6.out _ (b6.below M8 b6.lt)) (fun hHeld => ?_)
    clear hK K
    try simp only [Act.put, zA, zB, zC, zD, zE, zF]
    refine tk 10 (v := .slice a8 y8.length c8) rfl (Or.inl ⟨by rfl, ?_⟩) hHeld ?_
    ·intro w' hSw
     go_simp <;> rfl
    try simp only [Act.put, zA, zB, zC, zD, zE, zF]
    refine wpAnyH_done (by kernel_rfl) ?_ _
    clear hHeld hy8 hb8 ho8 b6 HC6 hfl HF HPL
    go_wp2_with fail
    go_roundw
    case rel => exact ⟨a8, c8, y8, k + 1, rfl, by go_num, by omega, HY, ho8', hbl.trans (L8.mono hbl.size)⟩
    case measure => simp [intOf]; omega
   ·have HE : Hid (ys = R) := by rw [Hid, hy.out, HRR.out, List.take_of_length_le (by omega)]
    go_wp2
    go_ret
    exact ⟨a', c', ys, rfl, HE, ho, Bl⟩
end Go.Proofs.YtickiokdcbeefaaGreatDoor
namespace Go.Proofs.YtickiokdcbeefaaGreatDoor
open Go.RowKit
def LiveAns (x : Option (LiveV × Nat)) (e : Ending) : Prop := match x with
 | some (t, q) => e = .returned (.tuple #[.agg t.cells.toArray, .int .i64 (q : Nat), .bool true])
 | none => e = .returned (.tuple #[.agg zeroL.cells.toArray, .int .i64 0, .bool false])
theorem liveAns_none {x : Option (LiveV × Nat)} (h : x = none) : LiveAns x (.returned (.tuple #[.agg #[.int .i64 0, .int .i64 0, .bool false], .int .i64 0, .bool false])) := by subst h; rfl
theorem liveAns_some {x : Option (LiveV × Nat)} {t : LiveV} {q : Nat} (h : x = some (t, q)) : LiveAns x (.returned (.tuple #[.agg #[.int .i64 t.tx, .int .i64 t.last, .bool t.aborts], .int .i64 (q : Nat), .bool true])) := by subst h; rfl
theorem three_set {w : World} {C D : Nat} {tC tD : TypeId} {u v f : Int} {b : Bool} (hC : Box w C [.int .i64 u, .int .i64 v, .bool b] tC) (hD : Box w D [.int .i64 f] tD) (hne : ¬ (C = D)) (l : List Int) (hl : l.length ≤ 3) :
  ∃ x y z : Int, Box (setAll w ([(C, 0), (C, 1), (D, 0)].take l.length) l) C [.int .i64 x, .int .i64 y, .bool b] tC ∧ Box (setAll w ([(C, 0), (C, 1), (D, 0)].take l.length) l) D [.int .i64 z] tD := by
 have hne' : ¬ (D = C) := fun e => hne e.symm
 match l, hl with
 | [], _ => exact ⟨u, v, f, hC, hD⟩
 | [a], _ => exact ⟨a, v, f, hC.set 0 (.int .i64 a), hD.other hne'⟩
 | [a, c], _ => exact ⟨a, c, f, (hC.set 0 (.int .i64 a)).set 1 (.int .i64 c), (hD.other hne').other hne'⟩
 | [a, c, g], _ => exact ⟨a, c, g, ((hC.set 0 (.int .i64 a)).set 1 (.int .i64 c)).other hne, ((hD.other hne').other hne').set 0 (.int .i64 g)⟩
theorem three_all {w : World} {C D : Nat} {tC tD : TypeId} {u v f : Int} {b : Bool} (hC : Box w C [.int .i64 u, .int .i64 v, .bool b] tC) (hD : Box w D [.int .i64 f] tD) (hne : ¬ (C = D)) (x y z : Int) :
  Box (setAll w [(C, 0), (C, 1), (D, 0)] [x, y, z]) C [.int .i64 x, .int .i64 y, .bool b] tC ∧ Box (setAll w [(C, 0), (C, 1), (D, 0)] [x, y, z]) D [.int .i64 z] tD := by
 have hne' : ¬ (D = C) := fun e => hne e.symm
 exact ⟨((hC.set 0 (.int .i64 x)).set 1 (.int .i64 y)).other hne, ((hD.other hne').other hne').set 0 (.int .i64 z)⟩
theorem liveAt_no {zs : List Int} {p : Nat} (h : numsAt zs 3 p = none) : liveAt zs p = none := by unfold liveAt; rw [h]
theorem liveAt_of {zs : List Int} {p q : Nat} {a b f : Int} (h : numsAt zs 3 p = some ([a, b, f], q)) : liveAt zs p = if f = 0 then some (⟨a, b, false⟩, q) else if f = 1 then some (⟨a, b, true⟩, q) else none := by unfold liveAt; rw [h]
theorem readLive_any (a : Option Addr) (c : Nat) (zs : List Int) (p : Nat) (w : World) (hr : Reads w a zs) (hl : zs.length ≤ 70368744177664) (hcap : zs.length ≤ c) :
  Calls Tryz.prog 139 #[.slice a zs.length c, .int .i64 (p : Int)] w fun e w' => LiveAns (liveAt zs p) e ∧ Below w.heap.size w w' := by
 obtain ⟨W, hW, bR, bC, bD, hbW, hsW⟩ := boxes3 w [.int .i64 0, .int .i64 0, .bool false] [.int .i64 0, .int .i64 0, .bool false] [.int .i64 0] 62 62 3
 obtain ⟨W2, hW2, bP, hbW2, hsW2⟩ := boxes1 W [.pointer (some ⟨w.heap.size + 1, 0, none⟩), .pointer (some ⟨w.heap.size + 1, 1, none⟩), .pointer (some ⟨w.heap.size + 1 + 1, 0, none⟩)] 158
 have bR2 := bR.below hbW2 bR.lt
 have bC2 := bC.below hbW2 bC.lt
 have bD2 := bD.below hbW2 bD.lt
 have hltD := bD.lt
 have hltP := bP.lt
 have B2 : Below w.heap.size w W2 := hbW.trans (hbW2.mono hbW.size)
 have HNO : Hid (numsAt zs 3 p = none → liveAt zs p = none) := fun h => liveAt_no h
 have HSO : Hid (∀ x y f q, numsAt zs 3 p = some ([x, y, f], q) → liveAt zs p = if f = 0 then some (⟨x, y, false⟩, q) else if f = 1 then some (⟨x, y, true⟩, q) else none) := fun x y f q h => liveAt_of h
 have hrl : ∀ u, Within (w.heap.size + 1) (w.heap.size + 3) W2 u → Reads u a zs := fun u hu => hr.below (B2.trans (hu.below (by omega) B2.size))
 have hP3 : W.heap.size = w.heap.size + 1 + 1 + 1 := by omega
 rw [hP3] at bP hltP
 have CI := readInts_any a c zs p (w.heap.size + 1 + 1 + 1) 3 (w.heap.size + 1) (w.heap.size + 3) [(w.heap.size + 1, 0), (w.heap.size + 1, 1), (w.heap.size + 1 + 1, 0)] W2 hrl hl hcap (by simp) 158 bP (by omega) (by
  intro x hx
  simp only [List.mem_cons, List.not_mem_nil, or_false] at hx
  rcases hx with rfl | rfl | rfl
  ·exact ⟨⟨by omega, by omega⟩, by rw [bC2.cell 0 _ rfl]; rfl, bC2.frozen 0⟩
  ·exact ⟨⟨by omega, by omega⟩, by rw [bC2.cell 1 _ rfl]; rfl, bC2.frozen 1⟩
  ·exact ⟨⟨by omega, by omega⟩, by rw [bD2.cell 0 _ rfl]; rfl, bD2.frozen 0⟩)
 have HT : Hid (∀ l : List Int, l.length ≤ 3 → _) := fun l h => three_set bC2 bD2 (by omega) l h
 have HT3 : Hid (∀ x y z : Int, _) := fun x y z => three_all bC2 bD2 (by omega) x y z
 simp only [List.length_cons, List.length_nil, Nat.zero_add, Nat.reduceAdd] at CI
 generalize liveAt zs p = X at *
 clear hP3 hsW hsW2 bC bD bC2 bD2 bR bP
 go_enter Tryz.func139, Tryz.ntmps139
 go_wp2_with fail
 rw [hW.out, hW2.out]
 clear hW hW2
 refine CI.mono ?_
 clear CI
 rintro e w3 ⟨hans, hw3⟩
 have bR3 := bR2.within hw3 (by omega)
 have B3 : Below w.heap.size w w3 := B2.trans (hw3.below (by omega) (by omega))
 have s3 := hw3.size
 cases hn : numsAt zs 3 p with
 | none =>
  have HX : Hid (X = none) := HNO.out hn
  rw [hn] at hans
  clear HT3
  obtain ⟨rfl, l, hll, hwe⟩ := hans
  obtain ⟨x, y, z, bC3, bD3⟩ := HT.out l hll
  have hwe' : w3 = setAll W2 ([(w.heap.size + 1, 0), (w.heap.size + 1, 1), (w.heap.size + 1 + 1, 0)].take l.length) l := hwe
  rw [← hwe'] at bC3 bD3
  clear hwe hwe' HNO HSO HT hn hw3
  have d0 := bD3.cell 0 _ rfl
  have c2 := bC3.cell 2 _ rfl
  have f2 := bC3.frozen 2
  obtain ⟨W4, hW4, bC4, hw4, hs4⟩ := box_set bC3 2 (.bool (z == 1))
  have d4 := (bD3.within hw4 (by omega)).cell 0 _ rfl
  simp only [List.set] at bC4
  have c24 := bC4.cell 2 _ rfl
  have bR4 := bR3.within hw4 (by omega)
  have B4 : Below w.heap.size w W4 := B3.trans (hw4.below (by omega) (by omega))
  clear bC3 bD3 bC4 bR3 hw4 bR2
  go_wp2_with fail
  rw [hW4.out]
  clear d0 c2 f2 hW4
  go_quiet (fail)
  have bRq : Box (W4.drewN nq) w.heap.size [.int .i64 0, .int .i64 0, .bool false] 62 := bR4.drewN nq
  have Bq : Below w.heap.size w (W4.drewN nq) := below_drewN B4 nq
  obtain ⟨r0, r1, r2, q0, q1, q2⟩ := bRq.three
  generalize W4.drewN nq = W5 at *
  obtain ⟨WF, hWF, bF, hwF, hsF⟩ := box3_fill bRq (.int .i64 0) (.int .i64 0) (.bool false)
  have HB : Hid (Below w.heap.size w WF) := Bq.trans (hwF.below (Nat.le_refl _) Bq.size)
  obtain ⟨g0, g1, g2, _⟩ := bF.three
  clear hwF
  go_wp2_with fail
  rw [hWF.out]
  exact bodyPost_ret (v := .tuple #[.agg #[.int .i64 0, .int .i64 0, .bool false], .int .i64 0, .bool false]) (by simp [results, Tryz.results139, go_sem, g0, g1, g2]) rfl ⟨liveAns_none HX.out, HB.out⟩
 | some g =>
  obtain ⟨l, q⟩ := g
  rw [hn] at hans
  obtain ⟨rfl, hwe, hll⟩ := hans
  have hll' : l.length = 3 := hll
  match l, hll' with
  | [x, y, f], _ =>
  have HX : Hid (X = _) := HSO.out x y f q hn
  obtain ⟨bC3, bD3⟩ := HT3.out x y f
  have hwe' : w3 = setAll W2 [(w.heap.size + 1, 0), (w.heap.size + 1, 1), (w.heap.size + 1 + 1, 0)] [x, y, f] := hwe
  rw [← hwe'] at bC3 bD3
  clear hwe hwe' HNO HSO HT HT3 hn hw3 hll
  by_cases h0 : f = 0
  case pos =>
   subst h0
   replace HX : Hid (X = some (⟨x, y, false⟩, q)) := by rw [Hid, HX.out]; simp
   have d0 := bD3.cell 0 _ rfl
   have c2 := bC3.cell 2 _ rfl
   have f2 := bC3.frozen 2
   obtain ⟨W4, hW4, bC4, hw4, hs4⟩ := box_set bC3 2 (.bool false)
   have d4 := (bD3.within hw4 (by omega)).cell 0 _ rfl
   simp only [List.set] at bC4
   obtain ⟨c04, c14, c24, _⟩ := bC4.three
   have bR4 := bR3.within hw4 (by omega)
   have B4 : Below w.heap.size w W4 := B3.trans (hw4.below (by omega) (by omega))
   have HBC : Hid (Box W4 (w.heap.size + 1) _ _) := bC4
   clear bC3 bD3 bC4 bR3 hw4 bR2
   go_wp2_with fail
   rw [hW4.out]
   clear d0 c2 f2 hW4
   go_quiet ((go_at_call 35; exact Calls.quiet_of_same (flagInt_any _ _)))
   have bRq : Box (W4.drewN nq) w.heap.size [.int .i64 0, .int .i64 0, .bool false] 62 := bR4.drewN nq
   have bCq := HBC.out.drewN nq
   have Bq : Below w.heap.size w (W4.drewN nq) := below_drewN B4 nq
   clear HBC d4 c04 c14 c24 bR4 B4
   obtain ⟨r0, r1, r2, q0, q1, q2⟩ := bRq.three
   obtain ⟨k0, k1, k2, _⟩ := bCq.three
   generalize W4.drewN nq = W5 at *
   obtain ⟨WF, hWF, bF, hwF, hsF⟩ := box3_fill bRq (.int .i64 x) (.int .i64 y) (.bool false)
   have HB : Hid (Below w.heap.size w WF) := Bq.trans (hwF.below (Nat.le_refl _) Bq.size)
   obtain ⟨g0, g1, g2, _⟩ := bF.three
   clear hwF bCq
   go_wp2_with fail
   rw [hWF.out]
   exact bodyPost_ret (v := .tuple #[.agg #[.int .i64 x, .int .i64 y, .bool false], .int .i64 (q : Nat), .bool true]) (by simp [results, Tryz.results139, go_sem, g0, g1, g2]) rfl ⟨liveAns_some (t := ⟨x, y, false⟩) HX.out, HB.out⟩
  case neg =>
  by_cases h1 : f = 1
  case pos =>
   subst h1
   replace HX : Hid (X = some (⟨x, y, true⟩, q)) := by rw [Hid, HX.out]; simp
   have d0 := bD3.cell 0 _ rfl
   have c2 := bC3.cell 2 _ rfl
   have f2 := bC3.frozen 2
   obtain ⟨W4, hW4, bC4, hw4, hs4⟩ := box_set bC3 2 (.bool true)
   have d4 := (bD3.within hw4 (by omega)).cell 0 _ rfl
   simp only [List.set] at bC4
   obtain ⟨c04, c14, c24, _⟩ := bC4.three
   have bR4 := bR3.within hw4 (by omega)
   have B4 : Below w.heap.size w W4 := B3.trans (hw4.below (by omega) (by omega))
   have HBC : Hid (Box W4 (w.heap.size + 1) _ _) := bC4
   clear bC3 bD3 bC4 bR3 hw4 bR2
   go_wp2_with fail
   rw [hW4.out]
   clear d0 c2 f2 hW4
   go_quiet ((go_at_call 35; exact Calls.quiet_of_same (flagInt_any _ _)))
   have bRq : Box (W4.drewN nq) w.heap.size [.int .i64 0, .int .i64 0, .bool false] 62 := bR4.drewN nq
   have bCq := HBC.out.drewN nq
   have Bq : Below w.heap.size w (W4.drewN nq) := below_drewN B4 nq
   clear HBC d4 c04 c14 c24 bR4 B4
   obtain ⟨r0, r1, r2, q0, q1, q2⟩ := bRq.three
   obtain ⟨k0, k1, k2, _⟩ := bCq.three
   generalize W4.drewN nq = W5 at *
   obtain ⟨WF, hWF, bF, hwF, hsF⟩ := box3_fill bRq (.int .i64 x) (.int .i64 y) (.bool true)
   have HB : Hid (Below w.heap.size w WF) := Bq.trans (hwF.below (Nat.le_refl _) Bq.size)
   obtain ⟨g0, g1, g2, _⟩ := bF.three
   clear hwF bCq
   go_wp2_with fail
   rw [hWF.out]
   exact bodyPost_ret (v := .tuple #[.agg #[.int .i64 x, .int .i64 y, .bool true], .int .i64 (q : Nat), .bool true]) (by simp [results, Tryz.results139, go_sem, g0, g1, g2]) rfl ⟨liveAns_some (t := ⟨x, y, true⟩) HX.out, HB.out⟩
  case neg =>
   replace HX : Hid (X = none) := by rw [Hid, HX.out]; simp [h0, h1]
   have e1 : (f == 1) = false := by simpa using h1
   have e0 : (f == 0) = false := by simpa using h0
   have d0 := bD3.cell 0 _ rfl
   have c2 := bC3.cell 2 _ rfl
   have f2 := bC3.frozen 2
   obtain ⟨W4, hW4, bC4, hw4, hs4⟩ := box_set bC3 2 (.bool false)
   have d4 := (bD3.within hw4 (by omega)).cell 0 _ rfl
   simp only [List.set] at bC4
   obtain ⟨c04, c14, c24, _⟩ := bC4.three
   have bR4 := bR3.within hw4 (by omega)
   have B4 : Below w.heap.size w W4 := B3.trans (hw4.below (by omega) (by omega))
   have HBC : Hid (Box W4 (w.heap.size + 1) _ _) := bC4
   clear bC3 bD3 bC4 bR3 hw4 bR2
   go_wp2_with fail
   rw [hW4.out]
   clear d0 c2 f2 hW4
   go_quiet ((go_at_call 35; exact Calls.quiet_of_same (flagInt_any _ _)))
   have bRq : Box (W4.drewN nq) w.heap.size [.int .i64 0, .int .i64 0, .bool false] 62 := bR4.drewN nq
   have bCq := HBC.out.drewN nq
   have Bq : Below w.heap.size w (W4.drewN nq) := below_drewN B4 nq
   clear HBC d4 c04 c14 c24 bR4 B4
   obtain ⟨r0, r1, r2, q0, q1, q2⟩ := bRq.three
   obtain ⟨k0, k1, k2, _⟩ := bCq.three
   generalize W4.drewN nq = W5 at *
   obtain ⟨WF, hWF, bF, hwF, hsF⟩ := box3_fill bRq (.int .i64 0) (.int .i64 0) (.bool false)
   have HB : Hid (Below w.heap.size w WF) := Bq.trans (hwF.below (Nat.le_refl _) Bq.size)
   obtain ⟨g0, g1, g2, _⟩ := bF.three
   clear hwF bCq
   go_wp2_with fail
   rw [hWF.out]
   exact bodyPost_ret (v := .tuple #[.agg #[.int .i64 0, .int .i64 0, .bool false], .int .i64 0, .bool false]) (by simp [results, Tryz.results139, go_sem, g0, g1, g2]) rfl ⟨liveAns_none HX.out, HB.out⟩
end Go.Proofs.YtickiokdcbeefaaGreatDoor