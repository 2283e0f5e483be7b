/- Several texts in one, in their order. -/
import Derived.Test.YtoboickdkednkaaGreatDoorPAppendx1
import Derived.Deep.RegionHeld3
import Derived.Deep.QuietTactic
import Derived.BigQuiet
import Derived.WalkKit
import Derived.Test.YtoboickdkednkaaGreatDoorProg
/- Records: what they are, what a walk reads and owns of them; the walk of laws.toRec. -/
namespace Go.Proofs.YtoboickdkednkaaGreatDoor
open Go.RowKit

structure RecV where
  lsn : Int
  tx : Int
  prev : Int
  kind : Int
  oid : Int
  bf : SlotV
  af : SlotV
  next : Int
  txs : List LiveV

/-- A record, and where its lists lie. -/
structure RecA where
  lsn : Int
  tx : Int
  prev : Int
  kind : Int
  oid : Int
  bf : SlotA
  af : SlotA
  next : Int
  txs : List LiveV
  aL : Option Addr
  cL : Nat
def RecA.v (r : RecA) : RecV := ⟨r.lsn, r.tx, r.prev, r.kind, r.oid, r.bf.v, r.af.v, r.next, r.txs⟩
def RecA.cells (r : RecA) : List Value := [.int .i64 r.lsn, .int .i64 r.tx, .int .i64 r.prev, .int .i64 r.kind, .int .i64 r.oid, .bool r.bf.v.has, .int .i64 r.bf.v.o.kind, .slice r.bf.aI r.bf.v.o.ints.length r.bf.cI, .slice r.bf.aR r.bf.v.o.refs.length r.bf.cR, .bool r.af.v.has, .int .i64 r.af.v.o.kind, .slice r.af.aI r.af.v.o.ints.length r.af.cI, .slice r.af.aR r.af.v.o.refs.length r.af.cR, .int .i64 r.next, .slice r.aL r.txs.length r.cL]
structure RecA.reads (w : World) (r : RecA) : Prop where
  bf : r.bf.reads w
  af : r.af.reads w
  txs : ReadsL w r.aL r.txs
theorem RecA.reads.below {w w' : World} {r : RecA} (h : r.reads w) (hb : Below w.heap.size w w') : r.reads w' := ⟨ReadsO.below h.bf hb, ReadsO.below h.af hb, h.txs.below hb⟩
def RecA.blocks (r : RecA) : List Nat := r.bf.blocks ++ (r.af.blocks ++ (Value.slice r.aL r.txs.length r.cL).ownBlock.toList)
structure RecA.own (w : World) (lo hi : Nat) (r : RecA) : Prop where
  bf : r.bf.own w lo hi
  af : r.af.own w lo hi
  txs : OwnL w lo hi r.aL r.cL r.txs
  apart : r.blocks.Nodup
theorem RecA.own.reads {w : World} {lo hi : Nat} {r : RecA} (h : r.own w lo hi) : r.reads w := ⟨OwnO.reads h.bf, OwnO.reads h.af, h.txs.reads⟩
theorem RecA.own.below {w w' : World} {lo hi : Nat} {r : RecA} (h : r.own w lo hi) (hb : Below w.heap.size w w') : r.own w' lo hi := ⟨OwnO.below h.bf hb, OwnO.below h.af hb, h.txs.below hb, h.apart⟩
theorem RecA.own.within {w w' : World} {lo hi l u : Nat} {r : RecA} (h : r.own w lo hi) (hw : Within l u w w') (hd : hi ≤ l ∨ u ≤ lo) : r.own w' lo hi := ⟨OwnO.within h.bf hw hd, OwnO.within h.af hw hd, h.txs.within hw hd, h.apart⟩
theorem RecA.own.widen {w : World} {lo hi lo' hi' : Nat} {r : RecA} (h : r.own w lo hi) (h1 : lo' ≤ lo) (h2 : hi ≤ hi') (h3 : hi' ≤ w.heap.size) : r.own w lo' hi' := ⟨OwnO.widen h.bf h1 h2 h3, OwnO.widen h.af h1 h2 h3, h.txs.widen h1 h2 h3, h.apart⟩
/-- The lists lie one behind the other: no two share a row. -/
theorem rec_apart {w : World} {a b c d : Nat} {s t : SlotA} {aL : Option Addr} {cL : Nat} {ls : List LiveV} (hs : s.own w a b) (ht : t.own w b c) (hl : OwnL w c d aL cL ls) (hbc : b ≤ c) :
    (s.blocks ++ (t.blocks ++ (Value.slice aL ls.length cL).ownBlock.toList)).Nodup := by
  rw [List.nodup_append, List.nodup_append]
  refine ⟨SlotA.blocks_nodup hs, ⟨SlotA.blocks_nodup ht, by cases (Value.slice aL ls.length cL).ownBlock <;> simp, ?_⟩, ?_⟩
  · intro x hx y hy e
    have h1 := (SlotA.blocks_lt ht x hx)
    have h2 := (hl.lt y (Option.mem_toList.1 hy))
    omega
  · intro x hx y hy e
    have h1 := (SlotA.blocks_lt hs x hx)
    rcases List.mem_append.1 hy with h | h
    · have h2 := (SlotA.blocks_lt ht y h); omega
    · have h2 := (hl.lt y (Option.mem_toList.1 h))
      omega

theorem oneR (r : RecA) : ∀ v ∈ r.cells, v.oneCell' = true := by
  intro v hv
  simp only [RecA.cells, List.mem_cons, List.not_mem_nil, or_false] at hv
  rcases hv with rfl | rfl | rfl | rfl | rfl | rfl | rfl | rfl | rfl | rfl | rfl | rfl | rfl | rfl | rfl <;> rfl
/-- Four cells of a box, stored one behind the other. -/
theorem box_quad {w : World} {B : Nat} {l : List Value} {t : TypeId} (b : Box w B l t) (i0 i1 i2 i3 : Nat) (v0 v1 v2 v3 : Value) :
    ∃ W, Hid ((((w.setCell ⟨B, i0, none⟩ v0).setCell ⟨B, i1, none⟩ v1).setCell ⟨B, i2, none⟩ v2).setCell ⟨B, i3, none⟩ v3 = W) ∧ Box W B ((((l.set i0 v0).set i1 v1).set i2 v2).set i3 v3) t ∧ Within B (B + 1) w W ∧ W.heap.size = w.heap.size := by
  refine ⟨_, rfl, (((b.set i0 v0).set i1 v1).set i2 v2).set i3 v3, ?_, ?_⟩
  · exact (((within_set w B i0 v0 (by omega)).trans (within_set _ B i1 v1 (by omega))).trans (within_set _ B i2 v2 (by omega))).trans (within_set _ B i3 v3 (by omega))
  · simp

set_option maxHeartbeats 2000000 in
set_option maxRecDepth 100000 in
theorem toRec_own (r : RecA) (w : World) (hr : r.reads w) (hlb : r.bf.v.o.ints.length ≤ 1099511627776 ∧ r.bf.v.o.refs.length ≤ 1099511627776) (hla : r.af.v.o.ints.length ≤ 1099511627776 ∧ r.af.v.o.refs.length ≤ 1099511627776) (hlt : r.txs.length ≤ 1099511627776) :
    Calls Tryz.prog 21 #[.agg r.cells.toArray] w fun e w' => ∃ t : RecA, e = .returned (.agg t.cells.toArray) ∧ Hid (t.v = r.v) ∧ t.own w' w.heap.size w'.heap.size ∧ Below w.heap.size w w' := by
  obtain ⟨W, hW, b0, b1, b2, hbW, hsW⟩ := boxes3 w [.int .i64 r.lsn, .int .i64 r.tx, .int .i64 r.prev, .int .i64 r.kind, .int .i64 r.oid, .bool r.bf.v.has, .int .i64 r.bf.v.o.kind, .slice r.bf.aI r.bf.v.o.ints.length r.bf.cI, .slice r.bf.aR r.bf.v.o.refs.length r.bf.cR, .bool r.af.v.has, .int .i64 r.af.v.o.kind, .slice r.af.aI r.af.v.o.ints.length r.af.cI, .slice r.af.aR r.af.v.o.refs.length r.af.cR, .int .i64 r.next, .slice r.aL r.txs.length r.cL] [.int .i64 0, .int .i64 0, .int .i64 0, .int .i64 0, .int .i64 0, .bool false, .int .i64 0, .slice none 0 0, .slice none 0 0, .bool false, .int .i64 0, .slice none 0 0, .slice none 0 0, .int .i64 0, .slice none 0 0] [.int .i64 r.lsn, .int .i64 r.tx, .int .i64 r.prev, .int .i64 r.kind, .int .i64 r.oid, .bool false, .int .i64 0, .slice none 0 0, .slice none 0 0, .bool false, .int .i64 0, .slice none 0 0, .slice none 0 0, .int .i64 0, .slice none 0 0] 52 39 39
  have hs0 : w.heap.size + 1 + 1 < W.heap.size := by omega
  clear hsW
  have C1 := toSlot_own r.bf W (ReadsO.below hr.bf hbW) hlb.1 hlb.2
  simp only [RecA.cells]
  simp only [SlotA.cells] at C1
  go_enter Tryz.func21, Tryz.ntmps21
  go_wp2_with fail
  rw [hW.out]
  clear hW
  refine C1.mono ?_
  clear C1
  rintro e w1 ⟨t1, rfl, hv1, ho1, hb1⟩
  have b01 := b0.below hb1 b0.lt
  have b11 := b1.below hb1 b1.lt
  have b21 := b2.below hb1 b2.lt
  have hs1 := hb1.size
  clear b0 b1 b2
  have x5 := b21.cell 5 _ rfl
  have xf5 := b21.frozen 5
  have x6 := b21.cell 6 _ rfl
  have xf6 := b21.frozen 6
  have x7 := b21.cell 7 _ rfl
  have xf7 := b21.frozen 7
  have x8 := b21.cell 8 _ rfl
  have xf8 := b21.frozen 8
  obtain ⟨W2, hW2, b22, hw2, hs2⟩ := box_quad b21 5 6 7 8 (.bool t1.v.has) (.int .i64 t1.v.o.kind) (.slice t1.aI t1.v.o.ints.length t1.cI) (.slice t1.aR t1.v.o.refs.length t1.cR)
  simp only [List.set] at b22
  have b02 := b01.within hw2 (by omega)
  have b12 := b11.within hw2 (by omega)
  have y9 := b01.cell 9 _ rfl
  have y10 := b01.cell 10 _ rfl
  have y11 := b01.cell 11 _ rfl
  have y12 := b01.cell 12 _ rfl
  have hB2 : Below w.heap.size w W2 := (hbW.trans (hb1.mono (by omega))).trans (hw2.below (by omega) (by omega))
  have ho2 := OwnO.within ho1 hw2 (.inr (by omega))
  have C2 := toSlot_own r.af W2 (ReadsO.below hr.af hB2) hla.1 hla.2
  simp only [SlotA.cells] at C2
  clear b21 b01 b11 hw2 ho1
  go_wp2_with fail
  rw [hW2.out]
  refine C2.mono ?_
  clear C2 x5 x6 x7 x8 xf5 xf6 xf7 xf8 y9 y10 y11 y12 hW2
  rintro e w3 ⟨t2, rfl, hv2, ho3, hb3⟩
  have b03 := b02.below hb3 b02.lt
  have b13 := b12.below hb3 b12.lt
  have b23 := b22.below hb3 b22.lt
  have hs3 := hb3.size
  have ho23 := OwnO.below ho2 hb3
  clear b02 b12 b22 ho2
  have x9 := b23.cell 9 _ rfl
  have xf9 := b23.frozen 9
  have x10 := b23.cell 10 _ rfl
  have xf10 := b23.frozen 10
  have x11 := b23.cell 11 _ rfl
  have xf11 := b23.frozen 11
  have x12 := b23.cell 12 _ rfl
  have xf12 := b23.frozen 12
  have x13 := b23.cell 13 _ rfl
  have xf13 := b23.frozen 13
  have y13 := b03.cell 13 _ rfl
  have y14 := b03.cell 14 _ rfl
  obtain ⟨W4, hW4, b24, hw4, hs4⟩ := box_quad b23 9 10 11 12 (.bool t2.v.has) (.int .i64 t2.v.o.kind) (.slice t2.aI t2.v.o.ints.length t2.cI) (.slice t2.aR t2.v.o.refs.length t2.cR)
  simp only [List.set] at b24
  obtain ⟨W5, hW5, b25, hw5, hs5⟩ := box_set b24 13 (.int .i64 r.next)
  simp only [List.set] at b25
  have b15 := (b13.within hw4 (by omega)).within hw5 (by omega)
  have hB5 : Below w.heap.size w W5 := ((hB2.trans (hb3.mono (by omega))).trans (hw4.below (by omega) (by omega))).trans (hw5.below (by omega) (by omega))
  have hoA5 := OwnO.within (OwnO.within ho23 hw4 (.inr (by omega))) hw5 (.inr (by omega))
  have hoB5 := OwnO.within (OwnO.within ho3 hw4 (.inr (by omega))) hw5 (.inr (by omega))
  have C3 := toLiveS_any r.aL r.cL r.txs W5 (hr.txs.below hB5) hlt
  clear b23 b03 b13 hw4 hw5 b24 ho3 ho23 hb3
  go_wp2_with fail
  rw [hW4.out, hW5.out]
  refine C3.mono ?_
  clear C3 x9 x10 x11 x12 x13 xf9 xf10 xf11 xf12 xf13 y13 y14 hW4 hW5
  rintro e w6 ⟨aL, cL, rfl, ho6, hb6⟩
  have b16 := b15.below hb6 b15.lt
  have b26 := b25.below hb6 b25.lt
  have hs6 := hb6.size
  have hoA6 := OwnO.below hoA5 hb6
  have hoB6 := OwnO.below hoB5 hb6
  have HAP : Hid ((t1.blocks ++ (t2.blocks ++ (Value.slice aL r.txs.length cL).ownBlock.toList)).Nodup) := rec_apart (c := W5.heap.size) (OwnO.widen hoA6 (Nat.le_refl _) (show _ ≤ W2.heap.size by omega) (by omega)) (OwnO.widen hoB6 (Nat.le_refl _) (show _ ≤ W5.heap.size by omega) (by omega)) ho6 (by omega)
  clear b15 b25 hoA5 hoB5
  obtain ⟨W7, hW7, b27, hw7, hs7⟩ := box_set b26 14 (.slice aL r.txs.length cL)
  simp only [List.set] at b27
  have b17 := b16.within hw7 (by omega)
  let t : RecA := ⟨r.lsn, r.tx, r.prev, r.kind, r.oid, t1, t2, r.next, r.txs, aL, cL⟩
  have b27' : Box W7 (w.heap.size + 1 + 1) ([] ++ (t.cells ++ [])) 39 := by simpa [t, RecA.cells] using b27
  have htl : t.cells.length = 15 := rfl
  obtain ⟨WF, hWF, bF, hwF, hsF⟩ := range_fill [] [.int .i64 0, .int .i64 0, .int .i64 0, .int .i64 0, .int .i64 0, .bool false, .int .i64 0, .slice none 0 0, .slice none 0 0, .bool false, .int .i64 0, .slice none 0 0, .slice none 0 0, .int .i64 0, .slice none 0 0] t.cells [] (by simpa using b17) (by rw [htl]; rfl)
  have hr7 : W7.rangeAt (w.heap.size + 1 + 1) 0 t.cells := Box.range [] t.cells [] b27'
  have htF : W7.there (w.heap.size + 1) 0 t.cells.toArray.size := b17.there 0 _ (by simp [htl])
  have hrF : WF.rangeAt (w.heap.size + 1) 0 t.cells := Box.range [] t.cells [] bF
  have hi7 : (Tryz.prog.info? 39).map (·.size) = some t.cells.length := by rw [htl]; kernel_rfl
  have hlF := run_loadVar_mid (P := Tryz.prog) WF (w.heap.size + 1) 0 39 t.cells _ hrF Tryz.underlying39 rfl hi7
  have h1P := all_oneCell_toArray (oneR t)
  have hbF : Below w.heap.size w WF := ((hB5.trans (hb6.mono (by omega))).trans (hw7.below (by omega) (by omega))).trans (hwF.below (by omega) (by omega))
  have hoF : t.own WF w.heap.size WF.heap.size := ⟨OwnO.widen (OwnO.within (OwnO.within hoA6 hw7 (.inr (by omega))) hwF (.inr (by omega))) (by omega) (by omega) (Nat.le_refl _), OwnO.widen (OwnO.within (OwnO.within hoB6 hw7 (.inr (by omega))) hwF (.inr (by omega))) (by omega) (by omega) (Nat.le_refl _), ((ho6.within hw7 (.inr (by omega))).within hwF (.inr (by omega))).widen (by omega) (by omega) (Nat.le_refl _), HAP.out⟩
  have hvF : t.v = r.v := by simp only [t, RecA.v, hv1.out, hv2.out]
  have HF : Hid (_ ∧ _ ∧ _ ∧ _) := ⟨hlF, hbF, hoF, hvF⟩
  have HA : Hid (_ ∧ _) := ⟨hr7, htF⟩
  have HI : Hid (_ ∧ _) := ⟨hi7, h1P⟩
  have HWF : Hid (W7.setCells (w.heap.size + 1) 0 t.cells = WF) := hWF
  have x14 := b26.cell 14 _ rfl
  have f14 := b26.frozen 14
  clear hlF hbF hoF hvF hr7 htF hrF hi7 h1P hWF bF hwF hsF b27 b27' b17 hw7 hs7 b16 b26 hoA6 hoB6 ho6 hb6 hB5 htl HAP
  clear_value t
  go_wp2_with (first | (guard_target = wpList _ _ _ (Oper.mk (some 34) _ _ _ _ _ :: _) _ _; refine wpList_load_mid rfl 39 (.tmp 3) rfl (w.heap.size + 1 + 1) 0 rfl t.cells _ (by rw [hW7.out]; exact HA.out.1) Tryz.underlying39 rfl HI.out.1 ?_) | (guard_target = wpList _ _ _ (Oper.mk none (Op.store _ (Operand.tmp 2) _) _ _ _ _ :: _) _ _; refine wpList_store_mid rfl 39 (.tmp 2) (.tmp 34) rfl (w.heap.size + 1) 0 t.cells.toArray rfl rfl (by rw [hW7.out]; exact HA.out.2) (by rw [List.size_toArray]; exact HI.out.1) HI.out.2 ?_) | fail)
  rw [hW7.out, HWF.out]
  exact bodyPost_ret (v := .agg t.cells.toArray) (results_one Tryz.results21 rfl HF.out.1) rfl ⟨t, rfl, HF.out.2.2.2, HF.out.2.2.1, HF.out.2.1⟩
end Go.Proofs.YtoboickdkednkaaGreatDoor

/- The walks of laws.szIntS and szObj. -/
namespace Go.Proofs.YtoboickdkednkaaGreatDoor
open Go.RowKit

/-- What is left of a size. -/
def szOf (n : Nat) (left : Int) : Int := if left - n < 0 then -1 else left - n

set_option maxHeartbeats 400000 in
theorem szIntS_any (a : Option Addr) (c n : Nat) (left : Int) (w : World) (hn : n ≤ 9223372036854775807) (h0 : 0 ≤ left ∧ left ≤ 1048576) :
    Calls Tryz.prog 104 #[.slice a n c, .int .i64 left] w fun e w' => e = .returned (.int .i64 (szOf n left)) ∧ w' = w := by
  by_cases h : left - n < 0
  · have HS : Hid (szOf n left = -1) := by unfold szOf; rw [Hid, if_pos h]
    go_enter Tryz.func104, Tryz.ntmps104
    go_wp2
    go_ret
    exact ⟨ret_int HS.out.symm, rfl⟩
  · have HS : Hid (szOf n left = left - n) := by unfold szOf; rw [Hid, if_neg h]
    go_enter Tryz.func104, Tryz.ntmps104
    go_wp2
    go_ret
    exact ⟨ret_int HS.out.symm, rfl⟩

def szObjOf (o : ObjV) (left : Int) : Int := if left - o.ints.length < 0 then -1 else if left - o.ints.length - o.refs.length < 0 then -1 else left - o.ints.length - o.refs.length

set_option maxHeartbeats 400000 in
set_option maxRecDepth 100000 in
theorem szObj_any (o : ObjV) (aI : Option Addr) (cI : Nat) (aR : Option Addr) (cR : Nat) (left : Int) (w : World) (hnI : o.ints.length ≤ 9223372036854775807) (hnR : o.refs.length ≤ 9223372036854775807) (h0 : 0 ≤ left ∧ left ≤ 1048576) :
    Calls Tryz.prog 75 #[.agg #[.int .i64 o.kind, .slice aI o.ints.length cI, .slice aR o.refs.length cR], .int .i64 left] w fun e w' => e = .returned (.int .i64 (szObjOf o left)) ∧ Below w.heap.size w w' := by
  obtain ⟨k, ints, refs⟩ := o
  simp only at *
  obtain ⟨W, hW, b0, hbW, hsW⟩ := boxes1 w [.int .i64 k, .slice aI ints.length cI, .slice aR refs.length cR] 47
  have c2 := b0.cell 2 _ rfl
  by_cases h : left - ints.length < 0
  · have HS : Hid (szObjOf ⟨k, ints, refs⟩ left = -1) := by unfold szObjOf; rw [Hid, if_pos h]
    have HZ : Hid (szOf ints.length left = -1) := by unfold szOf; rw [Hid, if_pos h]
    go_enter Tryz.func75, Tryz.ntmps75
    go_wp2_with fail
    rw [hW.out]
    refine (szIntS_any aI cI ints.length left W hnI h0).mono ?_
    rintro e w' ⟨rfl, rfl⟩
    rw [HZ.out]
    go_wp2
    go_ret
    exact ⟨ret_int HS.out.symm, hbW⟩
  · have HZ : Hid (szOf ints.length left = left - ints.length) := by unfold szOf; rw [Hid, if_neg h]
    have hn1 : ¬ left < ints.length := by omega
    by_cases h2 : left - ints.length - refs.length < 0
    · have HS : Hid (szObjOf ⟨k, ints, refs⟩ left = -1) := by unfold szObjOf; rw [Hid, if_neg h, if_pos h2]
      have HZ2 : Hid (szOf refs.length (left - ints.length) = -1) := by unfold szOf; rw [Hid, if_pos h2]
      go_enter Tryz.func75, Tryz.ntmps75
      go_wp2_with fail
      rw [hW.out]
      refine (szIntS_any aI cI ints.length left W hnI h0).mono ?_
      rintro e w' ⟨rfl, rfl⟩
      rw [HZ.out]
      go_wp2_with fail
      refine (szIntS_any aR cR refs.length (left - ints.length) _ hnR (by omega)).mono ?_
      rintro e w' ⟨rfl, rfl⟩
      rw [HZ2.out]
      go_wp2
      go_ret
      exact ⟨ret_int HS.out.symm, hbW⟩
    · have HS : Hid (szObjOf ⟨k, ints, refs⟩ left = left - ints.length - refs.length) := by unfold szObjOf; rw [Hid, if_neg h, if_neg h2]
      have HZ2 : Hid (szOf refs.length (left - ints.length) = left - ints.length - refs.length) := by unfold szOf; rw [Hid, if_neg h2]
      go_enter Tryz.func75, Tryz.ntmps75
      go_wp2_with fail
      rw [hW.out]
      refine (szIntS_any aI cI ints.length left W hnI h0).mono ?_
      rintro e w' ⟨rfl, rfl⟩
      rw [HZ.out]
      go_wp2_with fail
      refine (szIntS_any aR cR refs.length (left - ints.length) _ hnR (by omega)).mono ?_
      rintro e w' ⟨rfl, rfl⟩
      rw [HZ2.out]
      go_wp2
      go_ret
      exact ⟨ret_int HS.out.symm, hbW⟩

end Go.Proofs.YtoboickdkednkaaGreatDoor

/- The walks of laws.szSlot, szSlotA4, szPage. -/
namespace Go.Proofs.YtoboickdkednkaaGreatDoor
open Go.RowKit

/-- What a size's reckoner answers: below 0, or what is left, and these slots are small. -/
def SzAns (ss : List SlotA) (left z : Int) : Prop := z < 0 ∨ (0 ≤ z ∧ z ≤ left ∧ ∀ s ∈ ss, s.v.o.ints.length ≤ 1048576 ∧ s.v.o.refs.length ≤ 1048576)

theorem szAns_obj (s : SlotA) (left : Int) (h : 0 ≤ left ∧ left ≤ 1048576) : SzAns [s] left (szObjOf s.v.o left) := by
  unfold SzAns szObjOf
  split
  · exact .inl (by omega)
  · split
    · exact .inl (by omega)
    · exact .inr ⟨by omega, by omega, by intro t ht; obtain rfl := List.mem_singleton.1 ht; omega⟩
def Small (ss : List SlotA) : Prop := ∀ s ∈ ss, s.v.o.ints.length ≤ 9223372036854775807 ∧ s.v.o.refs.length ≤ 9223372036854775807

set_option maxHeartbeats 400000 in
set_option maxRecDepth 100000 in
theorem szSlot_any (s : SlotA) (left : Int) (w : World) (hn : Small [s]) (h0 : 0 ≤ left ∧ left ≤ 1048576) :
    Calls Tryz.prog 47 #[.agg s.cells.toArray, .int .i64 left] w fun e w' => ∃ z, e = .returned (.int .i64 z) ∧ SzAns [s] left z ∧ Below w.heap.size w w' := by
  have HA : Hid _ := szAns_obj s left h0
  obtain ⟨h1, h2⟩ := hn s (List.mem_singleton.2 rfl)
  obtain ⟨W, hW, b0, hbW, hsW⟩ := boxes1 w s.cells 49
  simp only [SlotA.cells] at *
  go_enter Tryz.func47, Tryz.ntmps47
  go_wp2_with fail
  rw [hW.out]
  refine (szObj_any s.v.o s.aI s.cI s.aR s.cR left W h1 h2 h0).mono ?_
  rintro e w1 ⟨rfl, hb1⟩
  generalize szObjOf s.v.o left = z at *
  clear hsW
  by_cases hz : z < 0
  · go_wp2
    go_ret
    exact ⟨-1, rfl, .inl (by omega), hbW.trans (hb1.mono hbW.size)⟩
  · go_wp2
    go_ret
    exact ⟨z, rfl, HA.out, hbW.trans (hb1.mono hbW.size)⟩

end Go.Proofs.YtoboickdkednkaaGreatDoor

/- The walks of laws.eqSlot, eqSlotA4, eqPage, where both say the same. -/
namespace Go.Proofs.YtoboickdkednkaaGreatDoor
open Go.RowKit

set_option maxHeartbeats 400000 in
set_option maxRecDepth 100000 in
theorem eqSlot_same (s t : SlotA) (he : t.v = s.v) (w : World) (hs : s.reads w) (ht : t.reads w) (hlI : s.v.o.ints.length ≤ 1099511627776) (hlR : s.v.o.refs.length ≤ 1099511627776) :
    Calls Tryz.prog 53 #[.agg s.cells.toArray, .agg t.cells.toArray] w fun e w' => e = .returned (.bool true) ∧ Below w.heap.size w w' := by
  obtain ⟨v, aI, cI, aR, cR⟩ := s
  obtain ⟨v', bI, dI, bR, dR⟩ := t
  simp only at he
  subst he
  obtain ⟨h, ⟨k, ints, refs⟩⟩ := v'
  simp only [SlotA.cells, SlotA.reads] at *
  obtain ⟨W, hW, b0, b1, hbW, hsW⟩ := boxes2 w [.bool h, .int .i64 k, .slice aI ints.length cI, .slice aR refs.length cR] [.bool h, .int .i64 k, .slice bI ints.length dI, .slice bR refs.length dR] 36 36
  go_enter Tryz.func53, Tryz.ntmps53
  go_wp2_with fail
  rw [hW.out]
  clear hW
  refine (eqObj_same ⟨k, ints, refs⟩ aI cI aR cR bI dI bR dR W (hs.below hbW) (ht.below hbW) hlI hlR).mono ?_
  rintro e w1 ⟨rfl, hb1⟩
  go_wp2
  go_ret
  exact ⟨rfl, hbW.trans (hb1.mono hbW.size)⟩

end Go.Proofs.YtoboickdkednkaaGreatDoor

/- The walks of laws.szLiveS, szRec, eqRec. -/
namespace Go.Proofs.YtoboickdkednkaaGreatDoor
open Go.RowKit

set_option maxHeartbeats 400000 in
theorem szLiveS_any (a : Option Addr) (c n : Nat) (left : Int) (w : World) (hn : n ≤ 9223372036854775807) (h0 : 0 ≤ left ∧ left ≤ 1048576) :
    Calls Tryz.prog 48 #[.slice a n c, .int .i64 left] w fun e w' => e = .returned (.int .i64 (szOf n left)) ∧ w' = w := by
  by_cases h : left - n < 0
  · have HS : Hid (szOf n left = -1) := by unfold szOf; rw [Hid, if_pos h]
    go_enter Tryz.func48, Tryz.ntmps48
    go_wp2
    go_ret
    exact ⟨ret_int HS.out.symm, rfl⟩
  · have HS : Hid (szOf n left = left - n) := by unfold szOf; rw [Hid, if_neg h]
    go_enter Tryz.func48, Tryz.ntmps48
    go_wp2
    go_ret
    exact ⟨ret_int HS.out.symm, rfl⟩

/-- A record whose lists are short. -/
structure RecA.short (r : RecA) (m : Nat) : Prop where
  bf : r.bf.v.o.ints.length ≤ m ∧ r.bf.v.o.refs.length ≤ m
  af : r.af.v.o.ints.length ≤ m ∧ r.af.v.o.refs.length ≤ m
  txs : r.txs.length ≤ m

set_option maxHeartbeats 1000000 in
set_option maxRecDepth 100000 in
theorem szRec_any (r : RecA) (left : Int) (w : World) (hn : r.short 9223372036854775807) (h0 : 0 ≤ left ∧ left ≤ 1048576) :
    Calls Tryz.prog 19 #[.agg r.cells.toArray, .int .i64 left] w fun e w' => ∃ z, e = .returned (.int .i64 z) ∧ (z < 0 ∨ (0 ≤ z ∧ z ≤ left ∧ r.short 1048576)) ∧ Below w.heap.size w w' := by
  obtain ⟨W, hW, b0, hbW, hsW⟩ := boxes1 w r.cells 52
  have hb0 : Below w.heap.size w W := hbW
  have C1 := szSlot_any r.bf left W (by intro s hs; obtain rfl := List.mem_singleton.1 hs; exact hn.bf) h0
  have hnl := hn.txs
  have hna : Small [r.af] := by intro s hs; obtain rfl := List.mem_singleton.1 hs; exact hn.af
  clear hsW hn
  simp only [RecA.cells] at *
  simp only [SlotA.cells] at C1
  go_enter Tryz.func19, Tryz.ntmps19
  go_wp2_with fail
  rw [hW.out]
  clear hW
  refine C1.mono ?_
  clear C1
  rintro e w1 ⟨z1, rfl, hz1, hb1⟩
  have b01 := b0.below hb1 b0.lt
  have B1 : Below w.heap.size w w1 := hbW.trans (hb1.mono hbW.size)
  clear b0 hb1 hbW
  rcases hz1 with hz | ⟨hz0, hzl, hs1⟩
  · go_wp2
    go_ret
    exact ⟨-1, rfl, .inl (by omega), B1⟩
  have hzn : ¬ z1 < 0 := by omega
  have c9 := b01.cell 9 _ rfl
  have c10 := b01.cell 10 _ rfl
  have c11 := b01.cell 11 _ rfl
  have c12 := b01.cell 12 _ rfl
  have C2 := szSlot_any r.af z1 w1 hna (by omega)
  simp only [SlotA.cells] at C2
  go_wp2_with fail
  refine C2.mono ?_
  clear C2 c9 c10 c11 c12
  rintro e w2 ⟨z2, rfl, hz2, hb2⟩
  have b02 := b01.below hb2 b01.lt
  have B2 : Below w.heap.size w w2 := B1.trans (hb2.mono B1.size)
  clear b01 hb2 B1
  rcases hz2 with hz | ⟨hz20, hz2l, hs2⟩
  · go_wp2
    go_ret
    exact ⟨-1, rfl, .inl (by omega), B2⟩
  have hzn2 : ¬ z2 < 0 := by omega
  have c14 := b02.cell 14 _ rfl
  have C3 := szLiveS_any r.aL r.cL r.txs.length z2 w2 hnl (by omega)
  go_wp2_with fail
  refine C3.mono ?_
  clear C3 c14
  rintro e w3 ⟨rfl, rfl⟩
  by_cases h : z2 - r.txs.length < 0
  · have HS : Hid (szOf r.txs.length z2 = -1) := by unfold szOf; rw [Hid, if_pos h]
    rw [HS.out]
    go_wp2
    go_ret
    exact ⟨-1, rfl, .inl (by omega), B2⟩
  · have HS : Hid (szOf r.txs.length z2 = z2 - r.txs.length) := by unfold szOf; rw [Hid, if_neg h]
    have HR : Hid (r.short 1048576) := ⟨hs1 _ (List.mem_singleton.2 rfl), hs2 _ (List.mem_singleton.2 rfl), by omega⟩
    rw [HS.out]
    go_wp2
    go_ret
    exact ⟨z2 - r.txs.length, rfl, .inr ⟨by omega, by omega, HR.out⟩, B2⟩

set_option maxHeartbeats 1000000 in
set_option maxRecDepth 100000 in
theorem eqRec_same (r t : RecA) (he : t.v = r.v) (w : World) (hr : r.reads w) (ht : t.reads w) (hl : r.short 1099511627776) :
    Calls Tryz.prog 23 #[.agg r.cells.toArray, .agg t.cells.toArray] w fun e w' => e = .returned (.bool true) ∧ Below w.heap.size w w' := by
  obtain ⟨W, hW, b0, b1, hbW, hsW⟩ := boxes2 w r.cells t.cells 39 39
  simp only [RecA.v, RecV.mk.injEq] at he
  obtain ⟨e1, e2, e3, e4, e5, e6, e7, e8, e9⟩ := he
  have C1 := eqSlot_same r.bf t.bf e6 W (ReadsO.below hr.bf hbW) (ReadsO.below ht.bf hbW) hl.bf.1 hl.bf.2
  have HL : Hid (_ ∧ _) := ⟨hl.af, hl.txs⟩
  have HR : Hid (_ ∧ _) := ⟨hr, ht⟩
  have HE : Hid (_ ∧ _) := ⟨e7, e9⟩
  clear hsW hl hr ht e6 e7 e9
  simp only [RecA.cells] at *
  simp only [SlotA.cells] at C1
  simp only [e1, e2, e3, e4, e5, e8] at b1 hW ⊢
  clear e1 e2 e3 e4 e5 e8
  go_enter Tryz.func23, Tryz.ntmps23
  go_wp2_with fail
  rw [hW.out]
  clear hW
  refine C1.mono ?_
  clear C1
  rintro e w1 ⟨rfl, hb1⟩
  have b01 := b0.below hb1 b0.lt
  have b11 := b1.below hb1 b1.lt
  have B1 : Below w.heap.size w w1 := hbW.trans (hb1.mono hbW.size)
  clear b0 b1 hb1 hbW
  have c9 := b01.cell 9 _ rfl
  have d9 := b11.cell 9 _ rfl
  have c10 := b01.cell 10 _ rfl
  have d10 := b11.cell 10 _ rfl
  have c11 := b01.cell 11 _ rfl
  have d11 := b11.cell 11 _ rfl
  have c12 := b01.cell 12 _ rfl
  have d12 := b11.cell 12 _ rfl
  have C2 := eqSlot_same r.af t.af HE.out.1 w1 (ReadsO.below HR.out.1.af B1) (ReadsO.below HR.out.2.af B1) HL.out.1.1 HL.out.1.2
  simp only [SlotA.cells] at C2
  go_wp2_with fail
  refine C2.mono ?_
  clear C2
  rintro e w2 ⟨rfl, hb2⟩
  have b02 := b01.below hb2 b01.lt
  have b12 := b11.below hb2 b11.lt
  have B2 : Below w.heap.size w w2 := B1.trans (hb2.mono B1.size)
  clear b01 b11 hb2 B1 c9 d9 c10 d10 c11 d11 c12 d12
  have c13 := b02.cell 13 _ rfl
  have d13 := b12.cell 13 _ rfl
  have c14 := b02.cell 14 _ rfl
  have d14 := b12.cell 14 _ rfl
  have C3 := eqLiveS_same r.aL t.aL r.cL t.cL r.txs w2 (HR.out.1.txs.below B2) (by have := HR.out.2.txs.below B2; rw [HE.out.2] at this; exact this) HL.out.2
  have hte : t.txs.length = r.txs.length := by rw [HE.out.2]
  rw [hte] at d14
  go_wp2_with fail
  refine C3.mono ?_
  clear C3
  rintro e w3 ⟨rfl, hb3⟩
  go_wp2
  go_ret
  exact ⟨rfl, B2.trans (hb3.mono B2.size)⟩
end Go.Proofs.YtoboickdkednkaaGreatDoor

/- The walks of spec.l2SameInts, spec.l2Same and spec.SameObj. -/
namespace Go.Proofs.YtoboickdkednkaaGreatDoor
open Go.RowKit

theorem ne_at {xs ys : List Int} (j : Nat) (h : xs.getD j 0 ≠ ys.getD j 0) : decide (xs = ys) = false := by
  rw [decide_eq_false_iff_not]
  intro e
  exact h (by rw [e])
theorem ne_len {xs ys : List Int} (h : xs.length ≠ ys.length) : decide (xs = ys) = false := by
  rw [decide_eq_false_iff_not]
  intro e
  exact h (by rw [e])
theorem eq_all {xs ys : List Int} (hl : xs.length = ys.length) (h : ∀ t, t < xs.length → xs.getD t 0 = ys.getD t 0) : decide (xs = ys) = true := by
  rw [decide_eq_true_eq]
  apply List.ext_getElem hl
  intro i h1 h2
  have := h i h1
  simpa [List.getD, h1, h2] using this

set_option maxHeartbeats 400000 in
theorem l2SameInts_any (a b : Option Addr) (ca cb : Nat) (xs ys : List Int) (w : World) (ha : ReadsI w a xs) (hb : ReadsI w b ys) (hl : xs.length ≤ 1099511627776) (hl2 : ys.length ≤ 1099511627776) :
    Calls Tryz.prog 122 #[.slice a xs.length ca, .slice b ys.length cb] w fun e w' => e = .returned (.bool (decide (xs = ys))) ∧ ∃ n, w' = w.drewN n := by
  by_cases hle : xs.length = ys.length
  case neg =>
    have HE : Hid (_ = _) := ne_len hle
    have hle' : ((xs.length : Int) == (ys.length : Int)) = false := by simp; omega
    go_enter Tryz.func122, Tryz.ntmps122
    go_wp2
    go_ret
    exact ⟨ret_bool HE.out.symm, 0, rfl⟩
  case pos =>
  have HL : Hid (xs.length = ys.length) := hle
  have hle' : ((xs.length : Int) == (ys.length : Int)) = true := by simp; omega
  rcases ha.cases with rfl | ⟨b1, o1, rfl, hpos, hc1⟩
  · obtain rfl : ys = [] := List.length_eq_zero_iff.1 (by simpa using hle.symm)
    have HE : Hid (decide (([] : List Int) = []) = true) := by simp [Hid]
    clear hle hle' HL
    go_enter Tryz.func122, Tryz.ntmps122
    go_wp2
    refine wp_loop_rounds 1 ?_
    rw [rounds_succ]
    go_wp2
    go_ret
    exact ⟨ret_bool HE.out.symm, 0, rfl⟩
  · rcases hb.cases with rfl | ⟨b2, o2, rfl, _, hc2⟩
    · simp at hle; simp [hle] at hpos
    · clear hle
      go_enter Tryz.func122, Tryz.ntmps122
      go_wp2
      go_loopw [5] (fun i wr => ∃ k : Nat, k ≤ xs.length ∧ i = .int .i64 k ∧ Hid (∀ t, t < k → xs.getD t 0 = ys.getD t 0) ∧ ∃ n, wr = w.drewN n) (fun i _ => xs.length - (intOf i).toNat)
      case atStart => exact ⟨0, Nat.zero_le _, rfl, fun t ht => by omega, 0, rfl⟩
      case round =>
        obtain ⟨k, hk, rfl, hall, n, rfl⟩ := hrel
        by_cases hlt : k < xs.length
        · have h1 := hc1 k hlt
          have h2 := hc2 k (by have := HL.out; omega)
          have hlt2 : (k : Int) < (ys.length : Int) := by have := HL.out; omega
          clear hc1 hc2
          by_cases hz : xs.getD k 0 = ys.getD k 0
          · have HN : Hid (∀ t, t < k + 1 → xs.getD t 0 = ys.getD t 0) := by
              intro t ht
              by_cases e : t = k
              · rw [e]; exact hz
              · exact hall.out t (by omega)
            rw [← hz] at h2
            clear hz
            generalize xs.getD k 0 = z at *
            go_wp2
            go_quiet (fail)
            go_wp2
            go_roundw
            case rel => exact ⟨k + 1, by omega, by go_num, HN, _, rfl⟩
            case measure => simp [intOf]; omega
          · have HE : Hid (_ = _) := ne_at k hz
            have hzb : (xs.getD k 0 == ys.getD k 0) = false := by simpa using hz
            clear hz
            generalize xs.getD k 0 = z at *
            generalize ys.getD k 0 = y at *
            go_wp2
            go_quiet (fail)
            go_wp2
            go_ret
            exact ⟨ret_bool HE.out.symm, n + nq, by first | rfl | simp⟩
        · have HE : Hid (_ = _) := eq_all HL.out (fun t ht => hall.out t (by omega))
          go_wp2
          go_ret
          exact ⟨ret_bool HE.out.symm, n, rfl⟩

def sameO (a b : ObjV) : Bool := decide (a.kind = b.kind) && (decide (a.ints = b.ints) && decide (a.refs = b.refs))

set_option maxHeartbeats 1000000 in
set_option maxRecDepth 100000 in
theorem specSameObj_any (o p : ObjV) (aI : Option Addr) (cI : Nat) (aR : Option Addr) (cR : Nat) (bI : Option Addr) (dI : Nat) (bR : Option Addr) (dR : Nat) (w : World) (ha : ReadsO w aI cI aR cR o) (hb : ReadsO w bI dI bR dR p) (h1 : o.ints.length ≤ 1099511627776) (h2 : o.refs.length ≤ 1099511627776) (h3 : p.ints.length ≤ 1099511627776) (h4 : p.refs.length ≤ 1099511627776) :
    Calls Tryz.prog 110 #[.agg #[.int .i64 o.kind, .slice aI o.ints.length cI, .slice aR o.refs.length cR], .agg #[.int .i64 p.kind, .slice bI p.ints.length dI, .slice bR p.refs.length dR]] w fun e w' => e = .returned (.bool (sameO o p)) ∧ Below w.heap.size w w' := by
  obtain ⟨k, ints, refs⟩ := o
  obtain ⟨k', ints', refs'⟩ := p
  obtain ⟨haI, haR, _, _⟩ := ha
  obtain ⟨hbI, hbR, _, _⟩ := hb
  simp only at *
  obtain ⟨W, hW, b0, b1, hbW, hsW⟩ := boxes2 w [.int .i64 k, .slice aI ints.length cI, .slice aR refs.length cR] [.int .i64 k', .slice bI ints'.length dI, .slice bR refs'.length dR] 34 34
  by_cases hk : k = k'
  case neg =>
    have HE : Hid (sameO ⟨k, ints, refs⟩ ⟨k', ints', refs'⟩ = false) := by simp [Hid, sameO, hk]
    have hkb : (k == k') = false := by simpa using hk
    clear hk
    go_enter Tryz.func110, Tryz.ntmps110
    go_wp2
    go_ret
    exact ⟨ret_bool HE.out.symm, by rw [hW.out]; exact hbW⟩
  case pos =>
  subst hk
  have HE : Hid (sameO ⟨k, ints, refs⟩ ⟨k, ints', refs'⟩ = (decide (ints = ints') && decide (refs = refs'))) := by simp [Hid, sameO]
  go_enter Tryz.func110, Tryz.ntmps110
  go_wp2_with fail
  rw [hW.out]
  refine (l2SameInts_any aI bI cI dI ints ints' W (haI.below hbW) (hbI.below hbW) h1 h3).mono ?_
  rintro e w1 ⟨rfl, n1, rfl⟩
  have c0 := (b0.drewN n1).cell 2 _ rfl
  have c1 := (b1.drewN n1).cell 2 _ rfl
  have hb1 : Below w.heap.size w (W.drewN n1) := below_drewN hbW n1
  cases hd : decide (ints = ints') with
  | false =>
    rw [hd] at HE
    clear hd
    go_wp2
    go_ret
    exact ⟨ret_bool (by rw [HE.out]; rfl), hb1⟩
  | true =>
    rw [hd] at HE
    clear hd
    go_wp2_with fail
    refine (l2SameInts_any aR bR cR dR refs refs' (W.drewN n1) (haR.below hb1) (hbR.below hb1) h2 h4).mono ?_
    rintro e w2 ⟨rfl, n2, rfl⟩
    generalize decide (refs = refs') = D at *
    go_wp2
    go_ret
    exact ⟨ret_bool (by rw [HE.out]; rfl), below_drewN hbW (n1 + n2)⟩
end Go.Proofs.YtoboickdkednkaaGreatDoor

/- Is a number within bounds? -/
namespace Go.Proofs.YtoboickdkednkaaGreatDoor
def inB (x l m : Int) : Bool := decide (l ≤ x ∧ x ≤ m)
end Go.Proofs.YtoboickdkednkaaGreatDoor

/- The walk of spec.l1In. -/
namespace Go.Proofs.YtoboickdkednkaaGreatDoor
open Go.RowKit

set_option maxHeartbeats 400000 in
theorem l1In_any (x l m : Int) (w : World) : Calls Tryz.prog 35 #[.int .i64 x, .int .i64 l, .int .i64 m] w fun e w' => e = .returned (.bool (inB x l m)) ∧ w' = w := by
  by_cases h1 : l ≤ x
  · by_cases h2 : x ≤ m
    · have HB : Hid (inB x l m = true) := by simp [Hid, inB, h1, h2]
      go_enter Tryz.func35, Tryz.ntmps35
      go_wp2
      go_ret
      exact ⟨ret_bool HB.out.symm, rfl⟩
    · have HB : Hid (inB x l m = false) := by simp [Hid, inB, h2]
      go_enter Tryz.func35, Tryz.ntmps35
      go_wp2
      go_ret
      exact ⟨ret_bool HB.out.symm, rfl⟩
  · have HB : Hid (inB x l m = false) := by simp [Hid, inB, h1]
    go_enter Tryz.func35, Tryz.ntmps35
    go_wp2
    go_ret
    exact ⟨ret_bool HB.out.symm, rfl⟩

end Go.Proofs.YtoboickdkednkaaGreatDoor

/- When an object is right; the walk of spec.ObjOk. -/
namespace Go.Proofs.YtoboickdkednkaaGreatDoor
open Go.RowKit

def okB (o : ObjV) : Bool := inB o.kind 1 99 && (decide (o.ints.length ≤ 5) && (decide (o.refs.length ≤ 5) && (o.ints.all (fun z => inB z (-1000000) 1000000) && o.refs.all (fun z => inB z 0 31))))

theorem okB_kind {o : ObjV} (h : inB o.kind 1 99 = false) : okB o = false := by simp [okB, h]
theorem okB_ints {o : ObjV} (h : ¬ o.ints.length ≤ 5) : okB o = false := by simp [okB, h]
theorem okB_refs {o : ObjV} (h : ¬ o.refs.length ≤ 5) : okB o = false := by simp [okB, h]
theorem okB_int {o : ObjV} (j : Nat) (hj : j < o.ints.length) (h : inB (o.ints.getD j 0) (-1000000) 1000000 = false) : okB o = false := by
  have : (o.ints.all (fun z => inB z (-1000000) 1000000)) = false := by
    rw [List.all_eq_false]
    exact ⟨o.ints.getD j 0, by simp [List.getD, hj], by rw [h]; decide⟩
  simp [okB, this]
theorem okB_ref {o : ObjV} (j : Nat) (hj : j < o.refs.length) (h : inB (o.refs.getD j 0) 0 31 = false) : okB o = false := by
  have : (o.refs.all (fun z => inB z 0 31)) = false := by
    rw [List.all_eq_false]
    exact ⟨o.refs.getD j 0, by simp [List.getD, hj], by rw [h]; decide⟩
  simp [okB, this]
theorem okB_true {o : ObjV} (h1 : inB o.kind 1 99 = true) (h2 : o.ints.length ≤ 5) (h3 : o.refs.length ≤ 5) (h4 : ∀ j, j < o.ints.length → inB (o.ints.getD j 0) (-1000000) 1000000 = true) (h5 : ∀ j, j < o.refs.length → inB (o.refs.getD j 0) 0 31 = true) : okB o = true := by
  have a4 : (o.ints.all (fun z => inB z (-1000000) 1000000)) = true := by
    rw [List.all_eq_true]
    intro z hz
    obtain ⟨j, hj, rfl⟩ := List.getElem_of_mem hz
    have := h4 j hj
    simpa [List.getD, hj] using this
  have a5 : (o.refs.all (fun z => inB z 0 31)) = true := by
    rw [List.all_eq_true]
    intro z hz
    obtain ⟨j, hj, rfl⟩ := List.getElem_of_mem hz
    have := h5 j hj
    simpa [List.getD, hj] using this
  simp [okB, h1, h2, h3, a4, a5]

set_option maxHeartbeats 1000000 in
set_option maxRecDepth 100000 in
theorem specObjOk_any (o : ObjV) (aI : Option Addr) (cI : Nat) (aR : Option Addr) (cR : Nat) (w : World) (hr : ReadsO w aI cI aR cR o) (hnI : o.ints.length ≤ 140737488355328) (hnR : o.refs.length ≤ 140737488355328) :
    Calls Tryz.prog 86 #[.agg #[.int .i64 o.kind, .slice aI o.ints.length cI, .slice aR o.refs.length cR]] w fun e w' => e = .returned (.bool (okB o)) ∧ Below w.heap.size w w' := by
  obtain ⟨k, ints, refs⟩ := o
  obtain ⟨hI, hR, _, _⟩ := hr
  simp only at *
  obtain ⟨W, hW, b0, hbW, hsW⟩ := boxes1 w [.int .i64 k, .slice aI ints.length cI, .slice aR refs.length cR] 34
  have hI' := hI.below hbW
  have hR' := hR.below hbW
  have x1 := b0.cell 1 _ rfl
  have x2 := b0.cell 2 _ rfl
  cases hk : inB k 1 99 with
  | false =>
    have HK : Hid (_ = _) := hk
    have HE : Hid (okB ⟨k, ints, refs⟩ = false) := okB_kind hk
    clear hk
    go_enter Tryz.func86, Tryz.ntmps86
    go_wp2_with fail
    rw [hW.out]
    refine (l1In_any _ _ _ _).mono ?_
    rintro e w' ⟨rfl, rfl⟩
    rw [HK.out]
    go_wp2
    go_ret
    exact ⟨ret_bool HE.out.symm, hbW⟩
  | true =>
  have HK : Hid (_ = _) := hk
  clear hk
  by_cases h5 : ints.length ≤ 5
  case neg =>
    have HE : Hid (okB ⟨k, ints, refs⟩ = false) := okB_ints h5
    go_enter Tryz.func86, Tryz.ntmps86
    go_wp2_with fail
    rw [hW.out]
    refine (l1In_any _ _ _ _).mono ?_
    rintro e w' ⟨rfl, rfl⟩
    rw [HK.out]
    go_wp2
    go_ret
    exact ⟨ret_bool HE.out.symm, hbW⟩
  case pos =>
  by_cases h6 : refs.length ≤ 5
  case neg =>
    have HE : Hid (okB ⟨k, ints, refs⟩ = false) := okB_refs h6
    go_enter Tryz.func86, Tryz.ntmps86
    go_wp2_with fail
    rw [hW.out]
    refine (l1In_any _ _ _ _).mono ?_
    rintro e w' ⟨rfl, rfl⟩
    rw [HK.out]
    go_wp2
    go_ret
    exact ⟨ret_bool HE.out.symm, hbW⟩
  case pos =>
  go_enter Tryz.func86, Tryz.ntmps86
  go_wp2_with fail
  rw [hW.out]
  refine (l1In_any _ _ _ _).mono ?_
  rintro e w' ⟨rfl, rfl⟩
  rw [HK.out]
  go_wp2
  go_loop [3] (fun i => ∃ j : Nat, j ≤ ints.length ∧ i = .int .i64 j ∧ Hid (∀ t, t < j → inB (ints.getD t 0) (-1000000) 1000000 = true)) (fun i => ints.length - (intOf i).toNat)
  case atStart => exact ⟨0, by omega, rfl, fun t ht => by omega⟩
  case round =>
    obtain ⟨j, hj, rfl, hall⟩ := hrel
    by_cases hlt : j < ints.length
    · rcases hI'.cases with rfl | ⟨b, off, rfl, hpos, hcell⟩
      · simp at hlt
      have hc := hcell j hlt
      clear hcell
      cases hz : inB (ints.getD j 0) (-1000000) 1000000 with
      | false =>
        have HE : Hid (okB ⟨k, ints, refs⟩ = false) := okB_int j hlt hz
        have HZ : Hid (_ = _) := hz
        clear hz
        generalize ints.getD j 0 = z at *
        go_wp2_with fail
        refine (l1In_any _ _ _ _).mono ?_
        rintro e w' ⟨rfl, rfl⟩
        rw [HZ.out]
        go_wp2
        go_ret
        exact ⟨ret_bool HE.out.symm, hbW⟩
      | true =>
        have HN : Hid (∀ t, t < j + 1 → inB (ints.getD t 0) (-1000000) 1000000 = true) := by
          intro t ht
          by_cases e : t = j
          · rw [e]; exact hz
          · exact hall.out t (by omega)
        have HZ : Hid (_ = _) := hz
        clear hz
        generalize ints.getD j 0 = z at *
        go_wp2_with fail
        refine (l1In_any _ _ _ _).mono ?_
        rintro e w' ⟨rfl, rfl⟩
        rw [HZ.out]
        go_wp2
        go_round
        case rel => exact ⟨j + 1, by omega, by go_num, HN⟩
        case measure => simp [intOf]; omega
    · have HALL : Hid (∀ t, t < ints.length → inB (ints.getD t 0) (-1000000) 1000000 = true) := fun t ht => hall.out t (by omega)
      go_wp2
      go_loop [4] (fun i => ∃ j : Nat, j ≤ refs.length ∧ i = .int .i64 j ∧ Hid (∀ t, t < j → inB (refs.getD t 0) 0 31 = true)) (fun i => refs.length - (intOf i).toNat)
      case atStart => exact ⟨0, by omega, rfl, fun t ht => by omega⟩
      case round =>
        obtain ⟨i, hi, rfl, hall2⟩ := hrel
        by_cases hlt2 : i < refs.length
        · rcases hR'.cases with rfl | ⟨b, off, rfl, hpos, hcell⟩
          · simp at hlt2
          have hc := hcell i hlt2
          clear hcell
          cases hz : inB (refs.getD i 0) 0 31 with
          | false =>
            have HE : Hid (okB ⟨k, ints, refs⟩ = false) := okB_ref i hlt2 hz
            have HZ : Hid (_ = _) := hz
            clear hz
            generalize refs.getD i 0 = z at *
            go_wp2_with fail
            refine (l1In_any _ _ _ _).mono ?_
            rintro e w' ⟨rfl, rfl⟩
            rw [HZ.out]
            go_wp2
            go_ret
            exact ⟨ret_bool HE.out.symm, hbW⟩
          | true =>
            have HN : Hid (∀ t, t < i + 1 → inB (refs.getD t 0) 0 31 = true) := by
              intro t ht
              by_cases e : t = i
              · rw [e]; exact hz
              · exact hall2.out t (by omega)
            have HZ : Hid (_ = _) := hz
            clear hz
            generalize refs.getD i 0 = z at *
            go_wp2_with fail
            refine (l1In_any _ _ _ _).mono ?_
            rintro e w' ⟨rfl, rfl⟩
            rw [HZ.out]
            go_wp2
            go_round
            case rel => exact ⟨i + 1, by omega, by go_num, HN⟩
            case measure => simp [intOf]; omega
        · have HE : Hid (okB ⟨k, ints, refs⟩ = true) := okB_true HK.out h5 h6 HALL.out (fun t ht => hall2.out t (by simp only at ht; omega))
          go_wp2
          go_ret
          exact ⟨ret_bool HE.out.symm, hbW⟩
end Go.Proofs.YtoboickdkednkaaGreatDoor

/- Plain mathematics of numbers in bytes: groups of seven bits, the lowest first. -/
namespace Go.Proofs.YtoboickdkednkaaGreatDoor

def groupsN : Nat → Nat → List Int
  | 0, m => [(m : Int)]
  | f + 1, m => if m < 128 then [(m : Int)] else ((m % 128 + 128 : Nat) : Int) :: groupsN f (m / 128)
def groups (m : Nat) : List Int := groupsN 64 m

/-- A number beyond the greatest counts as that. -/
def clampI (n : Int) : Int := if n > 1000000000000 then 1000000000000 else if n < -1000000000000 then -1000000000000 else n
def zig (n : Int) : Nat := if 0 ≤ clampI n then (2 * clampI n).toNat else (-2 * clampI n - 1).toNat
def putOf (n : Int) : List Int := groups (zig n)

end Go.Proofs.YtoboickdkednkaaGreatDoor

/- The walks of impl.appendGroups and impl.foldSign. -/
namespace Go.Proofs.YtoboickdkednkaaGreatDoor
open Go.RowKit

end Go.Proofs.YtoboickdkednkaaGreatDoor

/- The walk of spec.PutInt. -/
namespace Go.Proofs.YtoboickdkednkaaGreatDoor
open Go.RowKit

end Go.Proofs.YtoboickdkednkaaGreatDoor

/- The bytes of an object; the walks of spec.l2PutList and spec.PutObj. -/
namespace Go.Proofs.YtoboickdkednkaaGreatDoor
open Go.RowKit

end Go.Proofs.YtoboickdkednkaaGreatDoor

/- Plain mathematics of reading a number: how many groups say that more come, what they hold. -/
namespace Go.Proofs.YtoboickdkednkaaGreatDoor

end Go.Proofs.YtoboickdkednkaaGreatDoor

/- Plain mathematics of the sum: one bit, eight bits, a list of bytes; what stays below 2 to the 32. -/
namespace Go.Proofs.YtoboickdkednkaaGreatDoor

def crcBit (x : Nat) : Nat := if x % 2 = 1 then (x / 2) ^^^ 3988292384 else x / 2
def crcBits : Nat → Nat → Nat
  | 0, x => x
  | k + 1, x => crcBit (crcBits k x)
def crcByte (x : Nat) (c : Nat) : Nat := crcBits 8 (x ^^^ c)
def crcTo (zs : List Int) (k : Nat) : Nat := (zs.take k).foldl (fun x c => crcByte x c.toNat) 4294967295
def crcOf (zs : List Int) : Nat := 4294967295 ^^^ crcTo zs zs.length

end Go.Proofs.YtoboickdkednkaaGreatDoor

/- The walks of spec.l1In and spec.GetInt. -/
namespace Go.Proofs.YtoboickdkednkaaGreatDoor
open Go.RowKit


end Go.Proofs.YtoboickdkednkaaGreatDoor

/- The walks of spec.l2Next and spec.l2List: a reader over bytes. -/
namespace Go.Proofs.YtoboickdkednkaaGreatDoor
open Go.RowKit

end Go.Proofs.YtoboickdkednkaaGreatDoor

/- Plain mathematics: a number comes back of its bytes; cut, it does not. -/
namespace Go.Proofs.YtoboickdkednkaaGreatDoor

end Go.Proofs.YtoboickdkednkaaGreatDoor

/- Plain mathematics: an object comes back of its bytes, and of them alone. -/
namespace Go.Proofs.YtoboickdkednkaaGreatDoor
open Go.RowKit

def noO : ObjV := ⟨0, [], []⟩
end Go.Proofs.YtoboickdkednkaaGreatDoor

/- Plain mathematics of reading an object number by number: what is read is just what is put. -/
namespace Go.Proofs.YtoboickdkednkaaGreatDoor
open Go.RowKit

def Bytes (zs : List Int) : Prop := ∀ z ∈ zs, 0 ≤ z ∧ z < 256
theorem Bytes.drop {zs : List Int} (h : Bytes zs) (p : Nat) : Bytes (zs.drop p) := fun z hz => h z (List.mem_of_mem_drop hz)

end Go.Proofs.YtoboickdkednkaaGreatDoor

/- The walk of impl.crcByte. -/
namespace Go.Proofs.YtoboickdkednkaaGreatDoor
open Go.RowKit



end Go.Proofs.YtoboickdkednkaaGreatDoor

/- The walk of impl.Crc: it comes to crcOf. -/
namespace Go.Proofs.YtoboickdkednkaaGreatDoor
open Go.RowKit

end Go.Proofs.YtoboickdkednkaaGreatDoor

/- The walk of impl.appendSum: four bytes of a sum, the lowest first. -/
namespace Go.Proofs.YtoboickdkednkaaGreatDoor
open Go.RowKit

def sumByte (x k : Nat) : Int := ((x / 256 ^ k % 256 : Nat) : Int)
def fourTo (x k : Nat) : List Int := (List.range k).map (sumByte x)
def four (x : Nat) : List Int := fourTo x 4

end Go.Proofs.YtoboickdkednkaaGreatDoor

/- The walk of impl.putInts: b, and behind it the bytes of each number. -/
namespace Go.Proofs.YtoboickdkednkaaGreatDoor
open Go.RowKit

end Go.Proofs.YtoboickdkednkaaGreatDoor

/- The walk of impl.Frame: it comes to frameOf. -/
namespace Go.Proofs.YtoboickdkednkaaGreatDoor
open Go.RowKit

def frameOf (zs : List Int) : List Int := (putOf zs.length ++ zs) ++ four (crcOf zs)

end Go.Proofs.YtoboickdkednkaaGreatDoor
