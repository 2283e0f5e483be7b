/- Several texts in one, in their order. -/
import Derived.Test.YtoboickdkednkaaGreatDoorPForcex7
import Derived.Test.YtoboickdkednkaaGreatDoorPForcex8
import Derived.Deep.CutRange
import Derived.Test.YtoboickdkednkaaGreatDoorPForcex4
import Derived.Deep.RegionHeld3
import Derived.Test.YtoboickdkednkaaGreatDoorRows
import Derived.Test.YtoboickdkednkaaGreatDoorPForcex5
import Derived.LaidLaws
import Derived.LaidHandle
import Derived.Stop.Joined
import Derived.ChangeVars
import Derived.Test.YtoboickdkednkaaGreatDoorPForcex1
set_option maxHeartbeats 8000000
set_option maxRecDepth 100000
namespace Go.Proofs.YtoboickdkednkaaGreatDoor
open Go.RowKit
theorem forceOf_no {l : LogV} (n : Int) (h : okLog l = false) : forceOf l n = l := by unfold forceOf; rw [if_neg (by rw [h]; decide)]
theorem forceOf_yes {l : LogV} (n : Int) (h : okLog l = true) : forceOf l n = ⟨l.recs, max l.sure (min n l.recs.length)⟩ := by unfold forceOf; rw [if_pos h]
theorem force_short {t p : LogA} {n : Int} (h : t.v = forceOf p.v n) {m : Nat} (hs : p.short m) : t.short m := by
 have e : t.recs.map RecA.v = p.recs.map RecA.v := by
  have := congrArg LogV.recs h
  unfold forceOf at this
  split at this <;> exact this
 exact ⟨by rw [mapV_len e]; exact hs.len, mapV_all e (fun r => r.short m) (fun a b e hb => short_of e hb) hs.each⟩
theorem l5Force_any (B : Nat) (a : Option Addr) (c : Nat) (rs : List RecA) (s n : Int) (w : World) (b : Box w B [.slice a rs.length c, .int .i64 s] 26) :
  Calls Tryz.prog 59 #[.pointer (some ⟨B, 0, none⟩), .int .i64 n] w fun e w' => (∃ v, e = .returned v) ∧ Box w' B [.slice a rs.length c, .int .i64 (max s (min n rs.length))] 26 ∧ Within B (B + 1) w w' ∧ w'.heap.size = w.heap.size := by
 have c0 := b.cell 0 _ rfl
 have c1 := b.cell 1 _ rfl
 have f1 := b.frozen 1
 by_cases h1 : n > rs.length
 ·by_cases h2 : (rs.length : Int) > s
  ·have HM : Hid (max s (min n (rs.length : Int)) = rs.length) := by rw [Hid]; omega
   obtain ⟨W, hW, bW, hw, hs⟩ := box_set b 1 (.int .i64 rs.length)
   simp only [List.set] at bW
   clear hs
   have HS : Hid (W.heap.size = w.heap.size) := by rw [Hid, ← hW.out]; simp
   go_enter Tryz.func59, Tryz.ntmps59
   go_wp2
   rw [hW.out]
   go_end0
   exact ⟨⟨_, rfl⟩, by rw [HM.out]; exact bW, hw, HS.out⟩
  ·have HM : Hid (max s (min n (rs.length : Int)) = s) := by rw [Hid]; omega
   go_enter Tryz.func59, Tryz.ntmps59
   go_wp2
   go_end0
   exact ⟨⟨_, rfl⟩, by rw [HM.out]; exact b, Within.refl _ _ _, rfl⟩
 ·by_cases h2 : n > s
  ·have HM : Hid (max s (min n (rs.length : Int)) = n) := by rw [Hid]; omega
   obtain ⟨W, hW, bW, hw, hs⟩ := box_set b 1 (.int .i64 n)
   simp only [List.set] at bW
   clear hs
   have HS : Hid (W.heap.size = w.heap.size) := by rw [Hid, ← hW.out]; simp
   go_enter Tryz.func59, Tryz.ntmps59
   go_wp2
   rw [hW.out]
   go_end0
   exact ⟨⟨_, rfl⟩, by rw [HM.out]; exact bW, hw, HS.out⟩
  ·have HM : Hid (max s (min n (rs.length : Int)) = s) := by rw [Hid]; omega
   go_enter Tryz.func59, Tryz.ntmps59
   go_wp2
   go_end0
   exact ⟨⟨_, rfl⟩, by rw [HM.out]; exact b, Within.refl _ _ _, rfl⟩
theorem specForce_any (l : LogA) (n : Int) (w : World) (hr : l.reads w) (hl : l.short 1048576) (hcp : ∀ r ∈ l.recs, r.aL = none → r.cL = 0) :
  Calls Tryz.prog 27 #[.agg l.cells.toArray, .int .i64 n] w fun e w' => ∃ t : LogA, e = .returned (.agg t.cells.toArray) ∧ Hid (t.v = forceOf l.v n) ∧ t.own w' w.heap.size w'.heap.size ∧ Below w.heap.size w w' := by
 have HNO : Hid (okLog l.v = false → forceOf l.v n = l.v) := fun h => forceOf_no n h
 have HYES : Hid (okLog l.v = true → forceOf l.v n = ⟨l.v.recs, max l.sure (min n l.recs.length)⟩) := fun h => by rw [forceOf_yes n h, l.v_len]; rfl
 obtain ⟨W, hW, b0, b1, hbW, hsW⟩ := boxes2 w l.cells [.slice none 0 0, .int .i64 0] 26 26
 have hs0 : w.heap.size + 1 < W.heap.size := by omega
 clear hsW
 have C1 := l5Copy_any l W (hr.below hbW) hl hcp
 have HLV : Hid (∀ t : LogA, t.v = l.v → t.recs.length = l.recs.length ∧ t.sure = l.sure ∧ t.recs.map RecA.v = l.v.recs) := fun t h => by
  simp only [LogA.v, LogV.mk.injEq] at h
  exact ⟨mapV_len h.1, h.2, h.1⟩
 have HX : Hid (∀ u, Below W.heap.size W u → Box u w.heap.size l.cells 26) := fun u hu => b0.below hu b0.lt
 have hll := hl.len
 simp only [LogA.cells] at *
 have x0 := b0.cell 0 _ rfl
 have x1 := b0.cell 1 _ rfl
 clear b0
 go_enter Tryz.func27, Tryz.ntmps27
 go_wp2_with fail
 rw [hW.out]
 clear hW
 refine C1.mono ?_
 clear C1 x0 x1
 rintro e w1 ⟨t, rfl, hv, ho, hb1⟩
 have HE : Hid (_ ∧ _ ∧ _) := HLV.out t hv.out
 obtain ⟨rt, st, at', ct⟩ := t
 have hrt : rt.length ≤ 1048576 := by have := HE.out.1; simp only at this; omega
 simp only
 obtain ⟨W2, hW2, b2, hb2, hs2⟩ := boxes1 w1 [.slice at' rt.length ct, .int .i64 st] 26
 have k12 : Below W.heap.size W W2 := hb1.trans (hb2.mono hb1.size)
 have hs1 := hb1.size
 have hs2' := hb2.size
 have hlt2 := b2.lt
 have D2 : Below w.heap.size w W2 := hbW.trans (k12.mono hbW.size)
 have o2 : OwnRs W2 W.heap.size w1.heap.size at' ct rt := OwnRs.below ho hb2
 have b12 := b1.below k12 b1.lt
 have C2 := specLogOk_any l W2 (hr.below D2) (LogA.short_wide hl)
 simp only [LogA.cells] at C2
 have y0 := (HX.out W2 k12).cell 0 _ rfl
 have y1 := (HX.out W2 k12).cell 1 _ rfl
 clear hs2 ho hb1 hb2 b1
 go_upto_region 2 with fail
 rw [hW2.out]
 clear hW2
 go_wp2_with fail
 refine C2.mono ?_
 clear C2 y0 y1
 generalize okLog l.v = R at *
 rintro e w3 ⟨rfl, hb3⟩
 have hs3 := hb3.size
 have b23 := b2.below hb3 b2.lt
 have b13 := b12.below hb3 b12.lt
 have o3 := OwnRs.below o2 hb3
 have D3 : Below w.heap.size w w3 := D2.trans (hb3.mono D2.size)
 clear b2 b12 o2 hb3 D2 k12
 cases R with
 | false =>
  have HV := HNO.out rfl
  have e0 := b23.cell 0 _ rfl
  have e1' := b23.cell 1 _ rfl
  have m0 := b13.cell 0 _ rfl
  have m1 := b13.cell 1 _ rfl
  have mf0 := b13.frozen 0
  have mf1 := b13.frozen 1
  obtain ⟨WF, hWF, bF, hwF, hsF⟩ := box2_fill b13 (.slice at' rt.length ct) (.int .i64 st)
  have q0 := bF.cell 0 _ rfl
  have q1 := bF.cell 1 _ rfl
  have hoF := (o3.within hwF (.inr (by omega))).widen (show w.heap.size ≤ W.heap.size by omega) (show w1.heap.size ≤ WF.heap.size by omega) (Nat.le_refl _)
  have hbF : Below w.heap.size w WF := D3.trans (hwF.below (by omega) (by omega))
  have HF : Hid (_ ∧ _ ∧ _) := ⟨hv.out.trans HV.symm, hoF, hbF⟩
  clear hwF hsF bF hv HV hoF hbF HNO HYES HLV HE hs1 hs2' hs3 hlt2
  go_wp2
  rw [hWF.out]
  exact bodyPost_ret (v := .agg #[.slice at' rt.length ct, .int .i64 st]) (by simp [results, Tryz.results27, go_sem, q0, q1]) rfl ⟨⟨rt, st, at', ct⟩, rfl, HF.out.1, HF.out.2.1, HF.out.2.2⟩
 | true =>
  have HV := HYES.out rfl
  have C3 := l5Force_any w1.heap.size at' ct rt st n w3 b23
  go_wp2_with fail
  refine C3.mono ?_
  clear C3
  rintro e w4 ⟨⟨v4, rfl⟩, b24, hw4, hs4⟩
  have hs4a := Nat.le_of_eq hs4
  have hs4b := Nat.le_of_eq hs4.symm
  have b14 := b13.within hw4 (by omega)
  have o4 := o3.within hw4 (.inl (Nat.le_refl _))
  have D4 : Below w.heap.size w w4 := D3.trans (hw4.below (by omega) (by omega))
  have e0 := b24.cell 0 _ rfl
  have e1' := b24.cell 1 _ rfl
  have m0 := b14.cell 0 _ rfl
  have m1 := b14.cell 1 _ rfl
  have mf0 := b14.frozen 0
  have mf1 := b14.frozen 1
  obtain ⟨WF, hWF, bF, hwF, hsF⟩ := box2_fill b14 (.slice at' rt.length ct) (.int .i64 (max st (min n rt.length)))
  have q0 := bF.cell 0 _ rfl
  have q1 := bF.cell 1 _ rfl
  have hoF := (o4.within hwF (.inr (by omega))).widen (show w.heap.size ≤ W.heap.size by omega) (show w1.heap.size ≤ WF.heap.size by omega) (Nat.le_refl _)
  have hbF : Below w.heap.size w WF := D4.trans (hwF.below (by omega) (by omega))
  have HVV : Hid ((⟨rt, max st (min n rt.length), at', ct⟩ : LogA).v = forceOf l.v n) := by
   rw [Hid, HV]
   have e1 : rt.length = l.recs.length := HE.out.1
   have e2 : st = l.sure := HE.out.2.1
   have e3 : rt.map RecA.v = l.v.recs := HE.out.2.2
   simp only [LogA.v] at e3 ⊢
   rw [e3, e1, e2]
  have HF : Hid (_ ∧ _ ∧ _) := ⟨HVV.out, hoF, hbF⟩
  clear hwF hsF bF hv HV hoF hbF HNO HYES HLV HE hs1 hs2' hs3 hlt2 HVV hs4 hs4a hs4b hw4
  generalize max st (min n (rt.length : Int)) = M at *
  go_wp2
  rw [hWF.out]
  exact bodyPost_ret (v := .agg #[.slice at' rt.length ct, .int .i64 M]) (by simp [results, Tryz.results27, go_sem, q0, q1]) rfl ⟨⟨rt, M, at', ct⟩, rfl, HF.out.1, HF.out.2.1, HF.out.2.2⟩
theorem implForce_any (l : LogA) (n : Int) (w : World) (hg : ErrT w) (hr : l.reads w) (hl : l.short 1048576) (hcp : ∀ r ∈ l.recs, r.aL = none → r.cL = 0) :
  Calls Tryz.prog 12 #[.agg l.cells.toArray, .int .i64 n] w fun e w' => ∃ t : LogA, e = .returned (.agg t.cells.toArray) ∧ Hid (t.v = forceOf l.v n) ∧ t.own w' w.heap.size w'.heap.size ∧ Below w.heap.size w w' := by
 have HNO : Hid (okLog l.v = false → forceOf l.v n = l.v) := fun h => forceOf_no n h
 have HYES : Hid (okLog l.v = true → forceOf l.v n = ⟨l.v.recs, max l.sure (min n l.recs.length)⟩) := fun h => by rw [forceOf_yes n h, l.v_len]; rfl
 obtain ⟨W, hW, b0, b1, hbW, hsW⟩ := boxes2 w l.cells [.slice none 0 0, .int .i64 0] 26 26
 have hs0 : w.heap.size + 1 < W.heap.size := by omega
 clear hsW
 have C1 := copyLog_any l W (hr.below hbW) hl hcp
 have HLV : Hid (∀ t : LogA, t.v = l.v → t.recs.length = l.recs.length ∧ t.sure = l.sure ∧ t.recs.map RecA.v = l.v.recs) := fun t h => by
  simp only [LogA.v, LogV.mk.injEq] at h
  exact ⟨mapV_len h.1, h.2, h.1⟩
 have HSR : Hid (okLog l.v = true → l.sure ≤ l.recs.length) := fun h => by have := (okLog_yes h).2.2.1; rw [l.v_len] at this; exact this
 have HX : Hid (∀ u, Below W.heap.size W u → Box u w.heap.size l.cells 26) := fun u hu => b0.below hu b0.lt
 have hll := hl.len
 simp only [LogA.cells] at *
 have x0 := b0.cell 0 _ rfl
 have x1 := b0.cell 1 _ rfl
 clear b0
 go_enter Tryz.func12, Tryz.ntmps12
 go_wp2_with fail
 rw [hW.out]
 clear hW
 refine C1.mono ?_
 clear C1 x0 x1
 rintro e w1 ⟨t, rfl, hv, ho, hb1⟩
 have HE : Hid (_ ∧ _ ∧ _) := HLV.out t hv.out
 obtain ⟨rt, st, at', ct⟩ := t
 have hrt : rt.length ≤ 1048576 := by have := HE.out.1; simp only at this; omega
 simp only
 obtain ⟨W2, hW2, b2, hb2, hs2⟩ := boxes1 w1 [.slice at' rt.length ct, .int .i64 st] 26
 have k12 : Below W.heap.size W W2 := hb1.trans (hb2.mono hb1.size)
 have hs1 := hb1.size
 have hs2' := hb2.size
 have hlt2 := b2.lt
 have D2 : Below w.heap.size w W2 := hbW.trans (k12.mono hbW.size)
 have o2 : OwnRs W2 W.heap.size w1.heap.size at' ct rt := OwnRs.below ho hb2
 have b12 := b1.below k12 b1.lt
 have C2 := implLogOk_any l W2 (hg.keep D2) (hr.below D2) (LogA.short_wide hl)
 simp only [LogA.cells] at C2
 have y0 := (HX.out W2 k12).cell 0 _ rfl
 have y1 := (HX.out W2 k12).cell 1 _ rfl
 clear hs2 ho hb1 hb2 b1
 go_upto_region 2 with fail
 rw [hW2.out]
 clear hW2
 go_wp2_with fail
 refine C2.mono ?_
 clear C2 y0 y1
 generalize okLog l.v = R at *
 rintro e w3 ⟨rfl, hb3⟩
 have hs3 := hb3.size
 have b23 := b2.below hb3 b2.lt
 have b13 := b12.below hb3 b12.lt
 have o3 := OwnRs.below o2 hb3
 have D3 : Below w.heap.size w w3 := D2.trans (hb3.mono D2.size)
 have k13 : Below W.heap.size W w3 := k12.trans (hb3.mono k12.size)
 clear b2 b12 o2 hb3 D2 k12
 cases R with
 | false =>
  have HV := HNO.out rfl
  have e0 := b23.cell 0 _ rfl
  have e1' := b23.cell 1 _ rfl
  have m0 := b13.cell 0 _ rfl
  have m1 := b13.cell 1 _ rfl
  have mf0 := b13.frozen 0
  have mf1 := b13.frozen 1
  obtain ⟨WF, hWF, bF, hwF, hsF⟩ := box2_fill b13 (.slice at' rt.length ct) (.int .i64 st)
  have q0 := bF.cell 0 _ rfl
  have q1 := bF.cell 1 _ rfl
  have hoF := (o3.within hwF (.inr (by omega))).widen (show w.heap.size ≤ W.heap.size by omega) (show w1.heap.size ≤ WF.heap.size by omega) (Nat.le_refl _)
  have hbF : Below w.heap.size w WF := D3.trans (hwF.below (by omega) (by omega))
  have HF : Hid (_ ∧ _ ∧ _) := ⟨hv.out.trans HV.symm, hoF, hbF⟩
  clear hwF hsF bF hv HV hoF hbF HNO HYES HLV HE hs1 hs2' hs3 hlt2
  go_wp2
  rw [hWF.out]
  exact bodyPost_ret (v := .agg #[.slice at' rt.length ct, .int .i64 st]) (by simp [results, Tryz.results12, go_sem, q0, q1]) rfl ⟨⟨rt, st, at', ct⟩, rfl, HF.out.1, HF.out.2.1, HF.out.2.2⟩
 | true =>
  have HV := HYES.out rfl
  have hsr := HSR.out rfl
  have C3 := logForce_any w1.heap.size 0 [.slice at' rt.length ct, .int .i64 st] 26 at' ct rt.length st n w3 b23 rfl rfl
  have HMM : Hid (min (max st n) (rt.length : Int) = max l.sure (min n l.recs.length)) := by
   have e1 : rt.length = l.recs.length := HE.out.1
   have e2 : st = l.sure := HE.out.2.1
   rw [Hid, e1, e2]
   omega
  go_wp2_with fail
  refine C3.mono ?_
  clear C3
  rintro e W4 ⟨⟨v, rfl⟩, b24, hw4, hs4⟩
  simp only [List.set] at b24
  have hs4a := Nat.le_of_eq hs4
  have hs4b := Nat.le_of_eq hs4.symm
  clear hs4
  have b14 := b13.within hw4 (by omega)
  have o4 := o3.within hw4 (.inl (Nat.le_refl _))
  have D4 : Below w.heap.size w W4 := D3.trans (hw4.below (by omega) (by omega))
  rw [HMM.out] at b24
  clear HMM
  have e0 := b24.cell 0 _ rfl
  have e1' := b24.cell 1 _ rfl
  have m0 := b14.cell 0 _ rfl
  have m1 := b14.cell 1 _ rfl
  have mf0 := b14.frozen 0
  have mf1 := b14.frozen 1
  obtain ⟨WF, hWF, bF, hwF, hsF⟩ := box2_fill b14 (.slice at' rt.length ct) (.int .i64 (max l.sure (min n l.recs.length)))
  have q0 := bF.cell 0 _ rfl
  have q1 := bF.cell 1 _ rfl
  have hoF := (o4.within hwF (.inr (by omega))).widen (show w.heap.size ≤ W.heap.size by omega) (show w1.heap.size ≤ WF.heap.size by omega) (Nat.le_refl _)
  have hbF : Below w.heap.size w WF := D4.trans (hwF.below (by omega) (by omega))
  have HVV : Hid ((⟨rt, max l.sure (min n l.recs.length), at', ct⟩ : LogA).v = forceOf l.v n) := by
   rw [Hid, HV]
   have e3 : rt.map RecA.v = l.v.recs := HE.out.2.2
   simp only [LogA.v] at e3 ⊢
   rw [e3]
  have HF : Hid (_ ∧ _ ∧ _) := ⟨HVV.out, hoF, hbF⟩
  clear hwF hsF bF hv HV hoF hbF HNO HYES HLV HE hs1 hs2' hs3 hlt2 HVV hs4a hs4b hw4
  generalize max l.sure (min n (l.recs.length : Int)) = M at *
  go_wp2
  rw [hWF.out]
  exact bodyPost_ret (v := .agg #[.slice at' rt.length ct, .int .i64 M]) (by simp [results, Tryz.results12, go_sem, q0, q1]) rfl ⟨⟨rt, M, at', ct⟩, rfl, HF.out.1, HF.out.2.1, HF.out.2.2⟩
def markRA (r : RecA) (k : Int) : RecA :=
 ⟨k, k + 1, k + 1 + 1, k + 1 + 1 + 1, k + 1 + 1 + 1 + 1,
  ⟨⟨((k + 1 + 1 + 1 + 1 + 1) % 3 == 0), ⟨k + 1 + 1 + 1 + 1 + 1 + 1, marksI (k + 1 + 1 + 1 + 1 + 1 + 1 + 1) r.bf.v.o.ints.length, marksI (k + 1 + 1 + 1 + 1 + 1 + 1 + 1 + r.bf.v.o.ints.length) r.bf.v.o.refs.length⟩⟩, r.bf.aI, r.bf.cI, r.bf.aR, r.bf.cR⟩,
  ⟨⟨((k + 1 + 1 + 1 + 1 + 1 + 1 + 1 + r.bf.v.o.ints.length + r.bf.v.o.refs.length) % 3 == 0), ⟨k + 1 + 1 + 1 + 1 + 1 + 1 + 1 + r.bf.v.o.ints.length + r.bf.v.o.refs.length + 1, marksI (k + 1 + 1 + 1 + 1 + 1 + 1 + 1 + r.bf.v.o.ints.length + r.bf.v.o.refs.length + 1 + 1) r.af.v.o.ints.length, marksI (k + 1 + 1 + 1 + 1 + 1 + 1 + 1 + r.bf.v.o.ints.length + r.bf.v.o.refs.length + 1 + 1 + r.af.v.o.ints.length) r.af.v.o.refs.length⟩⟩, r.af.aI, r.af.cI, r.af.aR, r.af.cR⟩,
  k + 1 + 1 + 1 + 1 + 1 + 1 + 1 + r.bf.v.o.ints.length + r.bf.v.o.refs.length + 1 + 1 + r.af.v.o.ints.length + r.af.v.o.refs.length,
  marksL (k + 1 + 1 + 1 + 1 + 1 + 1 + 1 + r.bf.v.o.ints.length + r.bf.v.o.refs.length + 1 + 1 + r.af.v.o.ints.length + r.af.v.o.refs.length + 1) r.txs.length, r.aL, r.cL⟩
def countRA (r : RecA) : Nat := 10 + r.bf.v.o.ints.length + r.bf.v.o.refs.length + r.af.v.o.ints.length + r.af.v.o.refs.length + 3 * r.txs.length
def markRs : List RecA → Int → List RecA
 | [], _ => []
 | r :: t, k => markRA r k :: markRs t (k + countRA r)
def countRs : List RecA → Nat
 | [] => 0
 | r :: t => countRA r + countRs t
theorem markRA_blocks (r : RecA) (k : Int) : (markRA r k).blocks = r.blocks := by simp [markRA, RecA.blocks, SlotA.blocks, marksI_len, marksL_len]
theorem markRs_len (rs : List RecA) : ∀ k, (markRs rs k).length = rs.length := by
 induction rs with
 | nil => intro k; rfl
 | cons x r ih => intro k; simp [markRs, ih]
theorem markRs_app (A B : List RecA) : ∀ k, markRs (A ++ B) k = markRs A k ++ markRs B (k + countRs A) := by
 induction A with
 | nil => intro k; simp [markRs, countRs]
 | cons x r ih =>
  intro k
  simp only [List.cons_append, markRs, ih, countRs]
  congr 3
  omega
theorem countRs_app (A B : List RecA) : countRs (A ++ B) = countRs A + countRs B := by
 induction A with
 | nil => simp [countRs]
 | cons x r ih => simp only [List.cons_append, countRs, ih]; omega
theorem recs_split (rs : List RecA) (j : Nat) (h : j < rs.length) : rs.drop j = rs.getD j zeroR :: rs.drop (j + 1) ∧ rs.take (j + 1) = rs.take j ++ [rs.getD j zeroR] := by
 have e : rs.getD j zeroR = rs[j] := by simp [List.getD, h]
 exact ⟨by rw [List.drop_eq_getElem_cons h, e], by rw [List.take_succ_eq_append_getElem h, e]⟩
def halfRs (rs : List RecA) (k : Int) (j : Nat) : List RecA := markRs (rs.take j) k ++ rs.drop j
theorem halfRs_len (rs : List RecA) (k : Int) (j : Nat) (h : j ≤ rs.length) : (halfRs rs k j).length = rs.length := by simp [halfRs, markRs_len]; omega
theorem halfRs_at (rs : List RecA) (k : Int) (j : Nat) (h : j < rs.length) : halfRs rs k j = markRs (rs.take j) k ++ rs.getD j zeroR :: rs.drop (j + 1) := by rw [halfRs, (recs_split rs j h).1]
theorem halfRs_next (rs : List RecA) (k : Int) (j : Nat) (h : j < rs.length) : halfRs rs k (j + 1) = markRs (rs.take j) k ++ markRA (rs.getD j zeroR) (k + countRs (rs.take j)) :: rs.drop (j + 1) := by
 rw [halfRs, (recs_split rs j h).2, markRs_app]
 simp [markRs]
theorem countRs_next (rs : List RecA) (j : Nat) (h : j < rs.length) : countRs (rs.take (j + 1)) = countRs (rs.take j) + countRA (rs.getD j zeroR) := by
 rw [(recs_split rs j h).2, countRs_app]
 simp [countRs]
theorem countRs_le (rs : List RecA) (j : Nat) : countRs (rs.take j) ≤ countRs rs := by
 have : countRs rs = countRs (rs.take j) + countRs (rs.drop j) := by rw [← countRs_app, List.take_append_drop]
 omega
def RowR (w : World) (base g n cap : Nat) (pre cs post : List Value) : Prop := w.ownsRow base 39 15 (.slice (some ⟨g, 0, none⟩) n cap) n (pre ++ (cs ++ post))
theorem RowR.cell {w : World} {base g n cap j : Nat} {pre cs post : List Value} (h : RowR w base g n cap pre cs post) (hp : pre.length = j * 15) (hc : cs.length = 15) (i : Nat) (v : Value) (hv : cs[i]? = some v) : w.cell? ⟨g, j * 15 + i, none⟩ = some v := by
 have hi : i < 15 := by have := (List.getElem?_eq_some_iff.1 hv).1; omega
 have hl := h.1
 rw [List.length_append, List.length_append] at hl
 rw [World.ownsRow.cellAt h (j * 15 + i) (by omega), List.getElem?_append_right (by omega), List.getElem?_append_left (by omega), show j * 15 + i - pre.length = i by omega]
 exact hv
theorem RowR.frozen {w : World} {base g n cap : Nat} {pre cs post : List Value} (h : RowR w base g n cap pre cs post) (i : Nat) : w.frozen? ⟨g, i, none⟩ = false := World.ownsRow.frozenAt h i
theorem RowR.set {w : World} {base g n cap j : Nat} {pre cs post : List Value} (h : RowR w base g n cap pre cs post) (hp : pre.length = j * 15) (hc : cs.length = 15) (i : Nat) (hi : i < 15) (v : Value) : RowR (w.setCell ⟨g, j * 15 + i, none⟩ v) base g n cap pre (cs.set i v) post ∧ w.grownBy (w.setCell ⟨g, j * 15 + i, none⟩ v) (some g) := by
 have := World.ownsRow.stored h (j * 15 + i) v
 rw [List.set_append_right _ _ (by omega), show j * 15 + i - pre.length = i by omega, List.set_append_left _ _ (by omega)] at this
 exact this
theorem RowR.block {w w' : World} {base g n cap : Nat} {pre cs post : List Value} (h : RowR w base g n cap pre cs post) (hb : w'.heap[g]? = w.heap[g]?) : RowR w' base g n cap pre cs post := ownsRow_block h (fun k hk => by cases hk; exact hb)
theorem RowR.sets7 {w : World} {base g n cap j : Nat} {pre post : List Value} {x0 x1 x2 x3 x4 x5 x6 x7 x8 x9 x10 x11 x12 x13 x14 : Value} (h : RowR w base g n cap pre [x0, x1, x2, x3, x4, x5, x6, x7, x8, x9, x10, x11, x12, x13, x14] post) (hp : pre.length = j * 15) (v0 v1 v2 v3 v4 v5 v6 : Value) :
  ∃ W, Hid (((((((w.setCell ⟨g, j * 15, none⟩ v0).setCell ⟨g, j * 15 + 1, none⟩ v1).setCell ⟨g, j * 15 + 2, none⟩ v2).setCell ⟨g, j * 15 + 3, none⟩ v3).setCell ⟨g, j * 15 + 4, none⟩ v4).setCell ⟨g, j * 15 + 5, none⟩ v5).setCell ⟨g, j * 15 + 6, none⟩ v6 = W) ∧ RowR W base g n cap pre [v0, v1, v2, v3, v4, v5, v6, x7, x8, x9, x10, x11, x12, x13, x14] post ∧ Touch [g] w W := by
 obtain ⟨a0, g0⟩ := h.set hp rfl 0 (by omega) v0
 obtain ⟨a1, g1⟩ := a0.set hp rfl 1 (by omega) v1
 obtain ⟨a2, g2⟩ := a1.set hp rfl 2 (by omega) v2
 obtain ⟨a3, g3⟩ := a2.set hp rfl 3 (by omega) v3
 obtain ⟨a4, g4⟩ := a3.set hp rfl 4 (by omega) v4
 obtain ⟨a5, g5⟩ := a4.set hp rfl 5 (by omega) v5
 obtain ⟨a6, g6⟩ := a5.set hp rfl 6 (by omega) v6
 exact ⟨_, rfl, a6, Touch.of_grown (grownBy_trans (grownBy_trans (grownBy_trans (grownBy_trans (grownBy_trans (grownBy_trans g0 g1) g2) g3) g4) g5) g6) (fun k hk => by cases hk; simp)⟩
theorem RowR.sets2 {w : World} {base g n cap j : Nat} {pre post : List Value} {x0 x1 x2 x3 x4 x5 x6 x7 x8 x9 x10 x11 x12 x13 x14 : Value} (h : RowR w base g n cap pre [x0, x1, x2, x3, x4, x5, x6, x7, x8, x9, x10, x11, x12, x13, x14] post) (hp : pre.length = j * 15) (v0 v1 : Value) :
  ∃ W, Hid ((w.setCell ⟨g, j * 15 + 9, none⟩ v0).setCell ⟨g, j * 15 + 10, none⟩ v1 = W) ∧ RowR W base g n cap pre [x0, x1, x2, x3, x4, x5, x6, x7, x8, v0, v1, x11, x12, x13, x14] post ∧ Touch [g] w W := by
 obtain ⟨a0, g0⟩ := h.set hp rfl 9 (by omega) v0
 obtain ⟨a1, g1⟩ := a0.set hp rfl 10 (by omega) v1
 exact ⟨_, rfl, a1, Touch.of_grown (grownBy_trans g0 g1) (fun k hk => by cases hk; simp)⟩
theorem RowR.set1 {w : World} {base g n cap j : Nat} {pre post : List Value} {x0 x1 x2 x3 x4 x5 x6 x7 x8 x9 x10 x11 x12 x13 x14 : Value} (h : RowR w base g n cap pre [x0, x1, x2, x3, x4, x5, x6, x7, x8, x9, x10, x11, x12, x13, x14] post) (hp : pre.length = j * 15) (v0 : Value) :
  ∃ W, Hid (w.setCell ⟨g, j * 15 + 13, none⟩ v0 = W) ∧ RowR W base g n cap pre [x0, x1, x2, x3, x4, x5, x6, x7, x8, x9, x10, x11, x12, v0, x14] post ∧ Touch [g] w W := by
 obtain ⟨a0, g0⟩ := h.set hp rfl 13 (by omega) v0
 exact ⟨_, rfl, a0, Touch.of_grown g0 (fun k hk => by cases hk; simp)⟩
theorem five_apart {L1 L2 L3 L4 L5 : List Nat} (h : ((L1 ++ L2) ++ ((L3 ++ L4) ++ L5)).Nodup) :
  (∀ k, k ∈ L1 → k ∉ L2 ∧ k ∉ L3 ∧ k ∉ L4 ∧ k ∉ L5) ∧ (∀ k, k ∈ L2 → k ∉ L1 ∧ k ∉ L3 ∧ k ∉ L4 ∧ k ∉ L5) ∧ (∀ k, k ∈ L3 → k ∉ L1 ∧ k ∉ L2 ∧ k ∉ L4 ∧ k ∉ L5) ∧ (∀ k, k ∈ L4 → k ∉ L1 ∧ k ∉ L2 ∧ k ∉ L3 ∧ k ∉ L5) ∧ (∀ k, k ∈ L5 → k ∉ L1 ∧ k ∉ L2 ∧ k ∉ L3 ∧ k ∉ L4) := by
 simp only [List.nodup_append, List.mem_append] at h
 obtain ⟨⟨_, _, h12⟩, ⟨⟨_, _, h34⟩, _, h45⟩, hx⟩ := h
 refine ⟨fun k hk => ⟨fun h' => h12 k hk k h' rfl, fun h' => hx k (.inl hk) k (.inl (.inl h')) rfl, fun h' => hx k (.inl hk) k (.inl (.inr h')) rfl, fun h' => hx k (.inl hk) k (.inr h') rfl⟩,
  fun k hk => ⟨fun h' => h12 k h' k hk rfl, fun h' => hx k (.inr hk) k (.inl (.inl h')) rfl, fun h' => hx k (.inr hk) k (.inl (.inr h')) rfl, fun h' => hx k (.inr hk) k (.inr h') rfl⟩,
  fun k hk => ⟨fun h' => hx k (.inl h') k (.inl (.inl hk)) rfl, fun h' => hx k (.inr h') k (.inl (.inl hk)) rfl, fun h' => h34 k hk k h' rfl, fun h' => h45 k (.inl hk) k h' rfl⟩,
  fun k hk => ⟨fun h' => hx k (.inl h') k (.inl (.inr hk)) rfl, fun h' => hx k (.inr h') k (.inl (.inr hk)) rfl, fun h' => h34 k h' k hk rfl, fun h' => h45 k (.inr hk) k h' rfl⟩,
  fun k hk => ⟨fun h' => hx k (.inl h') k (.inr hk) rfl, fun h' => hx k (.inr h') k (.inr hk) rfl, fun h' => h45 k (.inl h') k hk rfl, fun h' => h45 k (.inr h') k hk rfl⟩⟩
theorem markIntS_touch (lo hi : Nat) (a : Option Addr) (cap : Nat) (k0 : Int) (xs : List Int) (w : World) (ho : OwnI w lo hi a cap xs) (h0 : 0 ≤ k0) (hl : k0 + xs.length ≤ 4611686018427387904) :
  Calls Tryz.prog 80 #[.slice a xs.length cap, .int .i64 k0] w fun e w' => e = .returned (.int .i64 (k0 + xs.length)) ∧ OwnI w' lo hi a cap (marksI k0 xs.length) ∧ Touch (Value.slice a xs.length cap).ownBlock.toList w w' := by
 refine (markIntS_any lo a cap k0 xs w ho.1 h0 hl).mono ?_
 rintro e w' ⟨rfl, h1, h2⟩
 exact ⟨rfl, ⟨by rw [marksI_len]; exact h1, Nat.le_trans ho.2.1 h2.size, by rw [marksI_len]; exact ho.2.2⟩, Touch.of_grown h2 (fun j hj => Option.mem_toList.2 hj)⟩
theorem OwnI.keep {w w' : World} {lo hi : Nat} {a : Option Addr} {c : Nat} {ns : List Int} {bl : List Nat} (h : OwnI w lo hi a c ns) (ht : Touch bl w w') (hd : ∀ k, k ∈ (Value.slice a ns.length c).ownBlock.toList → k ∉ bl) : OwnI w' lo hi a c ns := h.touch ht (fun k hk => hd k (Option.mem_toList.2 hk))
theorem OwnL.keep {w w' : World} {lo hi : Nat} {a : Option Addr} {c : Nat} {ns : List LiveV} {bl : List Nat} (h : OwnL w lo hi a c ns) (ht : Touch bl w w') (hd : ∀ k, k ∈ (Value.slice a ns.length c).ownBlock.toList → k ∉ bl) : OwnL w' lo hi a c ns := h.touch ht (fun k hk => hd k (Option.mem_toList.2 hk))
theorem RowR.keep {w w' : World} {base g n cap : Nat} {pre cs post : List Value} {bl : List Nat} (h : RowR w base g n cap pre cs post) (ht : Touch bl w w') (hd : g ∉ bl) : RowR w' base g n cap pre cs post := h.block (ht.block g (World.ownsRow.lt h g rfl).2 hd)
theorem OwnRs.replace {w w' : World} {lo hi g c : Nat} {A B : List RecA} {z y : RecA} (h : OwnRs w lo hi (some ⟨g, 0, none⟩) c (A ++ z :: B)) (ht : Touch (g :: z.blocks) w w') (hrow : RowR w' lo g (A ++ z :: B).length c (cellsRs A) y.cells (cellsRs B)) (hy : y.own w' lo hi) (hb : y.blocks = z.blocks) : OwnRs w' lo hi (some ⟨g, 0, none⟩) c (A ++ y :: B) := by
 have hap := h.apart
 simp only [List.flatMap_append, List.flatMap_cons, Value.ownBlock, Option.toList, List.singleton_append, List.nodup_cons, List.nodup_append, List.mem_append, not_or] at hap
 obtain ⟨⟨n1, n2, n3⟩, a1, ⟨a2, a3, a4⟩, a5⟩ := hap
 refine ⟨?_, Nat.le_trans h.top ht.size, fun k hk => by cases hk; exact h.blk g rfl, fun r hr => ?_, ?_⟩
 ·have e : (A ++ y :: B).length = (A ++ z :: B).length := by simp
  rw [e, cellsRs_app, cellsRs_cons]
  exact hrow
 ·rcases List.mem_append.1 hr with hr | hr
  ·refine (h.each r (by simp [hr])).touch ht (fun k hk hk' => ?_)
   have hm : k ∈ A.flatMap RecA.blocks := List.mem_flatMap.2 ⟨r, hr, hk⟩
   rcases List.mem_cons.1 hk' with rfl | hk'
   ·exact n1 hm
   ·exact a5 k hm k (.inl hk') rfl
  ·rcases List.mem_cons.1 hr with rfl | hr
   ·exact hy
   ·refine (h.each r (by simp [hr])).touch ht (fun k hk hk' => ?_)
    have hm : k ∈ B.flatMap RecA.blocks := List.mem_flatMap.2 ⟨r, hr, hk⟩
    rcases List.mem_cons.1 hk' with rfl | hk'
    ·exact n3 hm
    ·exact a4 k hk' k hm rfl
 ·have := h.apart
  simp only [List.flatMap_append, List.flatMap_cons] at this ⊢
  rw [hb]
  exact this
theorem markRecS_touch (lo hi : Nat) (a : Option Addr) (cap : Nat) (k0 : Int) (rs : List RecA) (w : World) (ho : OwnRs w lo hi a cap rs) (hl : ∀ r ∈ rs, r.short 1099511627776) (h0 : 0 ≤ k0) (hk : k0 + countRs rs ≤ 1152921504606846976) :
  Calls Tryz.prog 55 #[.slice a rs.length cap, .int .i64 k0] w fun e w' => e = .returned (.int .i64 (k0 + countRs rs)) ∧ OwnRs w' lo hi a cap (markRs rs k0) ∧ Touch (blocksRs a cap rs) w w' := by
 rcases ho.row.2 with ⟨hv, h00⟩ | ⟨g, cap', cur, hv, hg, hgg, hr⟩
 ·simp only [Value.slice.injEq] at hv
  obtain ⟨rfl, _, rfl⟩ := hv
  obtain rfl := List.length_eq_zero_iff.1 h00
  go_enter Tryz.func55, Tryz.ntmps55
  go_wp2
  refine wp_loop_rounds 1 ?_
  rw [rounds_succ]
  go_wp2
  go_ret
  exact ⟨by simp [countRs], ho, Touch.refl _ _⟩
 ·simp only [Value.slice.injEq] at hv
  obtain ⟨rfl, _, rfl⟩ := hv
  have hlm : rs.length ≤ maxLen := Nat.le_trans hr.1 hr.2.1
  simp only [maxLen] at hlm
  clear hgg hr
  have HH : Hid (halfRs rs k0 0 = rs ∧ halfRs rs k0 rs.length = markRs rs k0) := ⟨by simp [halfRs, markRs], by simp [halfRs]⟩
  have HST : Hid (OwnRs w lo hi (some ⟨g, 0, none⟩) cap (halfRs rs k0 0)) := by rw [HH.out.1]; exact ho
  have HSH : Hid (∀ j, j < rs.length → (rs.getD j zeroR).short 1099511627776) := fun j hj => hl _ (recD_mem rs j hj)
  have HSUB : Hid (∀ j, j < rs.length → ∀ k ∈ g :: (rs.getD j zeroR).blocks, k ∈ blocksRs (some ⟨g, 0, none⟩) cap rs) := fun j hj k hk => by
   rcases List.mem_cons.1 hk with rfl | hk
   ·exact List.mem_append.2 (.inl (by simp [Value.ownBlock]))
   ·exact List.mem_append.2 (.inr (List.mem_flatMap.2 ⟨_, recD_mem rs j hj, hk⟩))
  clear ho hl
  go_enter Tryz.func55, Tryz.ntmps55
  go_wp2
  go_loopw [1, 5] (fun kk i wr => ∃ j : Nat, j ≤ rs.length ∧ i = .int .i64 j ∧ kk = .int .i64 (k0 + countRs (rs.take j)) ∧ Hid (OwnRs wr lo hi (some ⟨g, 0, none⟩) cap (halfRs rs k0 j)) ∧ Touch (blocksRs (some ⟨g, 0, none⟩) cap rs) w wr)
   (fun _ i _ => rs.length - (intOf i).toNat)
  case atStart => exact ⟨0, Nat.zero_le _, rfl, by simp [countRs], HST, Touch.refl _ _⟩
  case round =>
   obtain ⟨j, hj, rfl, rfl, hown, htw⟩ := hrel
   clear HST
   by_cases hlt : j < rs.length
   ·have hsh := HSH.out j hlt
    have hsub := HSUB.out j hlt
    have hcn := countRs_next rs j hlt
    have hcl := countRs_le rs (j + 1)
    have ho := hown.out
    rw [halfRs_at rs k0 j hlt] at ho
    have hlen := halfRs_len rs k0 j hj
    rw [halfRs_at rs k0 j hlt] at hlen
    have HN : Hid (halfRs rs k0 (j + 1) = _) := halfRs_next rs k0 j hlt
    have hA : (cellsRs (markRs (rs.take j) k0)).length = j * 15 := by rw [cellsRs_len, markRs_len, List.length_take]; congr 1; omega
    have HCN : Hid (k0 + countRs (rs.take (j + 1)) = k0 + countRs (rs.take j) + countRA (rs.getD j zeroR)) := by rw [Hid, hcn]; omega
    have hkb : 0 ≤ k0 + (countRs (rs.take j) : Int) ∧ k0 + (countRs (rs.take j) : Int) + countRA (rs.getD j zeroR) ≤ 1152921504606846976 := ⟨by omega, by omega⟩
    clear hcn hcl hown hk h0
    generalize k0 + (countRs (rs.take j) : Int) = kk at *
    generalize markRs (rs.take j) k0 = A at *
    generalize rs.drop (j + 1) = B at *
    generalize rs.getD j zeroR = z at *
    have hz := ho.each z (List.mem_append.2 (.inr (List.mem_cons.2 (.inl rfl))))
    have HG : Hid (g ∉ z.blocks) := row_apart ho.row hz g rfl
    have hap := hz.apart
    have HZA : Hid (z.blocks.Nodup) := hz.apart
    simp only [RecA.blocks, SlotA.blocks] at hap
    have HAP : Hid (_ ∧ _ ∧ _ ∧ _ ∧ _) := five_apart hap
    have HGN : Hid (g ∉ (Value.slice z.bf.aI z.bf.v.o.ints.length z.bf.cI).ownBlock.toList ∧ g ∉ (Value.slice z.bf.aR z.bf.v.o.refs.length z.bf.cR).ownBlock.toList ∧ g ∉ (Value.slice z.af.aI z.af.v.o.ints.length z.af.cI).ownBlock.toList ∧ g ∉ (Value.slice z.af.aR z.af.v.o.refs.length z.af.cR).ownBlock.toList ∧ g ∉ (Value.slice z.aL z.txs.length z.cL).ownBlock.toList) := by
     have := HG.out
     simp only [RecA.blocks, SlotA.blocks, List.mem_append, not_or] at this
     exact ⟨this.1.1, this.1.2, this.2.1.1, this.2.1.2, this.2.2⟩
    have HM : Hid ((∀ k ∈ (Value.slice z.bf.aI z.bf.v.o.ints.length z.bf.cI).ownBlock.toList, k ∈ z.blocks) ∧ (∀ k ∈ (Value.slice z.bf.aR z.bf.v.o.refs.length z.bf.cR).ownBlock.toList, k ∈ z.blocks) ∧ (∀ k ∈ (Value.slice z.af.aI z.af.v.o.ints.length z.af.cI).ownBlock.toList, k ∈ z.blocks) ∧ (∀ k ∈ (Value.slice z.af.aR z.af.v.o.refs.length z.af.cR).ownBlock.toList, k ∈ z.blocks) ∧ (∀ k ∈ (Value.slice z.aL z.txs.length z.cL).ownBlock.toList, k ∈ z.blocks)) := by
     simp only [RecA.blocks, SlotA.blocks]
     exact ⟨fun k h => List.mem_append.2 (.inl (List.mem_append.2 (.inl h))), fun k h => List.mem_append.2 (.inl (List.mem_append.2 (.inr h))), fun k h => List.mem_append.2 (.inr (List.mem_append.2 (.inl (List.mem_append.2 (.inl h))))), fun k h => List.mem_append.2 (.inr (List.mem_append.2 (.inl (List.mem_append.2 (.inr h))))), fun k h => List.mem_append.2 (.inr (List.mem_append.2 (.inr h)))⟩
    have row : RowR wr lo g rs.length cap (cellsRs A) z.cells (cellsRs B) := by
     have := ho.row
     rw [hlen, cellsRs_app, cellsRs_cons] at this
     exact this
    have hbI := hz.bf.ints
    have hbR := hz.bf.refs
    have haI := hz.af.ints
    have haR := hz.af.refs
    have hL := hz.txs
    have hcz : countRA z = 10 + z.bf.v.o.ints.length + z.bf.v.o.refs.length + z.af.v.o.ints.length + z.af.v.o.refs.length + 3 * z.txs.length := rfl
    have HBA : Hid (∀ k ∈ z.blocks, k ∈ g :: z.blocks) := fun k hk => List.mem_cons.2 (.inr hk)
    have HGB : Hid (∀ k ∈ [g], k ∈ g :: z.blocks) := fun k hk => List.mem_cons.2 (.inl (List.mem_singleton.1 hk))
    have HNG : Hid (∀ (L : List Nat), g ∉ L → ∀ k, k ∈ L → k ∉ [g]) := fun L hg k hk hk' => hg (by rw [← List.mem_singleton.1 hk']; exact hk)
    clear hap hz
    simp only [RecA.cells] at row
    have x0 : wr.cell? ⟨g, j * 15, none⟩ = _ := row.cell hA rfl 0 _ rfl
    have x1 := row.cell hA rfl 1 _ rfl
    have x2 := row.cell hA rfl 2 _ rfl
    have x3 := row.cell hA rfl 3 _ rfl
    have x4 := row.cell hA rfl 4 _ rfl
    have x5 := row.cell hA rfl 5 _ rfl
    have x6 := row.cell hA rfl 6 _ rfl
    have f0 : wr.frozen? ⟨g, j * 15, none⟩ = false := row.frozen _
    have f1 := row.frozen (j * 15 + 1)
    have f2 := row.frozen (j * 15 + 2)
    have f3 := row.frozen (j * 15 + 3)
    have f4 := row.frozen (j * 15 + 4)
    have f5 := row.frozen (j * 15 + 5)
    have f6 := row.frozen (j * 15 + 6)
    obtain ⟨W1, hW1, row1, t1⟩ := row.sets7 hA (.int .i64 kk) (.int .i64 (kk + 1)) (.int .i64 (kk + 1 + 1)) (.int .i64 (kk + 1 + 1 + 1)) (.int .i64 (kk + 1 + 1 + 1 + 1)) (.bool ((kk + 1 + 1 + 1 + 1 + 1) % 3 == 0)) (.int .i64 (kk + 1 + 1 + 1 + 1 + 1 + 1))
    have HT : Hid (Touch (g :: z.blocks) wr W1) := t1.mono HGB.out
    have bI1 := hbI.keep t1 (HNG.out _ HGN.out.1)
    have bR1 := hbR.keep t1 (HNG.out _ HGN.out.2.1)
    have aI1 := haI.keep t1 (HNG.out _ HGN.out.2.2.1)
    have aR1 := haR.keep t1 (HNG.out _ HGN.out.2.2.2.1)
    have L1 := hL.keep t1 (HNG.out _ HGN.out.2.2.2.2)
    clear t1 hbI hbR haI haR hL row
    go_upto_region 18 with fail
    rw [hW1.out]
    clear hW1 x0 x1 x2 x3 x4 x5 x6 f0 f1 f2 f3 f4 f5 f6
    have y7 := row1.cell hA rfl 7 _ rfl
    have C := markIntS_touch lo hi z.bf.aI z.bf.cI (kk + 1 + 1 + 1 + 1 + 1 + 1 + 1) z.bf.v.o.ints W1 bI1 (by omega) (by omega)
    go_wp2_with fail
    refine C.mono ?_
    clear C y7
    rintro e w2 ⟨rfl, mI, t2⟩
    have row2 := row1.keep t2 HGN.out.1
    have HT2 : Hid (Touch (g :: z.blocks) wr w2) := HT.out.trans ((t2.mono HM.out.1).mono HBA.out)
    have bR2 := bR1.keep t2 (fun k hk h => (HAP.out.1 k h).1 hk)
    have aI2 := aI1.keep t2 (fun k hk h => (HAP.out.1 k h).2.1 hk)
    have aR2 := aR1.keep t2 (fun k hk h => (HAP.out.1 k h).2.2.1 hk)
    have L2 := L1.keep t2 (fun k hk h => (HAP.out.1 k h).2.2.2 hk)
    clear bI1 bR1 aI1 aR1 L1 t2 row1 HT
    have y8 := row2.cell hA rfl 8 _ rfl
    have C := markIntS_touch lo hi z.bf.aR z.bf.cR (kk + 1 + 1 + 1 + 1 + 1 + 1 + 1 + z.bf.v.o.ints.length) z.bf.v.o.refs w2 bR2 (by omega) (by omega)
    go_wp2_with fail
    refine C.mono ?_
    clear C y8
    rintro e w3 ⟨rfl, mR, t3⟩
    have row3 := row2.keep t3 HGN.out.2.1
    have HT3 : Hid (Touch (g :: z.blocks) wr w3) := HT2.out.trans ((t3.mono HM.out.2.1).mono HBA.out)
    have mI3 := mI.keep t3 (fun k hk h => (HAP.out.2.1 k h).1 (by rw [marksI_len] at hk; exact hk))
    have aI3 := aI2.keep t3 (fun k hk h => (HAP.out.2.1 k h).2.1 hk)
    have aR3 := aR2.keep t3 (fun k hk h => (HAP.out.2.1 k h).2.2.1 hk)
    have L3 := L2.keep t3 (fun k hk h => (HAP.out.2.1 k h).2.2.2 hk)
    clear mI bR2 aI2 aR2 L2 t3 row2 HT2
    have x9 := row3.cell hA rfl 9 _ rfl
    have x10 := row3.cell hA rfl 10 _ rfl
    have f9 := row3.frozen (j * 15 + 9)
    have f10 := row3.frozen (j * 15 + 10)
    obtain ⟨W4, hW4, row4, t4⟩ := row3.sets2 hA (.bool ((kk + 1 + 1 + 1 + 1 + 1 + 1 + 1 + z.bf.v.o.ints.length + z.bf.v.o.refs.length) % 3 == 0)) (.int .i64 (kk + 1 + 1 + 1 + 1 + 1 + 1 + 1 + z.bf.v.o.ints.length + z.bf.v.o.refs.length + 1))
    have HT4 : Hid (Touch (g :: z.blocks) wr W4) := HT3.out.trans (t4.mono HGB.out)
    have mI4 := mI3.keep t4 (HNG.out _ (by rw [marksI_len]; exact HGN.out.1))
    have mR4 := mR.keep t4 (HNG.out _ (by rw [marksI_len]; exact HGN.out.2.1))
    have aI4 := aI3.keep t4 (HNG.out _ HGN.out.2.2.1)
    have aR4 := aR3.keep t4 (HNG.out _ HGN.out.2.2.2.1)
    have L4 := L3.keep t4 (HNG.out _ HGN.out.2.2.2.2)
    clear mI3 mR aI3 aR3 L3 t4 row3 HT3
    go_upto_region 24 with fail
    rw [hW4.out]
    clear hW4 x9 x10 f9 f10
    have y11 := row4.cell hA rfl 11 _ rfl
    have C := markIntS_touch lo hi z.af.aI z.af.cI (kk + 1 + 1 + 1 + 1 + 1 + 1 + 1 + z.bf.v.o.ints.length + z.bf.v.o.refs.length + 1 + 1) z.af.v.o.ints W4 aI4 (by omega) (by omega)
    go_wp2_with fail
    refine C.mono ?_
    clear C y11
    rintro e w5 ⟨rfl, nI, t5⟩
    have row5 := row4.keep t5 HGN.out.2.2.1
    have HT5 : Hid (Touch (g :: z.blocks) wr w5) := HT4.out.trans ((t5.mono HM.out.2.2.1).mono HBA.out)
    have mI5 := mI4.keep t5 (fun k hk h => (HAP.out.2.2.1 k h).1 (by rw [marksI_len] at hk; exact hk))
    have mR5 := mR4.keep t5 (fun k hk h => (HAP.out.2.2.1 k h).2.1 (by rw [marksI_len] at hk; exact hk))
    have aR5 := aR4.keep t5 (fun k hk h => (HAP.out.2.2.1 k h).2.2.1 hk)
    have L5 := L4.keep t5 (fun k hk h => (HAP.out.2.2.1 k h).2.2.2 hk)
    clear mI4 mR4 aI4 aR4 L4 t5 row4 HT4
    have y12 := row5.cell hA rfl 12 _ rfl
    have C := markIntS_touch lo hi z.af.aR z.af.cR (kk + 1 + 1 + 1 + 1 + 1 + 1 + 1 + z.bf.v.o.ints.length + z.bf.v.o.refs.length + 1 + 1 + z.af.v.o.ints.length) z.af.v.o.refs w5 aR5 (by omega) (by omega)
    go_wp2_with fail
    refine C.mono ?_
    clear C y12
    rintro e w6 ⟨rfl, nR, t6⟩
    have row6 := row5.keep t6 HGN.out.2.2.2.1
    have HT6 : Hid (Touch (g :: z.blocks) wr w6) := HT5.out.trans ((t6.mono HM.out.2.2.2.1).mono HBA.out)
    have mI6 := mI5.keep t6 (fun k hk h => (HAP.out.2.2.2.1 k h).1 (by rw [marksI_len] at hk; exact hk))
    have mR6 := mR5.keep t6 (fun k hk h => (HAP.out.2.2.2.1 k h).2.1 (by rw [marksI_len] at hk; exact hk))
    have nI6 := nI.keep t6 (fun k hk h => (HAP.out.2.2.2.1 k h).2.2.1 (by rw [marksI_len] at hk; exact hk))
    have L6 := L5.keep t6 (fun k hk h => (HAP.out.2.2.2.1 k h).2.2.2 hk)
    clear mI5 mR5 nI aR5 L5 t6 row5 HT5
    have x13 := row6.cell hA rfl 13 _ rfl
    have f13 := row6.frozen (j * 15 + 13)
    obtain ⟨W7, hW7, row7, t7⟩ := row6.set1 hA (.int .i64 (kk + 1 + 1 + 1 + 1 + 1 + 1 + 1 + z.bf.v.o.ints.length + z.bf.v.o.refs.length + 1 + 1 + z.af.v.o.ints.length + z.af.v.o.refs.length))
    have HT7 : Hid (Touch (g :: z.blocks) wr W7) := HT6.out.trans (t7.mono HGB.out)
    have mI7 := mI6.keep t7 (HNG.out _ (by rw [marksI_len]; exact HGN.out.1))
    have mR7 := mR6.keep t7 (HNG.out _ (by rw [marksI_len]; exact HGN.out.2.1))
    have nI7 := nI6.keep t7 (HNG.out _ (by rw [marksI_len]; exact HGN.out.2.2.1))
    have nR7 := nR.keep t7 (HNG.out _ (by rw [marksI_len]; exact HGN.out.2.2.2.1))
    have L7 := L6.keep t7 (HNG.out _ HGN.out.2.2.2.2)
    clear mI6 mR6 nI6 nR L6 t7 row6 HT6
    go_upto_region 28 with fail
    rw [hW7.out]
    clear hW7 x13 f13
    have y14 := row7.cell hA rfl 14 _ rfl
    have C := markLiveS_own lo hi z.aL z.cL (kk + 1 + 1 + 1 + 1 + 1 + 1 + 1 + z.bf.v.o.ints.length + z.bf.v.o.refs.length + 1 + 1 + z.af.v.o.ints.length + z.af.v.o.refs.length + 1) z.txs W7 L7 (by omega) (by omega)
    go_wp2_with fail
    refine C.mono ?_
    clear C y14
    rintro e w8 ⟨rfl, nL, t8⟩
    have row8 := row7.keep t8 HGN.out.2.2.2.2
    have HT8 : Hid (Touch (g :: z.blocks) wr w8) := HT7.out.trans ((t8.mono HM.out.2.2.2.2).mono HBA.out)
    have mI8 := mI7.keep t8 (fun k hk h => (HAP.out.2.2.2.2 k h).1 (by rw [marksI_len] at hk; exact hk))
    have mR8 := mR7.keep t8 (fun k hk h => (HAP.out.2.2.2.2 k h).2.1 (by rw [marksI_len] at hk; exact hk))
    have nI8 := nI7.keep t8 (fun k hk h => (HAP.out.2.2.2.2 k h).2.2.1 (by rw [marksI_len] at hk; exact hk))
    have nR8 := nR7.keep t8 (fun k hk h => (HAP.out.2.2.2.2 k h).2.2.2 (by rw [marksI_len] at hk; exact hk))
    have HOY : Hid ((markRA z kk).own w8 lo hi) := ⟨⟨mI8, mR8, fun k hk hk' => by
      have h1 : k ∈ (Value.slice z.bf.aI z.bf.v.o.ints.length z.bf.cI).ownBlock.toList := by have := Option.mem_toList.2 hk; simpa only [markRA, marksI_len] using this
      have h2 : k ∈ (Value.slice z.bf.aR z.bf.v.o.refs.length z.bf.cR).ownBlock.toList := by have := Option.mem_toList.2 hk'; simpa only [markRA, marksI_len] using this
      exact (HAP.out.1 k h1).1 h2⟩, ⟨nI8, nR8, fun k hk hk' => by
      have h1 : k ∈ (Value.slice z.af.aI z.af.v.o.ints.length z.af.cI).ownBlock.toList := by have := Option.mem_toList.2 hk; simpa only [markRA, marksI_len] using this
      have h2 : k ∈ (Value.slice z.af.aR z.af.v.o.refs.length z.af.cR).ownBlock.toList := by have := Option.mem_toList.2 hk'; simpa only [markRA, marksI_len] using this
      exact (HAP.out.2.2.1 k h1).2.2.1 h2⟩, nL, by rw [markRA_blocks]; exact HZA.out⟩
    have HROW : Hid (RowR w8 lo g (A ++ z :: B).length cap (cellsRs A) (markRA z kk).cells (cellsRs B)) := by
     rw [hlen]
     simpa only [Hid, RecA.cells, markRA, marksI_len, marksL_len] using row8
    have HFIN : Hid (OwnRs w8 lo hi (some ⟨g, 0, none⟩) cap (halfRs rs k0 (j + 1)) ∧ Touch (blocksRs (some ⟨g, 0, none⟩) cap rs) w w8) := by
     refine ⟨?_, htw.trans (HT8.out.mono hsub)⟩
     rw [HN.out]
     exact ho.replace HT8.out HROW.out HOY.out (markRA_blocks z kk)
    have HNUM : Hid (k0 + (countRs (rs.take (j + 1)) : Int) = kk + 1 + 1 + 1 + 1 + 1 + 1 + 1 + z.bf.v.o.ints.length + z.bf.v.o.refs.length + 1 + 1 + z.af.v.o.ints.length + z.af.v.o.refs.length + 1 + 3 * z.txs.length) := by rw [Hid, HCN.out, hcz]; omega
    clear mI7 mR7 nI7 nR7 L7 t8 row7 HT7 row8 HT8 mI8 mR8 nI8 nR8 nL HOY HROW ho htw
    go_wp2_with fail
    go_roundw
    case rel => exact ⟨j + 1, by omega, by go_num, by rw [HNUM.out], HFIN.out.1, HFIN.out.2⟩
    case measure => simp [intOf]; omega
   ·have HE : Hid (OwnRs wr lo hi (some ⟨g, 0, none⟩) cap (markRs rs k0) ∧ k0 + (countRs (rs.take j) : Int) = k0 + countRs rs) := by
     have e : j = rs.length := by omega
     rw [e, HH.out.2] at hown
     exact ⟨hown.out, by rw [e, List.take_length]⟩
    go_wp2
    go_ret
    exact ⟨ret_int HE.out.2, HE.out.1, htw⟩
theorem markRs_at (rs : List RecA) (k : Int) (j : Nat) (h : j < rs.length) : (markRs rs k).getD j zeroR = markRA (rs.getD j zeroR) (k + countRs (rs.take j)) := by
 have e : markRs rs k = markRs (rs.take j) k ++ markRs (rs.drop j) (k + countRs (rs.take j)) := by rw [← markRs_app, List.take_append_drop]
 have hl : (markRs (rs.take j) k).length = j := by rw [markRs_len, List.length_take]; omega
 rw [e, (recs_split rs j h).1, markRs]
 simp [List.getD, hl]
theorem heldRecS_any (a : Option Addr) (cap : Nat) (k0 : Int) (rs : List RecA) (w : World) (hr : ReadsRs w a (markRs rs k0)) (h0 : 0 ≤ k0) (hk : k0 + countRs rs ≤ 1152921504606846976) (hlm : rs.length ≤ 9223372036854775807) :
  Calls Tryz.prog 58 #[.slice a rs.length cap, .int .i64 k0] w fun e w' => e = .returned (.int .i64 (k0 + countRs rs)) ∧ w' = w := by
 have hml := markRs_len rs k0
 rcases hr.cases with h | ⟨b, off, rfl, hpos, hcell⟩
 ·have h' := congrArg List.length h
  rw [hml] at h'
  obtain rfl := List.length_eq_zero_iff.1 h'
  go_enter Tryz.func58, Tryz.ntmps58
  go_wp2
  refine wp_loop_rounds 1 ?_
  rw [rounds_succ]
  go_wp2
  go_ret
  exact ⟨by simp [countRs], rfl⟩
 ·rw [hml] at hpos hcell
  go_enter Tryz.func58, Tryz.ntmps58
  go_wp2
  go_loop [1, 5] (fun kk i => ∃ j : Nat, j ≤ rs.length ∧ i = .int .i64 j ∧ kk = .int .i64 (k0 + countRs (rs.take j))) (fun _ i => rs.length - (intOf i).toNat)
  case atStart => exact ⟨0, Nat.zero_le _, rfl, by simp [countRs]⟩
  case round =>
   obtain ⟨j, hj, rfl, rfl⟩ := hrel
   by_cases hlt : j < rs.length
   ·obtain ⟨hc, hrd⟩ := hcell j hlt
    have hcn := countRs_next rs j hlt
    have hcl := countRs_le rs (j + 1)
    rw [markRs_at rs k0 j hlt] at hc hrd
    have HCN : Hid (k0 + countRs (rs.take (j + 1)) = k0 + countRs (rs.take j) + countRA (rs.getD j zeroR)) := by rw [Hid, hcn]; omega
    have hkb : 0 ≤ k0 + (countRs (rs.take j) : Int) ∧ k0 + (countRs (rs.take j) : Int) + countRA (rs.getD j zeroR) ≤ 1152921504606846976 := ⟨by omega, by omega⟩
    clear hcn hcl hk h0 hcell hpos hr hml
    generalize k0 + (countRs (rs.take j) : Int) = kk at *
    generalize rs.getD j zeroR = z at *
    have hcz : countRA z = 10 + z.bf.v.o.ints.length + z.bf.v.o.refs.length + z.af.v.o.ints.length + z.af.v.o.refs.length + 3 * z.txs.length := rfl
    have x0 : w.cell? ⟨b, off + j * 15, none⟩ = some (.int .i64 kk) := hc 0 _ rfl
    have x1 : w.cell? ⟨b, off + j * 15 + 1, none⟩ = some (.int .i64 (kk + 1)) := hc 1 _ rfl
    have x2 : w.cell? ⟨b, off + j * 15 + 2, none⟩ = some (.int .i64 (kk + 1 + 1)) := hc 2 _ rfl
    have x3 : w.cell? ⟨b, off + j * 15 + 3, none⟩ = some (.int .i64 (kk + 1 + 1 + 1)) := hc 3 _ rfl
    have x4 : w.cell? ⟨b, off + j * 15 + 4, none⟩ = some (.int .i64 (kk + 1 + 1 + 1 + 1)) := hc 4 _ rfl
    have x5 : w.cell? ⟨b, off + j * 15 + 5, none⟩ = some (.bool ((kk + 1 + 1 + 1 + 1 + 1) % 3 == 0)) := hc 5 _ rfl
    have x6 : w.cell? ⟨b, off + j * 15 + 6, none⟩ = some (.int .i64 (kk + 1 + 1 + 1 + 1 + 1 + 1)) := hc 6 _ rfl
    have x7 : w.cell? ⟨b, off + j * 15 + 7, none⟩ = some (.slice z.bf.aI z.bf.v.o.ints.length z.bf.cI) := (hc 7 _ rfl).trans (by simp only [markRA, marksI_len])
    have x8 : w.cell? ⟨b, off + j * 15 + 8, none⟩ = some (.slice z.bf.aR z.bf.v.o.refs.length z.bf.cR) := (hc 8 _ rfl).trans (by simp only [markRA, marksI_len])
    have x9 : w.cell? ⟨b, off + j * 15 + 9, none⟩ = some (.bool ((kk + 1 + 1 + 1 + 1 + 1 + 1 + 1 + z.bf.v.o.ints.length + z.bf.v.o.refs.length) % 3 == 0)) := hc 9 _ rfl
    have x10 : w.cell? ⟨b, off + j * 15 + 10, none⟩ = some (.int .i64 (kk + 1 + 1 + 1 + 1 + 1 + 1 + 1 + z.bf.v.o.ints.length + z.bf.v.o.refs.length + 1)) := hc 10 _ rfl
    have x11 : w.cell? ⟨b, off + j * 15 + 11, none⟩ = some (.slice z.af.aI z.af.v.o.ints.length z.af.cI) := (hc 11 _ rfl).trans (by simp only [markRA, marksI_len])
    have x12 : w.cell? ⟨b, off + j * 15 + 12, none⟩ = some (.slice z.af.aR z.af.v.o.refs.length z.af.cR) := (hc 12 _ rfl).trans (by simp only [markRA, marksI_len])
    have x13 : w.cell? ⟨b, off + j * 15 + 13, none⟩ = some (.int .i64 (kk + 1 + 1 + 1 + 1 + 1 + 1 + 1 + z.bf.v.o.ints.length + z.bf.v.o.refs.length + 1 + 1 + z.af.v.o.ints.length + z.af.v.o.refs.length)) := hc 13 _ rfl
    have x14 : w.cell? ⟨b, off + j * 15 + 14, none⟩ = some (.slice z.aL z.txs.length z.cL) := (hc 14 _ rfl).trans (by simp only [markRA, marksL_len])
    have C1 := heldIntS_any z.bf.aI z.bf.cI (kk + 1 + 1 + 1 + 1 + 1 + 1 + 1) z.bf.v.o.ints.length w hrd.bf.ints (by omega) (by omega)
    have C2 := heldIntS_any z.bf.aR z.bf.cR (kk + 1 + 1 + 1 + 1 + 1 + 1 + 1 + z.bf.v.o.ints.length) z.bf.v.o.refs.length w hrd.bf.refs (by omega) (by omega)
    have C3 := heldIntS_any z.af.aI z.af.cI (kk + 1 + 1 + 1 + 1 + 1 + 1 + 1 + z.bf.v.o.ints.length + z.bf.v.o.refs.length + 1 + 1) z.af.v.o.ints.length w hrd.af.ints (by omega) (by omega)
    have C4 := heldIntS_any z.af.aR z.af.cR (kk + 1 + 1 + 1 + 1 + 1 + 1 + 1 + z.bf.v.o.ints.length + z.bf.v.o.refs.length + 1 + 1 + z.af.v.o.ints.length) z.af.v.o.refs.length w hrd.af.refs (by omega) (by omega)
    have C5 := heldLiveS_any z.aL z.cL (kk + 1 + 1 + 1 + 1 + 1 + 1 + 1 + z.bf.v.o.ints.length + z.bf.v.o.refs.length + 1 + 1 + z.af.v.o.ints.length + z.af.v.o.refs.length + 1) z.txs.length w hrd.txs (by omega) (by omega)
    have HNUM : Hid (k0 + (countRs (rs.take (j + 1)) : Int) = kk + 1 + 1 + 1 + 1 + 1 + 1 + 1 + z.bf.v.o.ints.length + z.bf.v.o.refs.length + 1 + 1 + z.af.v.o.ints.length + z.af.v.o.refs.length + 1 + 3 * z.txs.length) := by rw [Hid, HCN.out, hcz]; omega
    clear hc hrd HCN
    go_wp2_with fail
    refine C1.mono ?_
    clear C1 x0 x1 x2 x3 x4 x5 x6 x7
    rintro e w1 ⟨rfl, h1⟩
    rw [h1]
    clear h1 w1
    go_wp2_with fail
    refine C2.mono ?_
    clear C2 x8
    rintro e w1 ⟨rfl, h1⟩
    rw [h1]
    clear h1 w1
    go_wp2_with fail
    refine C3.mono ?_
    clear C3 x9 x10 x11
    rintro e w1 ⟨rfl, h1⟩
    rw [h1]
    clear h1 w1
    go_wp2_with fail
    refine C4.mono ?_
    clear C4 x12
    rintro e w1 ⟨rfl, h1⟩
    rw [h1]
    clear h1 w1
    go_wp2_with fail
    refine C5.mono ?_
    clear C5 x13 x14
    rintro e w1 ⟨rfl, h1⟩
    rw [h1]
    clear h1 w1
    go_wp2_with fail
    go_round
    case rel => exact ⟨j + 1, by omega, by go_num, by rw [HNUM.out]⟩
    case measure => simp [intOf]; omega
   ·have HE : Hid (k0 + (countRs (rs.take j) : Int) = k0 + countRs rs) := by
     have e : j = rs.length := by omega
     rw [Hid, e, List.take_length]
    go_wp2
    go_ret
    exact ⟨ret_int HE.out, rfl⟩
def LogA.mark (l : LogA) (k : Int) : LogA := { l with recs := markRs l.recs k }
def LogA.count (l : LogA) : Nat := countRs l.recs
theorem markLog_touch (l : LogA) (lo hi : Nat) (k0 : Int) (w : World) (ho : l.own w lo hi) (hl : l.short 1099511627776) (h0 : 0 ≤ k0) (hk : k0 + l.count ≤ 1152921504606846976) :
  Calls Tryz.prog 24 #[.agg l.cells.toArray, .int .i64 k0] w fun e w' => e = .returned (.int .i64 (k0 + l.count)) ∧ (l.mark k0).own w' lo hi ∧ Touch l.blocks w w' := by
 obtain ⟨rs, s, a, c⟩ := l
 have hl2 := hl.each
 simp only [LogA.cells, LogA.own, LogA.count, LogA.mark, LogA.blocks] at *
 obtain ⟨W, hW, b0, hbW, hsW⟩ := boxes1 w [.slice a rs.length c, .int .i64 s] 26
 have c0 := b0.cell 0 _ rfl
 have C := markRecS_touch lo hi a c k0 rs W (ho.below hbW) hl2 h0 hk
 clear hsW b0
 go_enter Tryz.func24, Tryz.ntmps24
 go_wp2_with fail
 rw [hW.out]
 clear hW
 refine C.mono ?_
 rintro e w1 ⟨rfl, ho1, ht1⟩
 go_wp2
 go_ret
 exact ⟨rfl, ho1, (Touch.of_below hbW).trans ht1⟩
theorem heldLog_any (l : LogA) (lo hi : Nat) (k0 : Int) (w : World) (ho : (l.mark k0).own w lo hi) (hl : l.recs.length ≤ 1099511627776) (h0 : 0 ≤ k0) (hk : k0 + l.count ≤ 1152921504606846976) :
  Calls Tryz.prog 26 #[.agg l.cells.toArray, .int .i64 k0] w fun e w' => e = .returned (.int .i64 (k0 + l.count)) ∧ Below w.heap.size w w' := by
 obtain ⟨rs, s, a, c⟩ := l
 simp only [LogA.cells, LogA.own, LogA.count, LogA.mark] at *
 obtain ⟨W, hW, b0, hbW, hsW⟩ := boxes1 w [.slice a rs.length c, .int .i64 s] 26
 have c0 := b0.cell 0 _ rfl
 have C := heldRecS_any a c k0 rs W (ho.below hbW).reads h0 hk (by omega)
 have hnn : ¬ (k0 + (countRs rs : Int) < 0) := by omega
 clear hsW b0
 go_enter Tryz.func26, Tryz.ntmps26
 go_wp2_with fail
 rw [hW.out]
 clear hW
 refine C.mono ?_
 rintro e w1 ⟨rfl, rfl⟩
 go_wp2
 go_ret
 exact ⟨rfl, hbW⟩
theorem countRs_bound (rs : List RecA) (m : Nat) (h : ∀ r ∈ rs, r.short m) : countRs rs ≤ rs.length * (10 + 7 * m) := by
 induction rs with
 | nil => simp [countRs]
 | cons x r ih =>
  have h1 := h x (by simp)
  have h2 := ih (fun y hy => h y (by simp [hy]))
  have hb := h1.bf
  have ha := h1.af
  have ht := h1.txs
  have hx : countRA x ≤ 10 + 7 * m := by simp only [countRA]; omega
  simp only [countRs, List.length_cons, Nat.add_mul, Nat.one_mul]
  omega
theorem count_short {t : LogA} (h : t.short 1048576) : 1 + (t.count : Int) ≤ 1152921504606846976 := by
 have h1 := countRs_bound t.recs 1048576 h.each
 have h2 := h.len
 have h3 : t.recs.length * (10 + 7 * 1048576) ≤ 1048576 * (10 + 7 * 1048576) := Nat.mul_le_mul_right _ h2
 have e : t.count = countRs t.recs := rfl
 rw [e]
 omega
theorem lawForce_walk (p : LogA) (n : Int) (w : World) (hg : ErrT w) (hin : InLog w p) :
  Calls Tryz.prog 6 #[.agg p.cells.toArray, .int .i64 n] w fun e w' => e = .returned (.bool true) ∧ Below w.heap.size w w' := by
 have hsm : p.short 9223372036854775807 := hin.short
 have hrd : p.reads w := hin.reads
 obtain ⟨W, hW, b0, hbW, hsW⟩ := boxes1 w p.cells 46
 have HP : Hid (∀ u, Below W.heap.size W u → u.cell? ⟨w.heap.size, 0, none⟩ = some (.slice p.a p.recs.length p.c) ∧ u.cell? ⟨w.heap.size, 1, none⟩ = some (.int .i64 p.sure)) := fun u hu => ⟨(b0.below hu b0.lt).cell 0 _ rfl, (b0.below hu b0.lt).cell 1 _ rfl⟩
 have hRd : ∀ u, Below W.heap.size W u → p.reads u := fun u hu => hrd.below (hbW.trans (hu.mono hbW.size))
 have hgB : ∀ u, Below W.heap.size W u → ErrT u := fun u hu => hg.keep (hbW.trans (hu.mono hbW.size))
 have HOK : Hid (∀ t : LogA, t.v = forceOf p.v n → p.short 1048576 → t.short 1048576) := fun t h hs => force_short h hs
 have HCT : Hid (∀ t : LogA, t.short 1048576 → 1 + (t.count : Int) ≤ 1152921504606846976) := fun t h => count_short h
 have hlt0 := b0.lt
 clear hsW b0 hin
 simp only [LogA.cells] at *
 have p0 := (HP.out W (Below.refl _ _)).1
 have p1 := (HP.out W (Below.refl _ _)).2
 have C := szLog_any p 1048576 W (hRd W (Below.refl _ _)) hsm (by omega)
 simp only [LogA.cells] at C
 go_enter Tryz.func6, Tryz.ntmps6
 go_wp2_with fail
 rw [hW.out]
 clear hW
 refine C.mono ?_
 clear C p0 p1
 rintro e w1 ⟨z, rfl, hz, B1⟩
 rcases hz with hneg | ⟨hz0, _, hl⟩
 ·go_wp2
  go_ret
  exact ⟨rfl, hbW.trans (B1.mono hbW.size)⟩
 have hzn : ¬ z < 0 := by omega
 have hs1 := B1.size
 have p0 := (HP.out w1 B1).1
 have p1 := (HP.out w1 B1).2
 have C := toLog_any p w1 (hRd w1 B1) hl
 simp only [LogA.cells] at C
 go_wp2_with fail
 refine C.mono ?_
 clear C p0 p1
 rintro e w2 ⟨ts, rfl, hv2, o2, hb2⟩
 have hs2 := hb2.size
 have B2 : Below W.heap.size W w2 := B1.trans (hb2.mono hs1)
 have C := specForce_any ts n w2 o2.reads (LogA.short_of hv2.out hl) (OwnRs.caps o2)
 simp only [LogA.cells, hv2.out] at C
 go_wp2_with fail
 refine C.mono ?_
 clear C o2 hv2
 rintro e w3 ⟨tw, rfl, hvw, ow3, hb3⟩
 have hs3 := hb3.size
 have B3 : Below W.heap.size W w3 := B2.trans (hb3.mono (by omega))
 clear hb2 hb3
 obtain ⟨W4, hW4, k6, hb4, hs4⟩ := boxes1 w3 [.slice tw.a tw.recs.length tw.c, .int .i64 tw.sure] 26
 have hs4' := k6.lt
 clear hs4
 have B4 : Below W.heap.size W W4 := B3.trans (hb4.mono (by omega))
 have ow4 := ow3.below hb4
 clear ow3 hb4
 go_upto_region 6 with fail
 rw [hW4.out]
 clear hW4
 have p0 := (HP.out W4 B4).1
 have p1 := (HP.out W4 B4).2
 have C := toLog_any p W4 (hRd W4 B4) hl
 simp only [LogA.cells] at C
 go_wp2_with fail
 refine C.mono ?_
 clear C p0 p1
 rintro e w5 ⟨q, rfl, hqm, oq5, hb5⟩
 have hs5 := hb5.size
 have B5 : Below W.heap.size W w5 := B4.trans (hb5.mono (by omega))
 have k65 := k6.below hb5 k6.lt
 have ow5 := ow4.below hb5
 have hqS := LogA.short_of hqm.out hl
 clear k6 ow4 hb5
 obtain ⟨W6, hW6, k7, hb6, hs6⟩ := boxes1 w5 [.slice q.a q.recs.length q.c, .int .i64 q.sure] 26
 have hs6' := k7.lt
 clear hs6
 have B6 : Below W.heap.size W W6 := B5.trans (hb6.mono (by omega))
 have k66 := k65.below hb6 k65.lt
 have ow6 := ow5.below hb6
 have oq6 := oq5.below hb6
 clear k65 ow5 oq5 hb6
 go_upto_region 7 with fail
 rw [hW6.out]
 clear hW6
 have p0 := k7.cell 0 _ rfl
 have p1 := k7.cell 1 _ rfl
 have C := implForce_any q n W6 (hgB W6 B6) oq6.reads hqS (OwnRs.caps oq6)
 simp only [LogA.cells, hqm.out] at C
 go_wp2_with fail
 refine C.mono ?_
 clear C p0 p1
 rintro e w7 ⟨tg, rfl, hvg, og7, hb7⟩
 have hs7 := hb7.size
 have B7 : Below W.heap.size W w7 := B6.trans (hb7.mono (by omega))
 have k67 := k66.below hb7 k66.lt
 have k77 := k7.below hb7 k7.lt
 have ow7 := ow6.below hb7
 have oq7 := oq6.below hb7
 clear k66 k7 ow6 oq6 hb7
 obtain ⟨W8, hW8, k8, hb8, hs8⟩ := boxes1 w7 [.slice tg.a tg.recs.length tg.c, .int .i64 tg.sure] 26
 have hs8' := k8.lt
 clear hs8
 have B8 : Below W.heap.size W W8 := B7.trans (hb8.mono (by omega))
 have k68 := k67.below hb8 k67.lt
 have k78 := k77.below hb8 k77.lt
 have ow8 := ow7.below hb8
 have oq8 := oq7.below hb8
 have og8 := og7.below hb8
 have HWG : Hid (tw.v = tg.v) := hvw.out.trans hvg.out.symm
 have hgS := HOK.out tg hvg.out hl
 clear k67 k77 ow7 oq7 og7 hb8
 go_upto_region 8 with fail
 rw [hW8.out]
 clear hW8
 have g0 := k8.cell 0 _ rfl
 have g1 := k8.cell 1 _ rfl
 have v0 := k68.cell 0 _ rfl
 have v1 := k68.cell 1 _ rfl
 have C := eqLog_same tg tw HWG.out W8 og8.reads ow8.reads (LogA.short_wide hgS)
 simp only [LogA.cells] at C
 go_wp2_with fail
 refine C.mono ?_
 clear C g0 g1 v0 v1
 rintro e w9 ⟨rfl, hb9⟩
 have hs9 := hb9.size
 have B9 : Below W.heap.size W w9 := B8.trans (hb9.mono (by omega))
 have k69 := k68.below hb9 k68.lt
 have k79 := k78.below hb9 k78.lt
 have k89 := k8.below hb9 k8.lt
 have ow9 := ow8.below hb9
 have oq9 := oq8.below hb9
 have og9 := og8.below hb9
 clear k68 k78 k8 ow8 oq8 og8 hb9
 have HQ : Hid (q.v = p.v) := hqm.out
 have HS7 : Hid (∀ u, Below W.heap.size W u → Below w9.heap.size w9 u → (u.cell? ⟨w.heap.size, 0, none⟩ = some (.slice p.a p.recs.length p.c) ∧ u.cell? ⟨w.heap.size, 1, none⟩ = some (.int .i64 p.sure)) ∧ (u.cell? ⟨w5.heap.size, 0, none⟩ = some (.slice q.a q.recs.length q.c) ∧ u.cell? ⟨w5.heap.size, 1, none⟩ = some (.int .i64 q.sure))) := fun u h1 h2 => ⟨HP.out u h1, (k79.below h2 k79.lt).cell 0 _ rfl, (k79.below h2 k79.lt).cell 1 _ rfl⟩
 have hr9 := hRd _ B9.drew
 have oqr := oq9.reads
 clear hqm
 go_wp2_with fail
 refine wp_region_held_drew (S := fun u => (u.cell? ⟨w.heap.size, 0, none⟩ = some (.slice p.a p.recs.length p.c) ∧ u.cell? ⟨w.heap.size, 1, none⟩ = some (.int .i64 p.sure)) ∧ (u.cell? ⟨w5.heap.size, 0, none⟩ = some (.slice q.a q.recs.length q.c) ∧ u.cell? ⟨w5.heap.size, 1, none⟩ = some (.int .i64 q.sure))) (by kernel_rfl) ?_ (fun hHeld => ?_)
 ·exact HS7.out _ B9.drew (Below.refl _ _).drew
 refine tk 0 (v := .agg #[.slice q.a q.recs.length q.c, .int .i64 q.sure]) rfl (Or.inl ⟨by rfl, ?_⟩) hHeld ?_
 ·intro w' hSw
  have hx0 := hSw.2.1
  have hx1 := hSw.2.2
  go_simp <;> rfl
 try simp only [Act.put, zA, zB, zD, zE, zF]
 refine tk 1 (v := .agg #[.slice p.a p.recs.length p.c, .int .i64 p.sure]) rfl (Or.inl ⟨by rfl, ?_⟩) hHeld ?_
 ·intro w' hSw
  have hx0 := hSw.1.1
  have hx1 := hSw.1.2
  go_simp <;> rfl
 try simp only [Act.put, zA, zB, zC, zD, zE, zF]
 refine wpAnyH_ready (rs := [2]) (by kernel_rfl) (by simp) ?_
 refine AllReadyH.cons rfl (fun K hK => ?_) AllReadyH.nil
 have C := toLog_any p w9.drew hr9 hl
 simp only [LogA.cells] at C
 go_simp
 refine C.mono ?_
 clear C
 rintro e w10 ⟨vs, rfl, hv10, o10, hb10⟩
 have hb10' : Below w9.heap.size w9 w10 := ((Below.refl _ _).drew).trans hb10
 have B10 : Below W.heap.size W w10 := B9.trans (hb10'.mono (by omega))
 refine hK.out _ _ (HS7.out _ B10 hb10') (fun hHeld => ?_)
 clear hK K
 try simp only [Act.put, zA, zB, zC, zD, zE, zF]
 refine wpAnyH_ready (rs := [3]) (by kernel_rfl) (by simp) ?_
 refine AllReadyH.cons rfl (fun K hK => ?_) AllReadyH.nil
 have C := eqLog_same q vs (hv10.out.trans HQ.out.symm) w10 (oqr.below hb10') o10.reads (LogA.short_wide hqS)
 simp only [LogA.cells] at C
 go_simp
 refine C.mono ?_
 clear C
 rintro e w11 ⟨rfl, hb11⟩
 have hb11' : Below w9.heap.size w9 w11 := hb10'.trans (hb11.mono hb10'.size)
 have B11 : Below W.heap.size W w11 := B9.trans (hb11'.mono (by omega))
 refine hK.out _ _ (HS7.out _ B11 hb11') (fun hHeld => ?_)
 clear hK K
 try simp only [Act.put, zA, zB, zC, zD, zE, zF]
 refine tk 4 (v := .bool false) rfl (Or.inl ⟨by rfl, ?_⟩) hHeld ?_
 ·intro w' _; go_simp
 refine wpAnyH_done (by kernel_rfl) ?_ _
 have hs11 := hb11'.size
 have k6b := k69.below hb11' k69.lt
 have k7b := k79.below hb11' k79.lt
 have k8b := k89.below hb11' k89.lt
 have owb := ow9.below hb11'
 have oqb := oq9.below hb11'
 have ogb := og9.below hb11'
 clear hHeld hb11 hb10 hb10' hb11' o10 hv10 B10 k69 k79 k89 ow9 oq9 og9 oqr hr9 HS7
 have p0 := k7b.cell 0 _ rfl
 have p1 := k7b.cell 1 _ rfl
 have C := markLog_touch q W4.heap.size w5.heap.size 1 w11 oqb (LogA.short_wide hqS) (by omega) (HCT.out q hqS)
 simp only [LogA.cells] at C
 go_wp2_with fail
 refine C.mono ?_
 clear C p0 p1
 rintro e w12 ⟨rfl, _, ht12⟩
 have hw12 : Within W4.heap.size w5.heap.size w11 w12 := ht12.within oqb.blocks_lt
 have hs12 := hw12.size
 have k6c := k6b.within hw12 (by omega)
 have k8c := k8b.within hw12 (by omega)
 have owc := owb.within hw12 (.inl (by omega))
 have ogc := ogb.within hw12 (.inr (by omega))
 have B12 : Below W.heap.size W w12 := B11.trans (hw12.below (by omega) (by omega))
 have hcn : ¬ ((1 : Int) + (q.count : Int)) < 0 := by omega
 clear ht12 hw12 k6b k7b k8b owb oqb ogb
 generalize q.count = cq at *
 have g0 := k8c.cell 0 _ rfl
 have g1 := k8c.cell 1 _ rfl
 have v0 := k6c.cell 0 _ rfl
 have v1 := k6c.cell 1 _ rfl
 have C := eqLog_same tg tw HWG.out w12 ogc.reads owc.reads (LogA.short_wide hgS)
 simp only [LogA.cells] at C
 go_wp2_with fail
 refine C.mono ?_
 clear C g0 g1 v0 v1
 rintro e w13 ⟨rfl, hb13⟩
 have hs13 := hb13.size
 have B13 : Below W.heap.size W w13 := B12.trans (hb13.mono (by omega))
 have k6d := k6c.below hb13 k6c.lt
 have k8d := k8c.below hb13 k8c.lt
 have owd := owc.below hb13
 have ogd := ogc.below hb13
 clear k6c k8c owc ogc hb13
 have g0 := k8d.cell 0 _ rfl
 have g1 := k8d.cell 1 _ rfl
 have C := markLog_touch tg W6.heap.size w7.heap.size 1 w13 ogd (LogA.short_wide hgS) (by omega) (HCT.out tg hgS)
 simp only [LogA.cells] at C
 go_wp2_with fail
 refine C.mono ?_
 clear C g0 g1
 rintro e w14 ⟨rfl, omg, ht14⟩
 have hw14 : Within W6.heap.size w7.heap.size w13 w14 := ht14.within ogd.blocks_lt
 have hs14 := hw14.size
 have k6e := k6d.within hw14 (by omega)
 have k8e := k8d.within hw14 (by omega)
 have owe := owd.within hw14 (.inl (by omega))
 have B14 : Below W.heap.size W w14 := B13.trans (hw14.below (by omega) (by omega))
 clear ht14 hw14 k6d k8d owd ogd
 have hcg : ¬ ((1 : Int) + (tg.count : Int)) < 0 := by omega
 have g0 := k8e.cell 0 _ rfl
 have g1 := k8e.cell 1 _ rfl
 have C := heldLog_any tg W6.heap.size w7.heap.size 1 w14 omg (by have := hgS.len; omega) (by omega) (HCT.out tg hgS)
 simp only [LogA.cells] at C
 go_wp2_with fail
 refine C.mono ?_
 clear C g0 g1
 rintro e w15 ⟨rfl, hb15⟩
 have hs15 := hb15.size
 have B15 : Below W.heap.size W w15 := B14.trans (hb15.mono (by omega))
 have k6f := k6e.below hb15 k6e.lt
 have k8f := k8e.below hb15 k8e.lt
 have owf := owe.below hb15
 have omf := omg.below hb15
 clear k6e k8e owe omg hb15
 have p0 := (HP.out w15 B15).1
 have p1 := (HP.out w15 B15).2
 have C := toLog_any p w15 (hRd w15 B15) hl
 simp only [LogA.cells] at C
 go_wp2_with fail
 refine C.mono ?_
 clear C p0 p1
 rintro e w16 ⟨us, rfl, hvu, ou, hb16⟩
 have hs16 := hb16.size
 have B16 : Below W.heap.size W w16 := B15.trans (hb16.mono (by omega))
 have C := implForce_any us n w16 (hgB w16 B16) ou.reads (LogA.short_of hvu.out hl) (OwnRs.caps ou)
 simp only [LogA.cells, hvu.out] at C
 go_wp2_with fail
 refine C.mono ?_
 clear C
 rintro e w17 ⟨th, rfl, hvh, oh, hb17⟩
 have hb17' : Below w15.heap.size w15 w17 := hb16.trans (hb17.mono hs16)
 have hs17 := hb17'.size
 have B17 : Below W.heap.size W w17 := B15.trans (hb17'.mono (by omega))
 have k6g := k6f.below hb17' k6f.lt
 have k8g := k8f.below hb17' k8f.lt
 have owg := owf.below hb17'
 have omgg := omf.below hb17'
 clear k6f k8f owf omf hb17 hb16 hb17' ou hvu B16
 obtain ⟨W18, hW18, k12, hb18, hs18⟩ := boxes1 w17 [.slice th.a th.recs.length th.c, .int .i64 th.sure] 26
 have hs18' := k12.lt
 clear hs18
 have B18 : Below W.heap.size W W18 := B17.trans (hb18.mono (by omega))
 have k6h := k6g.below hb18 k6g.lt
 have k8h := k8g.below hb18 k8g.lt
 have owh := owg.below hb18
 have omh := omgg.below hb18
 have ohh := oh.below hb18
 have HWH : Hid (tw.v = th.v) := hvw.out.trans hvh.out.symm
 have hhS := HOK.out th hvh.out hl
 clear k6g k8g owg omgg oh hb18
 go_upto_region 25 with fail
 rw [hW18.out]
 clear hW18
 have g0 := k12.cell 0 _ rfl
 have g1 := k12.cell 1 _ rfl
 have v0 := k6h.cell 0 _ rfl
 have v1 := k6h.cell 1 _ rfl
 have C := eqLog_same th tw HWH.out W18 ohh.reads owh.reads (LogA.short_wide hhS)
 simp only [LogA.cells] at C
 go_wp2_with fail
 refine C.mono ?_
 clear C g0 g1 v0 v1
 rintro e w19 ⟨rfl, hb19⟩
 have B19 : Below W.heap.size W w19 := B18.trans (hb19.mono (by omega))
 have k8i := k8h.below hb19 k8h.lt
 have omi := omh.below hb19
 clear k6h k8h owh omh ohh k12
 have g0 := k8i.cell 0 _ rfl
 have g1 := k8i.cell 1 _ rfl
 have C := heldLog_any tg W6.heap.size w7.heap.size 1 w19 omi (by have := hgS.len; omega) (by omega) (HCT.out tg hgS)
 simp only [LogA.cells] at C
 go_wp2_with fail
 refine C.mono ?_
 clear C g0 g1
 rintro e w20 ⟨rfl, hb20⟩
 have B20 : Below W.heap.size W w20 := B19.trans (hb20.mono B19.size)
 go_wp2
 go_ret
 exact ⟨rfl, hbW.trans (B20.mono hbW.size)⟩
end Go.Proofs.YtoboickdkednkaaGreatDoor
namespace Go.Proofs.YtoboickdkednkaaGreatDoor
open Go.ChangeShapes Go.WideShapes Go.RowKit
theorem Tryz.et : Tryz.prog.globalNamed "errors.errorType" = some 0 := by kernel_rfl
theorem Tryz.rt : (Tryz.prog.cutTypes.find? (·.1 == "internal/reflectlite.rtype")).map (·.2) = some 200 := by kernel_rfl
theorem Tryz.oneRow : ((List.range 242).filter fun t => Tryz.prog.rowNamed t [101, 114, 114, 111, 114]) = [165] := by kernel_rfl
theorem Tryz.typesSize : Tryz.prog.types.size = 242 := by kernel_rfl
theorem errT_of_handles {W : World} {laid : List (String × DataW Unit)} (hm : ("errors.errorType", Rows.laid_errors_errorType) ∈ laid) (h : handlesMet Tryz.prog laid W) : ErrT W := by
 obtain ⟨name, u, ty, e1, e2, e3, e4, e5⟩ := h _ hm
 have en : name = [101, 114, 114, 111, 114] := (Option.some.inj e1).symm
 subst en
 obtain rfl := Option.some.inj (Tryz.rt.symm.trans e2)
 have hm : ty ∈ (List.range 242).filter fun t => Tryz.prog.rowNamed t [101, 114, 114, 111, 114] := List.mem_filter.2 ⟨List.mem_range.2 (by rw [← Tryz.typesSize]; exact e3), e4⟩
 rw [Tryz.oneRow] at hm
 obtain rfl := List.mem_singleton.1 hm
 have hh : typeHandle Tryz.prog 165 = .pointer (some ⟨1, 165, none⟩) := by kernel_rfl
 rw [hh] at e5
 unfold ErrT
 simpa using World.var?_cell Tryz.et e5 0
def laid1 : List (String × DataW Unit) := [("errors.errorType", Rows.laid_errors_errorType)]
theorem errT_of_laid1 {W : World} (h : laidMetH Tryz.prog laid1 W) : ErrT W := by
 have h' : laidMet Tryz.prog [] W ∧ handlesMet Tryz.prog laid1 W := h
 exact errT_of_handles (List.mem_singleton.2 rfl) h'.2
end Go.Proofs.YtoboickdkednkaaGreatDoor