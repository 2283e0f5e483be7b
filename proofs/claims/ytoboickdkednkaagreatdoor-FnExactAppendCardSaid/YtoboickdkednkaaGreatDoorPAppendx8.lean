/- Several texts in one, in their order. -/
import Derived.Test.YtoboickdkednkaaGreatDoorPAppendx7
import Derived.Deep.CutRange
import Derived.Deep.RegionLaw
import Derived.Test.YtoboickdkednkaaGreatDoorPAppendx6
import Derived.Test.YtoboickdkednkaaGreatDoorPAppendx4
import Derived.Deep.DrawnRows
import Derived.Test.YtoboickdkednkaaGreatDoorPAppendx5
import Derived.Test.YtoboickdkednkaaGreatDoorPAppendx3
import Derived.Deep.QuietTactic
import Derived.BigQuiet
import Derived.Test.YtoboickdkednkaaGreatDoorPAppendx1
set_option maxHeartbeats 8000000
set_option maxRecDepth 100000
namespace Go.Proofs.YtoboickdkednkaaGreatDoor
open Go.RowKit
theorem Within.touch1 {B : Nat} {w w' : World} (h : Within B (B + 1) w w') : Touch [B] w w' := ⟨h.os, h.tape, h.output, h.size, fun k hk hn => h.block k hk (fun hh => hn (List.mem_singleton.2 (by omega)))⟩
theorem log_apart {w : World} {B lo hi : Nat} {vs : List Value} {a : Option Addr} {c : Nat} {rs : List RecA} (b : Box w B vs 26) (h : OwnRs w lo hi a c rs) : B ∉ blocksRs a c rs := by
 intro hm
 have hb : w.heap[B]? = some (.cells vs.toArray 26 (0, 0)) := b
 have no : ∀ {b2 s2 n2 : Nat} {e2 : TypeId} {v2 : Value} {x2 : List Value}, w.ownsRow b2 e2 s2 v2 n2 x2 → v2.ownBlock = some B → e2 = 26 := by
  intro b2 s2 n2 e2 v2 x2 h2 hk2
  obtain ⟨cur2, hc2⟩ := ownsRow_at h2 hk2
  rw [hb] at hc2
  simp only [Option.some.injEq, Obj.cells.injEq] at hc2
  exact hc2.2.1.symm
 simp only [blocksRs, List.mem_append, List.mem_flatMap, Option.mem_toList] at hm
 rcases hm with h1 | ⟨r, hr, h1⟩
 ·have := no h.row h1; cases this
 ·have hr' := h.each r hr
  simp only [RecA.blocks, SlotA.blocks, List.mem_append, Option.mem_toList] at h1
  rcases h1 with (h1 | h1) | (h1 | h1) | h1
  ·have := no hr'.bf.ints.1 h1; cases this
  ·have := no hr'.bf.refs.1 h1; cases this
  ·have := no hr'.af.ints.1 h1; cases this
  ·have := no hr'.af.refs.1 h1; cases this
  ·have := no hr'.txs.1 h1; cases this
def RecA.at (r : RecA) (n : Int) : RecA := { r with lsn := n }
theorem at_v (r : RecA) (n : Int) : (r.at n).v = lsnR r.v n := rfl
theorem own_at {w : World} {lo hi : Nat} {r : RecA} (h : r.own w lo hi) (n : Int) : (r.at n).own w lo hi := ⟨h.bf, h.af, h.txs, h.apart⟩
theorem short_at {r : RecA} {m : Nat} (h : r.short m) (n : Int) : (r.at n).short m := ⟨h.bf, h.af, h.txs⟩
theorem appendOf_no {l : LogV} {r : RecV} (h : okLog l = false ∨ l.recs.length = 4000 ∨ okR (lsnR r (l.recs.length + 1)) = false) : appendOf l r = (l, 0) := by
 unfold appendOf
 rw [if_neg]
 rintro ⟨h1, h2, h3⟩
 rcases h with h | h | h
 ·rw [h] at h1; cases h1
 ·exact h2 h
 ·rw [h] at h3; cases h3
theorem appendOf_yes {l : LogV} {r : RecV} (h1 : okLog l = true) (h2 : l.recs.length ≠ 4000) (h3 : okR (lsnR r (l.recs.length + 1)) = true) : appendOf l r = ((⟨l.recs ++ [lsnR r (l.recs.length + 1)], l.sure⟩ : LogV), (l.recs.length : Int) + 1) := by unfold appendOf; rw [if_pos ⟨h1, h2, h3⟩]
theorem rec_set {w : World} {B : Nat} {q : RecA} (b : Box w B q.cells 39) (n : Int) : ∃ W, Hid (w.setCell ⟨B, 0, none⟩ (.int .i64 n) = W) ∧ Box W B (q.at n).cells 39 ∧ Within B (B + 1) w W ∧ W.heap.size = w.heap.size := by
 obtain ⟨W, hW, bW, hw, hs⟩ := box_set b 0 (.int .i64 n)
 exact ⟨W, hW, bW, hw, hs⟩
theorem specAppend_any (l : LogA) (r : RecA) (w : World) (hr : l.reads w) (hl : l.short 1048576) (hcp : ∀ r ∈ l.recs, r.aL = none → r.cL = 0) (hrr : r.reads w) (hrs : r.short 1099511627776) (hrc : r.aL = none → r.cL = 0) :
  Calls Tryz.prog 16 #[.agg l.cells.toArray, .agg r.cells.toArray] w fun e w' => ∃ (t : LogA) (n : Int), e = .returned (.tuple #[.agg t.cells.toArray, .int .i64 n]) ∧ Hid ((t.v, n) = appendOf l.v r.v) ∧ t.own w' w.heap.size w'.heap.size ∧ Below w.heap.size w w' := by
 have HNO : Hid (okLog l.v = false ∨ l.recs.length = 4000 ∨ okR (lsnR r.v (l.recs.length + 1)) = false → appendOf l.v r.v = (l.v, 0)) := fun h => appendOf_no (by rw [l.v_len]; exact h)
 have HYES : Hid (okLog l.v = true → l.recs.length ≠ 4000 → okR (lsnR r.v (l.recs.length + 1)) = true → appendOf l.v r.v = (⟨l.v.recs ++ [lsnR r.v (l.recs.length + 1)], l.sure⟩, (l.recs.length : Int) + 1)) := fun h1 h2 h3 => by have := appendOf_yes h1 (by rw [l.v_len]; exact h2) (by rw [l.v_len]; exact h3); rw [l.v_len] at this; exact this
 have hll := hl.len
 obtain ⟨W, hW, b0, b1, b2, hbW, hsW⟩ := boxes3 w l.cells r.cells [.slice none 0 0, .int .i64 0] 26 39 26
 have hs0 : w.heap.size + 1 + 1 < W.heap.size := by omega
 clear hsW
 have HI : Hid ((Tryz.prog.info? 39).map (·.size) = some 15) := by rw [Hid]; kernel_rfl
 have HX : Hid (∀ u, Below W.heap.size W u → Box u w.heap.size l.cells 26) := fun u hu => b0.below hu b0.lt
 have HR1 : Hid (∀ u, Below W.heap.size W u → u.rangeAt (w.heap.size + 1) 0 r.cells) := fun u hu => Box.range [] r.cells [] (by simpa using b1.below hu b1.lt)
 have HW2 : Hid (∀ u, Below W.heap.size W u → Box u (w.heap.size + 1 + 1) [.slice none 0 0, .int .i64 0] 26) := fun u hu => b2.below hu b2.lt
 have C1 := l5Copy_any l W (hr.below hbW) hl hcp
 simp only [LogA.cells] at b0 hW HX C1 ⊢
 have x0 := b0.cell 0 _ rfl
 have x1 := b0.cell 1 _ rfl
 clear b0 b1 b2
 go_enter Tryz.func16, Tryz.ntmps16
 go_wp2_with fail
 rw [hW.out]
 clear hW
 refine C1.mono ?_
 clear C1 x0 x1
 rintro e w1 ⟨t, rfl, hv, ho, hb1⟩
 have hs1 := hb1.size
 obtain ⟨W2, hW2, k6, hb2, hs2⟩ := boxes1 w1 [.slice t.a t.recs.length t.c, .int .i64 t.sure] 26
 have hlt2 := k6.lt
 have hs2' := hb2.size
 clear hs2
 have B2 : Below W.heap.size W W2 := hb1.trans (hb2.mono hs1)
 have ot : LogA.own W2 W.heap.size w1.heap.size t := LogA.own.below ho hb2
 have HV : Hid (t.v = l.v) := hv.out
 have HTL : Hid (t.recs.length = l.recs.length ∧ t.sure = l.sure ∧ t.recs.map RecA.v = l.v.recs) := by
  have h := hv.out
  simp only [LogA.v, LogV.mk.injEq] at h
  exact ⟨mapV_len h.1, h.2, h.1⟩
 have C2 := l5CopyRec_own r W2 (hrr.below (hbW.trans (B2.mono hbW.size))) hrs hrc
 clear hv ho hb1 hb2
 go_upto_region 2 with fail
 rw [hW2.out]
 clear hW2
 go_wp2_with (first | (guard_target = wpList _ _ _ (Oper.mk (some 10) _ _ _ _ _ :: _) _ _; refine wpList_load_mid rfl 39 (.tmp 3) rfl (w.heap.size + 1) 0 rfl r.cells _ (HR1.out _ B2) Tryz.underlying39 rfl HI.out ?_) | fail)
 refine C2.mono ?_
 clear C2
 rintro e w3 ⟨q, rfl, hq, oq, hb3⟩
 have hs3 := hb3.size
 have B3 : Below W.heap.size W w3 := B2.trans (hb3.mono (by omega))
 have k63 := k6.below hb3 k6.lt
 have ot3 := LogA.own.below ot hb3
 have HQS : Hid (q.short 1099511627776) := Go.Proofs.YtoboickdkednkaaGreatDoor.short_of hq.out hrs
 have HQV : Hid (q.v = r.v) := hq.out
 clear k6 ot hb3 hq B2
 obtain ⟨W4, hW4, z4, hb4, hs4⟩ := boxes1 w3 [.int .i64 0, .int .i64 0, .int .i64 0, .int .i64 0, .int .i64 0, .bool false, .int .i64 0, .slice none 0 0, .slice none 0 0, .bool false, .int .i64 0, .slice none 0 0, .slice none 0 0, .int .i64 0, .slice none 0 0] 39
 obtain ⟨W5, hW5, hw5, hs5, HT5, _, z5⟩ := rec_out q _ rfl z4
 have N5 : Below w3.heap.size w3 W5 := hb4.trans (hw5.below (Nat.le_refl _) (by omega))
 have hlt5 := z5.lt
 have B5 : Below W.heap.size W W5 := B3.trans (N5.mono (by omega))
 have k65 := k63.below N5 k63.lt
 have ot5 := LogA.own.below ot3 N5
 have oq5 := oq.below N5
 have hs5' := N5.size
 have hOq := rec_one q
 clear z4 hb4 hw5 hs4 hs5 k63 ot3 oq N5
 have p0 := (HX.out W5 B5).cell 0 _ rfl
 have zc := z5.cell 0 _ rfl
 have zf := z5.frozen 0
 go_upto_region 3 with (first | (guard_target = wpList _ _ _ (Oper.mk none (Op.store _ (Operand.tmp 7) _) _ _ _ _ :: _) _ _; refine wpList_store_mid rfl 39 (.tmp 7) (.tmp 11) rfl w3.heap.size 0 q.cells.toArray rfl rfl (by rw [hW4.out]; exact HT5.out) HI.out hOq ?_) | fail)
 rw [hW4.out, hW5.out]
 clear hW4 hW5 HT5 hOq
 obtain ⟨W6, hW6, z6, hw6, hs6⟩ := rec_set z5 ((l.recs.length : Int) + 1)
 have hs6a := Nat.le_of_eq hs6
 have hs6b := Nat.le_of_eq hs6.symm
 clear hs6 z5
 have B6 : Below W.heap.size W W6 := B5.trans (hw6.below (by omega) (by omega))
 have k66 := k65.within hw6 (by omega)
 have ot6 := LogA.own.within ot5 hw6 (.inl (by omega))
 have oq6 := own_at (oq5.within hw6 (.inl (by omega))) ((l.recs.length : Int) + 1)
 have HQS6 : Hid ((q.at ((l.recs.length : Int) + 1)).short 1099511627776) := short_at HQS.out _
 have HXV : Hid ((q.at ((l.recs.length : Int) + 1)).v = lsnR r.v ((l.recs.length : Int) + 1)) := by rw [Hid, at_v, HQV.out]
 have HX0 : Hid ((q.at ((l.recs.length : Int) + 1)).lsn = (l.recs.length : Int) + 1) := rfl
 have D6 : Below w.heap.size w W6 := hbW.trans (B6.mono hbW.size)
 clear hw6 k65 ot5 oq5 B5 HQS
 go_upto_region 4 with fail
 rw [hW6.out]
 clear hW6 p0 zc zf
 generalize q.at ((l.recs.length : Int) + 1) = x at *
 have C3 := specLogOk_any l W6 (hr.below D6) (LogA.short_wide hl)
 simp only [LogA.cells] at C3
 have p0 := (HX.out W6 B6).cell 0 _ rfl
 have p1 := (HX.out W6 B6).cell 1 _ rfl
 go_wp2_with fail
 refine C3.mono ?_
 clear C3 p0 p1
 generalize okLog l.v = R at *
 rintro e w7 ⟨rfl, hb7⟩
 have hs7 := hb7.size
 have B7 : Below W.heap.size W w7 := B6.trans (hb7.mono (by omega))
 have k67 := k66.below hb7 k66.lt
 have z7 := z6.below hb7 z6.lt
 have ot7 := LogA.own.below ot6 hb7
 have ox7 := oq6.below hb7
 have D7 : Below w.heap.size w w7 := D6.trans (hb7.mono D6.size)
 clear k66 z6 ot6 oq6 hb7 B6 D6
 have p0 := (HX.out w7 B7).cell 0 _ rfl
 cases R with
 | false =>
  have HOUT : Hid ((t.v, (0 : Int)) = appendOf l.v r.v) := by rw [Hid, HNO.out (.inl rfl), HV.out]
  have k6 := k67
  have k2 := HW2.out w7 B7
  have ot := ot7
  have DD := D7
  clear k67 ot7 D7 HNO HYES HTL z7 ox7
  have e0 := k6.cell 0 _ rfl
  have e1 := k6.cell 1 _ rfl
  have m0 := k2.cell 0 _ rfl
  have m1 := k2.cell 1 _ rfl
  have mf0 := k2.frozen 0
  have mf1 := k2.frozen 1
  obtain ⟨WF, hWF, bF, hwF, hsF⟩ := box2_fill k2 (.slice t.a t.recs.length t.c) (.int .i64 t.sure)
  have q0 := bF.cell 0 _ rfl
  have q1 := bF.cell 1 _ rfl
  have hoF := (LogA.own.within ot hwF (.inr (by omega))).widen (show w.heap.size ≤ W.heap.size by omega) (show w1.heap.size ≤ WF.heap.size by omega) (Nat.le_refl _)
  have hbF : Below w.heap.size w WF := DD.trans (hwF.below (by omega) (by omega))
  have HF : Hid (_ ∧ _ ∧ _) := ⟨HOUT, hoF, hbF⟩
  clear hwF hsF bF hoF hbF HOUT
  go_wp2_with fail
  rw [hWF.out]
  exact bodyPost_ret (v := .tuple #[.agg #[.slice t.a t.recs.length t.c, .int .i64 t.sure], .int .i64 0]) (by simp [results, Tryz.results16, go_sem, q0, q1]) rfl ⟨t, 0, rfl, HF.out.1, HF.out.2.1, HF.out.2.2⟩
 | true =>
  by_cases h4 : l.recs.length = 4000
  ·have HOUT : Hid ((t.v, (0 : Int)) = appendOf l.v r.v) := by rw [Hid, HNO.out (.inr (.inl h4)), HV.out]
   have h4b : ((l.recs.length : Int) == 4000) = true := by simp only [beq_iff_eq]; omega
   have k6 := k67
   have k2 := HW2.out w7 B7
   have ot := ot7
   have DD := D7
   clear k67 ot7 D7 HNO HYES HTL z7 ox7 h4
   have e0 := k6.cell 0 _ rfl
   have e1 := k6.cell 1 _ rfl
   have m0 := k2.cell 0 _ rfl
   have m1 := k2.cell 1 _ rfl
   have mf0 := k2.frozen 0
   have mf1 := k2.frozen 1
   obtain ⟨WF, hWF, bF, hwF, hsF⟩ := box2_fill k2 (.slice t.a t.recs.length t.c) (.int .i64 t.sure)
   have q0 := bF.cell 0 _ rfl
   have q1 := bF.cell 1 _ rfl
   have hoF := (LogA.own.within ot hwF (.inr (by omega))).widen (show w.heap.size ≤ W.heap.size by omega) (show w1.heap.size ≤ WF.heap.size by omega) (Nat.le_refl _)
   have hbF : Below w.heap.size w WF := DD.trans (hwF.below (by omega) (by omega))
   have HF : Hid (_ ∧ _ ∧ _) := ⟨HOUT, hoF, hbF⟩
   clear hwF hsF bF hoF hbF HOUT
   go_wp2_with fail
   rw [hWF.out]
   exact bodyPost_ret (v := .tuple #[.agg #[.slice t.a t.recs.length t.c, .int .i64 t.sure], .int .i64 0]) (by simp [results, Tryz.results16, go_sem, q0, q1]) rfl ⟨t, 0, rfl, HF.out.1, HF.out.2.1, HF.out.2.2⟩
  ·have h4b : ((l.recs.length : Int) == 4000) = false := by simp only [beq_eq_false_iff_ne]; omega
   have C4 := specRecOk_any x w7 ox7.reads HQS6.out
   have HRX : Hid (w7.rangeAt w3.heap.size 0 x.cells) := Box.range [] x.cells [] (by simpa using z7)
   go_wp2_with (first | (guard_target = wpList _ _ _ (Oper.mk (some 27) _ _ _ _ _ :: _) _ _; refine load_if (by rfl) 39 (.tmp 7) rfl w3.heap.size 0 rfl x.cells _ HRX.out Tryz.underlying39 rfl HI.out ?_) | fail)
   refine C4.mono ?_
   clear C4 HRX p0
   rintro e w8 ⟨rfl, hb8⟩
   have hs8 := hb8.size
   have B8 : Below W.heap.size W w8 := B7.trans (hb8.mono (by omega))
   have k68 := k67.below hb8 k67.lt
   have z8 := z7.below hb8 z7.lt
   have ot8 := LogA.own.below ot7 hb8
   have ox8 := ox7.below hb8
   have D8 : Below w.heap.size w w8 := D7.trans (hb8.mono D7.size)
   clear k67 z7 ot7 ox7 hb8 B7 D7
   cases hR : okR x.v with
   | false =>
    have HOUT : Hid ((t.v, (0 : Int)) = appendOf l.v r.v) := by rw [Hid, HNO.out (.inr (.inr (by rw [← HXV.out]; exact hR))), HV.out]
    have k6 := k68
    have k2 := HW2.out w8 B8
    have ot := ot8
    have DD := D8
    clear k68 ot8 D8 HNO HYES HTL z8 ox8 h4
    have e0 := k6.cell 0 _ rfl
    have e1 := k6.cell 1 _ rfl
    have m0 := k2.cell 0 _ rfl
    have m1 := k2.cell 1 _ rfl
    have mf0 := k2.frozen 0
    have mf1 := k2.frozen 1
    obtain ⟨WF, hWF, bF, hwF, hsF⟩ := box2_fill k2 (.slice t.a t.recs.length t.c) (.int .i64 t.sure)
    have q0 := bF.cell 0 _ rfl
    have q1 := bF.cell 1 _ rfl
    have hoF := (LogA.own.within ot hwF (.inr (by omega))).widen (show w.heap.size ≤ W.heap.size by omega) (show w1.heap.size ≤ WF.heap.size by omega) (Nat.le_refl _)
    have hbF : Below w.heap.size w WF := DD.trans (hwF.below (by omega) (by omega))
    have HF : Hid (_ ∧ _ ∧ _) := ⟨HOUT, hoF, hbF⟩
    clear hwF hsF bF hoF hbF HOUT
    go_wp2_with fail
    rw [hWF.out]
    exact bodyPost_ret (v := .tuple #[.agg #[.slice t.a t.recs.length t.c, .int .i64 t.sure], .int .i64 0]) (by simp [results, Tryz.results16, go_sem, q0, q1]) rfl ⟨t, 0, rfl, HF.out.1, HF.out.2.1, HF.out.2.2⟩
   | true =>
    have HAP := HYES.out (by first | rfl | trivial) h4 (by rw [← HXV.out]; exact hR)
    have HAP' : Hid (appendOf l.v r.v = _) := HAP
    clear HNO HYES HAP
    have e0 := k68.cell 0 _ rfl
    have HRX : Hid (w8.rangeAt w3.heap.size 0 x.cells) := Box.range [] x.cells [] (by simpa using z8)
    obtain ⟨W9, hW9, y9, hb9, hs9⟩ := boxes1 w8 x.cells 39
    have hlt9 := y9.lt
    have hs9' := hb9.size
    clear hs9
    have R9 : Hid (W9.rangeAt w8.heap.size 0 x.cells) := Box.range [] x.cells [] (by simpa using y9)
    have B9 : Below W.heap.size W W9 := B8.trans (hb9.mono (by omega))
    have k69 := k68.below hb9 k68.lt
    have z9 := z8.below hb9 z8.lt
    have ot9 := LogA.own.below ot8 hb9
    have ox9 := ox8.below hb9
    have D9 : Below w.heap.size w W9 := D8.trans (hb9.mono D8.size)
    have hll9 : t.recs.length + 1 ≤ 68719476736 := by have := HTL.out.1; omega
    have hs12 : W.heap.size ≤ w1.heap.size := hs1
    go_wp2_with (first | (guard_target = wpList _ _ _ (Oper.mk (some 34) _ _ _ _ _ :: _) _ _; refine wpList_load_mid rfl 39 (.tmp 7) rfl w3.heap.size 0 rfl x.cells _ HRX.out Tryz.underlying39 rfl HI.out ?_) | (guard_target = wpList _ _ _ (Oper.mk (some 35) _ _ _ _ _ :: _) _ _; refine build_rec (.tmp 34) x rfl ?_; rw [hW9.out]) | (at_builtin; refine append_rec rfl _ _ rfl W.heap.size w1.heap.size t.a t.c t.recs rfl ot9 w8.heap.size 0 1 x rfl R9.out W2.heap.size w3.heap.size ox9 (by omega) (by omega) hll9 (by omega) ?_))
    intro a10 c10 w10 o10 g10
    have hw10 : Within W.heap.size w1.heap.size W9 w10 := Within.of_grown g10 (fun j hj => ⟨(OwnRs.row ot9).lt j hj |>.1, OwnRs.blk ot9 j hj⟩)
    have hs10 := hw10.size
    have k6a := k69.within hw10 (by omega)
    have z10 := z9.within hw10 (by omega)
    have B10 : Below W.heap.size W w10 := B9.trans (hw10.below (Nat.le_refl _) (by omega))
    have D10 : Below w.heap.size w w10 := hbW.trans (B10.mono hbW.size)
    have e0 := k6a.cell 0 _ rfl
    have ef0 := k6a.frozen 0
    obtain ⟨W11, hW11, k6b, hw11, hs11⟩ := box_set k6a 0 (.slice a10 (t.recs.length + 1) c10)
    simp only [List.set] at k6b
    have hs11a := Nat.le_of_eq hs11
    have hs11b := Nat.le_of_eq hs11.symm
    clear hs11
    have z11 := z10.within hw11 (by omega)
    have B11 : Below W.heap.size W W11 := B10.trans (hw11.below (by omega) (by omega))
    have oRow := o10.touch hw11.touch1 (fun k hk hk' => log_apart k6a o10 (by rw [← List.mem_singleton.1 hk']; exact hk))
    have k2b := HW2.out W11 B11
    have D11 : Below w.heap.size w W11 := hbW.trans (B11.mono hbW.size)
    have HFV : Hid ((⟨t.recs ++ [x], t.sure, a10, c10⟩ : LogA).v = (⟨l.v.recs ++ [lsnR r.v ((l.recs.length : Int) + 1)], l.sure⟩ : LogV)) := by
     have e3 := HTL.out.2.2
     simp only [Hid, LogA.v, List.map_append, List.map_cons, List.map_nil, HXV.out, HTL.out.2.1]
     rw [e3]
     rfl
    go_upto_region 7 with fail
    rw [hW11.out]
    clear hW11 e0 ef0 hw10 hw11 k6a z10 k69 z9 ot9 ox9 g10 R9 hW9
    obtain ⟨WF, hWF, bF, hwF, hsF⟩ := box2_fill k2b (.slice a10 (t.recs.length + 1) c10) (.int .i64 t.sure)
    have q0 := bF.cell 0 _ rfl
    have q1 := bF.cell 1 _ rfl
    have hoF : (⟨t.recs ++ [x], t.sure, a10, c10⟩ : LogA).own WF w.heap.size WF.heap.size := (oRow.within hwF (.inr (by omega))).widen (show w.heap.size ≤ W.heap.size by omega) (show w10.heap.size ≤ WF.heap.size by omega) (Nat.le_refl _)
    have hbF : Below w.heap.size w WF := D11.trans (hwF.below (by omega) (by omega))
    have hoD : (⟨t.recs ++ [x], t.sure, a10, c10⟩ : LogA).own WF.drew w.heap.size WF.drew.heap.size := hoF.below (Below.refl _ _).drew
    have HF : Hid (_ ∧ _ ∧ _) := ⟨HFV.out, hoD, hbF.drew⟩
    clear hoD
    have HS : Hid (∀ u, Within (w.heap.size + 1 + 1) (w.heap.size + 1 + 1 + 1) W11 u → (u.cell? ⟨w1.heap.size, 0, none⟩ = some (.slice a10 (t.recs.length + 1) c10) ∧ u.cell? ⟨w1.heap.size, 1, none⟩ = some (.int .i64 t.sure)) ∧ u.cell? ⟨w3.heap.size, 0, none⟩ = some (.int .i64 x.lsn)) := fun u hu => ⟨⟨(k6b.within hu (by omega)).cell 0 _ rfl, (k6b.within hu (by omega)).cell 1 _ rfl⟩, (z11.within hu (by omega)).cell 0 _ rfl⟩
    have m0 := k2b.cell 0 _ rfl
    have m1 := k2b.cell 1 _ rfl
    have mf0 := k2b.frozen 0
    have mf1 := k2b.frozen 1
    have HSF : Hid _ := HS.out WF.drew (hwF.trans (Within.of_below (Below.refl _ _).drew))
    have HLN : Hid (x.lsn = (l.recs.length : Int) + 1) := HX0
    clear hwF hsF bF hoF hbF oRow k6b z11 k2b
    refine wp_region_held_drew (S := fun u => (u.cell? ⟨w1.heap.size, 0, none⟩ = some (.slice a10 (t.recs.length + 1) c10) ∧ u.cell? ⟨w1.heap.size, 1, none⟩ = some (.int .i64 t.sure)) ∧ u.cell? ⟨w3.heap.size, 0, none⟩ = some (.int .i64 x.lsn)) (by kernel_rfl) ?_ (fun hHeld => ?_)
    ·exact HS.out _ (Within.of_below (Below.refl _ _).drew)
    refine tk 0 (v := .agg #[.slice a10 (t.recs.length + 1) c10, .int .i64 t.sure]) rfl (Or.inl ⟨by rfl, ?_⟩) hHeld ?_
    ·intro w' hSw
     have hx0 := hSw.1.1
     have hx1 := hSw.1.2
     go_simp <;> rfl
    try simp only [Act.put, zA, zB, zD, zE, zF]
    refine tk 1 (v := .pointer (some ⟨w3.heap.size, 0, none⟩)) rfl (Or.inl ⟨by rfl, ?_⟩) hHeld ?_
    ·intro w' hSw
     go_simp <;> rfl
    try simp only [Act.put, zA, zB, zC, zD, zE, zF]
    refine tk 2 (v := .int .i64 x.lsn) rfl (Or.inl ⟨by rfl, ?_⟩) hHeld ?_
    ·intro w' hSw
     have hx0 := hSw.2
     go_simp <;> rfl
    try simp only [Act.put, zA, zB, zC, zD, zE, zF]
    refine wpAnyH_ready (rs := [3]) (by kernel_rfl) (by simp) ?_
    refine AllReadyH.cons rfl (fun K hK => ?_) AllReadyH.nil
    go_simp
    rw [hWF.out]
    refine hK.out _ _ (HSF.out) (fun hHeld => ?_)
    clear hK K
    try simp only [Act.put, zA, zB, zC, zD, zE, zF]
    refine tk 4 (v := .int .i64 x.lsn) rfl (Or.inl ⟨by rfl, ?_⟩) hHeld ?_
    ·intro w' hSw
     go_simp <;> rfl
    try simp only [Act.put, zA, zB, zC, zD, zE, zF]
    refine wpAnyH_done (by kernel_rfl) ?_ _
    clear m0 m1 mf0 mf1 hWF
    go_wp2
    exact bodyPost_ret (v := .tuple #[.agg #[.slice a10 (t.recs.length + 1) c10, .int .i64 t.sure], .int .i64 x.lsn]) (by simp [results, Tryz.results16, go_sem, q0, q1]) rfl ⟨⟨t.recs ++ [x], t.sure, a10, c10⟩, x.lsn, by simp, by rw [Hid, HAP'.out, HF.out.1, HLN.out], HF.out.2.1, HF.out.2.2⟩
end Go.Proofs.YtoboickdkednkaaGreatDoor
namespace Go.Proofs.YtoboickdkednkaaGreatDoor
open Go.RowKit
attribute [local go_sem ↓] Go.wp_at_zero Go.wp_at_succ
theorem copyRec_own (r : RecA) (w : World) (hr : r.reads w) (hl : r.short 1099511627776) (hc : r.aL = none → r.cL = 0) :
  Calls Tryz.prog 62 #[.agg r.cells.toArray] w fun e w' => ∃ t : RecA, e = .returned (.agg t.cells.toArray) ∧ Hid (t.v = r.v) ∧ t.own w' w.heap.size w'.heap.size ∧ Below w.heap.size w w' := by
 obtain ⟨W, hW, b0, b1, hbW, hsW⟩ := boxes2 w r.cells [.int .i64 0, .int .i64 0, .int .i64 0, .int .i64 0, .int .i64 0, .bool false, .int .i64 0, .slice none 0 0, .slice none 0 0, .bool false, .int .i64 0, .slice none 0 0, .slice none 0 0, .int .i64 0, .slice none 0 0] 39 39
 have hs0 : w.heap.size + 1 < W.heap.size := by omega
 clear hsW
 have HC1 : Hid (∀ u, Below W.heap.size W u → Calls _ _ _ _ _) := fun u hu => copySlot_own r.bf u (ReadsO.below hr.bf (hbW.trans (hu.mono (by omega)))) hl.bf.1 hl.bf.2
 have HC2 : Hid (∀ u, Below W.heap.size W u → Calls _ _ _ _ _) := fun u hu => copySlot_own r.af u (ReadsO.below hr.af (hbW.trans (hu.mono (by omega)))) hl.af.1 hl.af.2
 have HC : Hid (r.aL = none → r.cL = 0) := hc
 have HWV : Hid (∀ (t1 t2 : SlotA) (aL : Option Addr) (cL : Nat), t1.v = r.bf.v → t2.v = r.af.v → (r.with t1 t2 aL cL).v = r.v) := fun t1 t2 aL cL h1 h2 => with_v h1 h2
 have HWC : Hid (∀ (t1 t2 : SlotA) (aL : Option Addr) (cL : Nat), (r.with t1 t2 aL cL).cells = [.int .i64 r.lsn, .int .i64 r.tx, .int .i64 r.prev, .int .i64 r.kind, .int .i64 r.oid, .bool t1.v.has, .int .i64 t1.v.o.kind, .slice t1.aI t1.v.o.ints.length t1.cI, .slice t1.aR t1.v.o.refs.length t1.cR, .bool t2.v.has, .int .i64 t2.v.o.kind, .slice t2.aI t2.v.o.ints.length t2.cI, .slice t2.aR t2.v.o.refs.length t2.cR, .int .i64 r.next, .slice aL r.txs.length cL]) := fun _ _ _ _ => rfl
 simp only [RecA.cells] at b0 hW ⊢
 simp only [SlotA.cells] at HC1 HC2
 clear hc
 go_enter Tryz.func62, Tryz.ntmps62
 go_wp2_with fail
 rw [hW.out]
 clear hW
 have x5 := b0.cell 5 _ rfl
 have x6 := b0.cell 6 _ rfl
 have x7 := b0.cell 7 _ rfl
 have x8 := b0.cell 8 _ rfl
 have x9 := b0.cell 9 _ rfl
 have x10 := b0.cell 10 _ rfl
 have x11 := b0.cell 11 _ rfl
 have x12 := b0.cell 12 _ rfl
 have HBX : Hid (∀ u, Below W.heap.size W u → Box u w.heap.size _ _) := fun u hu => b0.below hu b0.lt
 have HBY : Hid (∀ u, Below W.heap.size W u → Box u (w.heap.size + 1) _ _) := fun u hu => b1.below hu b1.lt
 clear b0 b1
 go_region_law ((first
  | (go_simp; go_at_call 85; refine (HC1.out _ (Below.refl _ _).drew).mono ?_; clear HC1; rintro e u1 ⟨t1, rfl, hv1, ho1, hb1⟩; have hb1' := (Below.refl W.heap.size W).drew.trans hb1; have z9 := (HBX.out u1 hb1').cell 9 _ rfl; have z10 := (HBX.out u1 hb1').cell 10 _ rfl; have z11 := (HBX.out u1 hb1').cell 11 _ rfl; have z12 := (HBX.out u1 hb1').cell 12 _ rfl)
  | (go_simp; go_at_call 85; refine (HC2.out _ hb1').mono ?_; clear HC2; rintro e u2 ⟨t2, rfl, hv2, ho2, hb2⟩; have hb2' := hb1'.trans (hb2.mono hb1'.size); have y5 := (HBX.out u2 hb2').cell 5 _ rfl; have y6 := (HBX.out u2 hb2').cell 6 _ rfl; have y7 := (HBX.out u2 hb2').cell 7 _ rfl; have y8 := (HBX.out u2 hb2').cell 8 _ rfl; have y9 := (HBX.out u2 hb2').cell 9 _ rfl; have y10 := (HBX.out u2 hb2').cell 10 _ rfl; have y11 := (HBX.out u2 hb2').cell 11 _ rfl; have y12 := (HBX.out u2 hb2').cell 12 _ rfl; have g5 := (HBX.out u2 hb2').frozen 5; have g6 := (HBX.out u2 hb2').frozen 6; have g7 := (HBX.out u2 hb2').frozen 7; have g8 := (HBX.out u2 hb2').frozen 8; have g9 := (HBX.out u2 hb2').frozen 9; have g10 := (HBX.out u2 hb2').frozen 10; have g11 := (HBX.out u2 hb2').frozen 11; have g12 := (HBX.out u2 hb2').frozen 12)
  | fail))
 all_goals
  have hs1 := hb1'.size
  have hs2 := hb2.size
  have b02 := HBX.out u2 hb2'
  have b12 := HBY.out u2 hb2'
  have hB2 : Below w.heap.size w u2 := hbW.trans (hb2'.mono (by omega))
  have ho12 : t1.own u2 W.heap.size u1.heap.size := OwnO.below ho1 hb2
  obtain ⟨Wa, hWa, b0a, hwa, hsa⟩ := box_quad b02 5 6 7 8 (.bool t1.v.has) (.int .i64 t1.v.o.kind) (.slice t1.aI t1.v.o.ints.length t1.cI) (.slice t1.aR t1.v.o.refs.length t1.cR)
  obtain ⟨Wb, hWb, b0b, hwb, hsb⟩ := box_quad b0a 9 10 11 12 (.bool t2.v.has) (.int .i64 t2.v.o.kind) (.slice t2.aI t2.v.o.ints.length t2.cI) (.slice t2.aR t2.v.o.refs.length t2.cR)
  have hsaa := Nat.le_of_eq hsa
  have hsab := Nat.le_of_eq hsa.symm
  have hsba := Nat.le_of_eq hsb
  have hsbb := Nat.le_of_eq hsb.symm
  simp only [List.set] at b0b
  rw [hWa.out, hWb.out]
  have b1b := (b12.within hwa (by omega)).within hwb (by omega)
  have hoA := OwnO.within (OwnO.within ho12 hwa (.inr (by omega))) hwb (.inr (by omega))
  have hoB := OwnO.within (OwnO.within ho2 hwa (.inr (by omega))) hwb (.inr (by omega))
  have hB4 : Below w.heap.size w Wb := (hB2.trans (hwa.below (by omega) (by omega))).trans (hwb.below (by omega) (by omega))
  clear hWa hWb b02 b12 b0a hwa hwb hsa hsb ho1 ho2 ho12 hb1 hb2 hb1' hb2' x5 x6 x7 x8 x9 x10 x11 x12 z9 z10 z11 z12 y5 y6 y7 y8 y9 y10 y11 y12 g5 g6 g7 g8 g9 g10 g11 g12 HBX HBY hB2
  have x14 := b0b.cell 14 _ rfl
  have hA1 : ([] : List LiveV).length + r.txs.length ≤ 1099511627776 := by have := hl.txs; simp only [List.length_nil]; omega
  have hrt : ReadsL Wb r.aL r.txs := hr.txs.below hB4
  have oE := ownL_nil Wb Wb.heap.size Wb.heap.size (Nat.le_refl _)
  go_wp2_with (at_builtin; refine append_lives rfl _ _ rfl Wb.heap.size _ none 0 [] rfl oE r.aL r.cL r.txs rfl hrt HC.out hA1 (Nat.le_refl _) ?_)
  intro aL cL ys w6 hys o6 g6
  have hw6 : Within Wb.heap.size Wb.heap.size Wb w6 := Within.of_grown g6 (fun j hj => by cases hj)
  have hs6 := hw6.size
  have b06 := b0b.within hw6 (by omega)
  have b16 := b1b.within hw6 (by omega)
  have hoA6 := OwnO.within hoA hw6 (.inl (by omega))
  have hoB6 := OwnO.within hoB hw6 (.inl (by omega))
  have hB6 : Below w.heap.size w w6 := hB4.trans (hw6.below (by omega) (by omega))
  obtain rfl : ys = r.txs := hys.out.trans (List.nil_append _)
  clear hys g6 hw6 oE b0b b1b hoA hoB x14 hrt
  have HAP : Hid ((t1.blocks ++ (t2.blocks ++ (Value.slice aL r.txs.length cL).ownBlock.toList)).Nodup) := rec_apart (c := Wb.heap.size) hoA6 (OwnO.widen hoB6 (Nat.le_refl _) (show _ ≤ Wb.heap.size by omega) (by omega)) o6 (by omega)
  have x14 := b06.cell 14 _ rfl
  have f14 := b06.frozen 14
  obtain ⟨W7, hW7, b07, hw7, hs7⟩ := box_set b06 14 (.slice aL r.txs.length cL)
  have hs7a := Nat.le_of_eq hs7
  have hs7b := Nat.le_of_eq hs7.symm
  clear hs7
  simp only [List.set] at b07
  have b17 := b16.within hw7 (by omega)
  have b07' : Box W7 w.heap.size (r.with t1 t2 aL cL).cells 39 := by rw [HWC.out]; exact b07
  have hoA7 := OwnO.within hoA6 hw7 (.inr (by omega))
  have hoB7 := OwnO.within hoB6 hw7 (.inr (by omega))
  have o7 := o6.within hw7 (.inr (by omega))
  have hB7 : Below w.heap.size w W7 := hB6.trans (hw7.below (by omega) (by omega))
  clear hw7 b06 b16 hoA6 hoB6 o6
  go_upto_region 3 with fail
  rw [hW7.out]
  clear x14 f14 hW7
  obtain ⟨WF, hWF, hwF, hsF, HTF, HLF, bF⟩ := rec_out (r.with t1 t2 aL cL) _ rfl b17
  have hsFa := Nat.le_of_eq hsF
  have hsFb := Nat.le_of_eq hsF.symm
  clear hsF
  have hoF : (r.with t1 t2 aL cL).own WF w.heap.size WF.heap.size := ⟨OwnO.widen (OwnO.within hoA7 hwF (.inr (by omega))) (by omega) (by omega) (Nat.le_refl _), OwnO.widen (OwnO.within hoB7 hwF (.inr (by omega))) (by omega) (by omega) (Nat.le_refl _), (o7.within hwF (.inr (by omega))).widen (by omega) (by omega) (Nat.le_refl _), HAP.out⟩
  have hbF : Below w.heap.size w WF := hB7.trans (hwF.below (by omega) (by omega))
  have HF : Hid (_ ∧ _ ∧ _) := ⟨HWV.out t1 t2 aL cL hv1.out hv2.out, hoF, hbF⟩
  have rT : W7.rangeAt w.heap.size 0 (r.with t1 t2 aL cL).cells := Box.range [] _ [] (by simpa using b07')
  clear hoF hbF bF hwF b07 b07' b17 hoA7 hoB7 o7 HAP HWC HWV
  generalize r.with t1 t2 aL cL = TT at *
  go_wp2_with (first | (guard_target = wpList _ _ _ (Oper.mk (some 15) _ _ _ _ _ :: _) _ _; refine wpList_load_mid rfl 39 (.tmp 1) rfl w.heap.size 0 rfl TT.cells _ rT Tryz.underlying39 rfl (rec_info _) ?_) | (guard_target = wpList _ _ _ (Oper.mk none (Op.store _ (Operand.tmp 2) _) _ _ _ _ :: _) _ _; refine wpList_store_mid rfl 39 (.tmp 2) (.tmp 15) rfl (w.heap.size + 1) 0 TT.cells.toArray rfl rfl HTF.out (rec_info _) (rec_one _) ?_) | fail)
  rw [hWF.out]
  exact bodyPost_ret (v := .agg TT.cells.toArray) (results_one Tryz.results62 rfl HLF.out) rfl ⟨TT, rfl, HF.out.1, HF.out.2.1, HF.out.2.2⟩
end Go.Proofs.YtoboickdkednkaaGreatDoor
namespace Go.Proofs.YtoboickdkednkaaGreatDoor
open Go.RowKit
theorem copyRecs_any (a : Option Addr) (cap : Nat) (rs : List RecA) (w : World) (hr : ReadsRs w a rs) (hl : rs.length ≤ 1048576) (hs : ∀ r ∈ rs, r.short 1099511627776) (hcp : ∀ r ∈ rs, r.aL = none → r.cL = 0) :
  Calls Tryz.prog 34 #[.slice a rs.length cap] w fun e w' => ∃ a' c' ts, e = .returned (.slice a' ts.length c') ∧ Hid (ts.map RecA.v = rs.map RecA.v) ∧ OwnRs w' w.heap.size w'.heap.size a' c' ts ∧ Below w.heap.size w w' := by
 obtain ⟨i0, hi, hz0, hz1, hz2⟩ := info_parts Tryz.infoRec
 have HJ : Hid ((Tryz.prog.info? 39).map (·.size) = some 15) := by rw [Hid]; kernel_rfl
 rcases hr.cases with rfl | ⟨b, off, rfl, hpos, hcell⟩
 ·have HO : Hid (OwnRs w w.heap.size w.heap.size none 0 []) := ownRs_nil w _ _ (Nat.le_refl _)
  go_enter Tryz.func34, Tryz.ntmps34
  go_wp2
  go_ret
  exact ⟨none, 0, [], rfl, rfl, HO.out, Below.refl _ _⟩
 ·have hbB : b < w.heap.size := rangeR_lt (hcell 0 hpos).1
  have hne : ((rs.length : Int) == 0) = false := by simp; intro h; rw [h] at hpos; simp at hpos
  go_enter Tryz.func34, Tryz.ntmps34
  go_wp2_with (at_make; refine wpList_make_full _ rfl _ _ 24 rfl w.heap.size 39 i0 (.agg zeroR.cells.toArray) 15 Tryz.underlying24 hi hz0 hz1 _ _ _ _ rs.length rfl rfl rfl rfl (by rw [hz2]; omega) (by simp [maxLen]; omega) (Nat.le_refl _) ?_)
  intro w0 hown0 hgrow0
  have hb0 : Below w.heap.size w w0 := (Below.refl _ _).grown hgrow0 (Nat.le_refl _) (fun k h => by cases h)
  have ho : w0.ownsRow w.heap.size 39 15 (.slice (some ⟨w.heap.size, 0, none⟩) rs.length rs.length) rs.length (cellsRs (List.replicate rs.length zeroR)) := by
   rw [← zero_cellsRs]
   exact hown0
  have HO : Hid (OwnRs w0 w.heap.size w0.heap.size (some ⟨w.heap.size, 0, none⟩) rs.length (List.replicate rs.length zeroR)) := own_zeroRs _ ho (Nat.le_refl _) (ho.lt _ rfl).2
  clear hown0 hgrow0 ho
  go_wp2
  go_loopw [14] (fun i wr => ∃ (k : Nat) (ts : List RecA), k ≤ rs.length ∧ i = .int .i64 k ∧ Hid (Came rs ts k) ∧ Hid (OwnRs wr w.heap.size wr.heap.size (some ⟨w.heap.size, 0, none⟩) rs.length (ts ++ List.replicate (rs.length - k) zeroR)) ∧ Below w.heap.size w wr)
   (fun i _ => rs.length - (intOf i).toNat)
  case atStart => exact ⟨0, [], Nat.zero_le _, rfl, came_none rs, HO, hb0⟩
  case round =>
   obtain ⟨k, ts, hk, rfl, hc, hown, hnx⟩ := hrel
   by_cases hlt : k < rs.length
   ·obtain ⟨c0, c1⟩ := hcell k hlt
    have HR : Hid (wr.rangeAt b (off + k * 15) (rs.getD k zeroR).cells) := rangeAt_below c0 hnx hbB
    have hrd : (rs.getD k zeroR).reads wr := c1.below hnx
    have hsh : (rs.getD k zeroR).short 1099511627776 := hs _ (recD_mem rs k hlt)
    have hnc := hcp _ (recD_mem rs k hlt)
    have HS : Hid (∀ q : RecA, q.v = (rs.getD k zeroR).v → Came rs (ts ++ [q]) (k + 1)) := fun q hq => hc.out.snoc hlt hq
    have HP : Hid (ts ++ List.replicate (rs.length - k) zeroR = ts ++ zeroR :: List.replicate (rs.length - (k + 1)) zeroR ∧ (ts ++ zeroR :: List.replicate (rs.length - (k + 1)) zeroR).length = rs.length ∧ ts.length = k) := by
     have e : rs.length - k = (rs.length - (k + 1)) + 1 := by omega
     refine ⟨by rw [e, List.replicate_succ], ?_, hc.out.1⟩
     have := hc.out.1
     simp
     omega
    clear c0 c1 hcell hb0 HO hs hcp
    generalize rs.getD k zeroR = z at *
    obtain ⟨W1, hW1, b1, hb1, hs1⟩ := boxes1 wr [.int .i64 0, .int .i64 0, .int .i64 0, .int .i64 0, .int .i64 0, .bool false, .int .i64 0, .slice none 0 0, .slice none 0 0, .bool false, .int .i64 0, .slice none 0 0, .slice none 0 0, .int .i64 0, .slice none 0 0] 39
    obtain ⟨W2, hW2, hw2, hs2, HT2, _, b2⟩ := rec_out z _ rfl b1
    have B2 : Below wr.heap.size wr W2 := hb1.trans (hw2.below (Nat.le_refl _) (by omega))
    have R2 : Hid (W2.rangeAt wr.heap.size 0 z.cells) := Box.range [] z.cells [] (by simpa using b2)
    have C := copyRec_own z W2 (hrd.below B2) hsh hnc
    have N2 : Below w.heap.size w W2 := hnx.trans (B2.mono hnx.size)
    have O2 : Hid _ := hown.out.below B2
    have hOz := rec_one z
    have hsw2 := B2.size
    have hszw := hnx.size
    clear hs1 hs2 b1 b2 hb1 hw2 hrd hsh hnc hown hnx B2
    go_wp2_with (first | (guard_target = wpList _ _ _ (Oper.mk (some 18) _ _ _ _ _ :: _) _ _; refine wpList_load_mid rfl 39 (.tmp 17) rfl b (off + k * 15) rfl z.cells _ HR.out Tryz.underlying39 rfl HJ.out ?_) | (guard_target = wpList _ _ _ (Oper.mk none (Op.store _ (Operand.tmp 5) _) _ _ _ _ :: _) _ _; refine wpList_store_mid rfl 39 (.tmp 5) (.tmp 18) rfl wr.heap.size 0 z.cells.toArray rfl rfl (by rw [hW1.out]; exact HT2.out) HJ.out hOz ?_) | (guard_target = wpList _ _ _ (Oper.mk (some 21) _ _ _ _ _ :: _) _ _; refine wpList_load_mid rfl 39 (.tmp 5) rfl wr.heap.size 0 rfl z.cells _ (by rw [hW1.out, hW2.out]; exact R2.out) Tryz.underlying39 rfl HJ.out ?_) | fail)
    rw [hW1.out, hW2.out]
    refine C.mono ?_
    clear C HR hW1 hW2 HT2 R2 hOz
    rintro e w3 ⟨q, rfl, hq, hqo, hb3⟩
    have hs3 := hb3.size
    have ho1 := O2.out.below hb3
    rw [HP.out.1] at ho1
    obtain ⟨W4, hW4, ho4, ht4, hs4⟩ := ho1.fill q hqo (by omega) (by omega) (Nat.le_refl _)
    rw [HP.out.2.2] at hW4
    have HT : Hid (w3.there w.heap.size (k * 15) 15) := (row_rec ho1.row rfl k (by rw [HP.out.2.1]; exact hlt)).2
    have hB4 : Below w.heap.size w W4 := (N2.trans (hb3.mono (by omega))).trans ((ht4.within (lo := w.heap.size) (hi := w.heap.size + 1) (fun j hj => by obtain rfl := List.mem_singleton.1 hj; omega)).below (Nat.le_refl _) (by omega))
    have HH : Hid (OwnRs W4 w.heap.size W4.heap.size (some ⟨w.heap.size, 0, none⟩) rs.length ((ts ++ [q]) ++ List.replicate (rs.length - (k + 1)) zeroR)) := by
     have := ho4.widen (Nat.le_refl _) (show max wr.heap.size w3.heap.size ≤ W4.heap.size by omega) (Nat.le_refl _)
     rw [List.append_assoc, List.singleton_append]
     exact this
    have HB : Hid _ := hB4
    have HC := HS.out q hq.out
    have HO1 := rec_one q
    clear ho1 ho4 ht4 hs4 hB4 hqo hb3 N2 O2 hq HS hs3 hsw2 hszw
    go_wp2_with (first | (guard_target = wpList _ _ _ (Oper.mk none (Op.store _ (Operand.tmp 23) _) _ _ _ _ :: _) _ _; refine wpList_store_mid rfl 39 (.tmp 23) (.tmp 22) rfl w.heap.size (k * 15) q.cells.toArray rfl rfl HT.out HJ.out HO1 ?_) | fail)
    rw [hW4.out]
    go_roundw
    case rel => exact ⟨k + 1, ts ++ [q], by omega, by go_num, HC, HH, HB.out⟩
    case measure => simp [intOf]; omega
   ·have HE : Hid (ts.map RecA.v = rs.map RecA.v ∧ OwnRs wr w.heap.size wr.heap.size (some ⟨w.heap.size, 0, none⟩) rs.length ts ∧ ts.length = rs.length) := by
     have e : k = rs.length := by omega
     rw [e] at hown hc
     rw [Nat.sub_self, List.replicate_zero, List.append_nil] at hown
     exact ⟨hc.out.all, hown.out, hc.out.1⟩
    go_wp2
    go_ret
    exact ⟨some ⟨w.heap.size, 0, none⟩, rs.length, ts, by rw [HE.out.2.2]; rfl, HE.out.1, HE.out.2.1, hnx⟩
theorem OwnRs.caps {w : World} {lo hi : Nat} {a : Option Addr} {c : Nat} {rs : List RecA} (h : OwnRs w lo hi a c rs) : ∀ r ∈ rs, r.aL = none → r.cL = 0 := fun r hr => (h.each r hr).txs.nocap
theorem copyLog_any (l : LogA) (w : World) (hr : l.reads w) (hl : l.short 1048576) (hcp : ∀ r ∈ l.recs, r.aL = none → r.cL = 0) :
  Calls Tryz.prog 32 #[.agg l.cells.toArray] w fun e w' => ∃ t : LogA, e = .returned (.agg t.cells.toArray) ∧ Hid (t.v = l.v) ∧ t.own w' w.heap.size w'.heap.size ∧ Below w.heap.size w w' := by
 obtain ⟨rs, s, a, c⟩ := l
 obtain ⟨hl1, hl2⟩ := LogA.short_wide hl
 have hl0 := hl.len
 simp only [LogA.reads, LogA.cells, LogA.own] at *
 obtain ⟨W, hW, b0, b1, hbW, hsW⟩ := boxes2 w [.slice a rs.length c, .int .i64 s] [.slice none 0 0, .int .i64 0] 26 26
 have hs0 : w.heap.size + 1 < W.heap.size := by omega
 clear hsW
 have HC : Hid (∀ u, Below W.heap.size W u → Calls _ _ _ _ _) := fun u hu => copyRecs_any a c rs u (hr.below (hbW.trans (hu.mono (by omega)))) hl0 hl2 hcp
 have HBX : Hid (∀ u, Below W.heap.size W u → Box u w.heap.size _ _) := fun u hu => b0.below hu b0.lt
 have HBY : Hid (∀ u, Below W.heap.size W u → Box u (w.heap.size + 1) _ _) := fun u hu => b1.below hu b1.lt
 have x0 := b0.cell 0 _ rfl
 have x1 := b0.cell 1 _ rfl
 clear b0 b1 hr hl hl0 hl1 hl2 hcp
 go_enter Tryz.func32, Tryz.ntmps32
 go_wp2_with fail
 rw [hW.out]
 clear hW
 go_region_law ((first
  | (go_simp; go_at_call 34; refine (HC.out _ (Below.refl _ _).drew).mono ?_; clear HC; rintro e u1 ⟨a', c', ts, rfl, hv1, ho1, hb1⟩; have hb1' := (Below.refl W.heap.size W).drew.trans hb1; have z1 := (HBX.out u1 hb1').cell 1 _ rfl; have y0 := (HBY.out u1 hb1').cell 0 _ rfl; have y1 := (HBY.out u1 hb1').cell 1 _ rfl; have g0 := (HBY.out u1 hb1').frozen 0; have g1 := (HBY.out u1 hb1').frozen 1)
  | fail))
 all_goals
  have hs1 := hb1'.size
  obtain ⟨WF, hWF, bF, hwF, hsF⟩ := box2_fill (HBY.out u1 hb1') (.slice a' ts.length c') (.int .i64 s)
  have q0 := bF.cell 0 _ rfl
  have q1 := bF.cell 1 _ rfl
  have ho1' : OwnRs u1 W.heap.size u1.heap.size a' c' ts := ho1
  have hoF := (ho1'.within hwF (.inr (by omega))).widen (show w.heap.size ≤ W.heap.size by omega) (show u1.heap.size ≤ WF.heap.size by omega) (Nat.le_refl _)
  have hbF : Below w.heap.size w WF := (hbW.trans (hb1'.mono (by omega))).trans (hwF.below (by omega) (by omega))
  rw [hWF.out]
  clear hwF hsF bF ho1 ho1' z1 y0 y1 g0 g1
  go_wp2
  exact bodyPost_ret (v := .agg #[.slice a' ts.length c', .int .i64 s]) (by simp [results, Tryz.results32, go_sem, q0, q1]) rfl ⟨⟨ts, s, a', c'⟩, rfl, by simp only [Hid, LogA.v]; rw [hv1.out], hoF, hbF⟩
end Go.Proofs.YtoboickdkednkaaGreatDoor
namespace Go.Proofs.YtoboickdkednkaaGreatDoor
open Go.RowKit
def sameL (a b : LiveV) : Bool := decide (a.tx = b.tx) && (decide (a.last = b.last) && (a.aborts == b.aborts))
theorem sameL_iff {a b : LiveV} : sameL a b = true ↔ a = b := by
 obtain ⟨a1, a2, a3⟩ := a
 obtain ⟨b1, b2, b3⟩ := b
 simp [sameL]
def sameLs (xs ys : List LiveV) : Bool := decide (xs.length = ys.length) && (List.range xs.length).all fun k => sameL (xs.getD k zeroL) (ys.getD k zeroL)
theorem sameLs_len {xs ys : List LiveV} (h : ¬ xs.length = ys.length) : sameLs xs ys = false := by simp [sameLs, h]
theorem sameLs_no {xs ys : List LiveV} (k : Nat) (hk : k < xs.length) (h : sameL (xs.getD k zeroL) (ys.getD k zeroL) = false) : sameLs xs ys = false := by
 have : ((List.range xs.length).all fun k => sameL (xs.getD k zeroL) (ys.getD k zeroL)) = false := by
  rw [List.all_eq_false]
  exact ⟨k, List.mem_range.2 hk, by rw [h]; decide⟩
 unfold sameLs
 rw [this, Bool.and_false]
theorem sameLs_all {xs ys : List LiveV} (hl : xs.length = ys.length) (h : ∀ k, k < xs.length → sameL (xs.getD k zeroL) (ys.getD k zeroL) = true) : sameLs xs ys = true := by
 have : ((List.range xs.length).all fun k => sameL (xs.getD k zeroL) (ys.getD k zeroL)) = true := by
  rw [List.all_eq_true]
  exact fun k hk => h k (List.mem_range.1 hk)
 unfold sameLs
 rw [this, Bool.and_true]
 exact decide_eq_true hl
theorem sameLs_refl (xs : List LiveV) : sameLs xs xs = true := sameLs_all rfl (fun _ _ => sameL_iff.2 rfl)
theorem sameLs_nil (xs : List LiveV) : sameLs [] xs = decide (xs.length = 0) := by
 cases xs with
 | nil => rfl
 | cons x r => rw [sameLs_len (by simp)]; simp
theorem run_neq_live (a b : LiveV) (w : World) : (binOp .neq 112 (.agg #[.int .i64 a.tx, .int .i64 a.last, .bool a.aborts]) (.agg #[.int .i64 b.tx, .int .i64 b.last, .bool b.aborts])).run Tryz.prog w = .ok (.bool (!sameL a b)) w := by
 obtain ⟨a1, a2, a3⟩ := a
 obtain ⟨b1, b2, b3⟩ := b
 have hp : Tryz.prog.stoodInHeld 112 = false := by kernel_rfl
 by_cases h1 : a1 = b1 <;> by_cases h2 : a2 = b2 <;> cases a3 <;> cases b3 <;> go_simp <;> simp_all [sameL]
theorem equalLives_any (a b : Option Addr) (ca cb : Nat) (xs ys : List LiveV) (w : World) (ha : ReadsL w a xs) (hb : ReadsL w b ys) (hl : xs.length ≤ 1099511627776) (hl2 : ys.length ≤ 1099511627776) :
  Calls Tryz.prog 94 #[.slice a xs.length ca, .slice b ys.length cb] w fun e w' => e = .returned (.bool (sameLs xs ys)) ∧ ∃ n, w' = w.drewN n := by
 by_cases hle : xs.length = ys.length
 case neg =>
  have HE : Hid (_ = _) := sameLs_len hle
  have hle' : ((xs.length : Int) == (ys.length : Int)) = false := by simp; omega
  go_enter Tryz.func94, Tryz.ntmps94
  go_wp2
  go_ret
  exact ⟨ret_bool HE.out.symm, 0, rfl⟩
 case pos =>
 have HL : Hid (xs.length = ys.length) := hle
 have hle' : ((xs.length : Int) == (ys.length : Int)) = true := by simp; omega
 rcases ha.cases with rfl | ⟨b1, o1, rfl, hpos, hc1⟩
 ·obtain rfl : ys = [] := List.length_eq_zero_iff.1 (by simpa using hle.symm)
  have HE : Hid (sameLs [] [] = true) := rfl
  clear hle hle' HL
  go_enter Tryz.func94, Tryz.ntmps94
  go_wp2
  refine wp_loop_rounds 1 ?_
  rw [rounds_succ]
  go_wp2
  go_ret
  exact ⟨ret_bool HE.out.symm, 0, rfl⟩
 ·rcases hb.cases with rfl | ⟨b2, o2, rfl, _, hc2⟩
  ·simp at hle; simp [hle] at hpos
  ·clear hle
   go_enter Tryz.func94, Tryz.ntmps94
   go_wp2
   go_loopw [13] (fun i wr => ∃ k : Nat, k ≤ xs.length ∧ i = .int .i64 k ∧ Hid (∀ t, t < k → sameL (xs.getD t zeroL) (ys.getD t zeroL) = true) ∧ ∃ n, wr = w.drewN n) (fun i _ => xs.length - (intOf i).toNat)
   case atStart => exact ⟨0, Nat.zero_le _, rfl, fun t ht => by omega, 0, rfl⟩
   case round =>
    obtain ⟨k, hk, rfl, hall, n, rfl⟩ := hrel
    by_cases hlt : k < xs.length
    ·obtain ⟨h10, h11, h12⟩ := hc1 k hlt
     obtain ⟨h20, h21, h22⟩ := hc2 k (by have := HL.out; omega)
     have hlt2 : (k : Int) < (ys.length : Int) := by have := HL.out; omega
     have hnl := run_neq_live (xs.getD k zeroL) (ys.getD k zeroL)
     clear hc1 hc2
     cases hz : sameL (xs.getD k zeroL) (ys.getD k zeroL) with
     | true =>
      have HN : Hid (∀ t, t < k + 1 → sameL (xs.getD t zeroL) (ys.getD t zeroL) = true) := by
       intro t ht
       by_cases e : t = k
       ·rw [e]; exact hz
       ·exact hall.out t (by omega)
      rw [hz] at hnl
      clear hz
      generalize xs.getD k zeroL = z at *
      generalize ys.getD k zeroL = y at *
      go_wp2
      go_quiet (fail)
      go_wp2
      go_roundw
      case rel => exact ⟨k + 1, by omega, by go_num, HN, _, rfl⟩
      case measure => simp [intOf]; omega
     | false =>
      have HE : Hid (_ = _) := sameLs_no k hlt hz
      rw [hz] at hnl
      clear hz
      generalize xs.getD k zeroL = z at *
      generalize ys.getD k zeroL = y at *
      go_wp2
      go_quiet (fail)
      go_wp2
      go_ret
      exact ⟨ret_bool HE.out.symm, n + nq, by first | rfl | simp⟩
    ·have HE : Hid (_ = _) := sameLs_all HL.out (fun t ht => hall.out t (by omega))
     go_wp2
     go_ret
     exact ⟨ret_bool HE.out.symm, n, rfl⟩
def sameS (a b : SlotV) : Bool := (a.has == b.has) && sameO a.o b.o
theorem implSameSlot_any (s t : SlotA) (w : World) (hs : s.reads w) (ht : t.reads w) (hls : Fit [s]) (hlt : Fit [t]) :
  Calls Tryz.prog 93 #[.agg s.cells.toArray, .agg t.cells.toArray] w fun e w' => e = .returned (.bool (sameS s.v t.v)) ∧ Below w.heap.size w w' := by
 obtain ⟨h1, h2⟩ := hls s (List.mem_singleton.2 rfl)
 obtain ⟨h3, h4⟩ := hlt t (List.mem_singleton.2 rfl)
 obtain ⟨W, hW, b0, b1, hbW, hsW⟩ := boxes2 w s.cells t.cells 36 36
 have C1 := implSameObj_any s.v.o t.v.o s.aI s.cI s.aR s.cR t.aI t.cI t.aR t.cR W (ReadsO.below hs hbW) (ReadsO.below ht hbW) h1 h2 h3 h4
 have HZ : Hid (sameS s.v t.v = ((s.v.has == t.v.has) && sameO s.v.o t.v.o)) := rfl
 generalize sameS s.v t.v = R at *
 simp only [SlotA.cells] at *
 obtain ⟨x0, x1, x2, x3, _⟩ := b0.four
 obtain ⟨y0, y1, y2, y3, _⟩ := b1.four
 clear hsW b0 b1
 cases hb : (s.v.has == t.v.has) with
 | false =>
  have HR : Hid (R = false) := by rw [Hid, HZ.out]; simp [hb]
  clear HZ C1
  go_enter Tryz.func93, Tryz.ntmps93
  go_wp2
  go_ret
  exact ⟨ret_bool HR.out.symm, by rw [hW.out]; exact hbW⟩
 | true =>
  have HR : Hid (R = sameO s.v.o t.v.o) := by rw [Hid, HZ.out]; simp [hb]
  clear HZ
  go_enter Tryz.func93, Tryz.ntmps93
  go_wp2_with fail
  rw [hW.out]
  refine C1.mono ?_
  clear C1 x0 x1 x2 x3 y0 y1 y2 y3
  rintro e w1 ⟨rfl, hb1⟩
  go_wp2
  go_ret
  exact ⟨ret_bool HR.out.symm, hbW.trans (hb1.mono hbW.size)⟩
def sameR (r t : RecV) : Bool := ((r.lsn == t.lsn) && ((r.tx == t.tx) && ((r.prev == t.prev) && ((r.kind == t.kind) && ((r.oid == t.oid) && (sameS r.bf t.bf && (sameS r.af t.af && ((r.next == t.next) && sameLs r.txs t.txs))))))))
theorem sameRec_any (r t : RecA) (w : World) (hr : r.reads w) (ht : t.reads w) (hlr : r.short 1099511627776) (hlt : t.short 1099511627776) :
  Calls Tryz.prog 68 #[.agg r.cells.toArray, .agg t.cells.toArray] w fun e w' => e = .returned (.bool (sameR r.v t.v)) ∧ Below w.heap.size w w' := by
 obtain ⟨W, hW, b0, b1, hbW, hsW⟩ := boxes2 w r.cells t.cells 39 39
 have HZ : Hid (sameR r.v t.v = ((r.lsn == t.lsn) && ((r.tx == t.tx) && ((r.prev == t.prev) && ((r.kind == t.kind) && ((r.oid == t.oid) && (sameS r.bf.v t.bf.v && (sameS r.af.v t.af.v && ((r.next == t.next) && sameLs r.txs t.txs))))))))) := rfl
 have HB : Hid (∀ u, Below w.heap.size w u → Calls _ _ _ _ _) := fun u hu => implSameSlot_any r.bf t.bf u (ReadsO.below hr.bf hu) (ReadsO.below ht.bf hu) (fun s hs => by obtain rfl := List.mem_singleton.1 hs; exact hlr.bf) (fun s hs => by obtain rfl := List.mem_singleton.1 hs; exact hlt.bf)
 have HA : Hid (∀ u, Below w.heap.size w u → Calls _ _ _ _ _) := fun u hu => implSameSlot_any r.af t.af u (ReadsO.below hr.af hu) (ReadsO.below ht.af hu) (fun s hs => by obtain rfl := List.mem_singleton.1 hs; exact hlr.af) (fun s hs => by obtain rfl := List.mem_singleton.1 hs; exact hlt.af)
 have HL : Hid (∀ u, Below w.heap.size w u → Calls _ _ _ _ _) := fun u hu => equalLives_any r.aL t.aL r.cL t.cL r.txs t.txs u (hr.txs.below hu) (ht.txs.below hu) hlr.txs hlt.txs
 have HX : Hid (∀ u, Below W.heap.size W u → Box u w.heap.size r.cells 39 ∧ Box u (w.heap.size + 1) t.cells 39) := fun u hu => ⟨b0.below hu b0.lt, b1.below hu b1.lt⟩
 generalize sameR r.v t.v = R at *
 clear hsW hr ht hlr hlt b0 b1
 simp only [RecA.cells, SlotA.cells] at *
 have l0 : Below W.heap.size W W := Below.refl _ _
 obtain ⟨x0, x1, x2, x3, x4, x5, x6, x7, x8, x9, x10, x11, x12, x13, x14⟩ := fifteen (HX.out W l0).1
 obtain ⟨y0, y1, y2, y3, y4, y5, y6, y7, y8, y9, y10, y11, y12, y13, y14⟩ := fifteen (HX.out W l0).2
 go_enter Tryz.func68, Tryz.ntmps68
 cases c0 : (r.lsn == t.lsn) with
 | false =>
  have HR : Hid (R = false) := by rw [Hid, HZ.out]; simp [c0]
  clear HZ
  go_wp2
  go_ret
  exact ⟨ret_bool HR.out.symm, by rw [hW.out]; exact hbW⟩
 | true =>
  cases c1 : (r.tx == t.tx) with
  | false =>
   have HR : Hid (R = false) := by rw [Hid, HZ.out]; simp [c0, c1]
   clear HZ
   go_wp2
   go_ret
   exact ⟨ret_bool HR.out.symm, by rw [hW.out]; exact hbW⟩
  | true =>
   cases c2 : (r.prev == t.prev) with
   | false =>
    have HR : Hid (R = false) := by rw [Hid, HZ.out]; simp [c0, c1, c2]
    clear HZ
    go_wp2
    go_ret
    exact ⟨ret_bool HR.out.symm, by rw [hW.out]; exact hbW⟩
   | true =>
    cases c3 : (r.kind == t.kind) with
    | false =>
     have HR : Hid (R = false) := by rw [Hid, HZ.out]; simp [c0, c1, c2, c3]
     clear HZ
     go_wp2
     go_ret
     exact ⟨ret_bool HR.out.symm, by rw [hW.out]; exact hbW⟩
    | true =>
     cases c4 : (r.oid == t.oid) with
     | false =>
      have HR : Hid (R = false) := by rw [Hid, HZ.out]; simp [c0, c1, c2, c3, c4]
      clear HZ
      go_wp2
      go_ret
      exact ⟨ret_bool HR.out.symm, by rw [hW.out]; exact hbW⟩
     | true =>
      go_wp2_with fail
      rw [hW.out]
      clear hW
      refine (HB.out W hbW).mono ?_
      clear x0 x1 x2 x3 x4 x5 x6 x7 x8 x9 x10 x11 x12 x13 x14 y0 y1 y2 y3 y4 y5 y6 y7 y8 y9 y10 y11 y12 y13 y14
      rintro e u5 ⟨rfl, hb5⟩
      have b_5 : Below w.heap.size w u5 := (hbW).trans (hb5.mono (hbW).size)
      have l_5 : Below W.heap.size W u5 := (l0).trans (hb5.mono (l0).size)
      obtain ⟨x0, x1, x2, x3, x4, x5, x6, x7, x8, x9, x10, x11, x12, x13, x14⟩ := fifteen (HX.out u5 l_5).1
      obtain ⟨y0, y1, y2, y3, y4, y5, y6, y7, y8, y9, y10, y11, y12, y13, y14⟩ := fifteen (HX.out u5 l_5).2
      clear hb5
      cases c5 : sameS r.bf.v t.bf.v with
      | false =>
       have HR : Hid (R = false) := by rw [Hid, HZ.out]; simp [c0, c1, c2, c3, c4, c5]
       clear HZ
       go_wp2
       go_ret
       exact ⟨ret_bool HR.out.symm, b_5⟩
      | true =>
       go_wp2_with fail
       refine (HA.out u5 b_5).mono ?_
       clear x0 x1 x2 x3 x4 x5 x6 x7 x8 x9 x10 x11 x12 x13 x14 y0 y1 y2 y3 y4 y5 y6 y7 y8 y9 y10 y11 y12 y13 y14
       rintro e u6 ⟨rfl, hb6⟩
       have b_6 : Below w.heap.size w u6 := (b_5).trans (hb6.mono (b_5).size)
       have l_6 : Below W.heap.size W u6 := (l_5).trans (hb6.mono (l_5).size)
       obtain ⟨x0, x1, x2, x3, x4, x5, x6, x7, x8, x9, x10, x11, x12, x13, x14⟩ := fifteen (HX.out u6 l_6).1
       obtain ⟨y0, y1, y2, y3, y4, y5, y6, y7, y8, y9, y10, y11, y12, y13, y14⟩ := fifteen (HX.out u6 l_6).2
       clear hb6
       cases c6 : sameS r.af.v t.af.v with
       | false =>
        have HR : Hid (R = false) := by rw [Hid, HZ.out]; simp [c0, c1, c2, c3, c4, c5, c6]
        clear HZ
        go_wp2
        go_ret
        exact ⟨ret_bool HR.out.symm, b_6⟩
       | true =>
        cases c7 : (r.next == t.next) with
        | false =>
         have HR : Hid (R = false) := by rw [Hid, HZ.out]; simp [c0, c1, c2, c3, c4, c5, c6, c7]
         clear HZ
         go_wp2
         go_ret
         exact ⟨ret_bool HR.out.symm, b_6⟩
        | true =>
         go_wp2_with fail
         refine (HL.out u6 b_6).mono ?_
         clear x0 x1 x2 x3 x4 x5 x6 x7 x8 x9 x10 x11 x12 x13 x14 y0 y1 y2 y3 y4 y5 y6 y7 y8 y9 y10 y11 y12 y13 y14
         rintro e u8 ⟨rfl, nn, hnn⟩
         have hb8 : Below (u6).heap.size u6 u8 := by rw [hnn]; exact below_drewN (Below.refl _ _) nn
         clear hnn
         have b_8 : Below w.heap.size w u8 := (b_6).trans (hb8.mono (b_6).size)
         have l_8 : Below W.heap.size W u8 := (l_6).trans (hb8.mono (l_6).size)
         have HR : Hid (R = sameLs r.txs t.txs) := by rw [Hid, HZ.out]; simp [c0, c1, c2, c3, c4, c5, c6, c7]
         clear HZ
         go_wp2
         go_ret
         exact ⟨ret_bool HR.out.symm, b_8⟩
end Go.Proofs.YtoboickdkednkaaGreatDoor