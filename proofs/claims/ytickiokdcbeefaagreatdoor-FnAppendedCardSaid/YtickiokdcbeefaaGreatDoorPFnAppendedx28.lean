/- Several texts in one, in their order. -/
import Derived.Test.YtickiokdcbeefaaGreatDoorPFnAppendedx27
import Derived.Test.YtickiokdcbeefaaGreatDoorPFnAppendedx14
import Derived.Test.YtickiokdcbeefaaGreatDoorPFnAppendedx16
import Derived.RangeFuncNested
import Derived.RangeFuncBound
import Derived.RangeFuncCalls
import Derived.RangeFuncLeaves
import Derived.Shelf.Abstract
import Derived.Shelf.RegionOpen
import Derived.WalkKit
import Derived.OwnWalkIn
import Derived.TacticsInMore
import Derived.LoopNIn
import Derived.LoopIn
import Derived.Test.YtickiokdcbeefaaGreatDoorPFnAppendedx1
import Derived.Deep.MidRow
import Derived.Test.YtickiokdcbeefaaGreatDoorPFnAppendedx3
import Derived.Sort.CutIn
import Derived.Test.YtickiokdcbeefaaGreatDoorPFnAppendedx9
import Derived.Test.YtickiokdcbeefaaGreatDoorPFnAppendedx13
/- The walk of impl.Append. -/

namespace Go.Proofs.YtickiokdcbeefaaGreatDoor
open Go.RowKit

set_option maxHeartbeats 8000000 in
set_option maxRecDepth 100000 in
theorem implAppend_any (l : LogA) (r : RecA) (w : World) (hg : ErrT w) (hr : l.reads w) (hl : l.short 1048576) (hcp : ∀ r ∈ l.recs, r.aL = none → r.cL = 0) (hrr : r.reads w) (hrs : r.short 1099511627776) (hrc : r.aL = none → r.cL = 0) :
    Calls Tryz.prog 20 #[.agg l.cells.toArray, .agg r.cells.toArray] w fun e w' => ∃ (t : LogA) (n : Int), e = .returned (.tuple #[.agg t.cells.toArray, .int .i64 n]) ∧ Hid ((t.v, n) = appendOf l.v r.v) ∧ t.own w' w.heap.size w'.heap.size ∧ Below w.heap.size w w' := by
  have HNO : Hid (okLog l.v = false ∨ l.recs.length = 4000 ∨ okR (lsnR r.v (l.recs.length + 1)) = false → appendOf l.v r.v = (l.v, 0)) := fun h => appendOf_no (by rw [l.v_len]; exact h)
  have HYES : Hid (okLog l.v = true → l.recs.length ≠ 4000 → okR (lsnR r.v (l.recs.length + 1)) = true → appendOf l.v r.v = (⟨l.v.recs ++ [lsnR r.v (l.recs.length + 1)], l.sure⟩, (l.recs.length : Int) + 1)) := fun h1 h2 h3 => by have := appendOf_yes h1 (by rw [l.v_len]; exact h2) (by rw [l.v_len]; exact h3); rw [l.v_len] at this; exact this
  have hll := hl.len
  obtain ⟨W, hW, b0, b1, b2, hbW, hsW⟩ := boxes3 w l.cells r.cells [.slice none 0 0, .int .i64 0] 26 42 26
  have hs0 : w.heap.size + 1 + 1 < W.heap.size := by omega
  clear hsW
  have HI : Hid ((Tryz.prog.info? 42).map (·.size) = some 15) := by rw [Hid]; kernel_rfl
  have HX : Hid (∀ u, Below W.heap.size W u → Box u w.heap.size l.cells 26) := fun u hu => b0.below hu b0.lt
  have HB1 : Hid (∀ u, Below W.heap.size W u → Box u (w.heap.size + 1) r.cells 42) := fun u hu => b1.below hu b1.lt
  have HW2 : Hid (∀ u, Below W.heap.size W u → Box u (w.heap.size + 1 + 1) [.slice none 0 0, .int .i64 0] 26) := fun u hu => b2.below hu b2.lt
  have C1 := copyLog_any l W (hr.below hbW) hl hcp
  simp only [LogA.cells] at b0 hW HX C1 ⊢
  have x0 := b0.cell 0 _ rfl
  have x1 := b0.cell 1 _ rfl
  clear b0 b1 b2
  go_enter Tryz.func20, Tryz.ntmps20
  go_wp2_with fail
  rw [hW.out]
  clear hW
  refine C1.mono ?_
  clear C1 x0 x1
  rintro e w1 ⟨t, rfl, hv, ho, hb1⟩
  have hs1 := hb1.size
  obtain ⟨W2, hW2, k6, hb2, hs2⟩ := boxes1 w1 [.slice t.a t.recs.length t.c, .int .i64 t.sure] 26
  have hlt2 := k6.lt
  have hs2' := hb2.size
  clear hs2
  have B2 : Below W.heap.size W W2 := hb1.trans (hb2.mono hs1)
  have ot : LogA.own W2 W.heap.size w1.heap.size t := LogA.own.below ho hb2
  have HV : Hid (t.v = l.v) := hv.out
  have HTL : Hid (t.recs.length = l.recs.length ∧ t.sure = l.sure ∧ t.recs.map RecA.v = l.v.recs) := by
    have h := hv.out
    simp only [LogA.v, LogV.mk.injEq] at h
    exact ⟨mapV_len h.1, h.2, h.1⟩
  have HBR : Hid (∀ u, Below W.heap.size W u → Box u (w.heap.size + 1) r.cells 42) := HB1.out
  have D2 : Below w.heap.size w W2 := hbW.trans (B2.mono hbW.size)
  have C3 := implLogOk_any l W2 (hg.keep D2) (hr.below D2) (LogA.short_wide hl)
  simp only [LogA.cells] at C3
  have p0 := (HX.out W2 B2).cell 0 _ rfl
  have p1 := (HX.out W2 B2).cell 1 _ rfl
  clear hv ho hb1 hb2
  go_upto_region 2 with fail
  rw [hW2.out]
  clear hW2
  go_wp2_with fail
  refine C3.mono ?_
  clear C3 p0 p1
  generalize okLog l.v = R at *
  rintro e w3 ⟨rfl, hb3⟩
  have hs3 := hb3.size
  have B3 : Below W.heap.size W w3 := B2.trans (hb3.mono (by omega))
  have k63 := k6.below hb3 k6.lt
  have ot3 := LogA.own.below ot hb3
  have D3 : Below w.heap.size w w3 := D2.trans (hb3.mono D2.size)
  clear k6 ot hb3 B2 D2
  have p0 := (HX.out w3 B3).cell 0 _ rfl
  cases R with
  | false =>
    have HOUT : Hid ((t.v, (0 : Int)) = appendOf l.v r.v) := by rw [Hid, HNO.out (.inl rfl), HV.out]
    have k6 := k63
    have k2 := HW2.out w3 B3
    have ot := ot3
    have DD := D3
    clear k63 ot3 D3 HNO HYES HTL
    have e0 := k6.cell 0 _ rfl
    have e1 := k6.cell 1 _ rfl
    have m0 := k2.cell 0 _ rfl
    have m1 := k2.cell 1 _ rfl
    have mf0 := k2.frozen 0
    have mf1 := k2.frozen 1
    obtain ⟨WF, hWF, bF, hwF, hsF⟩ := box2_fill k2 (.slice t.a t.recs.length t.c) (.int .i64 t.sure)
    have q0 := bF.cell 0 _ rfl
    have q1 := bF.cell 1 _ rfl
    have hoF := (LogA.own.within ot hwF (.inr (by omega))).widen (show w.heap.size ≤ W.heap.size by omega) (show w1.heap.size ≤ WF.heap.size by omega) (Nat.le_refl _)
    have hbF : Below w.heap.size w WF := DD.trans (hwF.below (by omega) (by omega))
    have HF : Hid (_ ∧ _ ∧ _) := ⟨HOUT, hoF, hbF⟩
    clear hwF hsF bF hoF hbF HOUT
    go_wp2_with fail
    rw [hWF.out]
    exact bodyPost_ret (v := .tuple #[.agg #[.slice t.a t.recs.length t.c, .int .i64 t.sure], .int .i64 0]) (by simp [results, Tryz.results20, go_sem, q0, q1]) rfl ⟨t, 0, rfl, HF.out.1, HF.out.2.1, HF.out.2.2⟩
  | true =>
    by_cases h4 : l.recs.length = 4000
    · have HOUT : Hid ((t.v, (0 : Int)) = appendOf l.v r.v) := by rw [Hid, HNO.out (.inr (.inl h4)), HV.out]
      have h4b : ((l.recs.length : Int) == 4000) = true := by simp only [beq_iff_eq]; omega
      have k6 := k63
      have k2 := HW2.out w3 B3
      have ot := ot3
      have DD := D3
      clear k63 ot3 D3 HNO HYES HTL h4
      have e0 := k6.cell 0 _ rfl
      have e1 := k6.cell 1 _ rfl
      have m0 := k2.cell 0 _ rfl
      have m1 := k2.cell 1 _ rfl
      have mf0 := k2.frozen 0
      have mf1 := k2.frozen 1
      obtain ⟨WF, hWF, bF, hwF, hsF⟩ := box2_fill k2 (.slice t.a t.recs.length t.c) (.int .i64 t.sure)
      have q0 := bF.cell 0 _ rfl
      have q1 := bF.cell 1 _ rfl
      have hoF := (LogA.own.within ot hwF (.inr (by omega))).widen (show w.heap.size ≤ W.heap.size by omega) (show w1.heap.size ≤ WF.heap.size by omega) (Nat.le_refl _)
      have hbF : Below w.heap.size w WF := DD.trans (hwF.below (by omega) (by omega))
      have HF : Hid (_ ∧ _ ∧ _) := ⟨HOUT, hoF, hbF⟩
      clear hwF hsF bF hoF hbF HOUT
      go_wp2_with fail
      rw [hWF.out]
      exact bodyPost_ret (v := .tuple #[.agg #[.slice t.a t.recs.length t.c, .int .i64 t.sure], .int .i64 0]) (by simp [results, Tryz.results20, go_sem, q0, q1]) rfl ⟨t, 0, rfl, HF.out.1, HF.out.2.1, HF.out.2.2⟩
    · have h4b : ((l.recs.length : Int) == 4000) = false := by simp only [beq_eq_false_iff_ne]; omega
      have bR := HBR.out w3 B3
      have zc := bR.cell 0 _ rfl
      have zf := bR.frozen 0
      obtain ⟨W4, hW4, yB, hw4, hs4⟩ := rec_set bR ((l.recs.length : Int) + 1)
      have hs4a := Nat.le_of_eq hs4
      have hs4b := Nat.le_of_eq hs4.symm
      clear hs4 bR
      have k64 := k63.within hw4 (by omega)
      have ot4 := LogA.own.within ot3 hw4 (.inr (by omega))
      have K2 : Hid (Box W4 (w.heap.size + 1 + 1) [.slice none 0 0, .int .i64 0] 26) := (HW2.out w3 B3).within hw4 (by omega)
      have D4 : Below w.heap.size w W4 := D3.trans (hw4.below (by omega) (by omega))
      have HYV : Hid ((r.at ((l.recs.length : Int) + 1)).v = lsnR r.v ((l.recs.length : Int) + 1)) := at_v _ _
      have HYS : Hid ((r.at ((l.recs.length : Int) + 1)).short 1099511627776) := short_at hrs _
      have HY0 : Hid ((r.at ((l.recs.length : Int) + 1)).lsn = (l.recs.length : Int) + 1) := rfl
      have HYR : Hid (∀ u, Below w.heap.size w u → (r.at ((l.recs.length : Int) + 1)).reads u) := fun u hu => ⟨(hrr.below hu).bf, (hrr.below hu).af, (hrr.below hu).txs⟩
      have HYC : Hid ((r.at ((l.recs.length : Int) + 1)).aL = none → (r.at ((l.recs.length : Int) + 1)).cL = 0) := hrc
      have C4 := lsnAt_any (l.recs.length : Int) w3 (by omega)
      clear hw4 k63 ot3 D3
      go_wp2_with fail
      refine C4.mono ?_
      clear C4
      rintro e w3' ⟨rfl, h3'⟩
      subst h3'
      go_upto_region 5 with fail
      rw [hW4.out]
      clear hW4 zc zf p0
      generalize r.at ((l.recs.length : Int) + 1) = y at *
      have HRY : Hid (∀ u, Below W4.heap.size W4 u → u.rangeAt (w.heap.size + 1) 0 y.cells) := fun u hu => Box.range [] y.cells [] (by simpa using yB.below hu yB.lt)
      have C5 := implRecOk_any y W4 (hg.keep D4) (HYR.out W4 D4) HYS.out
      go_wp2_with (first | (guard_target = wpList _ _ _ (Oper.mk (some 24) _ _ _ _ _ :: _) _ _; refine wpList_load_mid rfl 42 (.tmp 3) rfl (w.heap.size + 1) 0 rfl y.cells _ (HRY.out _ (Below.refl _ _)) Tryz.underlying42 rfl HI.out ?_) | fail)
      refine C5.mono ?_
      clear C5
      rintro e w6 ⟨rfl, B6⟩
      have hs6 := B6.size
      have k66 := k64.below B6 k64.lt
      have ot6 := LogA.own.below ot4 B6
      have D6 : Below w.heap.size w w6 := D4.trans (B6.mono (by omega))
      clear k64 ot4
      cases hR : okR y.v with
      | false =>
        have HOUT : Hid ((t.v, (0 : Int)) = appendOf l.v r.v) := by rw [Hid, HNO.out (.inr (.inr (by rw [← HYV.out]; exact hR))), HV.out]
        have k6 := k66
        have k2 := K2.out.below B6 K2.out.lt
        have ot := ot6
        have DD := D6
        clear k66 ot6 D6 HNO HYES HTL h4
        have e0 := k6.cell 0 _ rfl
        have e1 := k6.cell 1 _ rfl
        have m0 := k2.cell 0 _ rfl
        have m1 := k2.cell 1 _ rfl
        have mf0 := k2.frozen 0
        have mf1 := k2.frozen 1
        obtain ⟨WF, hWF, bF, hwF, hsF⟩ := box2_fill k2 (.slice t.a t.recs.length t.c) (.int .i64 t.sure)
        have q0 := bF.cell 0 _ rfl
        have q1 := bF.cell 1 _ rfl
        have hoF := (LogA.own.within ot hwF (.inr (by omega))).widen (show w.heap.size ≤ W.heap.size by omega) (show w1.heap.size ≤ WF.heap.size by omega) (Nat.le_refl _)
        have hbF : Below w.heap.size w WF := DD.trans (hwF.below (by omega) (by omega))
        have HF : Hid (_ ∧ _ ∧ _) := ⟨HOUT, hoF, hbF⟩
        clear hwF hsF bF hoF hbF HOUT
        go_wp2_with fail
        rw [hWF.out]
        exact bodyPost_ret (v := .tuple #[.agg #[.slice t.a t.recs.length t.c, .int .i64 t.sure], .int .i64 0]) (by simp [results, Tryz.results20, go_sem, q0, q1]) rfl ⟨t, 0, rfl, HF.out.1, HF.out.2.1, HF.out.2.2⟩
      | true =>
        have HAP := HYES.out (by first | rfl | trivial) h4 (by rw [← HYV.out]; exact hR)
        have HAP' : Hid (appendOf l.v r.v = _) := HAP
        clear HNO HYES HAP
        have hnd : Below w6.heap.size w6 w6.drew := (Below.refl _ _).drew
        have C := copyRec_own y w6.drew (HYR.out _ D6.drew) HYS.out HYC.out
        have e0 := k66.cell 0 _ rfl
        go_wp2_with fail
        refine wp_region_held_drew (S := fun u => u.rangeAt (w.heap.size + 1) 0 y.cells) (by kernel_rfl) ?_ (fun hHeld => ?_)
        · exact HRY.out _ B6.drew
        refine wpAnyH_take (i := 0) (v := .pointer (some ⟨w1.heap.size, 0, none⟩)) rfl (by kernel_rfl) (by kernel_rfl) (by kernel_rfl) (fun _ _ _ h => h) (Or.inl ⟨by rfl, ?_⟩) hHeld ?_
        · intro w' hSw
          go_simp <;> rfl
        try simp only [Act.put, List.getElem_toArray, List.getElem_cons_zero, List.setIfInBounds_toArray, List.set_cons_zero, List.set_cons_succ]
        refine wpAnyH_take (i := 2) rfl (by kernel_rfl) (by kernel_rfl) (by kernel_rfl) (fun _ _ _ h => h) (yieldsIf_load_mid (by rfl) _ _ rfl _ _ rfl y.cells _ (fun _ h => h) Tryz.underlying42 rfl HI.out) hHeld ?_
        try simp only [Act.put, List.getElem_toArray, List.getElem_cons_zero, List.getElem_cons_succ, List.setIfInBounds_toArray, List.set_cons_zero, List.set_cons_succ]
        refine wpAnyH_ready (rs := [1, 3]) (by kernel_rfl) (by simp) ?_
        refine AllReadyH.cons rfl (fun K hK => ?_) (AllReadyH.cons rfl (fun K hK => ?_) AllReadyH.nil)
        · go_simp
          refine hK.out _ _ (hHeld) (fun hHeld => ?_)
          clear hK K
          try simp only [Act.put, List.getElem_toArray, List.getElem_cons_zero, List.getElem_cons_succ, List.setIfInBounds_toArray, List.set_cons_zero, List.set_cons_succ]
          refine wpAnyH_ready (rs := [3]) (by kernel_rfl) (by simp) ?_
          refine AllReadyH.cons rfl (fun K hK => ?_) AllReadyH.nil
          go_simp
          refine C.mono ?_
          clear C
          rintro e u2 ⟨x, rfl, hx, oxx, hbx⟩
          have hbx' : Below w6.heap.size w6 u2 := hnd.trans hbx
          have hsx := hbx'.size
          have B7 : Below W4.heap.size W4 u2 := B6.trans (hbx'.mono B6.size)
          have k67 := k66.below hbx' k66.lt
          have ot7 := LogA.own.below ot6 hbx'
          have ox7 : x.own u2 w6.heap.size u2.heap.size := oxx
          have HXV : Hid (x.v = lsnR r.v ((l.recs.length : Int) + 1)) := hx.out.trans HYV.out
          refine hK.out _ _ (HRY.out _ B7) (fun hHeld => ?_)
          clear hK K
          try simp only [Act.put, List.getElem_toArray, List.getElem_cons_zero, List.getElem_cons_succ, List.setIfInBounds_toArray, List.set_cons_zero, List.set_cons_succ]
          refine wpAnyH_ready (rs := [4]) (by kernel_rfl) (by simp) ?_
          refine AllReadyH.cons rfl (fun K hK => ?_) AllReadyH.nil
          go_simp
          simp only [cellsR_len, lit_rec, not_true_eq_false, Nat.lt_irrefl, or_self, if_false]
          go_simp
          obtain ⟨W9, hW9, y9, hb9, hs9⟩ := boxes1 u2 x.cells 42
          rw [hW9.out]
          have hlt9 := y9.lt
          have hs9' := hb9.size
          clear hs9
          have R9 : Hid (W9.rangeAt u2.heap.size 0 x.cells) := Box.range [] x.cells [] (by simpa using y9)
          have B9 : Below W4.heap.size W4 W9 := B7.trans (hb9.mono B7.size)
          have k69 := k67.below hb9 k67.lt
          have ot9 := LogA.own.below ot7 hb9
          have ox9 := ox7.below hb9
          clear ot7 ox7 hb9 y9 hW9
          refine hK.out _ _ (HRY.out _ B9) (fun hHeld => ?_)
          clear hK K
          try simp only [Act.put, List.getElem_toArray, List.getElem_cons_zero, List.getElem_cons_succ, List.setIfInBounds_toArray, List.set_cons_zero, List.set_cons_succ]
          have hll9 : t.recs.length + 1 ≤ 68719476736 := by have := HTL.out.1; omega
          refine wpAnyH_ready (rs := [5]) (by kernel_rfl) (by simp) ?_
          refine AllReadyH.cons rfl (fun K hK => ?_) AllReadyH.nil
          refine step_append_rec rfl (.tmp 29) (.tmp 32) rfl W.heap.size w1.heap.size t.a t.c t.recs rfl ot9 u2.heap.size 0 1 x rfl R9.out w6.heap.size u2.heap.size ox9 (by omega) (by omega) hll9 (by omega) ?_
          intro a10 c10 w10 o10 g10
          rw [List.length_append, List.length_singleton]
          have hw10 : Within W.heap.size w1.heap.size W9 w10 := Within.of_grown g10 (fun j hj => ⟨(OwnRs.row ot9).lt j hj |>.1, OwnRs.blk ot9 j hj⟩)
          have hs10 := hw10.size
          have k6a := k69.within hw10 (by omega)
          have hR10 : w10.rangeAt (w.heap.size + 1) 0 y.cells := rangeAt_block (HRY.out _ B9) (hw10.block (w.heap.size + 1) (by omega) (by omega))
          refine hK.out _ _ hR10 (fun hHeld => ?_)
          clear hK K
          try simp only [Act.put, List.getElem_toArray, List.getElem_cons_zero, List.getElem_cons_succ, List.setIfInBounds_toArray, List.set_cons_zero, List.set_cons_succ]
          refine wpAnyH_take (i := 6) (v := .pointer (some ⟨w1.heap.size, 0, none⟩)) rfl (by kernel_rfl) (by kernel_rfl) (by kernel_rfl) (fun _ _ _ h => h) (Or.inl ⟨by rfl, ?_⟩) hHeld ?_
          · intro w' hSw
            go_simp <;> rfl
          try simp only [Act.put, List.getElem_toArray, List.getElem_cons_zero, List.getElem_cons_succ, List.setIfInBounds_toArray, List.set_cons_zero, List.set_cons_succ]
          have e0 := k6a.cell 0 _ rfl
          have ef0 := k6a.frozen 0
          obtain ⟨W11, hW11, k6b, hw11, hs11⟩ := box_set k6a 0 (.slice a10 (t.recs.length + 1) c10)
          simp only [List.set] at k6b
          have hs11a := Nat.le_of_eq hs11
          have hs11b := Nat.le_of_eq hs11.symm
          clear hs11
          have hR11 : W11.rangeAt (w.heap.size + 1) 0 y.cells := rangeAt_block hR10 (hw11.block (w.heap.size + 1) (by omega) (by omega))
          have oRow := o10.touch hw11.touch1 (fun k hk hk' => log_apart k6a o10 (by rw [← List.mem_singleton.1 hk']; exact hk))
          have k2b : Box W11 (w.heap.size + 1 + 1) [.slice none 0 0, .int .i64 0] 26 := ((K2.out.below B9 K2.out.lt).within hw10 (by omega)).within hw11 (by omega)
          have D11 : Below w.heap.size w W11 := ((D4.trans (B9.mono (by omega))).trans (hw10.below (by omega) (by omega))).trans (hw11.below (by omega) (by omega))
          have HFV : Hid ((⟨t.recs ++ [x], t.sure, a10, c10⟩ : LogA).v = (⟨l.v.recs ++ [lsnR r.v ((l.recs.length : Int) + 1)], l.sure⟩ : LogV)) := by
            have e3 := HTL.out.2.2
            simp only [Hid, LogA.v, List.map_append, List.map_cons, List.map_nil, HXV.out, HTL.out.2.1]
            rw [e3]
            rfl
          refine wpAnyH_ready (rs := [7]) (by kernel_rfl) (by simp) ?_
          refine AllReadyH.cons rfl (fun K hK => ?_) AllReadyH.nil
          go_simp
          rw [hW11.out]
          refine hK.out _ _ (hR11) (fun hHeld => ?_)
          clear hK K
          try simp only [Act.put, List.getElem_toArray, List.getElem_cons_zero, List.getElem_cons_succ, List.setIfInBounds_toArray, List.set_cons_zero, List.set_cons_succ]
          refine wpAnyH_done (by kernel_rfl) ?_ _
          clear e0 ef0 hW11
          go_upto_region 8 with fail
          obtain ⟨WF, hWF, bF, hwF, hsF⟩ := box2_fill k2b (.slice a10 (t.recs.length + 1) c10) (.int .i64 t.sure)
          have q0 := bF.cell 0 _ rfl
          have q1 := bF.cell 1 _ rfl
          have hoF : (⟨t.recs ++ [x], t.sure, a10, c10⟩ : LogA).own WF w.heap.size WF.heap.size := (oRow.within hwF (.inr (by omega))).widen (show w.heap.size ≤ W.heap.size by omega) (show w10.heap.size ≤ WF.heap.size by omega) (Nat.le_refl _)
          have hbF : Below w.heap.size w WF := D11.trans (hwF.below (by omega) (by omega))
          have hoD : (⟨t.recs ++ [x], t.sure, a10, c10⟩ : LogA).own WF.drew w.heap.size WF.drew.heap.size := hoF.below (Below.refl _ _).drew
          have HF : Hid (_ ∧ _ ∧ _) := ⟨HFV.out, hoD, hbF.drew⟩
          clear hoD
          have HS : Hid (∀ u, Within (w.heap.size + 1 + 1) (w.heap.size + 1 + 1 + 1) W11 u → (u.cell? ⟨w1.heap.size, 0, none⟩ = some (.slice a10 (t.recs.length + 1) c10) ∧ u.cell? ⟨w1.heap.size, 1, none⟩ = some (.int .i64 t.sure)) ∧ u.cell? ⟨w.heap.size + 1, 0, none⟩ = some (.int .i64 y.lsn)) := fun u hu => ⟨⟨(k6b.within hu (by omega)).cell 0 _ rfl, (k6b.within hu (by omega)).cell 1 _ rfl⟩, rangeAt_block hR11 (hu.block (w.heap.size + 1) (by omega) (by omega)) 0 _ rfl⟩
          have m0 := k2b.cell 0 _ rfl
          have m1 := k2b.cell 1 _ rfl
          have mf0 := k2b.frozen 0
          have mf1 := k2b.frozen 1
          have HSF : Hid _ := HS.out WF.drew (hwF.trans (Within.of_below (Below.refl _ _).drew))
          have HLN : Hid (y.lsn = (l.recs.length : Int) + 1) := HY0
          clear hwF hsF bF hoF hbF oRow k6b k2b
          refine wp_region_held_drew (S := fun u => (u.cell? ⟨w1.heap.size, 0, none⟩ = some (.slice a10 (t.recs.length + 1) c10) ∧ u.cell? ⟨w1.heap.size, 1, none⟩ = some (.int .i64 t.sure)) ∧ u.cell? ⟨w.heap.size + 1, 0, none⟩ = some (.int .i64 y.lsn)) (by kernel_rfl) ?_ (fun hHeld => ?_)
          · exact HS.out _ (Within.of_below (Below.refl _ _).drew)
          refine wpAnyH_take (i := 0) (v := .agg #[.slice a10 (t.recs.length + 1) c10, .int .i64 t.sure]) rfl (by kernel_rfl) (by kernel_rfl) (by kernel_rfl) (fun _ _ _ h => h) (Or.inl ⟨by rfl, ?_⟩) hHeld ?_
          · intro w' hSw
            have hx0 := hSw.1.1
            have hx1 := hSw.1.2
            go_simp <;> rfl
          try simp only [Act.put, List.getElem_toArray, List.getElem_cons_zero, List.setIfInBounds_toArray, List.set_cons_zero, List.set_cons_succ]
          refine wpAnyH_take (i := 1) (v := .pointer (some ⟨w.heap.size + 1, 0, none⟩)) rfl (by kernel_rfl) (by kernel_rfl) (by kernel_rfl) (fun _ _ _ h => h) (Or.inl ⟨by rfl, ?_⟩) hHeld ?_
          · intro w' hSw
            go_simp <;> rfl
          try simp only [Act.put, List.getElem_toArray, List.getElem_cons_zero, List.getElem_cons_succ, List.setIfInBounds_toArray, List.set_cons_zero, List.set_cons_succ]
          refine wpAnyH_take (i := 2) (v := .int .i64 y.lsn) rfl (by kernel_rfl) (by kernel_rfl) (by kernel_rfl) (fun _ _ _ h => h) (Or.inl ⟨by rfl, ?_⟩) hHeld ?_
          · intro w' hSw
            have hx0 := hSw.2
            go_simp <;> rfl
          try simp only [Act.put, List.getElem_toArray, List.getElem_cons_zero, List.getElem_cons_succ, List.setIfInBounds_toArray, List.set_cons_zero, List.set_cons_succ]
          refine wpAnyH_ready (rs := [3]) (by kernel_rfl) (by simp) ?_
          refine AllReadyH.cons rfl (fun K hK => ?_) AllReadyH.nil
          go_simp
          rw [hWF.out]
          refine hK.out _ _ (HSF.out) (fun hHeld => ?_)
          clear hK K
          try simp only [Act.put, List.getElem_toArray, List.getElem_cons_zero, List.getElem_cons_succ, List.setIfInBounds_toArray, List.set_cons_zero, List.set_cons_succ]
          refine wpAnyH_take (i := 4) (v := .int .i64 y.lsn) rfl (by kernel_rfl) (by kernel_rfl) (by kernel_rfl) (fun _ _ _ h => h) (Or.inl ⟨by rfl, ?_⟩) hHeld ?_
          · intro w' hSw
            go_simp <;> rfl
          try simp only [Act.put, List.getElem_toArray, List.getElem_cons_zero, List.getElem_cons_succ, List.setIfInBounds_toArray, List.set_cons_zero, List.set_cons_succ]
          refine wpAnyH_done (by kernel_rfl) ?_ _
          clear m0 m1 mf0 mf1 hWF
          go_wp2
          exact bodyPost_ret (v := .tuple #[.agg #[.slice a10 (t.recs.length + 1) c10, .int .i64 t.sure], .int .i64 y.lsn]) (by simp [results, Tryz.results20, go_sem, q0, q1]) rfl ⟨⟨t.recs ++ [x], t.sure, a10, c10⟩, y.lsn, by simp, by rw [Hid, HAP'.out, HF.out.1, HLN.out], HF.out.2.1, HF.out.2.2⟩
        · go_simp
          refine C.mono ?_
          clear C
          rintro e u2 ⟨x, rfl, hx, oxx, hbx⟩
          have hbx' : Below w6.heap.size w6 u2 := hnd.trans hbx
          have hsx := hbx'.size
          have B7 : Below W4.heap.size W4 u2 := B6.trans (hbx'.mono B6.size)
          have k67 := k66.below hbx' k66.lt
          have ot7 := LogA.own.below ot6 hbx'
          have ox7 : x.own u2 w6.heap.size u2.heap.size := oxx
          have HXV : Hid (x.v = lsnR r.v ((l.recs.length : Int) + 1)) := hx.out.trans HYV.out
          refine hK.out _ _ (HRY.out _ B7) (fun hHeld => ?_)
          clear hK K
          try simp only [Act.put, List.getElem_toArray, List.getElem_cons_zero, List.getElem_cons_succ, List.setIfInBounds_toArray, List.set_cons_zero, List.set_cons_succ]
          refine wpAnyH_ready (rs := [1, 4]) (by kernel_rfl) (by simp) ?_
          refine AllReadyH.cons rfl (fun K hK => ?_) (AllReadyH.cons rfl (fun K hK => ?_) AllReadyH.nil)
          · have d0 := k67.cell 0 _ rfl
            go_simp
            refine hK.out _ _ (hHeld) (fun hHeld => ?_)
            clear hK K
            try simp only [Act.put, List.getElem_toArray, List.getElem_cons_zero, List.getElem_cons_succ, List.setIfInBounds_toArray, List.set_cons_zero, List.set_cons_succ]
            refine wpAnyH_ready (rs := [4]) (by kernel_rfl) (by simp) ?_
            refine AllReadyH.cons rfl (fun K hK => ?_) AllReadyH.nil
            go_simp
            simp only [cellsR_len, lit_rec, not_true_eq_false, Nat.lt_irrefl, or_self, if_false]
            go_simp
            obtain ⟨W9, hW9, y9, hb9, hs9⟩ := boxes1 u2 x.cells 42
            rw [hW9.out]
            have hlt9 := y9.lt
            have hs9' := hb9.size
            clear hs9
            have R9 : Hid (W9.rangeAt u2.heap.size 0 x.cells) := Box.range [] x.cells [] (by simpa using y9)
            have B9 : Below W4.heap.size W4 W9 := B7.trans (hb9.mono B7.size)
            have k69 := k67.below hb9 k67.lt
            have ot9 := LogA.own.below ot7 hb9
            have ox9 := ox7.below hb9
            clear ot7 ox7 hb9 y9 hW9
            refine hK.out _ _ (HRY.out _ B9) (fun hHeld => ?_)
            clear hK K
            try simp only [Act.put, List.getElem_toArray, List.getElem_cons_zero, List.getElem_cons_succ, List.setIfInBounds_toArray, List.set_cons_zero, List.set_cons_succ]
            have hll9 : t.recs.length + 1 ≤ 68719476736 := by have := HTL.out.1; omega
            refine wpAnyH_ready (rs := [5]) (by kernel_rfl) (by simp) ?_
            refine AllReadyH.cons rfl (fun K hK => ?_) AllReadyH.nil
            refine step_append_rec rfl (.tmp 29) (.tmp 32) rfl W.heap.size w1.heap.size t.a t.c t.recs rfl ot9 u2.heap.size 0 1 x rfl R9.out w6.heap.size u2.heap.size ox9 (by omega) (by omega) hll9 (by omega) ?_
            intro a10 c10 w10 o10 g10
            rw [List.length_append, List.length_singleton]
            have hw10 : Within W.heap.size w1.heap.size W9 w10 := Within.of_grown g10 (fun j hj => ⟨(OwnRs.row ot9).lt j hj |>.1, OwnRs.blk ot9 j hj⟩)
            have hs10 := hw10.size
            have k6a := k69.within hw10 (by omega)
            have hR10 : w10.rangeAt (w.heap.size + 1) 0 y.cells := rangeAt_block (HRY.out _ B9) (hw10.block (w.heap.size + 1) (by omega) (by omega))
            refine hK.out _ _ hR10 (fun hHeld => ?_)
            clear hK K
            try simp only [Act.put, List.getElem_toArray, List.getElem_cons_zero, List.getElem_cons_succ, List.setIfInBounds_toArray, List.set_cons_zero, List.set_cons_succ]
            refine wpAnyH_take (i := 6) (v := .pointer (some ⟨w1.heap.size, 0, none⟩)) rfl (by kernel_rfl) (by kernel_rfl) (by kernel_rfl) (fun _ _ _ h => h) (Or.inl ⟨by rfl, ?_⟩) hHeld ?_
            · intro w' hSw
              go_simp <;> rfl
            try simp only [Act.put, List.getElem_toArray, List.getElem_cons_zero, List.getElem_cons_succ, List.setIfInBounds_toArray, List.set_cons_zero, List.set_cons_succ]
            have e0 := k6a.cell 0 _ rfl
            have ef0 := k6a.frozen 0
            obtain ⟨W11, hW11, k6b, hw11, hs11⟩ := box_set k6a 0 (.slice a10 (t.recs.length + 1) c10)
            simp only [List.set] at k6b
            have hs11a := Nat.le_of_eq hs11
            have hs11b := Nat.le_of_eq hs11.symm
            clear hs11
            have hR11 : W11.rangeAt (w.heap.size + 1) 0 y.cells := rangeAt_block hR10 (hw11.block (w.heap.size + 1) (by omega) (by omega))
            have oRow := o10.touch hw11.touch1 (fun k hk hk' => log_apart k6a o10 (by rw [← List.mem_singleton.1 hk']; exact hk))
            have k2b : Box W11 (w.heap.size + 1 + 1) [.slice none 0 0, .int .i64 0] 26 := ((K2.out.below B9 K2.out.lt).within hw10 (by omega)).within hw11 (by omega)
            have D11 : Below w.heap.size w W11 := ((D4.trans (B9.mono (by omega))).trans (hw10.below (by omega) (by omega))).trans (hw11.below (by omega) (by omega))
            have HFV : Hid ((⟨t.recs ++ [x], t.sure, a10, c10⟩ : LogA).v = (⟨l.v.recs ++ [lsnR r.v ((l.recs.length : Int) + 1)], l.sure⟩ : LogV)) := by
              have e3 := HTL.out.2.2
              simp only [Hid, LogA.v, List.map_append, List.map_cons, List.map_nil, HXV.out, HTL.out.2.1]
              rw [e3]
              rfl
            refine wpAnyH_ready (rs := [7]) (by kernel_rfl) (by simp) ?_
            refine AllReadyH.cons rfl (fun K hK => ?_) AllReadyH.nil
            go_simp
            rw [hW11.out]
            refine hK.out _ _ (hR11) (fun hHeld => ?_)
            clear hK K
            try simp only [Act.put, List.getElem_toArray, List.getElem_cons_zero, List.getElem_cons_succ, List.setIfInBounds_toArray, List.set_cons_zero, List.set_cons_succ]
            refine wpAnyH_done (by kernel_rfl) ?_ _
            clear e0 ef0 hW11
            go_upto_region 8 with fail
            obtain ⟨WF, hWF, bF, hwF, hsF⟩ := box2_fill k2b (.slice a10 (t.recs.length + 1) c10) (.int .i64 t.sure)
            have q0 := bF.cell 0 _ rfl
            have q1 := bF.cell 1 _ rfl
            have hoF : (⟨t.recs ++ [x], t.sure, a10, c10⟩ : LogA).own WF w.heap.size WF.heap.size := (oRow.within hwF (.inr (by omega))).widen (show w.heap.size ≤ W.heap.size by omega) (show w10.heap.size ≤ WF.heap.size by omega) (Nat.le_refl _)
            have hbF : Below w.heap.size w WF := D11.trans (hwF.below (by omega) (by omega))
            have hoD : (⟨t.recs ++ [x], t.sure, a10, c10⟩ : LogA).own WF.drew w.heap.size WF.drew.heap.size := hoF.below (Below.refl _ _).drew
            have HF : Hid (_ ∧ _ ∧ _) := ⟨HFV.out, hoD, hbF.drew⟩
            clear hoD
            have HS : Hid (∀ u, Within (w.heap.size + 1 + 1) (w.heap.size + 1 + 1 + 1) W11 u → (u.cell? ⟨w1.heap.size, 0, none⟩ = some (.slice a10 (t.recs.length + 1) c10) ∧ u.cell? ⟨w1.heap.size, 1, none⟩ = some (.int .i64 t.sure)) ∧ u.cell? ⟨w.heap.size + 1, 0, none⟩ = some (.int .i64 y.lsn)) := fun u hu => ⟨⟨(k6b.within hu (by omega)).cell 0 _ rfl, (k6b.within hu (by omega)).cell 1 _ rfl⟩, rangeAt_block hR11 (hu.block (w.heap.size + 1) (by omega) (by omega)) 0 _ rfl⟩
            have m0 := k2b.cell 0 _ rfl
            have m1 := k2b.cell 1 _ rfl
            have mf0 := k2b.frozen 0
            have mf1 := k2b.frozen 1
            have HSF : Hid _ := HS.out WF.drew (hwF.trans (Within.of_below (Below.refl _ _).drew))
            have HLN : Hid (y.lsn = (l.recs.length : Int) + 1) := HY0
            clear hwF hsF bF hoF hbF oRow k6b k2b
            refine wp_region_held_drew (S := fun u => (u.cell? ⟨w1.heap.size, 0, none⟩ = some (.slice a10 (t.recs.length + 1) c10) ∧ u.cell? ⟨w1.heap.size, 1, none⟩ = some (.int .i64 t.sure)) ∧ u.cell? ⟨w.heap.size + 1, 0, none⟩ = some (.int .i64 y.lsn)) (by kernel_rfl) ?_ (fun hHeld => ?_)
            · exact HS.out _ (Within.of_below (Below.refl _ _).drew)
            refine wpAnyH_take (i := 0) (v := .agg #[.slice a10 (t.recs.length + 1) c10, .int .i64 t.sure]) rfl (by kernel_rfl) (by kernel_rfl) (by kernel_rfl) (fun _ _ _ h => h) (Or.inl ⟨by rfl, ?_⟩) hHeld ?_
            · intro w' hSw
              have hx0 := hSw.1.1
              have hx1 := hSw.1.2
              go_simp <;> rfl
            try simp only [Act.put, List.getElem_toArray, List.getElem_cons_zero, List.setIfInBounds_toArray, List.set_cons_zero, List.set_cons_succ]
            refine wpAnyH_take (i := 1) (v := .pointer (some ⟨w.heap.size + 1, 0, none⟩)) rfl (by kernel_rfl) (by kernel_rfl) (by kernel_rfl) (fun _ _ _ h => h) (Or.inl ⟨by rfl, ?_⟩) hHeld ?_
            · intro w' hSw
              go_simp <;> rfl
            try simp only [Act.put, List.getElem_toArray, List.getElem_cons_zero, List.getElem_cons_succ, List.setIfInBounds_toArray, List.set_cons_zero, List.set_cons_succ]
            refine wpAnyH_take (i := 2) (v := .int .i64 y.lsn) rfl (by kernel_rfl) (by kernel_rfl) (by kernel_rfl) (fun _ _ _ h => h) (Or.inl ⟨by rfl, ?_⟩) hHeld ?_
            · intro w' hSw
              have hx0 := hSw.2
              go_simp <;> rfl
            try simp only [Act.put, List.getElem_toArray, List.getElem_cons_zero, List.getElem_cons_succ, List.setIfInBounds_toArray, List.set_cons_zero, List.set_cons_succ]
            refine wpAnyH_ready (rs := [3]) (by kernel_rfl) (by simp) ?_
            refine AllReadyH.cons rfl (fun K hK => ?_) AllReadyH.nil
            go_simp
            rw [hWF.out]
            refine hK.out _ _ (HSF.out) (fun hHeld => ?_)
            clear hK K
            try simp only [Act.put, List.getElem_toArray, List.getElem_cons_zero, List.getElem_cons_succ, List.setIfInBounds_toArray, List.set_cons_zero, List.set_cons_succ]
            refine wpAnyH_take (i := 4) (v := .int .i64 y.lsn) rfl (by kernel_rfl) (by kernel_rfl) (by kernel_rfl) (fun _ _ _ h => h) (Or.inl ⟨by rfl, ?_⟩) hHeld ?_
            · intro w' hSw
              go_simp <;> rfl
            try simp only [Act.put, List.getElem_toArray, List.getElem_cons_zero, List.getElem_cons_succ, List.setIfInBounds_toArray, List.set_cons_zero, List.set_cons_succ]
            refine wpAnyH_done (by kernel_rfl) ?_ _
            clear m0 m1 mf0 mf1 hWF
            go_wp2
            exact bodyPost_ret (v := .tuple #[.agg #[.slice a10 (t.recs.length + 1) c10, .int .i64 t.sure], .int .i64 y.lsn]) (by simp [results, Tryz.results20, go_sem, q0, q1]) rfl ⟨⟨t.recs ++ [x], t.sure, a10, c10⟩, y.lsn, by simp, by rw [Hid, HAP'.out, HF.out.1, HLN.out], HF.out.2.1, HF.out.2.2⟩
          · go_simp
            simp only [cellsR_len, lit_rec, not_true_eq_false, Nat.lt_irrefl, or_self, if_false]
            go_simp
            obtain ⟨W9, hW9, y9, hb9, hs9⟩ := boxes1 u2 x.cells 42
            rw [hW9.out]
            have hlt9 := y9.lt
            have hs9' := hb9.size
            clear hs9
            have R9 : Hid (W9.rangeAt u2.heap.size 0 x.cells) := Box.range [] x.cells [] (by simpa using y9)
            have B9 : Below W4.heap.size W4 W9 := B7.trans (hb9.mono B7.size)
            have k69 := k67.below hb9 k67.lt
            have ot9 := LogA.own.below ot7 hb9
            have ox9 := ox7.below hb9
            clear ot7 ox7 hb9 y9 hW9
            refine hK.out _ _ (HRY.out _ B9) (fun hHeld => ?_)
            clear hK K
            try simp only [Act.put, List.getElem_toArray, List.getElem_cons_zero, List.getElem_cons_succ, List.setIfInBounds_toArray, List.set_cons_zero, List.set_cons_succ]
            have d0 := k69.cell 0 _ rfl
            refine wpAnyH_ready (rs := [1]) (by kernel_rfl) (by simp) ?_
            refine AllReadyH.cons rfl (fun K hK => ?_) AllReadyH.nil
            go_simp
            refine hK.out _ _ (hHeld) (fun hHeld => ?_)
            clear hK K
            try simp only [Act.put, List.getElem_toArray, List.getElem_cons_zero, List.getElem_cons_succ, List.setIfInBounds_toArray, List.set_cons_zero, List.set_cons_succ]
            have hll9 : t.recs.length + 1 ≤ 68719476736 := by have := HTL.out.1; omega
            refine wpAnyH_ready (rs := [5]) (by kernel_rfl) (by simp) ?_
            refine AllReadyH.cons rfl (fun K hK => ?_) AllReadyH.nil
            refine step_append_rec rfl (.tmp 29) (.tmp 32) rfl W.heap.size w1.heap.size t.a t.c t.recs rfl ot9 u2.heap.size 0 1 x rfl R9.out w6.heap.size u2.heap.size ox9 (by omega) (by omega) hll9 (by omega) ?_
            intro a10 c10 w10 o10 g10
            rw [List.length_append, List.length_singleton]
            have hw10 : Within W.heap.size w1.heap.size W9 w10 := Within.of_grown g10 (fun j hj => ⟨(OwnRs.row ot9).lt j hj |>.1, OwnRs.blk ot9 j hj⟩)
            have hs10 := hw10.size
            have k6a := k69.within hw10 (by omega)
            have hR10 : w10.rangeAt (w.heap.size + 1) 0 y.cells := rangeAt_block (HRY.out _ B9) (hw10.block (w.heap.size + 1) (by omega) (by omega))
            refine hK.out _ _ hR10 (fun hHeld => ?_)
            clear hK K
            try simp only [Act.put, List.getElem_toArray, List.getElem_cons_zero, List.getElem_cons_succ, List.setIfInBounds_toArray, List.set_cons_zero, List.set_cons_succ]
            refine wpAnyH_take (i := 6) (v := .pointer (some ⟨w1.heap.size, 0, none⟩)) rfl (by kernel_rfl) (by kernel_rfl) (by kernel_rfl) (fun _ _ _ h => h) (Or.inl ⟨by rfl, ?_⟩) hHeld ?_
            · intro w' hSw
              go_simp <;> rfl
            try simp only [Act.put, List.getElem_toArray, List.getElem_cons_zero, List.getElem_cons_succ, List.setIfInBounds_toArray, List.set_cons_zero, List.set_cons_succ]
            have e0 := k6a.cell 0 _ rfl
            have ef0 := k6a.frozen 0
            obtain ⟨W11, hW11, k6b, hw11, hs11⟩ := box_set k6a 0 (.slice a10 (t.recs.length + 1) c10)
            simp only [List.set] at k6b
            have hs11a := Nat.le_of_eq hs11
            have hs11b := Nat.le_of_eq hs11.symm
            clear hs11
            have hR11 : W11.rangeAt (w.heap.size + 1) 0 y.cells := rangeAt_block hR10 (hw11.block (w.heap.size + 1) (by omega) (by omega))
            have oRow := o10.touch hw11.touch1 (fun k hk hk' => log_apart k6a o10 (by rw [← List.mem_singleton.1 hk']; exact hk))
            have k2b : Box W11 (w.heap.size + 1 + 1) [.slice none 0 0, .int .i64 0] 26 := ((K2.out.below B9 K2.out.lt).within hw10 (by omega)).within hw11 (by omega)
            have D11 : Below w.heap.size w W11 := ((D4.trans (B9.mono (by omega))).trans (hw10.below (by omega) (by omega))).trans (hw11.below (by omega) (by omega))
            have HFV : Hid ((⟨t.recs ++ [x], t.sure, a10, c10⟩ : LogA).v = (⟨l.v.recs ++ [lsnR r.v ((l.recs.length : Int) + 1)], l.sure⟩ : LogV)) := by
              have e3 := HTL.out.2.2
              simp only [Hid, LogA.v, List.map_append, List.map_cons, List.map_nil, HXV.out, HTL.out.2.1]
              rw [e3]
              rfl
            refine wpAnyH_ready (rs := [7]) (by kernel_rfl) (by simp) ?_
            refine AllReadyH.cons rfl (fun K hK => ?_) AllReadyH.nil
            go_simp
            rw [hW11.out]
            refine hK.out _ _ (hR11) (fun hHeld => ?_)
            clear hK K
            try simp only [Act.put, List.getElem_toArray, List.getElem_cons_zero, List.getElem_cons_succ, List.setIfInBounds_toArray, List.set_cons_zero, List.set_cons_succ]
            refine wpAnyH_done (by kernel_rfl) ?_ _
            clear e0 ef0 hW11
            go_upto_region 8 with fail
            obtain ⟨WF, hWF, bF, hwF, hsF⟩ := box2_fill k2b (.slice a10 (t.recs.length + 1) c10) (.int .i64 t.sure)
            have q0 := bF.cell 0 _ rfl
            have q1 := bF.cell 1 _ rfl
            have hoF : (⟨t.recs ++ [x], t.sure, a10, c10⟩ : LogA).own WF w.heap.size WF.heap.size := (oRow.within hwF (.inr (by omega))).widen (show w.heap.size ≤ W.heap.size by omega) (show w10.heap.size ≤ WF.heap.size by omega) (Nat.le_refl _)
            have hbF : Below w.heap.size w WF := D11.trans (hwF.below (by omega) (by omega))
            have hoD : (⟨t.recs ++ [x], t.sure, a10, c10⟩ : LogA).own WF.drew w.heap.size WF.drew.heap.size := hoF.below (Below.refl _ _).drew
            have HF : Hid (_ ∧ _ ∧ _) := ⟨HFV.out, hoD, hbF.drew⟩
            clear hoD
            have HS : Hid (∀ u, Within (w.heap.size + 1 + 1) (w.heap.size + 1 + 1 + 1) W11 u → (u.cell? ⟨w1.heap.size, 0, none⟩ = some (.slice a10 (t.recs.length + 1) c10) ∧ u.cell? ⟨w1.heap.size, 1, none⟩ = some (.int .i64 t.sure)) ∧ u.cell? ⟨w.heap.size + 1, 0, none⟩ = some (.int .i64 y.lsn)) := fun u hu => ⟨⟨(k6b.within hu (by omega)).cell 0 _ rfl, (k6b.within hu (by omega)).cell 1 _ rfl⟩, rangeAt_block hR11 (hu.block (w.heap.size + 1) (by omega) (by omega)) 0 _ rfl⟩
            have m0 := k2b.cell 0 _ rfl
            have m1 := k2b.cell 1 _ rfl
            have mf0 := k2b.frozen 0
            have mf1 := k2b.frozen 1
            have HSF : Hid _ := HS.out WF.drew (hwF.trans (Within.of_below (Below.refl _ _).drew))
            have HLN : Hid (y.lsn = (l.recs.length : Int) + 1) := HY0
            clear hwF hsF bF hoF hbF oRow k6b k2b
            refine wp_region_held_drew (S := fun u => (u.cell? ⟨w1.heap.size, 0, none⟩ = some (.slice a10 (t.recs.length + 1) c10) ∧ u.cell? ⟨w1.heap.size, 1, none⟩ = some (.int .i64 t.sure)) ∧ u.cell? ⟨w.heap.size + 1, 0, none⟩ = some (.int .i64 y.lsn)) (by kernel_rfl) ?_ (fun hHeld => ?_)
            · exact HS.out _ (Within.of_below (Below.refl _ _).drew)
            refine wpAnyH_take (i := 0) (v := .agg #[.slice a10 (t.recs.length + 1) c10, .int .i64 t.sure]) rfl (by kernel_rfl) (by kernel_rfl) (by kernel_rfl) (fun _ _ _ h => h) (Or.inl ⟨by rfl, ?_⟩) hHeld ?_
            · intro w' hSw
              have hx0 := hSw.1.1
              have hx1 := hSw.1.2
              go_simp <;> rfl
            try simp only [Act.put, List.getElem_toArray, List.getElem_cons_zero, List.setIfInBounds_toArray, List.set_cons_zero, List.set_cons_succ]
            refine wpAnyH_take (i := 1) (v := .pointer (some ⟨w.heap.size + 1, 0, none⟩)) rfl (by kernel_rfl) (by kernel_rfl) (by kernel_rfl) (fun _ _ _ h => h) (Or.inl ⟨by rfl, ?_⟩) hHeld ?_
            · intro w' hSw
              go_simp <;> rfl
            try simp only [Act.put, List.getElem_toArray, List.getElem_cons_zero, List.getElem_cons_succ, List.setIfInBounds_toArray, List.set_cons_zero, List.set_cons_succ]
            refine wpAnyH_take (i := 2) (v := .int .i64 y.lsn) rfl (by kernel_rfl) (by kernel_rfl) (by kernel_rfl) (fun _ _ _ h => h) (Or.inl ⟨by rfl, ?_⟩) hHeld ?_
            · intro w' hSw
              have hx0 := hSw.2
              go_simp <;> rfl
            try simp only [Act.put, List.getElem_toArray, List.getElem_cons_zero, List.getElem_cons_succ, List.setIfInBounds_toArray, List.set_cons_zero, List.set_cons_succ]
            refine wpAnyH_ready (rs := [3]) (by kernel_rfl) (by simp) ?_
            refine AllReadyH.cons rfl (fun K hK => ?_) AllReadyH.nil
            go_simp
            rw [hWF.out]
            refine hK.out _ _ (HSF.out) (fun hHeld => ?_)
            clear hK K
            try simp only [Act.put, List.getElem_toArray, List.getElem_cons_zero, List.getElem_cons_succ, List.setIfInBounds_toArray, List.set_cons_zero, List.set_cons_succ]
            refine wpAnyH_take (i := 4) (v := .int .i64 y.lsn) rfl (by kernel_rfl) (by kernel_rfl) (by kernel_rfl) (fun _ _ _ h => h) (Or.inl ⟨by rfl, ?_⟩) hHeld ?_
            · intro w' hSw
              go_simp <;> rfl
            try simp only [Act.put, List.getElem_toArray, List.getElem_cons_zero, List.getElem_cons_succ, List.setIfInBounds_toArray, List.set_cons_zero, List.set_cons_succ]
            refine wpAnyH_done (by kernel_rfl) ?_ _
            clear m0 m1 mf0 mf1 hWF
            go_wp2
            exact bodyPost_ret (v := .tuple #[.agg #[.slice a10 (t.recs.length + 1) c10, .int .i64 t.sure], .int .i64 y.lsn]) (by simp [results, Tryz.results20, go_sem, q0, q1]) rfl ⟨⟨t.recs ++ [x], t.sure, a10, c10⟩, y.lsn, by simp, by rw [Hid, HAP'.out, HF.out.1, HLN.out], HF.out.2.1, HF.out.2.2⟩
end Go.Proofs.YtickiokdcbeefaaGreatDoor

/- Steps of a walk inside a fence; a range over a function: its record, one call of yield, how a round ends. -/
namespace Go.Proofs.YtickiokdcbeefaaGreatDoor
open Go.RowKit Go.Shelf

theorem stepIn_value {F : Fence} {n : Nat} {P : Program} {ops : Array Oper} {rest : List Oper} {o : Oper} {a : Act} {w w' : World} {Q : Exit → Act → World → Prop} {v : Value} (hgd : o.guard = none) (hF : ∀ f, F.fn f) (hs : o.semAt F.round a.eval = execOp a.eval o)
    (hrun : (execOp a.eval o).run P w = .ok (.value v) w') (h : wpListIn F n P ops Q rest (a.put o.dst v) w') : wpListIn F n P ops Q (o :: rest) a w :=
  wpListIn_plain hgd fun K hK => ⟨fun f _ => hF f, by rw [hs, hrun, Oper.uponIn_value]; exact hK _ _ h⟩
theorem stepIn_skip {F : Fence} {n : Nat} {P : Program} {ops : Array Oper} {rest : List Oper} {o : Oper} {a : Act} {w w' : World} {Q : Exit → Act → World → Prop} (hgd : o.guard = none) (hF : ∀ f, F.fn f) (hs : o.semAt F.round a.eval = execOp a.eval o)
    (hrun : (execOp a.eval o).run P w = .ok .skip w') (h : wpListIn F n P ops Q rest (a.put o.dst undef) w') : wpListIn F n P ops Q (o :: rest) a w :=
  wpListIn_plain hgd fun K hK => ⟨fun f _ => hF f, by rw [hs, hrun, Oper.uponIn_skip]; exact hK _ _ h⟩

theorem loadIn_mid {F : Fence} {n : Nat} {P : Program} {ops : Array Oper} {rest : List Oper} {op : Oper} {a : Act} {w : World} {Q : Exit → Act → World → Prop} (hgd : op.guard = none) (hF : ∀ f, F.fn f) (hs : op.semAt F.round a.eval = execOp a.eval op) (ty : TypeId) (x : Operand) (ho : op.op = .load ty x)
    (b o : Nat) (hx : a.eval x = .pointer (some ⟨b, o, none⟩)) (cs : List Value) (d : TypeDesc) (hc : w.rangeAt b o cs)
    (hu : P.underlying ty = some d) (hd : d.isRow = true) (hi : (P.info? ty).map (·.size) = some cs.length)
    (h : wpListIn F n P ops Q rest (a.put op.dst (.agg cs.toArray)) w) : wpListIn F n P ops Q (op :: rest) a w := by
  refine stepIn_value hgd hF hs (v := .agg cs.toArray) ?_ h
  unfold execOp
  simp only [ho, hx, Instr.loadAt, Instr.sureAddr, Sem.run_bind, Sem.run_pure, Result.andThen_ok, run_loadVar_mid w b o ty cs d hc hu hd hi]
theorem storeIn_mid {F : Fence} {n : Nat} {P : Program} {ops : Array Oper} {rest : List Oper} {op : Oper} {a : Act} {w : World} {Q : Exit → Act → World → Prop} (hgd : op.guard = none) (hF : ∀ f, F.fn f) (hs : op.semAt F.round a.eval = execOp a.eval op) (ty : TypeId) (x y : Operand) (ho : op.op = .store ty x y)
    (b o : Nat) (cs : Array Value) (hx : a.eval x = .pointer (some ⟨b, o, none⟩)) (hy : a.eval y = .agg cs) (ht : w.there b o cs.size)
    (hi : (P.info? ty).map (·.size) = some cs.size) (h1 : cs.all (·.oneCell') = true)
    (h : wpListIn F n P ops Q rest (a.put op.dst undef) (w.setCells b o cs.toList)) : wpListIn F n P ops Q (op :: rest) a w := by
  refine stepIn_skip hgd hF hs ?_ h
  unfold execOp
  simp only [ho, hx, hy, Sem.run_bind, Sem.run_pure, Result.andThen_ok, run_storeAt_mid w b o ty cs ht hi h1]

/-- A range over a function that was made here: its record is laid, and the function is called with yield. -/
theorem rangeFunc_here {n : Nat} {P : Program} {g : Operand} {ps : Array Tmp} {assign body : Code} {Q : Exit → Act → World → Prop} {a : Act} {w : World} {gf : Nat} {lb : Array Value} (hg : a.eval g = .func (.func gf) #[] lb) (eg : ∀ args w, (callFunc gf args).run P w = .ok (.enter gf args) w)
    (h : ∀ (r : Loop) (W1 : World), r.state = .ready → r.pending = none → r.tmps = a.tmps → r.params = ps → r.assign = assign → r.body = body → W1.heap[w.heap.size + 1]? = some (.loop r) → W1.heap[w.heap.size]? = some (.deferred (some [])) → Below w.heap.size w W1 → W1.heap.size = w.heap.size + 2 →
      CallsIn Fence.wide (n - 1) P gf (#[.func (.yield (w.heap.size + 1)) #[] #[]] ++ lb) W1 (rangePost Fence.wide n P (w.heap.size + 1) Q { a with defers := [{ target := .collected w.heap.size, args := #[] }] ++ a.defers })) :
    (Code.rangeFunc g ps assign body).wpIn Fence.wide n P Q a w := by
  refine wpIn_rangeFunc ?_
  intro fn _
  obtain ⟨r, hr⟩ : ∃ r : Loop, ({ state := .ready, pending := none, fn := fn, tmps := a.tmps, params := ps, assign := assign, body := body, defers := w.heap.size } : Loop) = r := ⟨_, rfl⟩
  obtain ⟨W1, hW1⟩ : ∃ W1, (w.alloc (.deferred (some []))).alloc (.loop r) = W1 := ⟨_, rfl⟩
  have hL : W1.heap[w.heap.size + 1]? = some (.loop r) := by
    rw [← hW1]
    have := World.alloc_heap_new (w.alloc (.deferred (some []))) (.loop r)
    rwa [World.size_alloc] at this
  have hD : W1.heap[w.heap.size]? = some (.deferred (some [])) := by
    rw [← hW1]
    exact (Below.heap_alloc _ _ _ (by simp)).trans (World.alloc_heap_new w _)
  have hB : Below w.heap.size w W1 := by
    rw [← hW1]
    exact ((Below.refl _ w).alloc (Nat.le_refl _) _).alloc (by simp) _
  have hS : W1.heap.size = w.heap.size + 2 := by rw [← hW1]; simp
  have hc := h r W1 (by rw [← hr]) (by rw [← hr]) (by rw [← hr]) (by rw [← hr]) (by rw [← hr]) (by rw [← hr]) hL hD hB hS
  refine ⟨w.heap.size + 1, [{ target := .collected w.heap.size, args := #[] }], W1, { target := .fn (.func gf) lb, args := #[.func (.yield (w.heap.size + 1)) #[] #[]] }, W1, gf, #[.func (.yield (w.heap.size + 1)) #[] #[]] ++ lb, W1, ?_, ?_, ?_, ?_, ?_, ?_⟩
  · rw [← hW1, ← hr]
    exact run_enterLoop_outer fn a.tmps ps assign body
  · simp only [resolve, hg]
    simp [go_sem]
  · intro f' _
    trivial
  · simp [invoke, go_sem, eg]
  · intro hh
    have hn : Fence.wide.depth.isSome = false := rfl
    rw [hn] at hh
    cases hh
  · exact hc
theorem within_putObj (w : World) (l : Nat) (o : Obj) : Within l (l + 1) w (w.putObj l o) ∧ (w.putObj l o).heap.size = w.heap.size := by
  refine ⟨⟨rfl, rfl, rfl, by simp [World.putObj], fun k _ hn => World.putObj_heap_other (by omega)⟩, by simp [World.putObj]⟩
/-- One call of yield: the loop's variables are given, the record is busy, the body runs. -/
theorem yield_here {m : Nat} {P : Program} {l : Nat} {r : Loop} {args : Array Value} {W : World} {R : Ending → World → Prop} (hL : W.heap[l]? = some (.loop r)) (hs : args.size = r.params.size) (hrd : r.state = .ready)
    (h : r.assign.wpIn (Fence.wide.inRound l) m P (Exit.then (fun a1 w1 => w1.heap[l]? = some (.loop r) ∧ ∀ V, V.heap[l]? = some (.loop { r with state := .busy }) → Within l (l + 1) w1 V → V.heap.size = w1.heap.size → r.body.wpIn (Fence.wide.inRound l) m P (roundPost P l R) a1 V) (fun _ _ _ => False))
      { tmps := (r.params.zip args).foldl (fun t (p, v) => t.setIfInBounds p v) r.tmps, defers := [] } W) : YieldAt Fence.wide m P l args W R := by
  refine ⟨r.fn, _, r.assign, r.body, run_yield hL hs, roundIn_of_wpIn trivial (wpIn_mono h ?_)⟩
  intro e a1 w1 hp
  cases e with
  | normal => exact ⟨_, run_beginRound hp.1 hrd, hp.2 _ (World.putObj_heap_same (Array.getElem?_eq_some_iff.1 hp.1).1) (within_putObj w1 l _).1 (within_putObj w1 l _).2⟩
  | exit id => exact hp.elim
  | goto t => exact hp.elim
  | ret => exact hp.elim
  | panic ch => exact hp.elim
  | outgrown => exact hp.elim
/-- A round ends: its record says how. -/
theorem end_here {P : Program} {l : Nat} {r : Loop} {V : World} (jump : Option Code) (hL : V.heap[l]? = some (.loop r)) :
    ∃ X, (Instr.endRound l jump).run P V = .ok (.bool jump.isNone) X ∧ X.heap[l]? = some (.loop { r with state := if jump.isNone then .ready else .done, pending := jump }) ∧ Within l (l + 1) V X ∧ X.heap.size = V.heap.size :=
  ⟨_, run_endRound jump hL, World.putObj_heap_same (Array.getElem?_eq_some_iff.1 hL).1, (within_putObj V l _).1, (within_putObj V l _).2⟩
/-- A round that goes on. -/
theorem end_go {P : Program} {l : Nat} {r : Loop} {V : World} (hst : r.state = .ready) (hpd : r.pending = none) (hL : V.heap[l]? = some (.loop { r with state := .busy })) :
    ∃ X, (Instr.endRound l none).run P V = .ok (.bool true) X ∧ X.heap[l]? = some (.loop r) ∧ Within l (l + 1) V X ∧ X.heap.size = V.heap.size := by
  obtain ⟨X, h1, h2, h3, h4⟩ := end_here (P := P) (r := { r with state := .busy }) none hL
  refine ⟨X, h1, ?_, h3, h4⟩
  rw [h2]
  cases r
  simp only at hst hpd
  subst hst hpd
  rfl
end Go.Proofs.YtickiokdcbeefaaGreatDoor

/- A transaction's records, from the last one back: the walk of spec.Chain. -/
namespace Go.Proofs.YtickiokdcbeefaaGreatDoor
open Go.RowKit

/-- Is it one of this transaction's? -/
def ofTx (tx : Int) (r : RecV) : Bool := (r.tx == tx) && (r.kind != 6)
/-- The Lsns of this transaction's among the first k, from the last one back. -/
def chainDown (tx : Int) (rs : List RecV) : Nat → List Int
  | 0 => []
  | k + 1 => (if ofTx tx (rs.getD k zeroR.v) = true then [(rs.getD k zeroR.v).lsn] else []) ++ chainDown tx rs k
def chainOf (l : LogV) (tx : Int) : List Int := chainDown tx l.recs l.recs.length
theorem chainDown_len (tx : Int) (rs : List RecV) (k : Nat) : (chainDown tx rs k).length ≤ k := by
  induction k with
  | zero => simp [chainDown]
  | succ k ih =>
    simp only [chainDown, List.length_append]
    split <;> simp <;> omega
theorem recD_v (rs : List RecA) (k : Nat) : (rs.map RecA.v).getD k zeroR.v = (rs.getD k zeroR).v := by
  simp only [List.getD, List.getElem?_map]
  cases rs[k]? <;> rfl
theorem chain_step (tx : Int) (rs : List RecA) (k : Nat) (L R : List Int) (h : L ++ chainDown tx (rs.map RecA.v) (k + 1) = R) :
    (if ofTx tx (rs.getD k zeroR).v = true then L ++ [(rs.getD k zeroR).lsn] else L) ++ chainDown tx (rs.map RecA.v) k = R := by
  rw [chainDown, recD_v] at h
  by_cases hq : ofTx tx (rs.getD k zeroR).v = true
  · rw [if_pos hq] at h ⊢; rw [← h, List.append_assoc]; rfl
  · rw [if_neg hq] at h ⊢; rw [← h]; rfl

theorem readsI_cell (w : World) (m : Int) (t : TypeId) : ReadsI (w.alloc (.cells #[.int .i64 m] t)) (some ⟨w.heap.size, 0, none⟩) [m] := by
  intro _
  refine ⟨w.heap.size, 0, rfl, fun i hi => ?_⟩
  have hi0 : i = 0 := by simp at hi; omega
  subst hi0
  exact (box_new w [.int .i64 m] t).cell 0 _ rfl

end Go.Proofs.YtickiokdcbeefaaGreatDoor

/- The walk of the iterator that slices.Backward makes over records. -/
namespace Go.Proofs.YtickiokdcbeefaaGreatDoor
open Go.RowKit Go.Shelf
attribute [local go_sem] Oper.semAt_some

theorem append_intsIn {F : Fence} {n : Nat} {w : World} {ops : Array Oper} {rest : List Oper} {o : Oper} {act : Act} {Q : Exit → Act → World → Prop} (hgd : o.guard = none) (hF : ∀ f, F.fn f) (hsm : o.semAt F.round act.eval = execOp act.eval o) (s x : Operand)
    (ho : o.op = .call { callee := .builtin .append, args := #[s, x], argTypes := #[35, 35] })
    (lo hi : Nat) (a : Option Addr) (c : Nat) (xs : List Int) (hs : act.eval s = .slice a xs.length c) (hown : OwnI w lo hi a c xs)
    (sa : Option Addr) (sc : Nat) (zs : List Int) (hx : act.eval x = .slice sa zs.length sc) (hr : ReadsI w sa zs) (hc : sa = none → sc = 0)
    (hb : xs.length + zs.length ≤ 1099511627776) (hlo : lo ≤ w.heap.size)
    (h : ∀ a' c' ys w', Hid (ys = xs ++ zs) → OwnI w' lo w'.heap.size a' c' ys → w.grownBy w' (Value.slice a xs.length c).ownBlock → (∀ k, (Value.slice a' ys.length c').ownBlock = some k → (Value.slice a xs.length c).ownBlock = some k ∨ k = w.heap.size) → wpListIn F n Tryz.prog ops Q rest (act.put o.dst (.slice a' ys.length c')) w') :
    wpListIn F n Tryz.prog ops Q (o :: rest) act w := by
  obtain ⟨a', c', ys, w', hrun, h1, h2, h3, h4⟩ := run_append_ints (w := w) o.type lo hi a c xs hown sa sc zs hr hc hb hlo
  refine stepIn_value hgd hF hsm ?_ (h a' c' ys w' h1 h2 h3 h4)
  unfold execOp
  simp only [ho, resolve, invoke, builtin, Sem.run_bind, Sem.run_pure, Result.andThen_ok, List.map_toArray, List.map_cons, List.map_nil, hs, hx, hrun]

theorem backward_any (a : Option Addr) (n c : Nat) (w : World) :
    Calls Tryz.prog 46 #[.slice a n c] w fun e w' => e = .returned (.func (.func 70) #[] #[.pointer (some ⟨w.heap.size, 0, none⟩)]) ∧ w' = w.alloc (.cells #[.slice a n c] 24) := by
  have hmf : ∀ (fn : Fn) (first cap : Array Value) (w : World), (Instr.makeFunc fn first cap).run Tryz.prog w = .ok (.func fn first cap) w := fun _ _ _ _ => rfl
  go_enter Tryz.func46, Tryz.ntmps46
  go_wp2
  go_ret
  exact ⟨rfl, rfl⟩

set_option maxHeartbeats 4000000 in
set_option maxRecDepth 100000 in
theorem backward_in (m L B3 : Nat) (a : Option Addr) (c : Nat) (rs : List RecA) (hl : rs.length ≤ 1099511627776) (J : Nat → World → Prop)
    (hJ : ∀ k W, J k W → Box W B3 [.slice a rs.length c] 24 ∧ ReadsRs W a rs)
    (hY : ∀ k W, k < rs.length → J (k + 1) W → YieldAt Fence.wide m Tryz.prog L #[.int .i64 (k : Int), .agg (rs.getD k zeroR).cells.toArray] W fun e W' => e = .returned (.bool true) ∧ J k W')
    (W : World) (h0 : J rs.length W) :
    CallsIn Fence.wide (m + 1) Tryz.prog 70 #[.func (.yield L) #[] #[], .pointer (some ⟨B3, 0, none⟩)] W fun e W' => (∃ v, e = .returned v) ∧ J 0 W' := by
  have HI : Hid ((Tryz.prog.info? 42).map (·.size) = some 15) := by rw [Hid]; kernel_rfl
  refine callsIn_of_wp Tryz.func70 rfl trivial ?_ rfl
  simp only [Tryz.ntmps70, List.size_toArray, List.length_cons, List.length_nil, Nat.reduceAdd, Nat.reduceSub, Array.replicate_succ, Array.replicate_zero, List.push_toArray, List.append_toArray, List.nil_append, List.cons_append]
  have x0 := (hJ _ _ h0).1.cell 0 _ rfl
  gi_wp2
  clear x0
  gi_loopw [3] (fun i wr => ∃ k : Nat, i = .int .i64 ((k : Int) - 1) ∧ k ≤ rs.length ∧ J k wr) (fun i _ => (intOf i + 1).toNat)
  case atStart => exact ⟨rs.length, by go_num, Nat.le_refl _, h0⟩
  case round =>
    obtain ⟨k, rfl, hk, hj⟩ := hrel
    obtain ⟨bx, hrd⟩ := hJ k wr hj
    cases k with
    | zero =>
      gi_wp2
      exact bodyPost_end (results_none rfl _ _ _) rfl ⟨⟨_, rfl⟩, hj⟩
    | succ k =>
      have x0 := bx.cell 0 _ rfl
      obtain ⟨b, off, rfl, hcell⟩ := hrd (by rintro rfl; simp at hk)
      have R3 := (hcell k (by omega)).1
      obtain ⟨fn, tmps, assign, body, hy, hR⟩ := hY k wr (by omega) hj
      have hkk : (k : Int) < (rs.length : Int) := by omega
      have hi0 : (0 : Int) ≤ (k : Int) := by omega
      have hk1 : ((k + 1 : Nat) : Int) - 1 = (k : Int) := by omega
      rw [hk1]
      clear hcell bx hrd hj
      generalize rs.getD k zeroR = z at *
      gi_wp2_with (first | (guard_target = wpListIn _ _ _ _ _ (Oper.mk (some 16) _ _ _ _ _ :: _) _ _; refine loadIn_mid rfl (fun _ => trivial) rfl 42 (.tmp 15) rfl b (off + k * 15) rfl z.cells _ R3 Tryz.underlying42 rfl HI.out ?_) | fail)
      refine hR.mono ?_
      rintro e W4 ⟨rfl, hj4⟩
      gi_wp2
      go_roundw
      case rel => exact ⟨k, by go_num, by omega, hj4⟩
      case measure => simp [intOf]
end Go.Proofs.YtickiokdcbeefaaGreatDoor
