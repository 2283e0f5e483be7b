/- Several texts in one, in their order. -/
import Derived.Test.YtoboickdkednkaaDoorPFnPoolsx19
import Derived.Test.YtoboickdkednkaaDoorPFnPoolsx18
/- The walk of impl.Bring. -/
namespace Go.Proofs.YtoboickdkednkaaDoor
open Go.RowKit
attribute [local go_sem ↓] Go.wp_at_zero Go.wp_at_succ

set_option maxHeartbeats 8000000 in
set_option maxRecDepth 100000 in
theorem implBring_any (p : PoolA) (no : Int) (pg : PageA) (h4 : pg.ss.length = 4) (w : World) (hg : ErrT w) (hr : p.reads w) (hl : p.short 1048576) (hrp : ReadsS w pg.ss) (hlp : Fit pg.ss) :
    Calls Tryd.prog 7 #[.agg p.cells.toArray, .int .i64 no, .agg pg.cells.toArray] w fun e w' => BringAns6 p no pg.lsn (pg.ss.map (·.v)) w e w' := by
  obtain ⟨V, hV, a3, a5, hbV, hsV⟩ := boxes2 w [.slice p.a p.seats.length p.c, .int .i64 p.hand] pg.cells 26 34
  obtain ⟨W, hW, a6, a7, hbW', hsW⟩ := boxes2 V [.slice none 0 0, .int .i64 0] [.int .i64 0, .int .i64 0, .bool false, .int .i64 0, .slice none 0 0, .slice none 0 0, .bool false, .int .i64 0, .slice none 0 0, .slice none 0 0, .bool false, .int .i64 0, .slice none 0 0, .slice none 0 0, .bool false, .int .i64 0, .slice none 0 0, .slice none 0 0, .bool false, .bool false] 26 38
  have b3 := a3.below hbW' a3.lt
  have b5 := a5.below hbW' a5.lt
  have b6 : Box W (w.heap.size + 1 + 1) [.slice none 0 0, .int .i64 0] 26 := by rw [show w.heap.size + 1 + 1 = V.heap.size by omega]; exact a6
  have b7 : Box W (w.heap.size + 1 + 1 + 1) zeroSt.cells 38 := by rw [show w.heap.size + 1 + 1 + 1 = V.heap.size + 1 by omega]; exact a7
  have hbW : Below w.heap.size w W := hbV.trans (hbW'.mono hbV.size)
  have hs0 : w.heap.size + 1 + 1 + 1 < W.heap.size := by omega
  have HWW : Hid ((((w.alloc (.cells #[.slice p.a p.seats.length p.c, .int .i64 p.hand] 26)).alloc (.cells pg.cells.toArray 34)).alloc (.cells #[.slice none 0 0, .int .i64 0] 26)).alloc (.cells #[.int .i64 0, .int .i64 0, .bool false, .int .i64 0, .slice none 0 0, .slice none 0 0, .bool false, .int .i64 0, .slice none 0 0, .slice none 0 0, .bool false, .int .i64 0, .slice none 0 0, .slice none 0 0, .bool false, .int .i64 0, .slice none 0 0, .slice none 0 0, .bool false, .bool false] 38) = W) := by
    rw [Hid, ← hW.out, ← hV.out]
  clear hV hW hsV hsW hbV hbW' a3 a5 a6 a7
  have p0 := b3.cell 0 _ rfl
  have p1 := b3.cell 1 _ rfl
  have C := implPoolOk_any p W (hg.keep hbW) (PoolA.reads.below hr hbW) (PoolA.short_wide hl)
  have HI : Hid ((Tryd.prog.info? 34).map (·.size) = some pg.cells.length) := Tryd.infoPg pg h4
  simp only [PoolA.cells] at *
  go_enter Tryd.func7, Tryd.ntmps7
  go_upto_region 1 with fail
  rw [HWW.out]
  clear HWW
  go_wp2_with fail
  refine C.mono ?_
  clear C p0 p1
  rintro e w3 ⟨rfl, hb3⟩
  have hs3 := hb3.size
  have n3 : Below w.heap.size w w3 := hbW.trans (hb3.mono hbW.size)
  cases HOKP : okPool p.v with
  | false =>
    have HMAY : Hid (mayBring p.v no pg.lsn (pg.ss.map (·.v)) = false) := mayB_pool HOKP
    obtain ⟨wN, hwN⟩ : ∃ wN, Hid (w3 = wN) := ⟨_, rfl⟩
    have bN := hb3
    rw [hwN.out] at bN ⊢
    clear HOKP hwN hb3 hs3 n3
    have b3N := b3.below bN b3.lt
    have b6N := b6.below bN b6.lt
    have b7N := b7.below bN b7.lt
    have nN : Below w.heap.size w wN := hbW.trans (bN.mono hbW.size)
    have sN := bN.size
    have C := copyPool_any p wN (PoolA.reads.below hr nN) hl
    simp only [PoolA.cells] at C
    have p0 := b3N.cell 0 _ rfl
    have p1 := b3N.cell 1 _ rfl
    go_wp2_with fail
    refine C.mono ?_
    clear C p0 p1
    rintro e wc ⟨t, rfl, hv, ho, hbc⟩
    have sc := hbc.size
    have b6F := b6N.below hbc b6N.lt
    have b7F := b7N.below hbc b7N.lt
    have nF : Below w.heap.size w wc := nN.trans (hbc.mono nN.size)
    have m0 := b6F.cell 0 _ rfl
    have m1 := b6F.cell 1 _ rfl
    have mf0 := b6F.frozen 0
    have mf1 := b6F.frozen 1
    obtain ⟨WP, hWP, bP, hwP, hsP⟩ := box2_fill b6F (.slice t.a t.seats.length t.c) (.int .i64 t.hand)
    have b7P := b7F.within hwP (by omega)
    obtain ⟨WF, hWF, hwF, hsF, HTF, HLF, bF⟩ := seat_out zeroSt _ rfl b7P
    have bPF := bP.within hwF (by omega)
    have HLP : Hid ((loadVar 26 ⟨w.heap.size + 1 + 1, 0, none⟩).run Tryd.prog WF = .ok (.agg t.cells.toArray) WF) := pool_load t bPF
    have hoF := ((PoolA.own.within ho hwP (.inr (by omega))).within hwF (.inr (by omega))).widen (show w.heap.size ≤ wN.heap.size by omega) (show wc.heap.size ≤ WF.heap.size by omega) (Nat.le_refl _)
    have hbF : Below w.heap.size w WF := (nF.trans (hwP.below (by omega) (by omega))).trans (hwF.below (by omega) (by omega))
    have HWF : Hid (WP.setCells (w.heap.size + 1 + 1 + 1) 0 zeroSt.cells.toArray.toList = WF) := hWF.out
    have HTF' : WP.there (w.heap.size + 1 + 1 + 1) 0 zeroSt.cells.toArray.size := HTF.out
    have HIz := seat_info zeroSt
    have HOz := seat_one zeroSt
    have HZO := zeroSt_own' WF w.heap.size WF.heap.size (Nat.le_refl _)
    have HV : Hid (t.v = p.v) := hv.out
    clear hwP hsP bP hwF hsF bF bPF b7P b6F b7F b6N b7N b3N nF hWF HTF ho hv
    obtain ⟨Zs, hZs⟩ : ∃ Zs, Hid (zeroSt = Zs) := ⟨_, rfl⟩
    have HZV : Hid (zeroStV = Zs.v) := by rw [Hid, ← hZs.out]; rfl
    rw [hZs.out] at HWF HTF' HIz HOz HLF HZO
    go_wp2_with (first | (guard_target = wpList _ _ _ (Oper.mk (some 35) _ _ _ _ _ :: _) _ _; refine build_zero_seat ?_; rw [hZs.out]) | (guard_target = wpList _ _ _ (Oper.mk none (Op.store _ (Operand.tmp 7) _) _ _ _ _ :: _) _ _; rw [hWP.out]; refine wpList_store_mid rfl 38 (.tmp 7) (.tmp 35) rfl (w.heap.size + 1 + 1 + 1) 0 Zs.cells.toArray rfl rfl HTF' HIz HOz ?_; rw [HWF.out]) | fail)
    exact bodyPost_ret (v := .tuple #[.agg t.cells.toArray, .agg Zs.cells.toArray, .bool false]) (results_three Tryd.results7 rfl rfl HLP.out HLF.out rfl) rfl ⟨t, Zs, false, rfl, by rw [Hid, bringOf_no HMAY.out, HV.out, HZV.out], hoF, HZO, hbF⟩
  | true =>
    have C := pageNoOk_any no w3
    cases HINB : inB no 0 7 with
    | false =>
      have HMAY : Hid (mayBring p.v no pg.lsn (pg.ss.map (·.v)) = false) := mayB_no HINB
      rw [HINB] at C
      go_wp2_with fail
      refine C.mono ?_
      clear C
      rintro e u ⟨rfl, hu⟩
      rw [hu]
      clear hu u
      obtain ⟨wN, hwN⟩ : ∃ wN, Hid (w3 = wN) := ⟨_, rfl⟩
      have bN := hb3
      rw [hwN.out] at bN ⊢
      clear HOKP HINB hwN hb3 hs3 n3
      have b3N := b3.below bN b3.lt
      have b6N := b6.below bN b6.lt
      have b7N := b7.below bN b7.lt
      have nN : Below w.heap.size w wN := hbW.trans (bN.mono hbW.size)
      have sN := bN.size
      have C := copyPool_any p wN (PoolA.reads.below hr nN) hl
      simp only [PoolA.cells] at C
      have p0 := b3N.cell 0 _ rfl
      have p1 := b3N.cell 1 _ rfl
      go_wp2_with fail
      refine C.mono ?_
      clear C p0 p1
      rintro e wc ⟨t, rfl, hv, ho, hbc⟩
      have sc := hbc.size
      have b6F := b6N.below hbc b6N.lt
      have b7F := b7N.below hbc b7N.lt
      have nF : Below w.heap.size w wc := nN.trans (hbc.mono nN.size)
      have m0 := b6F.cell 0 _ rfl
      have m1 := b6F.cell 1 _ rfl
      have mf0 := b6F.frozen 0
      have mf1 := b6F.frozen 1
      obtain ⟨WP, hWP, bP, hwP, hsP⟩ := box2_fill b6F (.slice t.a t.seats.length t.c) (.int .i64 t.hand)
      have b7P := b7F.within hwP (by omega)
      obtain ⟨WF, hWF, hwF, hsF, HTF, HLF, bF⟩ := seat_out zeroSt _ rfl b7P
      have bPF := bP.within hwF (by omega)
      have HLP : Hid ((loadVar 26 ⟨w.heap.size + 1 + 1, 0, none⟩).run Tryd.prog WF = .ok (.agg t.cells.toArray) WF) := pool_load t bPF
      have hoF := ((PoolA.own.within ho hwP (.inr (by omega))).within hwF (.inr (by omega))).widen (show w.heap.size ≤ wN.heap.size by omega) (show wc.heap.size ≤ WF.heap.size by omega) (Nat.le_refl _)
      have hbF : Below w.heap.size w WF := (nF.trans (hwP.below (by omega) (by omega))).trans (hwF.below (by omega) (by omega))
      have HWF : Hid (WP.setCells (w.heap.size + 1 + 1 + 1) 0 zeroSt.cells.toArray.toList = WF) := hWF.out
      have HTF' : WP.there (w.heap.size + 1 + 1 + 1) 0 zeroSt.cells.toArray.size := HTF.out
      have HIz := seat_info zeroSt
      have HOz := seat_one zeroSt
      have HZO := zeroSt_own' WF w.heap.size WF.heap.size (Nat.le_refl _)
      have HV : Hid (t.v = p.v) := hv.out
      clear hwP hsP bP hwF hsF bF bPF b7P b6F b7F b6N b7N b3N nF hWF HTF ho hv
      obtain ⟨Zs, hZs⟩ : ∃ Zs, Hid (zeroSt = Zs) := ⟨_, rfl⟩
      have HZV : Hid (zeroStV = Zs.v) := by rw [Hid, ← hZs.out]; rfl
      rw [hZs.out] at HWF HTF' HIz HOz HLF HZO
      go_wp2_with (first | (guard_target = wpList _ _ _ (Oper.mk (some 35) _ _ _ _ _ :: _) _ _; refine build_zero_seat ?_; rw [hZs.out]) | (guard_target = wpList _ _ _ (Oper.mk none (Op.store _ (Operand.tmp 7) _) _ _ _ _ :: _) _ _; rw [hWP.out]; refine wpList_store_mid rfl 38 (.tmp 7) (.tmp 35) rfl (w.heap.size + 1 + 1 + 1) 0 Zs.cells.toArray rfl rfl HTF' HIz HOz ?_; rw [HWF.out]) | fail)
      exact bodyPost_ret (v := .tuple #[.agg t.cells.toArray, .agg Zs.cells.toArray, .bool false]) (results_three Tryd.results7 rfl rfl HLP.out HLF.out rfl) rfl ⟨t, Zs, false, rfl, by rw [Hid, bringOf_no HMAY.out, HV.out, HZV.out], hoF, HZO, hbF⟩
    | true =>
      rw [HINB] at C
      go_wp2_with fail
      refine C.mono ?_
      clear C
      rintro e u ⟨rfl, hu⟩
      rw [hu]
      clear hu u
      have b53 := b5.below hb3 b5.lt
      have C := implPageOk_any pg h4 w3 (hg.keep n3) (hrp.below n3) hlp
      have rP : w3.rangeAt (w.heap.size + 1) 0 pg.cells := Box.range [] pg.cells [] (by simpa using b53)
      go_wp2_with (first | (guard_target = wpList _ _ _ (Oper.mk (some 23) _ _ _ _ _ :: _) _ _; refine wpList_load_mid_if (by rfl) 34 (.tmp 5) rfl (w.heap.size + 1) 0 rfl pg.cells _ rP Tryd.underlying34 rfl HI.out ?_) | fail)
      refine C.mono ?_
      clear C rP b53
      rintro e w4 ⟨rfl, hb4⟩
      have hs4 := hb4.size
      have N4 : Below W.heap.size W w4 := hb3.trans (hb4.mono hb3.size)
      have n4 : Below w.heap.size w w4 := n3.trans (hb4.mono n3.size)
      cases HOKG : okP pg.lsn (pg.ss.map (·.v)) with
      | false =>
        have HMAY : Hid (mayBring p.v no pg.lsn (pg.ss.map (·.v)) = false) := mayB_page HOKG
        obtain ⟨wN, hwN⟩ : ∃ wN, Hid (w4 = wN) := ⟨_, rfl⟩
        have bN := N4
        rw [hwN.out] at bN ⊢
        clear HOKP HINB HOKG hwN hb3 hs3 n3 hb4 hs4 N4 n4
        have b3N := b3.below bN b3.lt
        have b6N := b6.below bN b6.lt
        have b7N := b7.below bN b7.lt
        have nN : Below w.heap.size w wN := hbW.trans (bN.mono hbW.size)
        have sN := bN.size
        have C := copyPool_any p wN (PoolA.reads.below hr nN) hl
        simp only [PoolA.cells] at C
        have p0 := b3N.cell 0 _ rfl
        have p1 := b3N.cell 1 _ rfl
        go_wp2_with fail
        refine C.mono ?_
        clear C p0 p1
        rintro e wc ⟨t, rfl, hv, ho, hbc⟩
        have sc := hbc.size
        have b6F := b6N.below hbc b6N.lt
        have b7F := b7N.below hbc b7N.lt
        have nF : Below w.heap.size w wc := nN.trans (hbc.mono nN.size)
        have m0 := b6F.cell 0 _ rfl
        have m1 := b6F.cell 1 _ rfl
        have mf0 := b6F.frozen 0
        have mf1 := b6F.frozen 1
        obtain ⟨WP, hWP, bP, hwP, hsP⟩ := box2_fill b6F (.slice t.a t.seats.length t.c) (.int .i64 t.hand)
        have b7P := b7F.within hwP (by omega)
        obtain ⟨WF, hWF, hwF, hsF, HTF, HLF, bF⟩ := seat_out zeroSt _ rfl b7P
        have bPF := bP.within hwF (by omega)
        have HLP : Hid ((loadVar 26 ⟨w.heap.size + 1 + 1, 0, none⟩).run Tryd.prog WF = .ok (.agg t.cells.toArray) WF) := pool_load t bPF
        have hoF := ((PoolA.own.within ho hwP (.inr (by omega))).within hwF (.inr (by omega))).widen (show w.heap.size ≤ wN.heap.size by omega) (show wc.heap.size ≤ WF.heap.size by omega) (Nat.le_refl _)
        have hbF : Below w.heap.size w WF := (nF.trans (hwP.below (by omega) (by omega))).trans (hwF.below (by omega) (by omega))
        have HWF : Hid (WP.setCells (w.heap.size + 1 + 1 + 1) 0 zeroSt.cells.toArray.toList = WF) := hWF.out
        have HTF' : WP.there (w.heap.size + 1 + 1 + 1) 0 zeroSt.cells.toArray.size := HTF.out
        have HIz := seat_info zeroSt
        have HOz := seat_one zeroSt
        have HZO := zeroSt_own' WF w.heap.size WF.heap.size (Nat.le_refl _)
        have HV : Hid (t.v = p.v) := hv.out
        clear hwP hsP bP hwF hsF bF bPF b7P b6F b7F b6N b7N b3N nF hWF HTF ho hv
        obtain ⟨Zs, hZs⟩ : ∃ Zs, Hid (zeroSt = Zs) := ⟨_, rfl⟩
        have HZV : Hid (zeroStV = Zs.v) := by rw [Hid, ← hZs.out]; rfl
        rw [hZs.out] at HWF HTF' HIz HOz HLF HZO
        go_wp2_with (first | (guard_target = wpList _ _ _ (Oper.mk (some 35) _ _ _ _ _ :: _) _ _; refine build_zero_seat ?_; rw [hZs.out]) | (guard_target = wpList _ _ _ (Oper.mk none (Op.store _ (Operand.tmp 7) _) _ _ _ _ :: _) _ _; rw [hWP.out]; refine wpList_store_mid rfl 38 (.tmp 7) (.tmp 35) rfl (w.heap.size + 1 + 1 + 1) 0 Zs.cells.toArray rfl rfl HTF' HIz HOz ?_; rw [HWF.out]) | fail)
        exact bodyPost_ret (v := .tuple #[.agg t.cells.toArray, .agg Zs.cells.toArray, .bool false]) (results_three Tryd.results7 rfl rfl HLP.out HLF.out rfl) rfl ⟨t, Zs, false, rfl, by rw [Hid, bringOf_no HMAY.out, HV.out, HZV.out], hoF, HZO, hbF⟩
      | true =>
        have b34 := b3.below N4 b3.lt
        have p0 := b34.cell 0 _ rfl
        have p1 := b34.cell 1 _ rfl
        have C := implSeated_any p no w4 (PoolA.reads.below hr n4) (PoolA.short_wide hl)
        simp only [PoolA.cells] at C
        go_wp2_with fail
        refine C.mono ?_
        clear C p0 p1 b34
        rintro e w5 ⟨rfl, hb5⟩
        have hs5 := hb5.size
        have N5 : Below W.heap.size W w5 := N4.trans (hb5.mono N4.size)
        by_cases hsd : 0 ≤ seatedOf p.v.seats no
        · have HMAY : Hid (mayBring p.v no pg.lsn (pg.ss.map (·.v)) = false) := mayB_there hsd
          obtain ⟨wN, hwN⟩ : ∃ wN, Hid (w5 = wN) := ⟨_, rfl⟩
          have bN := N5
          rw [hwN.out] at bN ⊢
          clear HOKP HINB HOKG hwN hb3 hs3 n3 hb4 hs4 N4 n4 hb5 hs5 N5
          generalize seatedOf p.v.seats no = sd at *
          have b3N := b3.below bN b3.lt
          have b6N := b6.below bN b6.lt
          have b7N := b7.below bN b7.lt
          have nN : Below w.heap.size w wN := hbW.trans (bN.mono hbW.size)
          have sN := bN.size
          have C := copyPool_any p wN (PoolA.reads.below hr nN) hl
          simp only [PoolA.cells] at C
          have p0 := b3N.cell 0 _ rfl
          have p1 := b3N.cell 1 _ rfl
          go_wp2_with fail
          refine C.mono ?_
          clear C p0 p1
          rintro e wc ⟨t, rfl, hv, ho, hbc⟩
          have sc := hbc.size
          have b6F := b6N.below hbc b6N.lt
          have b7F := b7N.below hbc b7N.lt
          have nF : Below w.heap.size w wc := nN.trans (hbc.mono nN.size)
          have m0 := b6F.cell 0 _ rfl
          have m1 := b6F.cell 1 _ rfl
          have mf0 := b6F.frozen 0
          have mf1 := b6F.frozen 1
          obtain ⟨WP, hWP, bP, hwP, hsP⟩ := box2_fill b6F (.slice t.a t.seats.length t.c) (.int .i64 t.hand)
          have b7P := b7F.within hwP (by omega)
          obtain ⟨WF, hWF, hwF, hsF, HTF, HLF, bF⟩ := seat_out zeroSt _ rfl b7P
          have bPF := bP.within hwF (by omega)
          have HLP : Hid ((loadVar 26 ⟨w.heap.size + 1 + 1, 0, none⟩).run Tryd.prog WF = .ok (.agg t.cells.toArray) WF) := pool_load t bPF
          have hoF := ((PoolA.own.within ho hwP (.inr (by omega))).within hwF (.inr (by omega))).widen (show w.heap.size ≤ wN.heap.size by omega) (show wc.heap.size ≤ WF.heap.size by omega) (Nat.le_refl _)
          have hbF : Below w.heap.size w WF := (nF.trans (hwP.below (by omega) (by omega))).trans (hwF.below (by omega) (by omega))
          have HWF : Hid (WP.setCells (w.heap.size + 1 + 1 + 1) 0 zeroSt.cells.toArray.toList = WF) := hWF.out
          have HTF' : WP.there (w.heap.size + 1 + 1 + 1) 0 zeroSt.cells.toArray.size := HTF.out
          have HIz := seat_info zeroSt
          have HOz := seat_one zeroSt
          have HZO := zeroSt_own' WF w.heap.size WF.heap.size (Nat.le_refl _)
          have HV : Hid (t.v = p.v) := hv.out
          clear hwP hsP bP hwF hsF bF bPF b7P b6F b7F b6N b7N b3N nF hWF HTF ho hv
          obtain ⟨Zs, hZs⟩ : ∃ Zs, Hid (zeroSt = Zs) := ⟨_, rfl⟩
          have HZV : Hid (zeroStV = Zs.v) := by rw [Hid, ← hZs.out]; rfl
          rw [hZs.out] at HWF HTF' HIz HOz HLF HZO
          go_wp2_with (first | (guard_target = wpList _ _ _ (Oper.mk (some 35) _ _ _ _ _ :: _) _ _; refine build_zero_seat ?_; rw [hZs.out]) | (guard_target = wpList _ _ _ (Oper.mk none (Op.store _ (Operand.tmp 7) _) _ _ _ _ :: _) _ _; rw [hWP.out]; refine wpList_store_mid rfl 38 (.tmp 7) (.tmp 35) rfl (w.heap.size + 1 + 1 + 1) 0 Zs.cells.toArray rfl rfl HTF' HIz HOz ?_; rw [HWF.out]) | fail)
          exact bodyPost_ret (v := .tuple #[.agg t.cells.toArray, .agg Zs.cells.toArray, .bool false]) (results_three Tryd.results7 rfl rfl HLP.out HLF.out rfl) rfl ⟨t, Zs, false, rfl, by rw [Hid, bringOf_no HMAY.out, HV.out, HZV.out], hoF, HZO, hbF⟩
        · have HMAY : Hid (mayBring p.v no pg.lsn (pg.ss.map (·.v)) = true) := mayB_all HOKP HINB HOKG (by omega)
          obtain ⟨h, hh, h3⟩ := okPool_handNat HOKP
          have hlen3 : p.seats.length ≤ 3 := by have := (okPool_iff HOKP).1; simpa [PoolA.v] using this
          have b35 := b3.below N5 b3.lt
          have b55 := b5.below N5 b5.lt
          have b65 := b6.below N5 b6.lt
          have b75 := b7.below N5 b7.lt
          have n5 : Below w.heap.size w w5 := hbW.trans (N5.mono hbW.size)
          have sW5 := N5.size
          have rP : w5.rangeAt (w.heap.size + 1) 0 pg.cells := Box.range [] pg.cells [] (by simpa using b55)
          have hsdb : ¬ seatedOf p.v.seats no ≥ 0 := hsd
          have C := copyPage_own pg h4 w5 (hrp.below n5) hlp
          have HOKP' : Hid (okPool p.v = true) := HOKP
          clear HINB HOKG hlen3 N4 n3 n4 hb3 hb4 hb5 N5 HOKP
          go_upto_region 3 with fail
          generalize seatedOf p.v.seats no = sd at *
          go_wp2_with (first | (guard_target = wpList _ _ _ (Oper.mk (some 37) _ _ _ _ _ :: _) _ _; refine wpList_load_mid rfl 34 (.tmp 5) rfl (w.heap.size + 1) 0 rfl pg.cells _ rP Tryd.underlying34 rfl HI.out ?_) | fail)
          refine C.mono ?_
          clear C rP
          rintro e w6 ⟨xs, rfl, hxs, oxs, hb6⟩
          obtain ⟨x0, x1, x2, x3, rfl⟩ := four_slots' (ts := xs) (by have := congrArg List.length hxs.out; simpa [h4] using this)
          obtain ⟨q, hq⟩ : ∃ q : SeatA, Hid ((⟨no, pg.lsn, x0, x1, x2, x3, false, true⟩ : SeatA) = q) := ⟨_, rfl⟩
          have HQV : Hid (q.v = ⟨no, pg.lsn, pg.ss.map (·.v), false, true⟩) := by rw [Hid, ← hq.out, ← hxs.out]; rfl
          have oq6 : q.own w6 w5.heap.size w6.heap.size := by rw [← hq.out]; exact oxs
          have s6 := hb6.size
          obtain ⟨V7, hV7, a9, hb7, hs7⟩ := boxes1 w6 [.int .i64 0, .int .i64 0, .bool false, .int .i64 0, .slice none 0 0, .slice none 0 0, .bool false, .int .i64 0, .slice none 0 0, .slice none 0 0, .bool false, .int .i64 0, .slice none 0 0, .slice none 0 0, .bool false, .int .i64 0, .slice none 0 0, .slice none 0 0, .bool false, .bool false] 38
          obtain ⟨W7, hW7, hw7, hs7', HT7, _, b9⟩ := seat_out q _ rfl a9
          have N67 : Below w6.heap.size w6 W7 := hb7.trans (hw7.below (Nat.le_refl _) (by omega))
          have HW7 : Hid (V7.setCells w6.heap.size 0 q.cells.toArray.toList = W7) := hW7.out
          have HIq := seat_info q
          have HOq := seat_one q
          have N57 : Below w5.heap.size w5 W7 := hb6.trans (N67.mono hb6.size)
          have b37 := b35.below N57 b35.lt
          have b67 := b65.below N57 b65.lt
          have b77 := b75.below N57 b75.lt
          have oq7 := oq6.below N67
          have n7 : Below w.heap.size w W7 := n5.trans (N57.mono n5.size)
          have s7 := b9.lt
          have p0 := b37.cell 0 _ rfl
          have p1 := b37.cell 1 _ rfl
          clear hW7 hs7 hs7' hw7 hb7 a9 N67 hb6 N57 b35 b55 b65 b75 n5 oq6 oxs hxs
          go_upto_region 4 with (first | (guard_target = wpList _ _ _ (Oper.mk (some 39) _ _ _ _ _ :: _) _ _; refine build_seat (.tmp 36) (.tmp 38) no pg.lsn x0 x1 x2 x3 rfl rfl ?_; rw [hq.out]) | (guard_target = wpList _ _ _ (Oper.mk none (Op.store _ (Operand.tmp 9) _) _ _ _ _ :: _) _ _; rw [hV7.out]; refine wpList_store_mid rfl 38 (.tmp 9) (.tmp 39) rfl w6.heap.size 0 q.cells.toArray rfl rfl HT7.out HIq HOq ?_; rw [HW7.out]) | fail)
          clear hq hV7 HW7 HT7
          by_cases hlt : p.seats.length < 3
          · have hltb : (p.seats.length : Int) < 3 := by omega
            have C := copyPool_any p W7 (PoolA.reads.below hr n7) hl
            simp only [PoolA.cells] at C
            go_wp2_with fail
            refine C.mono ?_
            clear C p0 p1
            rintro e w8 ⟨t, rfl, hv, ho, hb8⟩
            have s8 := hb8.size
            obtain ⟨ts, hand, a, c⟩ := t
            simp only [PoolA.own] at ho
            have htl : Hid (ts.length = p.seats.length) := by
              have e := congrArg (fun v => v.seats.length) hv.out
              simp only [PoolA.v, List.length_map] at e
              exact e
            obtain ⟨W9, hW9, b10, hb9, hs9⟩ := boxes1 w8 [.slice a ts.length c, .int .i64 hand] 26
            have N79 : Below W7.heap.size W7 W9 := hb8.trans (hb9.mono hb8.size)
            have b69 := b67.below N79 b67.lt
            have b79 := b77.below N79 b77.lt
            have b99 := b9.below N79 b9.lt
            have oq9 := oq7.below N79
            have o9 := ho.below hb9
            have n9 : Below w.heap.size w W9 := n7.trans (N79.mono n7.size)
            have s9 := b10.lt
            obtain ⟨W10, hW10, bs, hb10, hs10⟩ := boxes1 W9 q.cells 38
            have b6a := b69.below hb10 b69.lt
            have b7a := b79.below hb10 b79.lt
            have b10a := b10.below hb10 b10.lt
            have oqa := oq9.below hb10
            have oa := o9.below hb10
            have na : Below w.heap.size w W10 := n9.trans (hb10.mono n9.size)
            have rq : W9.rangeAt w6.heap.size 0 q.cells := Box.range [] q.cells [] (by simpa using b99)
            have rs : W10.rangeAt W9.heap.size 0 q.cells := Box.range [] q.cells [] (by simpa using bs)
            have sa := hb10.size
            have hll : ts.length + 1 ≤ 68719476736 := by rw [htl.out]; omega
            have m10 := b10.cell 0 _ rfl
            have HV : Hid (PoolA.v ⟨ts, hand, a, c⟩ = p.v) := hv.out
            clear hs9 hs10 hb9 hb10 N79 hb8 ho o9 oq9 b69 b79 b99 n9 bs hv b37 b67 b77 b9 oq7 n7 htl
            go_upto_region 6 with fail
            rw [hW9.out]
            clear hW9
            go_wp2_with (first | (guard_target = wpList _ _ _ (Oper.mk (some 48) _ _ _ _ _ :: _) _ _; refine wpList_load_mid rfl 38 (.tmp 9) rfl w6.heap.size 0 rfl q.cells _ rq Tryd.underlying38 rfl HIq ?_) | (guard_target = wpList _ _ _ (Oper.mk (some 49) _ _ _ _ _ :: _) _ _; refine build_seats1 (.tmp 48) q rfl ?_; rw [hW10.out]) | (guard_target = wpList _ _ _ (Oper.mk (some 50) _ _ _ _ _ :: _) _ _; refine append_seatLow rfl _ _ rfl W7.heap.size w8.heap.size a c ts rfl oa W9.heap.size 0 1 q rfl rs w5.heap.size w6.heap.size oqa (by omega) s6 hll s8 ?_) | fail)
            intro a' c' w11 o11 g11
            obtain ⟨ys, hys⟩ : ∃ ys, Hid (ts ++ [q] = ys) := ⟨_, rfl⟩
            have hyl : ts.length + 1 = ys.length := by rw [← hys.out]; simp
            rw [hys.out] at o11
            rw [hyl]
            clear hyl m10 rq rs
            have t11 : Touch (Value.slice a ts.length c).ownBlock.toList W10 w11 := Touch.of_grown g11 (fun k hk => Option.mem_toList.2 hk)
            have hbl : ∀ k ∈ (Value.slice a ts.length c).ownBlock.toList, W7.heap.size ≤ k ∧ k < w8.heap.size := fun k hk => oa.blocks_lt k (List.mem_append.2 (.inl hk))
            have s11 := t11.size
            have b6b := b6a.touch t11 (fun hk => by have := hbl _ hk; omega)
            have b7b := b7a.touch t11 (fun hk => by have := hbl _ hk; omega)
            have b10b := b10a.touch t11 (fun hk => by have := hbl _ hk; omega)
            have nb : Below w.heap.size w w11 := na.trans ((t11.within hbl).below (by omega) (by omega))
            have k0 := b10b.cell 0 _ rfl
            have kf0 := b10b.frozen 0
            obtain ⟨Wc, hWc, b10c, hwc, hsc⟩ := box_set b10b 0 (.slice a' ys.length c')
            simp only [List.set] at b10c
            have b6c := b6b.within hwc (by omega)
            have b7c := b7b.within hwc (by omega)
            have hn8 : ∀ k ∈ blocksSts a' c' ys, k ≠ w8.heap.size := fun k hk e => by
              rw [← hys.out] at hk
              simp only [blocksSts, List.mem_append, Option.mem_toList, List.flatMap_append, List.flatMap_cons, List.flatMap_nil, List.append_nil] at hk
              rcases hk with hk | hk | hk
              · subst e
                obtain ⟨cur, hcur⟩ := ownsRow_at o11.row (by rw [← hys.out]; exact hk)
                unfold Box at b10b
                rw [b10b] at hcur
                simp only [Option.some.injEq, Obj.cells.injEq] at hcur
                have := hcur.2.1
                cases this
              · have := (oa.blocks_lt k (List.mem_append.2 (.inr hk))).2; omega
              · have := (oqa.blocks_lt k hk).2; omega
            have tc : Touch [w8.heap.size] w11 Wc := ⟨hwc.os, hwc.tape, hwc.output, hwc.size, fun j hj hn => hwc.block j hj (fun hh => hn (by simp; omega))⟩
            have oc := (o11.touch tc (fun k hk hk' => hn8 k hk (List.mem_singleton.1 hk'))).widen (Nat.le_refl _) (Nat.le_of_eq hsc.symm) (Nat.le_refl _)
            have nc : Below w.heap.size w Wc := nb.trans (hwc.below (by omega) (by omega))
            have hsca := Nat.le_of_eq hsc
            have hscb := Nat.le_of_eq hsc.symm
            have e0 := b10c.cell 0 _ rfl
            have e1 := b10c.cell 1 _ rfl
            have m0 := b6c.cell 0 _ rfl
            have m1 := b6c.cell 1 _ rfl
            have mf0 := b6c.frozen 0
            have mf1 := b6c.frozen 1
            obtain ⟨WP, hWP, bP, hwP, hsP⟩ := box2_fill b6c (.slice a' ys.length c') (.int .i64 hand)
            have b7P := b7c.within hwP (by omega)
            obtain ⟨WF, hWF, hwF, hsF, HTF, HLF, bF⟩ := seat_out zeroSt _ rfl b7P
            have bPF := bP.within hwF (by omega)
            have HLP : Hid ((loadVar 26 ⟨w.heap.size + 1 + 1, 0, none⟩).run Tryd.prog WF = .ok (.agg (PoolA.cells ⟨ys, hand, a', c'⟩).toArray) WF) := pool_load _ bPF
            have hoF := ((oc.within hwP (.inr (by omega))).within hwF (.inr (by omega))).widen (show w.heap.size ≤ w5.heap.size by omega) (show Wc.heap.size ≤ WF.heap.size by omega) (Nat.le_refl _)
            have hbF : Below w.heap.size w WF := (nc.trans (hwP.below (by omega) (by omega))).trans (hwF.below (by omega) (by omega))
            have HWF : Hid (WP.setCells (w.heap.size + 1 + 1 + 1) 0 zeroSt.cells.toArray.toList = WF) := hWF.out
            have HTF' : WP.there (w.heap.size + 1 + 1 + 1) 0 zeroSt.cells.toArray.size := HTF.out
            have HIz := seat_info zeroSt
            have HOz := seat_one zeroSt
            have HZO := zeroSt_own' WF w.heap.size WF.heap.size (Nat.le_refl _)
            have HFIN : Hid (bringOf p.v no pg.lsn (pg.ss.map (·.v)) = (PoolA.v ⟨ys, hand, a', c'⟩, zeroStV, false)) := by
              have e2 : p.v.hand = hand := by rw [← HV.out]; rfl
              have e3 : p.v.seats = ts.map SeatA.v := by rw [← HV.out]; rfl
              have e4 : p.v.hand.toNat = h := by rw [hh]; rfl
              have e5 : hand = (h : Int) := by rw [← e2, hh]
              rw [Hid, bringOf, if_pos HMAY.out, e4, bringV, if_pos (by simpa [PoolA.v] using hlt), e3, ← hys.out, e5]
              simp only [PoolA.v, List.map_append, List.map_cons, List.map_nil, HQV.out]
            simp only [PoolA.cells] at HLP
            clear hwP hsP bP hwF hsF bF bPF b7P b6c b7c b10c nc hWF HTF oc tc hn8 b6a b7a b10a oqa oa na t11 hbl b6b b7b b10b nb hwc hsc HV HMAY hh o11 g11
            obtain ⟨Zs, hZs⟩ : ∃ Zs, Hid (zeroSt = Zs) := ⟨_, rfl⟩
            have HZV : Hid (zeroStV = Zs.v) := by rw [Hid, ← hZs.out]; rfl
            rw [HZV.out] at HFIN
            rw [hZs.out] at HWF HTF' HIz HOz HLF HZO
            go_upto_region 7 with fail
            rw [hWc.out]
            clear hWc k0 kf0
            go_wp2_with (first | (guard_target = wpList _ _ _ (Oper.mk (some 53) _ _ _ _ _ :: _) _ _; refine build_zero_seat ?_; rw [hZs.out]) | (guard_target = wpList _ _ _ (Oper.mk none (Op.store _ (Operand.tmp 7) _) _ _ _ _ :: _) _ _; rw [hWP.out]; refine wpList_store_mid rfl 38 (.tmp 7) (.tmp 53) rfl (w.heap.size + 1 + 1 + 1) 0 Zs.cells.toArray rfl rfl HTF' HIz HOz ?_; rw [HWF.out]) | fail)
            exact bodyPost_ret (v := .tuple #[.agg #[.slice a' ys.length c', .int .i64 hand], .agg Zs.cells.toArray, .bool false]) (results_three Tryd.results7 rfl rfl HLP.out HLF.out rfl) rfl ⟨⟨ys, hand, a', c'⟩, Zs, false, rfl, HFIN, hoF, HZO, hbF⟩
          · have hge : ¬ (p.seats.length : Int) < 3 := by omega
            have hlen3 : p.seats.length = 3 := by have := (okPool_iff HOKP'.out).1; simp only [PoolA.v, List.length_map] at this; omega
            have HVO := victimOf_yes (h := h) HOKP'.out (by simpa [PoolA.v] using hlen3) hh
            have HVH := (victim_hand 4 p.v.seats h h3).2
            have HVL : (victimV 4 p.v.seats h).1.length = 3 := by rw [victim_len]; simpa [PoolA.v] using hlen3
            have C := implVictim_any p W7 (hg.keep n7) (PoolA.reads.below hr n7) hl
            simp only [PoolA.cells, VictimAns] at C
            have HP3 : Hid (p.seats.length = 3) := hlen3
            clear hlen3
            go_wp2_with fail
            refine C.mono ?_
            clear C p0 p1
            rintro e w8 ⟨t, kv, rfl, hvt, ho, hb8⟩
            rw [HVO] at hvt
            obtain ⟨k, hk⟩ : ∃ k : Nat, Hid ((victimV 4 p.v.seats h).2.2 = k) := ⟨_, rfl⟩
            have hkv : kv = (k : Int) := by have e := congrArg Prod.snd hvt.out; rw [← hk.out]; exact e.symm
            have htv : t.v = PoolV.mk (victimV 4 p.v.seats h).1 ((victimV 4 p.v.seats h).2.1 : Int) := (congrArg Prod.fst hvt.out).symm
            have hk3 : k < 3 := by rw [← hk.out]; exact HVH
            obtain ⟨ts, hand, a, c⟩ := t
            simp only [PoolA.own] at ho
            have htm : ts.map SeatA.v = (victimV 4 p.v.seats h).1 := congrArg PoolV.seats htv
            have hth : hand = ((victimV 4 p.v.seats h).2.1 : Int) := congrArg PoolV.hand htv
            have htl : ts.length = 3 := by have e := congrArg List.length htm; rw [HVL] at e; simpa using e
            subst hkv
            have HFV : Hid (bringOf p.v no pg.lsn (pg.ss.map (·.v)) = (PoolA.v ⟨ts.set k q, hand, a, c⟩, (ts.getD k zeroSt).v, true)) := by
              have e4 : p.v.hand.toNat = h := by rw [hh]; rfl
              rw [Hid, bringOf, if_pos HMAY.out, e4, bringV, if_neg (by simpa [PoolA.v] using hlt)]
              rw [← htm, hk.out, ← hth]
              simp only [PoolA.v, List.map_set, HQV.out, seatV_at]
            obtain ⟨g, rfl⟩ : ∃ g, a = some ⟨g, 0, none⟩ := by
              rcases ho.row.2 with ⟨_, h0⟩ | ⟨g, cap', cur, hv, _⟩
              · omega
              · simp only [Value.slice.injEq] at hv; exact ⟨g, hv.1⟩
            have s8 := hb8.size
            have hgl := ho.blocks_lt g (by simp [blocksSts, Value.ownBlock])
            have hkt : k < ts.length := by omega
            obtain ⟨W9, hW9, b11, hb9, hs9⟩ := boxes1 w8 [.slice (some ⟨g, 0, none⟩) ts.length c, .int .i64 hand] 26
            have N79 : Below W7.heap.size W7 W9 := hb8.trans (hb9.mono hb8.size)
            have b69 := b67.below N79 b67.lt
            have b79 := b77.below N79 b77.lt
            have b99 := b9.below N79 b9.lt
            have oq9 := oq7.below N79
            have o9 := ho.below hb9
            have n9 : Below w.heap.size w W9 := n7.trans (N79.mono n7.size)
            have s9 := b11.lt
            obtain ⟨old, hold⟩ : ∃ old, Hid (ts.getD k zeroSt = old) := ⟨_, rfl⟩
            have r9 := (row_seat o9.row rfl k hkt).1
            have oold := o9.each _ (seatD_mem ts k hkt)
            rw [hold.out] at r9 oold HFV
            obtain ⟨V10, hV10, a13, hb10, hs10⟩ := boxes1 W9 [.int .i64 0, .int .i64 0, .bool false, .int .i64 0, .slice none 0 0, .slice none 0 0, .bool false, .int .i64 0, .slice none 0 0, .slice none 0 0, .bool false, .int .i64 0, .slice none 0 0, .slice none 0 0, .bool false, .int .i64 0, .slice none 0 0, .slice none 0 0, .bool false, .bool false] 38
            obtain ⟨W10, hW10, hw10, hs10', HT10, _, b13⟩ := seat_out old _ rfl a13
            have N910 : Below W9.heap.size W9 W10 := hb10.trans (hw10.below (Nat.le_refl _) (by omega))
            have HW10 : Hid (V10.setCells W9.heap.size 0 old.cells.toArray.toList = W10) := hW10.out
            have b6a := b69.below N910 b69.lt
            have b7a := b79.below N910 b79.lt
            have b9a := b99.below N910 b99.lt
            have b11a := b11.below N910 b11.lt
            have oqa := oq9.below N910
            have oa := o9.below N910
            have oolda := oold.below N910
            have na : Below w.heap.size w W10 := n9.trans (N910.mono n9.size)
            have sa := N910.size
            have l13 := b13.lt
            have hng : g ∉ old.blocks := fun hk => rowSt_apart oa.row oolda g rfl hk
            obtain ⟨WS, hWS, oS, tS, hsS⟩ := OwnSts.fillLow (A := ts.take k) (z := ts.getD k zeroSt) (B := ts.drop (k + 1)) (by rw [← seatD_split ts k hkt]; exact oa) q oqa (by omega) s8 s6
            have hkl : (ts.take k).length = k := by rw [List.length_take]; omega
            rw [hkl] at hWS
            rw [← seat_set ts k q hkt] at oS
            have HWS : Hid (W10.setCells g (k * 20) q.cells.toArray.toList = WS) := hWS.out
            have HTS : W10.there g (k * 20) q.cells.toArray.size := (row_seat oa.row rfl k hkt).2
            have b6S := b6a.touch tS (by simp; omega)
            have b7S := b7a.touch tS (by simp; omega)
            have b11S := b11a.touch tS (by simp; omega)
            have b13S := b13.touch tS (by simp; omega)
            have ooS := oolda.touch tS (fun j hj hk => hng (by rw [← List.mem_singleton.1 hk]; exact hj))
            have nS : Below w.heap.size w WS := na.trans ((tS.within (lo := W7.heap.size) (hi := w8.heap.size) (fun j hj => by obtain rfl := List.mem_singleton.1 hj; exact hgl)).below (by omega) (by omega))
            have hsSa := Nat.le_of_eq hsS
            have hsSb := Nat.le_of_eq hsS.symm
            have HIo := seat_info old
            have HOo := seat_one old
            have rq : W10.rangeAt w6.heap.size 0 q.cells := Box.range [] q.cells [] (by simpa using b9a)
            have m11 := b11.cell 0 _ rfl
            have m11a := b11a.cell 0 _ rfl
            have hkb : (k : Int) < (ts.length : Int) := by omega
            have hk0 : (0 : Int) ≤ (k : Int) := by omega
            have HLN : Hid ((ts.set k q).length = ts.length) := by rw [Hid]; simp
            clear hs9 hs10 hs10' hw10 hb9 hb10 N79 N910 hb8 ho o9 oq9 b69 b79 b99 n9 b37 b67 b77 b9 oq7 n7 hvt htv htm hth htl HVO HVH HVL hW10 hWS oold hsS hkl b6a b7a b9a b11a oa oolda na hng a13 b11 hk hold HMAY HQV hh
            go_upto_region 9 with fail
            rw [hW9.out]
            clear hW9
            go_upto_region 10 with (first | (guard_target = wpList _ _ _ (Oper.mk (some 63) _ _ _ _ _ :: _) _ _; refine wpList_load_mid rfl 38 (.tmp 62) rfl g (k * 20) rfl old.cells _ r9 Tryd.underlying38 rfl HIo ?_) | (guard_target = wpList _ _ _ (Oper.mk none (Op.store _ (Operand.tmp 13) _) _ _ _ _ :: _) _ _; rw [hV10.out]; refine wpList_store_mid rfl 38 (.tmp 13) (.tmp 63) rfl W9.heap.size 0 old.cells.toArray rfl rfl HT10.out HIo HOo ?_; rw [HW10.out]) | fail)
            clear m11 r9 hV10 HT10 HW10
            go_upto_region 11 with (first | (guard_target = wpList _ _ _ (Oper.mk (some 67) _ _ _ _ _ :: _) _ _; refine wpList_load_mid rfl 38 (.tmp 9) rfl w6.heap.size 0 rfl q.cells _ rq Tryd.underlying38 rfl HIq ?_) | (guard_target = wpList _ _ _ (Oper.mk none (Op.store _ (Operand.tmp 68) _) _ _ _ _ :: _) _ _; refine wpList_store_mid rfl 38 (.tmp 68) (.tmp 67) rfl g (k * 20) q.cells.toArray rfl rfl HTS HIq HOq ?_; rw [HWS.out]) | fail)
            clear m11a rq HTS HWS
            have ND : Below WS.heap.size WS WS.drew := (Below.refl _ _).drew
            obtain ⟨w12, hw12⟩ : ∃ w12, Hid (WS.drew = w12) := ⟨_, rfl⟩
            rw [hw12.out] at ND
            have sd := ND.size
            have b6d := b6S.below ND b6S.lt
            have b7d := b7S.below ND b7S.lt
            have b11d := b11S.below ND b11S.lt
            have b13d := b13S.below ND b13S.lt
            have od := oS.below ND
            have ood := ooS.below ND
            have nd : Below w.heap.size w w12 := nS.trans (ND.mono nS.size)
            obtain ⟨us, hus⟩ : ∃ us, Hid (ts.set k q = us) := ⟨_, rfl⟩
            rw [hus.out] at od HFV HLN
            have b11u : Box w12 w8.heap.size [.slice (some ⟨g, 0, none⟩) us.length c, .int .i64 hand] 26 := by rw [HLN.out]; exact b11d
            obtain ⟨WP, hWP, hwP, hsP, HTP, _, bP⟩ := pool_out ⟨us, hand, some ⟨g, 0, none⟩, c⟩ _ rfl b6d
            have b7P := b7d.within hwP (by omega)
            obtain ⟨WF, hWF, hwF, hsF, HTF, HLF, bF⟩ := seat_out old _ rfl b7P
            have bPF := bP.within hwF (by omega)
            have HLP : Hid ((loadVar 26 ⟨w.heap.size + 1 + 1, 0, none⟩).run Tryd.prog WF = .ok (.agg (PoolA.cells ⟨us, hand, some ⟨g, 0, none⟩, c⟩).toArray) WF) := pool_load _ bPF
            have hoF := ((od.within hwP (.inr (by omega))).within hwF (.inr (by omega))).widen (show w.heap.size ≤ w5.heap.size by omega) (show w8.heap.size ≤ WF.heap.size by omega) (Nat.le_refl _)
            have hgF := ((ood.within hwP (.inr (by omega))).within hwF (.inr (by omega))).widen (show w.heap.size ≤ W7.heap.size by omega) (show w8.heap.size ≤ WF.heap.size by omega) (Nat.le_refl _)
            have hbF : Below w.heap.size w WF := (nd.trans (hwP.below (by omega) (by omega))).trans (hwF.below (by omega) (by omega))
            have HSS : Hid (∀ u, Box u w8.heap.size [.slice (some ⟨g, 0, none⟩) us.length c, .int .i64 hand] 26 → Box u W9.heap.size old.cells 38 → (u.cell? ⟨w8.heap.size, 0, none⟩ = some (.slice (some ⟨g, 0, none⟩) us.length c) ∧ u.cell? ⟨w8.heap.size, 1, none⟩ = some (.int .i64 hand)) ∧ u.rangeAt W9.heap.size 0 old.cells) := fun u h1 h2 => ⟨⟨h1.cell 0 _ rfl, h1.cell 1 _ rfl⟩, Box.range [] old.cells [] (by simpa using h2)⟩
            have K8 := HSS.out w12 b11u b13d
            have KP := HSS.out WP (b11u.within hwP (by omega)) (b13d.within hwP (by omega))
            have KF := HSS.out WF ((b11u.within hwP (by omega)).within hwF (by omega)) ((b13d.within hwP (by omega)).within hwF (by omega))
            have EP : Hid (w12.setCells (w.heap.size + 1 + 1) 0 (PoolA.cells ⟨us, hand, some ⟨g, 0, none⟩, c⟩).toArray.toList = WP) := hWP.out
            have EF : Hid (WP.setCells (w.heap.size + 1 + 1 + 1) 0 old.cells.toArray.toList = WF) := hWF.out
            have TP : w12.there (w.heap.size + 1 + 1) 0 (PoolA.cells ⟨us, hand, some ⟨g, 0, none⟩, c⟩).toArray.size := HTP.out
            have TF : WP.there (w.heap.size + 1 + 1 + 1) 0 old.cells.toArray.size := HTF.out
            have HIp := pool_info ⟨us, hand, some ⟨g, 0, none⟩, c⟩
            have HOp := pool_one ⟨us, hand, some ⟨g, 0, none⟩, c⟩
            simp only [PoolA.cells] at EP TP HIp HOp HLP
            clear b6S b7S b11S b13S oS ooS nS b6d b7d b11d b13d od ood nd b11u hwP hsP bP b7P hwF hsF bF bPF hWP hWF HTP HTF HSS ND tS hus
            refine wp_region_held_drew (S := fun u => (u.cell? ⟨w8.heap.size, 0, none⟩ = some (.slice (some ⟨g, 0, none⟩) us.length c) ∧ u.cell? ⟨w8.heap.size, 1, none⟩ = some (.int .i64 hand)) ∧ u.rangeAt W9.heap.size 0 old.cells) (by kernel_rfl) ?_ (fun hHeld => ?_)
            · rw [hw12.out]; exact K8
            rw [hw12.out] at hHeld ⊢
            clear hw12
            refine wpAnyH_take (i := 0) (v := .agg #[.slice (some ⟨g, 0, none⟩) us.length c, .int .i64 hand]) rfl (by kernel_rfl) (by kernel_rfl) (by kernel_rfl) (fun _ _ _ h => h) (Or.inl ⟨by rfl, ?_⟩) hHeld ?_
            · intro w' hSw
              have hx0 := hSw.1.1
              have hx1 := hSw.1.2
              go_simp <;> rfl
            try simp only [Act.put, List.getElem_toArray, List.getElem_cons_zero, List.setIfInBounds_toArray, List.set_cons_zero, List.set_cons_succ]
            refine wpAnyH_take (i := 1) rfl (by kernel_rfl) (by kernel_rfl) (by kernel_rfl) (fun _ _ _ h => h) (yieldsIf_load_mid (by rfl) _ _ rfl _ _ rfl old.cells _ (fun _ h => h.2) Tryd.underlying38 rfl HIo) hHeld ?_
            try simp only [Act.put, List.getElem_toArray, List.getElem_cons_zero, List.getElem_cons_succ, List.setIfInBounds_toArray, List.set_cons_zero, List.set_cons_succ]
            refine wpAnyH_ready (rs := [2]) (by kernel_rfl) (by simp) ?_
            refine AllReadyH.cons rfl (fun K hK => ?_) AllReadyH.nil
            rw [if_pos (by rfl)]
            refine wp_store_mid 26 (.tmp 6) (.tmp 69) rfl (w.heap.size + 1 + 1) 0 #[.slice (some ⟨g, 0, none⟩) us.length c, .int .i64 hand] rfl rfl TP HIp HOp ?_
            rw [EP.out]
            refine hK.out _ _ KP (fun hHeld => ?_)
            clear hK K
            try simp only [Act.put, List.getElem_toArray, List.getElem_cons_zero, List.getElem_cons_succ]
            refine wpAnyH_ready (rs := [3]) (by kernel_rfl) (by simp) ?_
            refine AllReadyH.cons rfl (fun K hK => ?_) AllReadyH.nil
            rw [if_pos (by rfl)]
            refine wp_store_mid 38 (.tmp 7) (.tmp 70) rfl (w.heap.size + 1 + 1 + 1) 0 old.cells.toArray rfl rfl TF HIo HOo ?_
            rw [EF.out]
            refine hK.out _ _ KF (fun hHeld => ?_)
            clear hK K
            try simp only [Act.put, List.getElem_toArray, List.getElem_cons_zero, List.getElem_cons_succ]
            refine wpAnyH_take (i := 4) (v := .bool true) rfl (by kernel_rfl) (by kernel_rfl) (by kernel_rfl) (fun _ _ _ h => h) (Or.inl ⟨by rfl, ?_⟩) hHeld ?_
            · intro w' hSw
              go_simp <;> rfl
            try simp only [Act.put, List.getElem_toArray, List.getElem_cons_zero, List.getElem_cons_succ, List.setIfInBounds_toArray, List.set_cons_zero, List.set_cons_succ]
            refine wpAnyH_done (by kernel_rfl) ?_ _
            clear hHeld K8 KP KF
            go_wp2_with fail
            exact bodyPost_ret (v := .tuple #[.agg #[.slice (some ⟨g, 0, none⟩) us.length c, .int .i64 hand], .agg old.cells.toArray, .bool true]) (results_three Tryd.results7 rfl rfl HLP.out HLF.out rfl) rfl ⟨⟨us, hand, some ⟨g, 0, none⟩, c⟩, old, true, rfl, HFV, hoF, hgF, hbF⟩
end Go.Proofs.YtoboickdkednkaaDoor
