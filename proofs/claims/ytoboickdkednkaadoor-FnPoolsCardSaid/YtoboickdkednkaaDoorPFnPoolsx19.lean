/- Several texts in one, in their order. -/
import Derived.Test.YtoboickdkednkaaDoorPFnPoolsx17
import Derived.Test.YtoboickdkednkaaDoorPFnPoolsx16
import Derived.Test.YtoboickdkednkaaDoorPFnPoolsx18
import Derived.Deep.RegionHeld3
import Derived.Test.YtoboickdkednkaaDoorPFnPoolsx12
/- The walk of spec.Bring. -/
namespace Go.Proofs.YtoboickdkednkaaDoor
open Go.RowKit
attribute [local go_sem ↓] Go.wp_at_zero Go.wp_at_succ

/-- What Bring answers. -/
def BringAns6 (p : PoolA) (no lsn : Int) (ss : List SlotV) (w : World) (e : Ending) (w' : World) : Prop :=
  ∃ (t : PoolA) (s : SeatA) (b : Bool), e = .returned (.tuple #[.agg t.cells.toArray, .agg s.cells.toArray, .bool b]) ∧ Hid (bringOf p.v no lsn ss = (t.v, s.v, b)) ∧ t.own w' w.heap.size w'.heap.size ∧ s.own w' w.heap.size w'.heap.size ∧ Below w.heap.size w w'
theorem results_three {P : Program} {fn : Func} {s t u : Nat} {ty tz : TypeId} {tmps : Array Value} {w : World} {v x : Value} {b : Bool} {ad ae : Addr} (hf : fn.results = #[.cell s ty, .cell t tz, .tmp u]) (ht : tmps[s]?.getD undef = .pointer (some ad)) (hu : tmps[t]?.getD undef = .pointer (some ae)) (hl : (loadVar ty ad).run P w = .ok v w) (hm : (loadVar tz ae).run P w = .ok x w) (hb : tmps[u]?.getD undef = .bool b) : (results fn tmps).run P w = .ok (.tuple #[v, x, .bool b]) w := by
  unfold results
  rw [hf]
  simp [ht, hu, hb, asAddr, hl, hm]
theorem bringOf_no {p : PoolV} {no lsn : Int} {ss : List SlotV} (h : mayBring p no lsn ss = false) : bringOf p no lsn ss = (p, zeroStV, false) := by rw [bringOf, if_neg (by rw [h]; decide)]
theorem mayB_pool {p : PoolV} {no lsn : Int} {ss : List SlotV} (h : okPool p = false) : mayBring p no lsn ss = false := by rw [mayBring, h]; rfl
theorem mayB_no {p : PoolV} {no lsn : Int} {ss : List SlotV} (h : inB no 0 7 = false) : mayBring p no lsn ss = false := by rw [mayBring, h]; simp
theorem mayB_page {p : PoolV} {no lsn : Int} {ss : List SlotV} (h : okP lsn ss = false) : mayBring p no lsn ss = false := by rw [mayBring, h]; simp
theorem mayB_there {p : PoolV} {no lsn : Int} {ss : List SlotV} (h : 0 ≤ seatedOf p.seats no) : mayBring p no lsn ss = false := by
  rw [mayBring, decide_eq_false (by omega : ¬ seatedOf p.seats no < 0)]
  simp
theorem mayB_all {p : PoolV} {no lsn : Int} {ss : List SlotV} (h1 : okPool p = true) (h2 : inB no 0 7 = true) (h3 : okP lsn ss = true) (h4 : seatedOf p.seats no < 0) : mayBring p no lsn ss = true := by
  rw [mayBring, h1, h2, h3, decide_eq_true h4]
  rfl

set_option maxHeartbeats 8000000 in
set_option maxRecDepth 100000 in
theorem specBring_any (p : PoolA) (no : Int) (pg : PageA) (h4 : pg.ss.length = 4) (w : World) (hr : p.reads w) (hl : p.short 1048576) (hrp : ReadsS w pg.ss) (hlp : Fit pg.ss) :
    Calls Tryd.prog 8 #[.agg p.cells.toArray, .int .i64 no, .agg pg.cells.toArray] w fun e w' => BringAns6 p no pg.lsn (pg.ss.map (·.v)) w e w' := by
  obtain ⟨V, hV, a3, a5, hbV, hsV⟩ := boxes2 w [.slice p.a p.seats.length p.c, .int .i64 p.hand] pg.cells 26 34
  obtain ⟨W, hW, a6, a7, hbW', hsW⟩ := boxes2 V [.slice none 0 0, .int .i64 0] [.int .i64 0, .int .i64 0, .bool false, .int .i64 0, .slice none 0 0, .slice none 0 0, .bool false, .int .i64 0, .slice none 0 0, .slice none 0 0, .bool false, .int .i64 0, .slice none 0 0, .slice none 0 0, .bool false, .int .i64 0, .slice none 0 0, .slice none 0 0, .bool false, .bool false] 26 38
  have b3 := a3.below hbW' a3.lt
  have b5 := a5.below hbW' a5.lt
  have b6 : Box W (w.heap.size + 1 + 1) [.slice none 0 0, .int .i64 0] 26 := by rw [show w.heap.size + 1 + 1 = V.heap.size by omega]; exact a6
  have b7 : Box W (w.heap.size + 1 + 1 + 1) zeroSt.cells 38 := by rw [show w.heap.size + 1 + 1 + 1 = V.heap.size + 1 by omega]; exact a7
  have hbW : Below w.heap.size w W := hbV.trans (hbW'.mono hbV.size)
  have hs0 : w.heap.size + 1 + 1 + 1 < W.heap.size := by omega
  have HWW : Hid ((((w.alloc (.cells #[.slice p.a p.seats.length p.c, .int .i64 p.hand] 26)).alloc (.cells pg.cells.toArray 34)).alloc (.cells #[.slice none 0 0, .int .i64 0] 26)).alloc (.cells #[.int .i64 0, .int .i64 0, .bool false, .int .i64 0, .slice none 0 0, .slice none 0 0, .bool false, .int .i64 0, .slice none 0 0, .slice none 0 0, .bool false, .int .i64 0, .slice none 0 0, .slice none 0 0, .bool false, .int .i64 0, .slice none 0 0, .slice none 0 0, .bool false, .bool false] 38) = W) := by
    rw [Hid, ← hW.out, ← hV.out]
  clear hV hW hsV hsW hbV hbW' a3 a5 a6 a7
  have p0 := b3.cell 0 _ rfl
  have p1 := b3.cell 1 _ rfl
  have C := l6Copy_any p W (PoolA.reads.below hr hbW) hl
  have HI : Hid ((Tryd.prog.info? 34).map (·.size) = some pg.cells.length) := Tryd.infoPg pg h4
  simp only [PoolA.cells] at *
  go_enter Tryd.func8, Tryd.ntmps8
  go_upto_region 1 with fail
  rw [HWW.out]
  clear HWW
  go_wp2_with fail
  refine C.mono ?_
  clear C p0 p1
  rintro e w1 ⟨t, rfl, hv, ho, hb1⟩
  have hs1 := hb1.size
  have b31 := b3.below hb1 b3.lt
  have b51 := b5.below hb1 b5.lt
  have b61 := b6.below hb1 b6.lt
  have b71 := b7.below hb1 b7.lt
  obtain ⟨W2, hW2, b9, hb2, hs2⟩ := boxes1 w1 [.slice t.a t.seats.length t.c, .int .i64 t.hand] 26
  have b32 := b31.below hb2 b31.lt
  have b52 := b51.below hb2 b51.lt
  have b62 := b61.below hb2 b61.lt
  have b72 := b71.below hb2 b71.lt
  have o2 := PoolA.own.below ho hb2
  have n2 : Below w.heap.size w W2 := (hbW.trans (hb1.mono (by omega))).trans (hb2.mono (by omega))
  have hs2' := b9.lt
  have HV : Hid (t.v = p.v) := hv.out
  clear b3 b5 b6 b7 b31 b51 b61 b71 ho hb1 hb2 hs2 hbW hv
  go_upto_region 2 with fail
  rw [hW2.out]
  clear hW2
  have p0 := b32.cell 0 _ rfl
  have p1 := b32.cell 1 _ rfl
  have C := specPoolOk_any p W2 (PoolA.reads.below hr n2) (PoolA.short_wide hl)
  simp only [PoolA.cells] at C
  go_wp2_with fail
  refine C.mono ?_
  clear C p0 p1
  rintro e w3 ⟨rfl, hb3⟩
  have hs3 := hb3.size
  have b33 := b32.below hb3 b32.lt
  have b53 := b52.below hb3 b52.lt
  have b63 := b62.below hb3 b62.lt
  have b73 := b72.below hb3 b72.lt
  have b93 := b9.below hb3 b9.lt
  have o3 := PoolA.own.below o2 hb3
  have n3 : Below w.heap.size w w3 := n2.trans (hb3.mono n2.size)
  clear b32 b52 b62 b72 b9 o2 n2 hb3
  cases HOKP : okPool p.v with
  | false =>
    have HMAY : Hid (mayBring p.v no pg.lsn (pg.ss.map (·.v)) = false) := mayB_pool HOKP
    have bN := Below.refl w3.heap.size w3
    have b6N := b63
    have b7N := b73
    have b9N := b93
    have oN := o3
    clear HOKP b33 b53
    have b6F := b6N.below bN b6N.lt
    have b7F := b7N.below bN b7N.lt
    have b9F := b9N.below bN b9N.lt
    have oF0 := PoolA.own.below oN bN
    have nF := n3.trans (bN.mono n3.size)
    have sF := bN.size
    have e0 := b9F.cell 0 _ rfl
    have e1 := b9F.cell 1 _ rfl
    have m0 := b6F.cell 0 _ rfl
    have m1 := b6F.cell 1 _ rfl
    have mf0 := b6F.frozen 0
    have mf1 := b6F.frozen 1
    obtain ⟨WP, hWP, bP, hwP, hsP⟩ := box2_fill b6F (.slice t.a t.seats.length t.c) (.int .i64 t.hand)
    have b7P := b7F.within hwP (by omega)
    obtain ⟨WF, hWF, hwF, hsF, HTF, HLF, bF⟩ := seat_out zeroSt _ rfl b7P
    have bPF := bP.within hwF (by omega)
    have HLP : Hid ((loadVar 26 ⟨w.heap.size + 1 + 1, 0, none⟩).run Tryd.prog WF = .ok (.agg t.cells.toArray) WF) := pool_load t bPF
    have hoF := ((PoolA.own.within oF0 hwP (.inr (by omega))).within hwF (.inr (by omega))).widen (show w.heap.size ≤ W.heap.size by omega) (show w1.heap.size ≤ WF.heap.size by omega) (Nat.le_refl _)
    have hbF : Below w.heap.size w WF := (nF.trans (hwP.below (by omega) (by omega))).trans (hwF.below (by omega) (by omega))
    have HWF : Hid (WP.setCells (w.heap.size + 1 + 1 + 1) 0 zeroSt.cells.toArray.toList = WF) := hWF.out
    have HTF' : WP.there (w.heap.size + 1 + 1 + 1) 0 zeroSt.cells.toArray.size := HTF.out
    have HIz := seat_info zeroSt
    have HOz := seat_one zeroSt
    have HZO := zeroSt_own' WF w.heap.size WF.heap.size (Nat.le_refl _)
    clear hwP hsP bP hwF hsF bF bPF b7P b6F b7F b9F oF0 b6N b7N b9N oN nF hWF HTF
    obtain ⟨Zs, hZs⟩ : ∃ Zs, Hid (zeroSt = Zs) := ⟨_, rfl⟩
    have HZV : Hid (zeroStV = Zs.v) := by rw [Hid, ← hZs.out]; rfl
    rw [hZs.out] at HWF HTF' HIz HOz HLF HZO
    go_wp2_with (first | (guard_target = wpList _ _ _ (Oper.mk (some 34) _ _ _ _ _ :: _) _ _; refine build_zero_seat ?_; rw [hZs.out]) | (guard_target = wpList _ _ _ (Oper.mk none (Op.store _ (Operand.tmp 7) _) _ _ _ _ :: _) _ _; rw [hWP.out]; refine wpList_store_mid rfl 38 (.tmp 7) (.tmp 34) rfl (w.heap.size + 1 + 1 + 1) 0 Zs.cells.toArray rfl rfl HTF' HIz HOz ?_; rw [HWF.out]) | fail)
    exact bodyPost_ret (v := .tuple #[.agg t.cells.toArray, .agg Zs.cells.toArray, .bool false]) (results_three Tryd.results8 rfl rfl HLP.out HLF.out rfl) rfl ⟨t, Zs, false, rfl, by rw [Hid, bringOf_no HMAY.out, HV.out, HZV.out], hoF, HZO, hbF⟩
  | true =>
    have C := l1In_any no 0 7 w3
    cases HINB : inB no 0 7 with
    | false =>
      have HMAY : Hid (mayBring p.v no pg.lsn (pg.ss.map (·.v)) = false) := mayB_no HINB
      rw [HINB] at C
      go_wp2_with fail
      refine C.mono ?_
      clear C
      rintro e u ⟨rfl, hu⟩
      rw [hu]
      clear hu u
      have bN := Below.refl w3.heap.size w3
      have b6N := b63
      have b7N := b73
      have b9N := b93
      have oN := o3
      clear HOKP HINB b33 b53
      have b6F := b6N.below bN b6N.lt
      have b7F := b7N.below bN b7N.lt
      have b9F := b9N.below bN b9N.lt
      have oF0 := PoolA.own.below oN bN
      have nF := n3.trans (bN.mono n3.size)
      have sF := bN.size
      have e0 := b9F.cell 0 _ rfl
      have e1 := b9F.cell 1 _ rfl
      have m0 := b6F.cell 0 _ rfl
      have m1 := b6F.cell 1 _ rfl
      have mf0 := b6F.frozen 0
      have mf1 := b6F.frozen 1
      obtain ⟨WP, hWP, bP, hwP, hsP⟩ := box2_fill b6F (.slice t.a t.seats.length t.c) (.int .i64 t.hand)
      have b7P := b7F.within hwP (by omega)
      obtain ⟨WF, hWF, hwF, hsF, HTF, HLF, bF⟩ := seat_out zeroSt _ rfl b7P
      have bPF := bP.within hwF (by omega)
      have HLP : Hid ((loadVar 26 ⟨w.heap.size + 1 + 1, 0, none⟩).run Tryd.prog WF = .ok (.agg t.cells.toArray) WF) := pool_load t bPF
      have hoF := ((PoolA.own.within oF0 hwP (.inr (by omega))).within hwF (.inr (by omega))).widen (show w.heap.size ≤ W.heap.size by omega) (show w1.heap.size ≤ WF.heap.size by omega) (Nat.le_refl _)
      have hbF : Below w.heap.size w WF := (nF.trans (hwP.below (by omega) (by omega))).trans (hwF.below (by omega) (by omega))
      have HWF : Hid (WP.setCells (w.heap.size + 1 + 1 + 1) 0 zeroSt.cells.toArray.toList = WF) := hWF.out
      have HTF' : WP.there (w.heap.size + 1 + 1 + 1) 0 zeroSt.cells.toArray.size := HTF.out
      have HIz := seat_info zeroSt
      have HOz := seat_one zeroSt
      have HZO := zeroSt_own' WF w.heap.size WF.heap.size (Nat.le_refl _)
      clear hwP hsP bP hwF hsF bF bPF b7P b6F b7F b9F oF0 b6N b7N b9N oN nF hWF HTF
      obtain ⟨Zs, hZs⟩ : ∃ Zs, Hid (zeroSt = Zs) := ⟨_, rfl⟩
      have HZV : Hid (zeroStV = Zs.v) := by rw [Hid, ← hZs.out]; rfl
      rw [hZs.out] at HWF HTF' HIz HOz HLF HZO
      go_wp2_with (first | (guard_target = wpList _ _ _ (Oper.mk (some 34) _ _ _ _ _ :: _) _ _; refine build_zero_seat ?_; rw [hZs.out]) | (guard_target = wpList _ _ _ (Oper.mk none (Op.store _ (Operand.tmp 7) _) _ _ _ _ :: _) _ _; rw [hWP.out]; refine wpList_store_mid rfl 38 (.tmp 7) (.tmp 34) rfl (w.heap.size + 1 + 1 + 1) 0 Zs.cells.toArray rfl rfl HTF' HIz HOz ?_; rw [HWF.out]) | fail)
      exact bodyPost_ret (v := .tuple #[.agg t.cells.toArray, .agg Zs.cells.toArray, .bool false]) (results_three Tryd.results8 rfl rfl HLP.out HLF.out rfl) rfl ⟨t, Zs, false, rfl, by rw [Hid, bringOf_no HMAY.out, HV.out, HZV.out], hoF, HZO, hbF⟩
    | true =>
      rw [HINB] at C
      go_wp2_with fail
      refine C.mono ?_
      clear C
      rintro e u ⟨rfl, hu⟩
      rw [hu]
      clear hu u
      have C := specPageOk_any pg h4 w3 (hrp.below n3) hlp
      have rP : w3.rangeAt (w.heap.size + 1) 0 pg.cells := Box.range [] pg.cells [] (by simpa using b53)
      go_wp2_with (first | (guard_target = wpList _ _ _ (Oper.mk (some 23) _ _ _ _ _ :: _) _ _; refine wpList_load_mid_if (by rfl) 34 (.tmp 5) rfl (w.heap.size + 1) 0 rfl pg.cells _ rP Tryd.underlying34 rfl HI.out ?_) | fail)
      refine C.mono ?_
      clear C rP
      rintro e w4 ⟨rfl, hb4⟩
      have hs4 := hb4.size
      have n4 : Below w.heap.size w w4 := n3.trans (hb4.mono n3.size)
      cases HOKG : okP pg.lsn (pg.ss.map (·.v)) with
      | false =>
        have HMAY : Hid (mayBring p.v no pg.lsn (pg.ss.map (·.v)) = false) := mayB_page HOKG
        have bN := hb4
        have b6N := b63
        have b7N := b73
        have b9N := b93
        have oN := o3
        clear HOKP HINB HOKG b33 b53
        have b6F := b6N.below bN b6N.lt
        have b7F := b7N.below bN b7N.lt
        have b9F := b9N.below bN b9N.lt
        have oF0 := PoolA.own.below oN bN
        have nF := n3.trans (bN.mono n3.size)
        have sF := bN.size
        have e0 := b9F.cell 0 _ rfl
        have e1 := b9F.cell 1 _ rfl
        have m0 := b6F.cell 0 _ rfl
        have m1 := b6F.cell 1 _ rfl
        have mf0 := b6F.frozen 0
        have mf1 := b6F.frozen 1
        obtain ⟨WP, hWP, bP, hwP, hsP⟩ := box2_fill b6F (.slice t.a t.seats.length t.c) (.int .i64 t.hand)
        have b7P := b7F.within hwP (by omega)
        obtain ⟨WF, hWF, hwF, hsF, HTF, HLF, bF⟩ := seat_out zeroSt _ rfl b7P
        have bPF := bP.within hwF (by omega)
        have HLP : Hid ((loadVar 26 ⟨w.heap.size + 1 + 1, 0, none⟩).run Tryd.prog WF = .ok (.agg t.cells.toArray) WF) := pool_load t bPF
        have hoF := ((PoolA.own.within oF0 hwP (.inr (by omega))).within hwF (.inr (by omega))).widen (show w.heap.size ≤ W.heap.size by omega) (show w1.heap.size ≤ WF.heap.size by omega) (Nat.le_refl _)
        have hbF : Below w.heap.size w WF := (nF.trans (hwP.below (by omega) (by omega))).trans (hwF.below (by omega) (by omega))
        have HWF : Hid (WP.setCells (w.heap.size + 1 + 1 + 1) 0 zeroSt.cells.toArray.toList = WF) := hWF.out
        have HTF' : WP.there (w.heap.size + 1 + 1 + 1) 0 zeroSt.cells.toArray.size := HTF.out
        have HIz := seat_info zeroSt
        have HOz := seat_one zeroSt
        have HZO := zeroSt_own' WF w.heap.size WF.heap.size (Nat.le_refl _)
        clear hwP hsP bP hwF hsF bF bPF b7P b6F b7F b9F oF0 b6N b7N b9N oN nF hWF HTF
        obtain ⟨Zs, hZs⟩ : ∃ Zs, Hid (zeroSt = Zs) := ⟨_, rfl⟩
        have HZV : Hid (zeroStV = Zs.v) := by rw [Hid, ← hZs.out]; rfl
        rw [hZs.out] at HWF HTF' HIz HOz HLF HZO
        go_wp2_with (first | (guard_target = wpList _ _ _ (Oper.mk (some 34) _ _ _ _ _ :: _) _ _; refine build_zero_seat ?_; rw [hZs.out]) | (guard_target = wpList _ _ _ (Oper.mk none (Op.store _ (Operand.tmp 7) _) _ _ _ _ :: _) _ _; rw [hWP.out]; refine wpList_store_mid rfl 38 (.tmp 7) (.tmp 34) rfl (w.heap.size + 1 + 1 + 1) 0 Zs.cells.toArray rfl rfl HTF' HIz HOz ?_; rw [HWF.out]) | fail)
        exact bodyPost_ret (v := .tuple #[.agg t.cells.toArray, .agg Zs.cells.toArray, .bool false]) (results_three Tryd.results8 rfl rfl HLP.out HLF.out rfl) rfl ⟨t, Zs, false, rfl, by rw [Hid, bringOf_no HMAY.out, HV.out, HZV.out], hoF, HZO, hbF⟩
      | true =>
        have b34 := b33.below hb4 b33.lt
        have p0 := b34.cell 0 _ rfl
        have p1 := b34.cell 1 _ rfl
        have C := specSeatedP_any p no w4 (PoolA.reads.below hr n4) (PoolA.short_wide hl)
        simp only [PoolA.cells] at C
        go_wp2_with fail
        refine C.mono ?_
        clear C p0 p1
        rintro e w5 ⟨rfl, hb5⟩
        have hs5 := hb5.size
        have N35 : Below w3.heap.size w3 w5 := hb4.trans (hb5.mono hb4.size)
        by_cases hsd : 0 ≤ seatedOf p.v.seats no
        · have HMAY : Hid (mayBring p.v no pg.lsn (pg.ss.map (·.v)) = false) := mayB_there hsd
          have bN := N35
          have b6N := b63
          have b7N := b73
          have b9N := b93
          have oN := o3
          clear HOKP HINB HOKG b33 b53 b34
          generalize seatedOf p.v.seats no = sd at *
          have b6F := b6N.below bN b6N.lt
          have b7F := b7N.below bN b7N.lt
          have b9F := b9N.below bN b9N.lt
          have oF0 := PoolA.own.below oN bN
          have nF := n3.trans (bN.mono n3.size)
          have sF := bN.size
          have e0 := b9F.cell 0 _ rfl
          have e1 := b9F.cell 1 _ rfl
          have m0 := b6F.cell 0 _ rfl
          have m1 := b6F.cell 1 _ rfl
          have mf0 := b6F.frozen 0
          have mf1 := b6F.frozen 1
          obtain ⟨WP, hWP, bP, hwP, hsP⟩ := box2_fill b6F (.slice t.a t.seats.length t.c) (.int .i64 t.hand)
          have b7P := b7F.within hwP (by omega)
          obtain ⟨WF, hWF, hwF, hsF, HTF, HLF, bF⟩ := seat_out zeroSt _ rfl b7P
          have bPF := bP.within hwF (by omega)
          have HLP : Hid ((loadVar 26 ⟨w.heap.size + 1 + 1, 0, none⟩).run Tryd.prog WF = .ok (.agg t.cells.toArray) WF) := pool_load t bPF
          have hoF := ((PoolA.own.within oF0 hwP (.inr (by omega))).within hwF (.inr (by omega))).widen (show w.heap.size ≤ W.heap.size by omega) (show w1.heap.size ≤ WF.heap.size by omega) (Nat.le_refl _)
          have hbF : Below w.heap.size w WF := (nF.trans (hwP.below (by omega) (by omega))).trans (hwF.below (by omega) (by omega))
          have HWF : Hid (WP.setCells (w.heap.size + 1 + 1 + 1) 0 zeroSt.cells.toArray.toList = WF) := hWF.out
          have HTF' : WP.there (w.heap.size + 1 + 1 + 1) 0 zeroSt.cells.toArray.size := HTF.out
          have HIz := seat_info zeroSt
          have HOz := seat_one zeroSt
          have HZO := zeroSt_own' WF w.heap.size WF.heap.size (Nat.le_refl _)
          clear hwP hsP bP hwF hsF bF bPF b7P b6F b7F b9F oF0 b6N b7N b9N oN nF hWF HTF
          obtain ⟨Zs, hZs⟩ : ∃ Zs, Hid (zeroSt = Zs) := ⟨_, rfl⟩
          have HZV : Hid (zeroStV = Zs.v) := by rw [Hid, ← hZs.out]; rfl
          rw [hZs.out] at HWF HTF' HIz HOz HLF HZO
          go_wp2_with (first | (guard_target = wpList _ _ _ (Oper.mk (some 34) _ _ _ _ _ :: _) _ _; refine build_zero_seat ?_; rw [hZs.out]) | (guard_target = wpList _ _ _ (Oper.mk none (Op.store _ (Operand.tmp 7) _) _ _ _ _ :: _) _ _; rw [hWP.out]; refine wpList_store_mid rfl 38 (.tmp 7) (.tmp 34) rfl (w.heap.size + 1 + 1 + 1) 0 Zs.cells.toArray rfl rfl HTF' HIz HOz ?_; rw [HWF.out]) | fail)
          exact bodyPost_ret (v := .tuple #[.agg t.cells.toArray, .agg Zs.cells.toArray, .bool false]) (results_three Tryd.results8 rfl rfl HLP.out HLF.out rfl) rfl ⟨t, Zs, false, rfl, by rw [Hid, bringOf_no HMAY.out, HV.out, HZV.out], hoF, HZO, hbF⟩
        · have HMAY : Hid (mayBring p.v no pg.lsn (pg.ss.map (·.v)) = true) := mayB_all HOKP HINB HOKG (by omega)
          obtain ⟨h, hh, h3⟩ := okPool_handNat HOKP
          have hlen3 := (okPool_iff HOKP).1
          have b55 := b53.below N35 b53.lt
          have b65 := b63.below N35 b63.lt
          have b75 := b73.below N35 b73.lt
          have b95 := b93.below N35 b93.lt
          have o5 := PoolA.own.below o3 N35
          have n5 : Below w.heap.size w w5 := n3.trans (N35.mono n3.size)
          obtain ⟨ts, hand, a, c⟩ := t
          simp only [PoolA.own] at *
          have hth : hand = (h : Int) := by
            have e := congrArg PoolV.hand HV.out
            rw [hh] at e
            exact e
          have htl : ts.length ≤ 3 := by
            have e := congrArg (fun v => v.seats.length) HV.out
            simp only [PoolA.v, List.length_map] at e
            simp only [PoolA.v, List.length_map] at hlen3
            omega
          subst hth
          have hpt : PoolAt w5 W.heap.size w1.heap.size w1.heap.size 0 [.slice a ts.length c, .int .i64 (h : Int)] 26 a c ts h := ⟨b95, rfl, rfl, o5, fun hk => by have := (o5.blocks_lt _ hk).2; omega⟩
          have C := l6Bring_any W.heap.size w1.heap.size w1.heap.size 0 _ _ a c ts h no pg w5 hpt hs1 htl h3 h4 (hrp.below n5) hlp
          have rP : w5.rangeAt (w.heap.size + 1) 0 pg.cells := Box.range [] pg.cells [] (by simpa using b55)
          have hsdb : ¬ seatedOf p.v.seats no ≥ 0 := hsd
          have hltb : ∀ j ∈ blocksSts a c ts, W.heap.size ≤ j ∧ j < w1.heap.size := o5.blocks_lt
          have HBO : Hid (bringOf p.v no pg.lsn (pg.ss.map (·.v)) = (PoolV.mk (bringV (ts.map SeatA.v) h ⟨no, pg.lsn, pg.ss.map (·.v), false, true⟩).1 ((bringV (ts.map SeatA.v) h ⟨no, pg.lsn, pg.ss.map (·.v), false, true⟩).2.1 : Int), (bringV (ts.map SeatA.v) h ⟨no, pg.lsn, pg.ss.map (·.v), false, true⟩).2.2.1, (bringV (ts.map SeatA.v) h ⟨no, pg.lsn, pg.ss.map (·.v), false, true⟩).2.2.2)) := by
            have e1 : p.v.seats = ts.map SeatA.v := by rw [← HV.out]; rfl
            have e2 : p.v.hand.toNat = h := by rw [hh]; rfl
            rw [Hid, bringOf, if_pos HMAY.out, e1, e2]
          clear hpt b95 o5 hh HOKP HINB HOKG HMAY hlen3 b33 b34 b53 b63 b73 b93 o3 n3 n4 hb4 hb5 hsd
          generalize seatedOf p.v.seats no = sd at *
          go_upto_region 4 with fail
          go_wp2_with (first | (guard_target = wpList _ _ _ (Oper.mk (some 37) _ _ _ _ _ :: _) _ _; refine wpList_load_mid rfl 34 (.tmp 5) rfl (w.heap.size + 1) 0 rfl pg.cells _ rP Tryd.underlying34 rfl HI.out ?_) | fail)
          refine C.mono ?_
          clear C rP
          rintro e w6 ⟨us, a', c', hnd, old, went, rfl, hbv, br⟩
          have hs6 := br.touch.size
          have hnT : ∀ j, j < w1.heap.size → j < W.heap.size → j ∉ w1.heap.size :: blocksSts a c ts := fun j h1 h2 hk => by
            rcases List.mem_cons.1 hk with hk | hk
            · omega
            · have := hltb _ hk; omega
          have b66 := b65.touch br.touch (hnT _ (by omega) (by omega))
          have b76 := b75.touch br.touch (hnT _ (by omega) (by omega))
          have n6 : Below w.heap.size w w6 := n5.trans ((br.touch.within (lo := W.heap.size) (hi := w1.heap.size + 1) (fun j hj => by
            rcases List.mem_cons.1 hj with rfl | hj
            · omega
            · have := hltb _ hj; omega)).below (by omega) (by omega))
          have b96 : Box w6 w1.heap.size [.slice a' us.length c', .int .i64 (hnd : Int)] 26 := br.pool.box
          have o6 : OwnSts w6 W.heap.size w6.heap.size a' c' us := br.pool.own
          have og6 : old.own w6 W.heap.size w6.heap.size := br.went
          have HFIN : Hid (bringOf p.v no pg.lsn (pg.ss.map (·.v)) = (PoolA.v ⟨us, hnd, a', c'⟩, old.v, went)) := by
            rw [Hid, HBO.out, hbv.out]
            rfl
          obtain ⟨V7, hV7, a10, hb7, hs7⟩ := boxes1 w6 [.int .i64 0, .int .i64 0, .bool false, .int .i64 0, .slice none 0 0, .slice none 0 0, .bool false, .int .i64 0, .slice none 0 0, .slice none 0 0, .bool false, .int .i64 0, .slice none 0 0, .slice none 0 0, .bool false, .int .i64 0, .slice none 0 0, .slice none 0 0, .bool false, .bool false] 38
          obtain ⟨W7, hW7, hw7, hs7', HT7, _, b10⟩ := seat_out old _ rfl a10
          have N67 : Below w6.heap.size w6 W7 := hb7.trans (hw7.below (Nat.le_refl _) (by omega))
          have HW7 : Hid (V7.setCells w6.heap.size 0 old.cells.toArray.toList = W7) := hW7.out
          have HIo := seat_info old
          have HOo := seat_one old
          have ND : Below W7.heap.size W7 W7.drew := (Below.refl _ _).drew
          obtain ⟨w8, hw8⟩ : ∃ w8, Hid (W7.drew = w8) := ⟨_, rfl⟩
          rw [hw8.out] at ND
          have N68 : Below w6.heap.size w6 w8 := N67.trans (ND.mono N67.size)
          have b68 := b66.below N68 b66.lt
          have b78 := b76.below N68 b76.lt
          have b98 := b96.below N68 b96.lt
          have b108 := b10.below ND b10.lt
          have o8 := o6.below N68
          have og8 := og6.below N68
          have n8 : Below w.heap.size w w8 := n6.trans (N68.mono n6.size)
          have s8 := N68.size
          have lt10 := b10.lt
          have s78 := ND.size
          obtain ⟨WP, hWP, hwP, hsP, HTP, _, bP⟩ := pool_out ⟨us, hnd, a', c'⟩ _ rfl b68
          have b7P := b78.within hwP (by omega)
          obtain ⟨WF, hWF, hwF, hsF, HTF, HLF, bF⟩ := seat_out old _ rfl b7P
          have bPF := bP.within hwF (by omega)
          have HLP : Hid ((loadVar 26 ⟨w.heap.size + 1 + 1, 0, none⟩).run Tryd.prog WF = .ok (.agg (PoolA.cells ⟨us, hnd, a', c'⟩).toArray) WF) := pool_load _ bPF
          have hoF := ((o8.within hwP (.inr (by omega))).within hwF (.inr (by omega))).widen (show w.heap.size ≤ W.heap.size by omega) (show w6.heap.size ≤ WF.heap.size by omega) (Nat.le_refl _)
          have hgF := ((og8.within hwP (.inr (by omega))).within hwF (.inr (by omega))).widen (show w.heap.size ≤ W.heap.size by omega) (show w6.heap.size ≤ WF.heap.size by omega) (Nat.le_refl _)
          have hbF : Below w.heap.size w WF := (n8.trans (hwP.below (by omega) (by omega))).trans (hwF.below (by omega) (by omega))
          have HSS : Hid (∀ u, Box u w1.heap.size [.slice a' us.length c', .int .i64 (hnd : Int)] 26 → Box u w6.heap.size old.cells 38 → (u.cell? ⟨w1.heap.size, 0, none⟩ = some (.slice a' us.length c') ∧ u.cell? ⟨w1.heap.size, 1, none⟩ = some (.int .i64 (hnd : Int))) ∧ u.rangeAt w6.heap.size 0 old.cells) := fun u h1 h2 => ⟨⟨h1.cell 0 _ rfl, h1.cell 1 _ rfl⟩, Box.range [] old.cells [] (by simpa using h2)⟩
          have K8 := HSS.out w8 b98 b108
          have KP := HSS.out WP (b98.within hwP (by omega)) (b108.within hwP (by omega))
          have KF := HSS.out WF ((b98.within hwP (by omega)).within hwF (by omega)) ((b108.within hwP (by omega)).within hwF (by omega))
          have EP : Hid (w8.setCells (w.heap.size + 1 + 1) 0 (PoolA.cells ⟨us, hnd, a', c'⟩).toArray.toList = WP) := hWP.out
          have EF : Hid (WP.setCells (w.heap.size + 1 + 1 + 1) 0 old.cells.toArray.toList = WF) := hWF.out
          have TP : w8.there (w.heap.size + 1 + 1) 0 (PoolA.cells ⟨us, hnd, a', c'⟩).toArray.size := HTP.out
          have TF : WP.there (w.heap.size + 1 + 1 + 1) 0 old.cells.toArray.size := HTF.out
          have HIp := pool_info ⟨us, hnd, a', c'⟩
          have HOp := pool_one ⟨us, hnd, a', c'⟩
          simp only [PoolA.cells] at EP TP HIp HOp HLP
          clear hW7 hs7 hs7' hw7 hb7 a10 b10 N67 b65 b75 b66 b76 b96 o6 og6 n5 n6 br hbv HBO hnT N68 b68 b78 b98 b108 o8 og8 n8 hwP hsP bP b7P hwF hsF bF bPF hWP hWF HTP HTF HSS ND b55
          go_upto_region 5 with (first | (guard_target = wpList _ _ _ (Oper.mk none (Op.store _ (Operand.tmp 10) _) _ _ _ _ :: _) _ _; rw [hV7.out]; refine wpList_store_mid rfl 38 (.tmp 10) (.tmp 39) rfl w6.heap.size 0 old.cells.toArray rfl rfl HT7.out HIo HOo ?_; rw [HW7.out]) | fail)
          refine wp_region_held_drew (S := fun u => (u.cell? ⟨w1.heap.size, 0, none⟩ = some (.slice a' us.length c') ∧ u.cell? ⟨w1.heap.size, 1, none⟩ = some (.int .i64 (hnd : Int))) ∧ u.rangeAt w6.heap.size 0 old.cells) (by kernel_rfl) ?_ (fun hHeld => ?_)
          · rw [hw8.out]; exact K8
          rw [hw8.out] at hHeld ⊢
          clear hw8
          refine wpAnyH_take (i := 0) (v := .agg #[.slice a' us.length c', .int .i64 (hnd : Int)]) rfl (by kernel_rfl) (by kernel_rfl) (by kernel_rfl) (fun _ _ _ h => h) (Or.inl ⟨by rfl, ?_⟩) hHeld ?_
          · intro w' hSw
            have hx0 := hSw.1.1
            have hx1 := hSw.1.2
            go_simp <;> rfl
          try simp only [Act.put, List.getElem_toArray, List.getElem_cons_zero, List.setIfInBounds_toArray, List.set_cons_zero, List.set_cons_succ]
          refine wpAnyH_take (i := 1) rfl (by kernel_rfl) (by kernel_rfl) (by kernel_rfl) (fun _ _ _ h => h) (yieldsIf_load_mid (by rfl) _ _ rfl _ _ rfl old.cells _ (fun _ h => h.2) Tryd.underlying38 rfl HIo) hHeld ?_
          try simp only [Act.put, List.getElem_toArray, List.getElem_cons_zero, List.getElem_cons_succ, List.setIfInBounds_toArray, List.set_cons_zero, List.set_cons_succ]
          refine wpAnyH_take (i := 2) (v := .bool went) rfl (by kernel_rfl) (by kernel_rfl) (by kernel_rfl) (fun _ _ _ h => h) (Or.inl ⟨by rfl, ?_⟩) hHeld ?_
          · intro w' hSw
            go_simp <;> rfl
          try simp only [Act.put, List.getElem_toArray, List.getElem_cons_zero, List.getElem_cons_succ, List.setIfInBounds_toArray, List.set_cons_zero, List.set_cons_succ]
          refine wpAnyH_ready (rs := [3]) (by kernel_rfl) (by simp) ?_
          refine AllReadyH.cons rfl (fun K hK => ?_) AllReadyH.nil
          rw [if_pos (by rfl)]
          refine wp_store_mid 26 (.tmp 6) (.tmp 41) rfl (w.heap.size + 1 + 1) 0 #[.slice a' us.length c', .int .i64 (hnd : Int)] rfl rfl TP HIp HOp ?_
          rw [EP.out]
          refine hK.out _ _ KP (fun hHeld => ?_)
          clear hK K
          try simp only [Act.put, List.getElem_toArray, List.getElem_cons_zero, List.getElem_cons_succ]
          refine wpAnyH_ready (rs := [4]) (by kernel_rfl) (by simp) ?_
          refine AllReadyH.cons rfl (fun K hK => ?_) AllReadyH.nil
          rw [if_pos (by rfl)]
          refine wp_store_mid 38 (.tmp 7) (.tmp 42) rfl (w.heap.size + 1 + 1 + 1) 0 old.cells.toArray rfl rfl TF HIo HOo ?_
          rw [EF.out]
          refine hK.out _ _ KF (fun hHeld => ?_)
          clear hK K
          try simp only [Act.put, List.getElem_toArray, List.getElem_cons_zero, List.getElem_cons_succ]
          refine wpAnyH_take (i := 5) (v := .bool went) rfl (by kernel_rfl) (by kernel_rfl) (by kernel_rfl) (fun _ _ _ h => h) (Or.inl ⟨by rfl, ?_⟩) hHeld ?_
          · intro w' hSw
            go_simp <;> rfl
          try simp only [Act.put, List.getElem_toArray, List.getElem_cons_zero, List.getElem_cons_succ, List.setIfInBounds_toArray, List.set_cons_zero, List.set_cons_succ]
          refine wpAnyH_done (by kernel_rfl) ?_ _
          clear hHeld K8 KP KF
          go_wp2_with fail
          exact bodyPost_ret (v := .tuple #[.agg #[.slice a' us.length c', .int .i64 (hnd : Int)], .agg old.cells.toArray, .bool went]) (results_three Tryd.results8 rfl rfl HLP.out HLF.out rfl) rfl ⟨⟨us, hnd, a', c'⟩, old, went, rfl, HFIN, hoF, hgF, hbF⟩
end Go.Proofs.YtoboickdkednkaaDoor

/- A seat whose page lies below a row: stored in it, appended to it. -/
namespace Go.Proofs.YtoboickdkednkaaDoor
open Go.RowKit

theorem OwnSts.fillLow {w : World} {lo hi g c : Nat} {A B : List SeatA} {z : SeatA} (h : OwnSts w lo hi (some ⟨g, 0, none⟩) c (A ++ z :: B)) (q : SeatA) {l u : Nat} (hq : q.own w l u) (hl : u ≤ lo) (hlo : lo ≤ hi) (hlu : l ≤ u) :
    ∃ W, Hid (w.setCells g (A.length * 20) q.cells = W) ∧ OwnSts W l hi (some ⟨g, 0, none⟩) c (A ++ q :: B) ∧ Touch [g] w W ∧ W.heap.size = w.heap.size := by
  have hrow0 := h.row
  have hrow := ownsRow_base (base' := l) hrow0 (fun k hk => by have := (hrow0.lt k hk).1; omega)
  rw [cellsSts_app, cellsSts_cons, List.length_append, List.length_cons] at hrow
  have hg : lo ≤ g ∧ g < hi := ⟨(hrow0.lt g rfl).1, h.blk g rfl⟩
  obtain ⟨h1, h2⟩ := row_setCells q.cells (cellsSts A) z.cells (cellsSts B) w hrow rfl
  rw [cellsSts_len] at h1 h2
  have ht : Touch [g] w (w.setCells g (A.length * 20) q.cells) := Touch.of_grown h2 (fun k hk => by cases hk; simp)
  have hap := h.apart
  simp only [List.flatMap_append, List.flatMap_cons, Value.ownBlock, Option.toList, List.singleton_append, List.nodup_cons, List.nodup_append, List.mem_append, not_or] at hap
  obtain ⟨⟨n1, n2, n3⟩, a1, ⟨a2, a3, a4⟩, a5⟩ := hap
  have hqb := hq.blocks_lt
  have hA : ∀ x ∈ A.flatMap SeatA.blocks, lo ≤ x ∧ x < hi := fun x hx => by
    obtain ⟨r, hr, hx⟩ := List.mem_flatMap.1 hx
    exact (h.each r (by simp [hr])).blocks_lt x hx
  have hB : ∀ x ∈ B.flatMap SeatA.blocks, lo ≤ x ∧ x < hi := fun x hx => by
    obtain ⟨r, hr, hx⟩ := List.mem_flatMap.1 hx
    exact (h.each r (by simp [hr])).blocks_lt x hx
  have hsz := setCells_heap g q.cells (A.length * 20) w
  refine ⟨_, rfl, ⟨?_, ?_, fun k hk => ?_, fun r hr => ?_, ?_⟩, ht, hsz⟩
  · rw [cellsSts_app, cellsSts_cons, List.length_append, List.length_cons]
    exact h1
  · rw [hsz]
    have := h.top
    omega
  · cases hk
    exact hg.2
  · rcases List.mem_append.1 hr with hr | hr
    · exact ((h.each r (by simp [hr])).touch ht (fun k hk hk' => n1 (by rw [← List.mem_singleton.1 hk']; exact List.mem_flatMap.2 ⟨r, hr, hk⟩))).widen (by omega) (Nat.le_refl _) (by rw [hsz]; have := h.top; omega)
    · rcases List.mem_cons.1 hr with rfl | hr
      · exact (hq.touch ht (fun k hk hk' => by have := hqb k hk; have := List.mem_singleton.1 hk'; omega)).widen (Nat.le_refl _) (by omega) (by rw [hsz]; have := h.top; omega)
      · exact ((h.each r (by simp [hr])).touch ht (fun k hk hk' => n3 (by rw [← List.mem_singleton.1 hk']; exact List.mem_flatMap.2 ⟨r, hr, hk⟩))).widen (by omega) (Nat.le_refl _) (by rw [hsz]; have := h.top; omega)
  · simp only [List.flatMap_append, List.flatMap_cons, Value.ownBlock, Option.toList, List.singleton_append, List.nodup_cons, List.nodup_append, List.mem_append, not_or]
    refine ⟨⟨n1, fun hk => by have := hqb g hk; omega, n3⟩, a1, ⟨hq.apart, a3, fun x hx y hy e => by have := hqb x hx; have := hB y hy; omega⟩, fun x hx y hy e => ?_⟩
    rcases hy with hy | hy
    · have := hqb y hy; have := hA x hx; omega
    · exact a5 x hx y (.inr hy) e
theorem append_seatLow {w : World} {ops : Array Oper} {rest : List Oper} {o : Oper} {act : Act} {Q : Exit → Act → World → Prop} (hgd : o.guard = none) (s x : Operand)
    (ho : o.op = .call { callee := .builtin .append, args := #[s, x], argTypes := #[24, 24] })
    (lo hi : Nat) (a : Option Addr) (c : Nat) (rs : List SeatA) (hs : act.eval s = .slice a rs.length c) (hown : OwnSts w lo hi a c rs)
    (b off : Nat) (sc : Nat) (q : SeatA) (hx : act.eval x = .slice (some ⟨b, off, none⟩) 1 sc) (hr : w.rangeAt b off q.cells) (l u : Nat) (hq : q.own w l u) (hl : u ≤ lo) (hlu : l ≤ u)
    (hb : rs.length + 1 ≤ 68719476736) (hlo : lo ≤ hi)
    (h : ∀ a' c' w', OwnSts w' l w'.heap.size a' c' (rs ++ [q]) → w.grownBy w' (Value.slice a rs.length c).ownBlock → wpList Tryd.prog ops Q rest (act.put o.dst (.slice a' (rs ++ [q]).length c')) w') :
    wpList Tryd.prog ops Q (o :: rest) act w := by
  obtain ⟨i0, hi0, hz0, hz1, hz2⟩ := info_parts Tryd.infoSeat
  have hqb := hq.blocks_lt
  have htop := hown.top
  refine wpList_append_own w hgd s x 24 ho lo 38 i0 (.agg zeroSt.cells.toArray) 20 280 Tryd.underlying24 hi0 hz0 hz1 hz2 rfl (by decide) _ _ _ hs hown.row ⟨b, off, none⟩ 1 sc q.cells hx (by rfl) ?_ (oneSt q) (by simp only [maxLen]; omega) (by omega) (by omega) (fun v' w' h1 h2 _ => ?_)
  · intro j v hj
    rw [Addr_add]
    exact hr j v hj
  · have e : cellsSts rs ++ q.cells = cellsSts (rs ++ [q]) := by rw [cellsSts_app, cellsSts_cons]; simp [cellsSts]
    have e2 : rs.length + 1 = (rs ++ [q]).length := by simp
    rw [e, e2] at h1
    have sh : ∃ a' c', v' = .slice a' (rs ++ [q]).length c' := by
      rcases h1.2 with ⟨rfl, h0⟩ | ⟨g, cap, cur, rfl, _⟩
      · simp at h0
      · exact ⟨_, _, rfl⟩
    obtain ⟨a', c', rfl⟩ := sh
    have hsz := h2.size
    have ht : Touch (Value.slice a rs.length c).ownBlock.toList w w' := Touch.of_grown h2 (fun k hk => Option.mem_toList.2 hk)
    have hrow := h1.lt
    have hold : ∀ r ∈ rs, r.own w' l w'.heap.size := fun r hr => ((hown.each r hr).touch ht (fun k hk hk' => (List.nodup_append.1 hown.apart).2.2 k hk' k (List.mem_flatMap.2 ⟨r, hr, hk⟩) rfl)).widen (by omega) (by omega) (Nat.le_refl _)
    have hnew : q.own w' l w'.heap.size := (hq.touch ht (fun k hk hk' => by have := hqb k hk; have := (hown.row.lt k (Option.mem_toList.1 hk')).1; omega)).widen (Nat.le_refl _) (by omega) (Nat.le_refl _)
    refine h a' c' w' ⟨ownsRow_base h1 (fun k hk => by have := (h1.lt k hk).1; omega), Nat.le_refl _, fun k hk => (hrow k hk).2, fun r hr => ?_, ?_⟩ h2
    · rcases List.mem_append.1 hr with hr | hr
      · exact hold r hr
      · obtain rfl := List.mem_singleton.1 hr
        exact hnew
    · rw [List.flatMap_append, List.nodup_append, List.nodup_append]
      have hap := (List.nodup_append.1 hown.apart).2.1
      have hin : ∀ x ∈ rs.flatMap SeatA.blocks, lo ≤ x ∧ x < hi := fun x hx => by
        obtain ⟨r, hr, hx⟩ := List.mem_flatMap.1 hx
        exact (hown.each r hr).blocks_lt x hx
      refine ⟨by cases (Value.slice a' (rs ++ [q]).length c').ownBlock <;> simp, ⟨hap, by simpa using hq.apart, fun x hx y hy e => ?_⟩, fun x hx y hy e => ?_⟩
      · have := hin x hx
        simp only [List.flatMap_cons, List.flatMap_nil, List.append_nil] at hy
        have := hqb y hy
        omega
      · have hx' := Option.mem_toList.1 hx
        subst e
        rcases List.mem_append.1 hy with hy | hy
        · obtain ⟨r, hr, hy⟩ := List.mem_flatMap.1 hy
          exact rowSt_apart h1 (hold r hr) x hx' hy
        · simp only [List.flatMap_cons, List.flatMap_nil, List.append_nil] at hy
          exact rowSt_apart h1 hnew x hx' hy
end Go.Proofs.YtoboickdkednkaaDoor
