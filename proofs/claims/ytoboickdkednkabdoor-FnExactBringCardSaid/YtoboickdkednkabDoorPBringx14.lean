/- Several texts in one, in their order. -/
import Derived.Test.YtoboickdkednkabDoorPBringx12
import Derived.Test.YtoboickdkednkabDoorPBringx13
import Derived.Test.YtoboickdkednkabDoorPBringx11
import Derived.Deep.RegionHeld3
import Derived.Test.YtoboickdkednkabDoorPBringx9
import Derived.Test.YtoboickdkednkabDoorPBringx7
import Derived.Test.YtoboickdkednkabDoorPBringx1
set_option maxHeartbeats 8000000
set_option maxRecDepth 100000
namespace Go.Proofs.YtoboickdkednkabDoor
open Go.RowKit
attribute [local go_sem ↓] Go.wp_at_zero Go.wp_at_succ
def BringAns6 (p : PoolA) (no lsn : Int) (ss : List SlotV) (w : World) (e : Ending) (w' : World) : Prop :=
 ∃ (t : PoolA) (s : SeatA) (b : Bool), e = .returned (.tuple #[.agg t.cells.toArray, .agg s.cells.toArray, .bool b]) ∧ Hid (bringOf p.v no lsn ss = (t.v, s.v, b)) ∧ t.own w' w.heap.size w'.heap.size ∧ s.own w' w.heap.size w'.heap.size ∧ Below w.heap.size w w'
theorem results_three {P : Program} {fn : Func} {s t u : Nat} {ty tz : TypeId} {tmps : Array Value} {w : World} {v x : Value} {b : Bool} {ad ae : Addr} (hf : fn.results = #[.cell s ty, .cell t tz, .tmp u]) (ht : tmps[s]?.getD undef = .pointer (some ad)) (hu : tmps[t]?.getD undef = .pointer (some ae)) (hl : (loadVar ty ad).run P w = .ok v w) (hm : (loadVar tz ae).run P w = .ok x w) (hb : tmps[u]?.getD undef = .bool b) : (results fn tmps).run P w = .ok (.tuple #[v, x, .bool b]) w := by
 unfold results
 rw [hf]
 simp [ht, hu, hb, asAddr, hl, hm]
theorem bringOf_no {p : PoolV} {no lsn : Int} {ss : List SlotV} (h : mayBring p no lsn ss = false) : bringOf p no lsn ss = (p, zeroStV, false) := by rw [bringOf, if_neg (by rw [h]; decide)]
theorem mayB_pool {p : PoolV} {no lsn : Int} {ss : List SlotV} (h : okPool p = false) : mayBring p no lsn ss = false := by rw [mayBring, h]; rfl
theorem mayB_no {p : PoolV} {no lsn : Int} {ss : List SlotV} (h : inB no 0 7 = false) : mayBring p no lsn ss = false := by rw [mayBring, h]; simp
theorem mayB_page {p : PoolV} {no lsn : Int} {ss : List SlotV} (h : okP lsn ss = false) : mayBring p no lsn ss = false := by rw [mayBring, h]; simp
theorem mayB_there {p : PoolV} {no lsn : Int} {ss : List SlotV} (h : 0 ≤ seatedOf p.seats no) : mayBring p no lsn ss = false := by
 rw [mayBring, decide_eq_false (by omega : ¬ seatedOf p.seats no < 0)]
 simp
theorem mayB_all {p : PoolV} {no lsn : Int} {ss : List SlotV} (h1 : okPool p = true) (h2 : inB no 0 7 = true) (h3 : okP lsn ss = true) (h4 : seatedOf p.seats no < 0) : mayBring p no lsn ss = true := by
 rw [mayBring, h1, h2, h3, decide_eq_true h4]
 rfl
theorem specBring_any (p : PoolA) (no : Int) (pg : PageA) (h4 : pg.ss.length = 4) (w : World) (hr : p.reads w) (hl : p.short 1048576) (hrp : ReadsS w pg.ss) (hlp : Fit pg.ss) :
  Calls Tryd.prog 6 #[.agg p.cells.toArray, .int .i64 no, .agg pg.cells.toArray] w fun e w' => BringAns6 p no pg.lsn (pg.ss.map (·.v)) w e w' := by
 obtain ⟨V, hV, a3, a5, hbV, hsV⟩ := boxes2 w [.slice p.a p.seats.length p.c, .int .i64 p.hand] pg.cells 37 43
 obtain ⟨W, hW, a6, a7, hbW', hsW⟩ := boxes2 V [.slice none 0 0, .int .i64 0] [.int .i64 0, .int .i64 0, .bool false, .int .i64 0, .slice none 0 0, .slice none 0 0, .bool false, .int .i64 0, .slice none 0 0, .slice none 0 0, .bool false, .int .i64 0, .slice none 0 0, .slice none 0 0, .bool false, .int .i64 0, .slice none 0 0, .slice none 0 0, .bool false, .bool false] 37 45
 have b3 := a3.below hbW' a3.lt
 have b5 := a5.below hbW' a5.lt
 have b6 : Box W (w.heap.size + 1 + 1) [.slice none 0 0, .int .i64 0] 37 := by rw [show w.heap.size + 1 + 1 = V.heap.size by omega]; exact a6
 have b7 : Box W (w.heap.size + 1 + 1 + 1) zeroSt.cells 45 := by rw [show w.heap.size + 1 + 1 + 1 = V.heap.size + 1 by omega]; exact a7
 have hbW : Below w.heap.size w W := hbV.trans (hbW'.mono hbV.size)
 have hs0 : w.heap.size + 1 + 1 + 1 < W.heap.size := by omega
 have HWW : Hid ((((w.alloc (.cells #[.slice p.a p.seats.length p.c, .int .i64 p.hand] 37)).alloc (.cells pg.cells.toArray 43)).alloc (.cells #[.slice none 0 0, .int .i64 0] 37)).alloc (.cells #[.int .i64 0, .int .i64 0, .bool false, .int .i64 0, .slice none 0 0, .slice none 0 0, .bool false, .int .i64 0, .slice none 0 0, .slice none 0 0, .bool false, .int .i64 0, .slice none 0 0, .slice none 0 0, .bool false, .int .i64 0, .slice none 0 0, .slice none 0 0, .bool false, .bool false] 45) = W) := by
  rw [Hid, ← hW.out, ← hV.out]
 clear hV hW hsV hsW hbV hbW' a3 a5 a6 a7
 have p0 := b3.cell 0 _ rfl
 have p1 := b3.cell 1 _ rfl
 have C := l6Copy_any p W (PoolA.reads.below hr hbW) hl
 have HI : Hid ((Tryd.prog.info? 43).map (·.size) = some pg.cells.length) := Tryd.infoPg pg h4
 simp only [PoolA.cells] at *
 go_enter Tryd.func6, Tryd.ntmps6
 go_upto_region 1 with fail
 rw [HWW.out]
 clear HWW
 go_wp2_with fail
 refine C.mono ?_
 clear C p0 p1
 rintro e w1 ⟨t, rfl, hv, ho, hb1⟩
 have hs1 := hb1.size
 have b31 := b3.below hb1 b3.lt
 have b51 := b5.below hb1 b5.lt
 have b61 := b6.below hb1 b6.lt
 have b71 := b7.below hb1 b7.lt
 obtain ⟨W2, hW2, b9, hb2, hs2⟩ := boxes1 w1 [.slice t.a t.seats.length t.c, .int .i64 t.hand] 37
 have b32 := b31.below hb2 b31.lt
 have b52 := b51.below hb2 b51.lt
 have b62 := b61.below hb2 b61.lt
 have b72 := b71.below hb2 b71.lt
 have o2 := PoolA.own.below ho hb2
 have n2 : Below w.heap.size w W2 := (hbW.trans (hb1.mono (by omega))).trans (hb2.mono (by omega))
 have hs2' := b9.lt
 have HV : Hid (t.v = p.v) := hv.out
 clear b3 b5 b6 b7 b31 b51 b61 b71 ho hb1 hb2 hs2 hbW hv
 go_upto_region 2 with fail
 rw [hW2.out]
 clear hW2
 have p0 := b32.cell 0 _ rfl
 have p1 := b32.cell 1 _ rfl
 have C := specPoolOk_any p W2 (PoolA.reads.below hr n2) (PoolA.short_wide hl)
 simp only [PoolA.cells] at C
 go_wp2_with fail
 refine C.mono ?_
 clear C p0 p1
 rintro e w3 ⟨rfl, hb3⟩
 have hs3 := hb3.size
 have b33 := b32.below hb3 b32.lt
 have b53 := b52.below hb3 b52.lt
 have b63 := b62.below hb3 b62.lt
 have b73 := b72.below hb3 b72.lt
 have b93 := b9.below hb3 b9.lt
 have o3 := PoolA.own.below o2 hb3
 have n3 : Below w.heap.size w w3 := n2.trans (hb3.mono n2.size)
 clear b32 b52 b62 b72 b9 o2 n2 hb3
 cases HOKP : okPool p.v with
 | false =>
  have HMAY : Hid (mayBring p.v no pg.lsn (pg.ss.map (·.v)) = false) := mayB_pool HOKP
  have bN := Below.refl w3.heap.size w3
  have b6N := b63
  have b7N := b73
  have b9N := b93
  have oN := o3
  clear HOKP b33 b53
  have b6F := b6N.below bN b6N.lt
  have b7F := b7N.below bN b7N.lt
  have b9F := b9N.below bN b9N.lt
  have oF0 := PoolA.own.below oN bN
  have nF := n3.trans (bN.mono n3.size)
  have sF := bN.size
  have e0 := b9F.cell 0 _ rfl
  have e1 := b9F.cell 1 _ rfl
  have m0 := b6F.cell 0 _ rfl
  have m1 := b6F.cell 1 _ rfl
  have mf0 := b6F.frozen 0
  have mf1 := b6F.frozen 1
  obtain ⟨WP, hWP, bP, hwP, hsP⟩ := box2_fill b6F (.slice t.a t.seats.length t.c) (.int .i64 t.hand)
  have b7P := b7F.within hwP (by omega)
  obtain ⟨WF, hWF, hwF, hsF, HTF, HLF, bF⟩ := seat_out zeroSt _ rfl b7P
  have bPF := bP.within hwF (by omega)
  have HLP : Hid ((loadVar 37 ⟨w.heap.size + 1 + 1, 0, none⟩).run Tryd.prog WF = .ok (.agg t.cells.toArray) WF) := pool_load t bPF
  have hoF := ((PoolA.own.within oF0 hwP (.inr (by omega))).within hwF (.inr (by omega))).widen (show w.heap.size ≤ W.heap.size by omega) (show w1.heap.size ≤ WF.heap.size by omega) (Nat.le_refl _)
  have hbF : Below w.heap.size w WF := (nF.trans (hwP.below (by omega) (by omega))).trans (hwF.below (by omega) (by omega))
  have HWF : Hid (WP.setCells (w.heap.size + 1 + 1 + 1) 0 zeroSt.cells.toArray.toList = WF) := hWF.out
  have HTF' : WP.there (w.heap.size + 1 + 1 + 1) 0 zeroSt.cells.toArray.size := HTF.out
  have HIz := seat_info zeroSt
  have HOz := seat_one zeroSt
  have HZO := zeroSt_own' WF w.heap.size WF.heap.size (Nat.le_refl _)
  clear hwP hsP bP hwF hsF bF bPF b7P b6F b7F b9F oF0 b6N b7N b9N oN nF hWF HTF
  obtain ⟨Zs, hZs⟩ : ∃ Zs, Hid (zeroSt = Zs) := ⟨_, rfl⟩
  have HZV : Hid (zeroStV = Zs.v) := by rw [Hid, ← hZs.out]; rfl
  rw [hZs.out] at HWF HTF' HIz HOz HLF HZO
  go_wp2_with (first | (guard_target = wpList _ _ _ (Oper.mk (some 34) _ _ _ _ _ :: _) _ _; refine build_zero_seat ?_; rw [hZs.out]) | (guard_target = wpList _ _ _ (Oper.mk none (Op.store _ (Operand.tmp 7) _) _ _ _ _ :: _) _ _; rw [hWP.out]; refine wpList_store_mid rfl 45 (.tmp 7) (.tmp 34) rfl (w.heap.size + 1 + 1 + 1) 0 Zs.cells.toArray rfl rfl HTF' HIz HOz ?_; rw [HWF.out]) | fail)
  exact bodyPost_ret (v := .tuple #[.agg t.cells.toArray, .agg Zs.cells.toArray, .bool false]) (results_three Tryd.results6 rfl rfl HLP.out HLF.out rfl) rfl ⟨t, Zs, false, rfl, by rw [Hid, bringOf_no HMAY.out, HV.out, HZV.out], hoF, HZO, hbF⟩
 | true =>
  have C := l1In_any no 0 7 w3
  cases HINB : inB no 0 7 with
  | false =>
   have HMAY : Hid (mayBring p.v no pg.lsn (pg.ss.map (·.v)) = false) := mayB_no HINB
   rw [HINB] at C
   go_wp2_with fail
   refine C.mono ?_
   clear C
   rintro e u ⟨rfl, hu⟩
   rw [hu]
   clear hu u
   have bN := Below.refl w3.heap.size w3
   have b6N := b63
   have b7N := b73
   have b9N := b93
   have oN := o3
   clear HOKP HINB b33 b53
   have b6F := b6N.below bN b6N.lt
   have b7F := b7N.below bN b7N.lt
   have b9F := b9N.below bN b9N.lt
   have oF0 := PoolA.own.below oN bN
   have nF := n3.trans (bN.mono n3.size)
   have sF := bN.size
   have e0 := b9F.cell 0 _ rfl
   have e1 := b9F.cell 1 _ rfl
   have m0 := b6F.cell 0 _ rfl
   have m1 := b6F.cell 1 _ rfl
   have mf0 := b6F.frozen 0
   have mf1 := b6F.frozen 1
   obtain ⟨WP, hWP, bP, hwP, hsP⟩ := box2_fill b6F (.slice t.a t.seats.length t.c) (.int .i64 t.hand)
   have b7P := b7F.within hwP (by omega)
   obtain ⟨WF, hWF, hwF, hsF, HTF, HLF, bF⟩ := seat_out zeroSt _ rfl b7P
   have bPF := bP.within hwF (by omega)
   have HLP : Hid ((loadVar 37 ⟨w.heap.size + 1 + 1, 0, none⟩).run Tryd.prog WF = .ok (.agg t.cells.toArray) WF) := pool_load t bPF
   have hoF := ((PoolA.own.within oF0 hwP (.inr (by omega))).within hwF (.inr (by omega))).widen (show w.heap.size ≤ W.heap.size by omega) (show w1.heap.size ≤ WF.heap.size by omega) (Nat.le_refl _)
   have hbF : Below w.heap.size w WF := (nF.trans (hwP.below (by omega) (by omega))).trans (hwF.below (by omega) (by omega))
   have HWF : Hid (WP.setCells (w.heap.size + 1 + 1 + 1) 0 zeroSt.cells.toArray.toList = WF) := hWF.out
   have HTF' : WP.there (w.heap.size + 1 + 1 + 1) 0 zeroSt.cells.toArray.size := HTF.out
   have HIz := seat_info zeroSt
   have HOz := seat_one zeroSt
   have HZO := zeroSt_own' WF w.heap.size WF.heap.size (Nat.le_refl _)
   clear hwP hsP bP hwF hsF bF bPF b7P b6F b7F b9F oF0 b6N b7N b9N oN nF hWF HTF
   obtain ⟨Zs, hZs⟩ : ∃ Zs, Hid (zeroSt = Zs) := ⟨_, rfl⟩
   have HZV : Hid (zeroStV = Zs.v) := by rw [Hid, ← hZs.out]; rfl
   rw [hZs.out] at HWF HTF' HIz HOz HLF HZO
   go_wp2_with (first | (guard_target = wpList _ _ _ (Oper.mk (some 34) _ _ _ _ _ :: _) _ _; refine build_zero_seat ?_; rw [hZs.out]) | (guard_target = wpList _ _ _ (Oper.mk none (Op.store _ (Operand.tmp 7) _) _ _ _ _ :: _) _ _; rw [hWP.out]; refine wpList_store_mid rfl 45 (.tmp 7) (.tmp 34) rfl (w.heap.size + 1 + 1 + 1) 0 Zs.cells.toArray rfl rfl HTF' HIz HOz ?_; rw [HWF.out]) | fail)
   exact bodyPost_ret (v := .tuple #[.agg t.cells.toArray, .agg Zs.cells.toArray, .bool false]) (results_three Tryd.results6 rfl rfl HLP.out HLF.out rfl) rfl ⟨t, Zs, false, rfl, by rw [Hid, bringOf_no HMAY.out, HV.out, HZV.out], hoF, HZO, hbF⟩
  | true =>
   rw [HINB] at C
   go_wp2_with fail
   refine C.mono ?_
   clear C
   rintro e u ⟨rfl, hu⟩
   rw [hu]
   clear hu u
   have C := specPageOk_any pg h4 w3 (hrp.below n3) hlp
   have rP : w3.rangeAt (w.heap.size + 1) 0 pg.cells := Box.range [] pg.cells [] (by simpa using b53)
   go_wp2_with (first | (guard_target = wpList _ _ _ (Oper.mk (some 23) _ _ _ _ _ :: _) _ _; refine wpList_load_mid_if (by rfl) 43 (.tmp 5) rfl (w.heap.size + 1) 0 rfl pg.cells _ rP Tryd.underlying43 rfl HI.out ?_) | fail)
   refine C.mono ?_
   clear C rP
   rintro e w4 ⟨rfl, hb4⟩
   have hs4 := hb4.size
   have n4 : Below w.heap.size w w4 := n3.trans (hb4.mono n3.size)
   cases HOKG : okP pg.lsn (pg.ss.map (·.v)) with
   | false =>
    have HMAY : Hid (mayBring p.v no pg.lsn (pg.ss.map (·.v)) = false) := mayB_page HOKG
    have bN := hb4
    have b6N := b63
    have b7N := b73
    have b9N := b93
    have oN := o3
    clear HOKP HINB HOKG b33 b53
    have b6F := b6N.below bN b6N.lt
    have b7F := b7N.below bN b7N.lt
    have b9F := b9N.below bN b9N.lt
    have oF0 := PoolA.own.below oN bN
    have nF := n3.trans (bN.mono n3.size)
    have sF := bN.size
    have e0 := b9F.cell 0 _ rfl
    have e1 := b9F.cell 1 _ rfl
    have m0 := b6F.cell 0 _ rfl
    have m1 := b6F.cell 1 _ rfl
    have mf0 := b6F.frozen 0
    have mf1 := b6F.frozen 1
    obtain ⟨WP, hWP, bP, hwP, hsP⟩ := box2_fill b6F (.slice t.a t.seats.length t.c) (.int .i64 t.hand)
    have b7P := b7F.within hwP (by omega)
    obtain ⟨WF, hWF, hwF, hsF, HTF, HLF, bF⟩ := seat_out zeroSt _ rfl b7P
    have bPF := bP.within hwF (by omega)
    have HLP : Hid ((loadVar 37 ⟨w.heap.size + 1 + 1, 0, none⟩).run Tryd.prog WF = .ok (.agg t.cells.toArray) WF) := pool_load t bPF
    have hoF := ((PoolA.own.within oF0 hwP (.inr (by omega))).within hwF (.inr (by omega))).widen (show w.heap.size ≤ W.heap.size by omega) (show w1.heap.size ≤ WF.heap.size by omega) (Nat.le_refl _)
    have hbF : Below w.heap.size w WF := (nF.trans (hwP.below (by omega) (by omega))).trans (hwF.below (by omega) (by omega))
    have HWF : Hid (WP.setCells (w.heap.size + 1 + 1 + 1) 0 zeroSt.cells.toArray.toList = WF) := hWF.out
    have HTF' : WP.there (w.heap.size + 1 + 1 + 1) 0 zeroSt.cells.toArray.size := HTF.out
    have HIz := seat_info zeroSt
    have HOz := seat_one zeroSt
    have HZO := zeroSt_own' WF w.heap.size WF.heap.size (Nat.le_refl _)
    clear hwP hsP bP hwF hsF bF bPF b7P b6F b7F b9F oF0 b6N b7N b9N oN nF hWF HTF
    obtain ⟨Zs, hZs⟩ : ∃ Zs, Hid (zeroSt = Zs) := ⟨_, rfl⟩
    have HZV : Hid (zeroStV = Zs.v) := by rw [Hid, ← hZs.out]; rfl
    rw [hZs.out] at HWF HTF' HIz HOz HLF HZO
    go_wp2_with (first | (guard_target = wpList _ _ _ (Oper.mk (some 34) _ _ _ _ _ :: _) _ _; refine build_zero_seat ?_; rw [hZs.out]) | (guard_target = wpList _ _ _ (Oper.mk none (Op.store _ (Operand.tmp 7) _) _ _ _ _ :: _) _ _; rw [hWP.out]; refine wpList_store_mid rfl 45 (.tmp 7) (.tmp 34) rfl (w.heap.size + 1 + 1 + 1) 0 Zs.cells.toArray rfl rfl HTF' HIz HOz ?_; rw [HWF.out]) | fail)
    exact bodyPost_ret (v := .tuple #[.agg t.cells.toArray, .agg Zs.cells.toArray, .bool false]) (results_three Tryd.results6 rfl rfl HLP.out HLF.out rfl) rfl ⟨t, Zs, false, rfl, by rw [Hid, bringOf_no HMAY.out, HV.out, HZV.out], hoF, HZO, hbF⟩
   | true =>
    have b34 := b33.below hb4 b33.lt
    have p0 := b34.cell 0 _ rfl
    have p1 := b34.cell 1 _ rfl
    have C := specSeatedP_any p no w4 (PoolA.reads.below hr n4) (PoolA.short_wide hl)
    simp only [PoolA.cells] at C
    go_wp2_with fail
    refine C.mono ?_
    clear C p0 p1
    rintro e w5 ⟨rfl, hb5⟩
    have hs5 := hb5.size
    have N35 : Below w3.heap.size w3 w5 := hb4.trans (hb5.mono hb4.size)
    by_cases hsd : 0 ≤ seatedOf p.v.seats no
    ·have HMAY : Hid (mayBring p.v no pg.lsn (pg.ss.map (·.v)) = false) := mayB_there hsd
     have bN := N35
     have b6N := b63
     have b7N := b73
     have b9N := b93
     have oN := o3
     clear HOKP HINB HOKG b33 b53 b34
     generalize seatedOf p.v.seats no = sd at *
     have b6F := b6N.below bN b6N.lt
     have b7F := b7N.below bN b7N.lt
     have b9F := b9N.below bN b9N.lt
     have oF0 := PoolA.own.below oN bN
     have nF := n3.trans (bN.mono n3.size)
     have sF := bN.size
     have e0 := b9F.cell 0 _ rfl
     have e1 := b9F.cell 1 _ rfl
     have m0 := b6F.cell 0 _ rfl
     have m1 := b6F.cell 1 _ rfl
     have mf0 := b6F.frozen 0
     have mf1 := b6F.frozen 1
     obtain ⟨WP, hWP, bP, hwP, hsP⟩ := box2_fill b6F (.slice t.a t.seats.length t.c) (.int .i64 t.hand)
     have b7P := b7F.within hwP (by omega)
     obtain ⟨WF, hWF, hwF, hsF, HTF, HLF, bF⟩ := seat_out zeroSt _ rfl b7P
     have bPF := bP.within hwF (by omega)
     have HLP : Hid ((loadVar 37 ⟨w.heap.size + 1 + 1, 0, none⟩).run Tryd.prog WF = .ok (.agg t.cells.toArray) WF) := pool_load t bPF
     have hoF := ((PoolA.own.within oF0 hwP (.inr (by omega))).within hwF (.inr (by omega))).widen (show w.heap.size ≤ W.heap.size by omega) (show w1.heap.size ≤ WF.heap.size by omega) (Nat.le_refl _)
     have hbF : Below w.heap.size w WF := (nF.trans (hwP.below (by omega) (by omega))).trans (hwF.below (by omega) (by omega))
     have HWF : Hid (WP.setCells (w.heap.size + 1 + 1 + 1) 0 zeroSt.cells.toArray.toList = WF) := hWF.out
     have HTF' : WP.there (w.heap.size + 1 + 1 + 1) 0 zeroSt.cells.toArray.size := HTF.out
     have HIz := seat_info zeroSt
     have HOz := seat_one zeroSt
     have HZO := zeroSt_own' WF w.heap.size WF.heap.size (Nat.le_refl _)
     clear hwP hsP bP hwF hsF bF bPF b7P b6F b7F b9F oF0 b6N b7N b9N oN nF hWF HTF
     obtain ⟨Zs, hZs⟩ : ∃ Zs, Hid (zeroSt = Zs) := ⟨_, rfl⟩
     have HZV : Hid (zeroStV = Zs.v) := by rw [Hid, ← hZs.out]; rfl
     rw [hZs.out] at HWF HTF' HIz HOz HLF HZO
     go_wp2_with (first | (guard_target = wpList _ _ _ (Oper.mk (some 34) _ _ _ _ _ :: _) _ _; refine build_zero_seat ?_; rw [hZs.out]) | (guard_target = wpList _ _ _ (Oper.mk none (Op.store _ (Operand.tmp 7) _) _ _ _ _ :: _) _ _; rw [hWP.out]; refine wpList_store_mid rfl 45 (.tmp 7) (.tmp 34) rfl (w.heap.size + 1 + 1 + 1) 0 Zs.cells.toArray rfl rfl HTF' HIz HOz ?_; rw [HWF.out]) | fail)
     exact bodyPost_ret (v := .tuple #[.agg t.cells.toArray, .agg Zs.cells.toArray, .bool false]) (results_three Tryd.results6 rfl rfl HLP.out HLF.out rfl) rfl ⟨t, Zs, false, rfl, by rw [Hid, bringOf_no HMAY.out, HV.out, HZV.out], hoF, HZO, hbF⟩
    ·have HMAY : Hid (mayBring p.v no pg.lsn (pg.ss.map (·.v)) = true) := mayB_all HOKP HINB HOKG (by omega)
     obtain ⟨h, hh, h3⟩ := okPool_handNat HOKP
     have hlen3 := (okPool_iff HOKP).1
     have b55 := b53.below N35 b53.lt
     have b65 := b63.below N35 b63.lt
     have b75 := b73.below N35 b73.lt
     have b95 := b93.below N35 b93.lt
     have o5 := PoolA.own.below o3 N35
     have n5 : Below w.heap.size w w5 := n3.trans (N35.mono n3.size)
     obtain ⟨ts, hand, a, c⟩ := t
     simp only [PoolA.own] at *
     have hth : hand = (h : Int) := by
      have e := congrArg PoolV.hand HV.out
      rw [hh] at e
      exact e
     have htl : ts.length ≤ 3 := by
      have e := congrArg (fun v => v.seats.length) HV.out
      simp only [PoolA.v, List.length_map] at e
      simp only [PoolA.v, List.length_map] at hlen3
      omega
     subst hth
     have hpt : PoolAt w5 W.heap.size w1.heap.size w1.heap.size 0 [.slice a ts.length c, .int .i64 (h : Int)] 37 a c ts h := ⟨b95, rfl, rfl, o5, fun hk => by have := (o5.blocks_lt _ hk).2; omega⟩
     have C := l6Bring_any W.heap.size w1.heap.size w1.heap.size 0 _ _ a c ts h no pg w5 hpt hs1 htl h3 h4 (hrp.below n5) hlp
     have rP : w5.rangeAt (w.heap.size + 1) 0 pg.cells := Box.range [] pg.cells [] (by simpa using b55)
     have hsdb : ¬ seatedOf p.v.seats no ≥ 0 := hsd
     have hltb : ∀ j ∈ blocksSts a c ts, W.heap.size ≤ j ∧ j < w1.heap.size := o5.blocks_lt
     have HBO : Hid (bringOf p.v no pg.lsn (pg.ss.map (·.v)) = (PoolV.mk (bringV (ts.map SeatA.v) h ⟨no, pg.lsn, pg.ss.map (·.v), false, true⟩).1 ((bringV (ts.map SeatA.v) h ⟨no, pg.lsn, pg.ss.map (·.v), false, true⟩).2.1 : Int), (bringV (ts.map SeatA.v) h ⟨no, pg.lsn, pg.ss.map (·.v), false, true⟩).2.2.1, (bringV (ts.map SeatA.v) h ⟨no, pg.lsn, pg.ss.map (·.v), false, true⟩).2.2.2)) := by
      have e1 : p.v.seats = ts.map SeatA.v := by rw [← HV.out]; rfl
      have e2 : p.v.hand.toNat = h := by rw [hh]; rfl
      rw [Hid, bringOf, if_pos HMAY.out, e1, e2]
     clear hpt b95 o5 hh HOKP HINB HOKG HMAY hlen3 b33 b34 b53 b63 b73 b93 o3 n3 n4 hb4 hb5 hsd
     generalize seatedOf p.v.seats no = sd at *
     go_upto_region 4 with fail
     go_wp2_with (first | (guard_target = wpList _ _ _ (Oper.mk (some 37) _ _ _ _ _ :: _) _ _; refine wpList_load_mid rfl 43 (.tmp 5) rfl (w.heap.size + 1) 0 rfl pg.cells _ rP Tryd.underlying43 rfl HI.out ?_) | fail)
     refine C.mono ?_
     clear C rP
     rintro e w6 ⟨us, a', c', hnd, old, went, rfl, hbv, br⟩
     have hs6 := br.touch.size
     have hnT : ∀ j, j < w1.heap.size → j < W.heap.size → j ∉ w1.heap.size :: blocksSts a c ts := fun j h1 h2 hk => by
      rcases List.mem_cons.1 hk with hk | hk
      ·omega
      ·have := hltb _ hk; omega
     have b66 := b65.touch br.touch (hnT _ (by omega) (by omega))
     have b76 := b75.touch br.touch (hnT _ (by omega) (by omega))
     have n6 : Below w.heap.size w w6 := n5.trans ((br.touch.within (lo := W.heap.size) (hi := w1.heap.size + 1) (fun j hj => by
      rcases List.mem_cons.1 hj with rfl | hj
      ·omega
      ·have := hltb _ hj; omega)).below (by omega) (by omega))
     have b96 : Box w6 w1.heap.size [.slice a' us.length c', .int .i64 (hnd : Int)] 37 := br.pool.box
     have o6 : OwnSts w6 W.heap.size w6.heap.size a' c' us := br.pool.own
     have og6 : old.own w6 W.heap.size w6.heap.size := br.went
     have HFIN : Hid (bringOf p.v no pg.lsn (pg.ss.map (·.v)) = (PoolA.v ⟨us, hnd, a', c'⟩, old.v, went)) := by
      rw [Hid, HBO.out, hbv.out]
      rfl
     obtain ⟨V7, hV7, a10, hb7, hs7⟩ := boxes1 w6 [.int .i64 0, .int .i64 0, .bool false, .int .i64 0, .slice none 0 0, .slice none 0 0, .bool false, .int .i64 0, .slice none 0 0, .slice none 0 0, .bool false, .int .i64 0, .slice none 0 0, .slice none 0 0, .bool false, .int .i64 0, .slice none 0 0, .slice none 0 0, .bool false, .bool false] 45
     obtain ⟨W7, hW7, hw7, hs7', HT7, _, b10⟩ := seat_out old _ rfl a10
     have N67 : Below w6.heap.size w6 W7 := hb7.trans (hw7.below (Nat.le_refl _) (by omega))
     have HW7 : Hid (V7.setCells w6.heap.size 0 old.cells.toArray.toList = W7) := hW7.out
     have HIo := seat_info old
     have HOo := seat_one old
     have ND : Below W7.heap.size W7 W7.drew := (Below.refl _ _).drew
     obtain ⟨w8, hw8⟩ : ∃ w8, Hid (W7.drew = w8) := ⟨_, rfl⟩
     rw [hw8.out] at ND
     have N68 : Below w6.heap.size w6 w8 := N67.trans (ND.mono N67.size)
     have b68 := b66.below N68 b66.lt
     have b78 := b76.below N68 b76.lt
     have b98 := b96.below N68 b96.lt
     have b108 := b10.below ND b10.lt
     have o8 := o6.below N68
     have og8 := og6.below N68
     have n8 : Below w.heap.size w w8 := n6.trans (N68.mono n6.size)
     have s8 := N68.size
     have lt10 := b10.lt
     have s78 := ND.size
     obtain ⟨WP, hWP, hwP, hsP, HTP, _, bP⟩ := pool_out ⟨us, hnd, a', c'⟩ _ rfl b68
     have b7P := b78.within hwP (by omega)
     obtain ⟨WF, hWF, hwF, hsF, HTF, HLF, bF⟩ := seat_out old _ rfl b7P
     have bPF := bP.within hwF (by omega)
     have HLP : Hid ((loadVar 37 ⟨w.heap.size + 1 + 1, 0, none⟩).run Tryd.prog WF = .ok (.agg (PoolA.cells ⟨us, hnd, a', c'⟩).toArray) WF) := pool_load _ bPF
     have hoF := ((o8.within hwP (.inr (by omega))).within hwF (.inr (by omega))).widen (show w.heap.size ≤ W.heap.size by omega) (show w6.heap.size ≤ WF.heap.size by omega) (Nat.le_refl _)
     have hgF := ((og8.within hwP (.inr (by omega))).within hwF (.inr (by omega))).widen (show w.heap.size ≤ W.heap.size by omega) (show w6.heap.size ≤ WF.heap.size by omega) (Nat.le_refl _)
     have hbF : Below w.heap.size w WF := (n8.trans (hwP.below (by omega) (by omega))).trans (hwF.below (by omega) (by omega))
     have HSS : Hid (∀ u, Box u w1.heap.size [.slice a' us.length c', .int .i64 (hnd : Int)] 37 → Box u w6.heap.size old.cells 45 → (u.cell? ⟨w1.heap.size, 0, none⟩ = some (.slice a' us.length c') ∧ u.cell? ⟨w1.heap.size, 1, none⟩ = some (.int .i64 (hnd : Int))) ∧ u.rangeAt w6.heap.size 0 old.cells) := fun u h1 h2 => ⟨⟨h1.cell 0 _ rfl, h1.cell 1 _ rfl⟩, Box.range [] old.cells [] (by simpa using h2)⟩
     have K8 := HSS.out w8 b98 b108
     have KP := HSS.out WP (b98.within hwP (by omega)) (b108.within hwP (by omega))
     have KF := HSS.out WF ((b98.within hwP (by omega)).within hwF (by omega)) ((b108.within hwP (by omega)).within hwF (by omega))
     have EP : Hid (w8.setCells (w.heap.size + 1 + 1) 0 (PoolA.cells ⟨us, hnd, a', c'⟩).toArray.toList = WP) := hWP.out
     have EF : Hid (WP.setCells (w.heap.size + 1 + 1 + 1) 0 old.cells.toArray.toList = WF) := hWF.out
     have TP : w8.there (w.heap.size + 1 + 1) 0 (PoolA.cells ⟨us, hnd, a', c'⟩).toArray.size := HTP.out
     have TF : WP.there (w.heap.size + 1 + 1 + 1) 0 old.cells.toArray.size := HTF.out
     have HIp := pool_info ⟨us, hnd, a', c'⟩
     have HOp := pool_one ⟨us, hnd, a', c'⟩
     simp only [PoolA.cells] at EP TP HIp HOp HLP
     clear hW7 hs7 hs7' hw7 hb7 a10 b10 N67 b65 b75 b66 b76 b96 o6 og6 n5 n6 br hbv HBO hnT N68 b68 b78 b98 b108 o8 og8 n8 hwP hsP bP b7P hwF hsF bF bPF hWP hWF HTP HTF HSS ND b55
     go_upto_region 5 with (first | (guard_target = wpList _ _ _ (Oper.mk none (Op.store _ (Operand.tmp 10) _) _ _ _ _ :: _) _ _; rw [hV7.out]; refine wpList_store_mid rfl 45 (.tmp 10) (.tmp 39) rfl w6.heap.size 0 old.cells.toArray rfl rfl HT7.out HIo HOo ?_; rw [HW7.out]) | fail)
     refine wp_region_held_drew (S := fun u => (u.cell? ⟨w1.heap.size, 0, none⟩ = some (.slice a' us.length c') ∧ u.cell? ⟨w1.heap.size, 1, none⟩ = some (.int .i64 (hnd : Int))) ∧ u.rangeAt w6.heap.size 0 old.cells) (by kernel_rfl) ?_ (fun hHeld => ?_)
     ·rw [hw8.out]; exact K8
     rw [hw8.out] at hHeld ⊢
     clear hw8
     refine tk 0 (v := .agg #[.slice a' us.length c', .int .i64 (hnd : Int)]) rfl (Or.inl ⟨by rfl, ?_⟩) hHeld ?_
     ·intro w' hSw
      have hx0 := hSw.1.1
      have hx1 := hSw.1.2
      go_simp <;> rfl
     try simp only [Act.put, zA, zB, zD, zE, zF]
     refine tk 1 rfl (yieldsIf_load_mid (by rfl) _ _ rfl _ _ rfl old.cells _ (fun _ h => h.2) Tryd.underlying45 rfl HIo) hHeld ?_
     try simp only [Act.put, zA, zB, zC, zD, zE, zF]
     refine tk 2 (v := .bool went) rfl (Or.inl ⟨by rfl, ?_⟩) hHeld ?_
     ·intro w' hSw
      go_simp <;> rfl
     try simp only [Act.put, zA, zB, zC, zD, zE, zF]
     refine wpAnyH_ready (rs := [3]) (by kernel_rfl) (by simp) ?_
     refine AllReadyH.cons rfl (fun K hK => ?_) AllReadyH.nil
     rw [if_pos (by rfl)]
     refine wp_store_mid 37 (.tmp 6) (.tmp 41) rfl (w.heap.size + 1 + 1) 0 #[.slice a' us.length c', .int .i64 (hnd : Int)] rfl rfl TP HIp HOp ?_
     rw [EP.out]
     refine hK.out _ _ KP (fun hHeld => ?_)
     clear hK K
     try simp only [Act.put, zA, zB, zC]
     refine wpAnyH_ready (rs := [4]) (by kernel_rfl) (by simp) ?_
     refine AllReadyH.cons rfl (fun K hK => ?_) AllReadyH.nil
     rw [if_pos (by rfl)]
     refine wp_store_mid 45 (.tmp 7) (.tmp 42) rfl (w.heap.size + 1 + 1 + 1) 0 old.cells.toArray rfl rfl TF HIo HOo ?_
     rw [EF.out]
     refine hK.out _ _ KF (fun hHeld => ?_)
     clear hK K
     try simp only [Act.put, zA, zB, zC]
     refine tk 5 (v := .bool went) rfl (Or.inl ⟨by rfl, ?_⟩) hHeld ?_
     ·intro w' hSw
      go_simp <;> rfl
     try simp only [Act.put, zA, zB, zC, zD, zE, zF]
     refine wpAnyH_done (by kernel_rfl) ?_ _
     clear hHeld K8 KP KF
     go_wp2_with fail
     exact bodyPost_ret (v := .tuple #[.agg #[.slice a' us.length c', .int .i64 (hnd : Int)], .agg old.cells.toArray, .bool went]) (results_three Tryd.results6 rfl rfl HLP.out HLF.out rfl) rfl ⟨⟨us, hnd, a', c'⟩, old, went, rfl, HFIN, hoF, hgF, hbF⟩
end Go.Proofs.YtoboickdkednkabDoor
namespace Go.Proofs.YtoboickdkednkabDoor
open Go.RowKit
theorem OwnSts.fillLow {w : World} {lo hi g c : Nat} {A B : List SeatA} {z : SeatA} (h : OwnSts w lo hi (some ⟨g, 0, none⟩) c (A ++ z :: B)) (q : SeatA) {l u : Nat} (hq : q.own w l u) (hl : u ≤ lo) (hlo : lo ≤ hi) (hlu : l ≤ u) :
  ∃ W, Hid (w.setCells g (A.length * 20) q.cells = W) ∧ OwnSts W l hi (some ⟨g, 0, none⟩) c (A ++ q :: B) ∧ Touch [g] w W ∧ W.heap.size = w.heap.size := by
 have hrow0 := h.row
 have hrow := ownsRow_base (base' := l) hrow0 (fun k hk => by have := (hrow0.lt k hk).1; omega)
 rw [cellsSts_app, cellsSts_cons, List.length_append, List.length_cons] at hrow
 have hg : lo ≤ g ∧ g < hi := ⟨(hrow0.lt g rfl).1, h.blk g rfl⟩
 obtain ⟨h1, h2⟩ := row_setCells q.cells (cellsSts A) z.cells (cellsSts B) w hrow rfl
 rw [cellsSts_len] at h1 h2
 have ht : Touch [g] w (w.setCells g (A.length * 20) q.cells) := Touch.of_grown h2 (fun k hk => by cases hk; simp)
 have hap := h.apart
 simp only [List.flatMap_append, List.flatMap_cons, Value.ownBlock, Option.toList, List.singleton_append, List.nodup_cons, List.nodup_append, List.mem_append, not_or] at hap
 obtain ⟨⟨n1, n2, n3⟩, a1, ⟨a2, a3, a4⟩, a5⟩ := hap
 have hqb := hq.blocks_lt
 have hA : ∀ x ∈ A.flatMap SeatA.blocks, lo ≤ x ∧ x < hi := fun x hx => by
  obtain ⟨r, hr, hx⟩ := List.mem_flatMap.1 hx
  exact (h.each r (by simp [hr])).blocks_lt x hx
 have hB : ∀ x ∈ B.flatMap SeatA.blocks, lo ≤ x ∧ x < hi := fun x hx => by
  obtain ⟨r, hr, hx⟩ := List.mem_flatMap.1 hx
  exact (h.each r (by simp [hr])).blocks_lt x hx
 have hsz := setCells_heap g q.cells (A.length * 20) w
 refine ⟨_, rfl, ⟨?_, ?_, fun k hk => ?_, fun r hr => ?_, ?_⟩, ht, hsz⟩
 ·rw [cellsSts_app, cellsSts_cons, List.length_append, List.length_cons]
  exact h1
 ·rw [hsz]
  have := h.top
  omega
 ·cases hk
  exact hg.2
 ·rcases List.mem_append.1 hr with hr | hr
  ·exact ((h.each r (by simp [hr])).touch ht (fun k hk hk' => n1 (by rw [← List.mem_singleton.1 hk']; exact List.mem_flatMap.2 ⟨r, hr, hk⟩))).widen (by omega) (Nat.le_refl _) (by rw [hsz]; have := h.top; omega)
  ·rcases List.mem_cons.1 hr with rfl | hr
   ·exact (hq.touch ht (fun k hk hk' => by have := hqb k hk; have := List.mem_singleton.1 hk'; omega)).widen (Nat.le_refl _) (by omega) (by rw [hsz]; have := h.top; omega)
   ·exact ((h.each r (by simp [hr])).touch ht (fun k hk hk' => n3 (by rw [← List.mem_singleton.1 hk']; exact List.mem_flatMap.2 ⟨r, hr, hk⟩))).widen (by omega) (Nat.le_refl _) (by rw [hsz]; have := h.top; omega)
 ·simp only [List.flatMap_append, List.flatMap_cons, Value.ownBlock, Option.toList, List.singleton_append, List.nodup_cons, List.nodup_append, List.mem_append, not_or]
  refine ⟨⟨n1, fun hk => by have := hqb g hk; omega, n3⟩, a1, ⟨hq.apart, a3, fun x hx y hy e => by have := hqb x hx; have := hB y hy; omega⟩, fun x hx y hy e => ?_⟩
  rcases hy with hy | hy
  ·have := hqb y hy; have := hA x hx; omega
  ·exact a5 x hx y (.inr hy) e
theorem append_seatLow {w : World} {ops : Array Oper} {rest : List Oper} {o : Oper} {act : Act} {Q : Exit → Act → World → Prop} (hgd : o.guard = none) (s x : Operand)
  (ho : o.op = .call { callee := .builtin .append, args := #[s, x], argTypes := #[35, 35] })
  (lo hi : Nat) (a : Option Addr) (c : Nat) (rs : List SeatA) (hs : act.eval s = .slice a rs.length c) (hown : OwnSts w lo hi a c rs)
  (b off : Nat) (sc : Nat) (q : SeatA) (hx : act.eval x = .slice (some ⟨b, off, none⟩) 1 sc) (hr : w.rangeAt b off q.cells) (l u : Nat) (hq : q.own w l u) (hl : u ≤ lo) (hlu : l ≤ u)
  (hb : rs.length + 1 ≤ 68719476736) (hlo : lo ≤ hi)
  (h : ∀ a' c' w', OwnSts w' l w'.heap.size a' c' (rs ++ [q]) → w.grownBy w' (Value.slice a rs.length c).ownBlock → wpList Tryd.prog ops Q rest (act.put o.dst (.slice a' (rs ++ [q]).length c')) w') :
  wpList Tryd.prog ops Q (o :: rest) act w := by
 obtain ⟨i0, hi0, hz0, hz1, hz2⟩ := info_parts Tryd.infoSeat
 have hqb := hq.blocks_lt
 have htop := hown.top
 refine wpList_append_own w hgd s x 35 ho lo 45 i0 (.agg zeroSt.cells.toArray) 20 280 Tryd.underlying35 hi0 hz0 hz1 hz2 rfl (by decide) _ _ _ hs hown.row ⟨b, off, none⟩ 1 sc q.cells hx (by rfl) ?_ (oneSt q) (by simp only [maxLen]; omega) (by omega) (by omega) (fun v' w' h1 h2 _ => ?_)
 ·intro j v hj
  rw [Addr_add]
  exact hr j v hj
 ·have e : cellsSts rs ++ q.cells = cellsSts (rs ++ [q]) := by rw [cellsSts_app, cellsSts_cons]; simp [cellsSts]
  have e2 : rs.length + 1 = (rs ++ [q]).length := by simp
  rw [e, e2] at h1
  have sh : ∃ a' c', v' = .slice a' (rs ++ [q]).length c' := by
   rcases h1.2 with ⟨rfl, h0⟩ | ⟨g, cap, cur, rfl, _⟩
   ·simp at h0
   ·exact ⟨_, _, rfl⟩
  obtain ⟨a', c', rfl⟩ := sh
  have hsz := h2.size
  have ht : Touch (Value.slice a rs.length c).ownBlock.toList w w' := Touch.of_grown h2 (fun k hk => Option.mem_toList.2 hk)
  have hrow := h1.lt
  have hold : ∀ r ∈ rs, r.own w' l w'.heap.size := fun r hr => ((hown.each r hr).touch ht (fun k hk hk' => (List.nodup_append.1 hown.apart).2.2 k hk' k (List.mem_flatMap.2 ⟨r, hr, hk⟩) rfl)).widen (by omega) (by omega) (Nat.le_refl _)
  have hnew : q.own w' l w'.heap.size := (hq.touch ht (fun k hk hk' => by have := hqb k hk; have := (hown.row.lt k (Option.mem_toList.1 hk')).1; omega)).widen (Nat.le_refl _) (by omega) (Nat.le_refl _)
  refine h a' c' w' ⟨ownsRow_base h1 (fun k hk => by have := (h1.lt k hk).1; omega), Nat.le_refl _, fun k hk => (hrow k hk).2, fun r hr => ?_, ?_⟩ h2
  ·rcases List.mem_append.1 hr with hr | hr
   ·exact hold r hr
   ·obtain rfl := List.mem_singleton.1 hr
    exact hnew
  ·rw [List.flatMap_append, List.nodup_append, List.nodup_append]
   have hap := (List.nodup_append.1 hown.apart).2.1
   have hin : ∀ x ∈ rs.flatMap SeatA.blocks, lo ≤ x ∧ x < hi := fun x hx => by
    obtain ⟨r, hr, hx⟩ := List.mem_flatMap.1 hx
    exact (hown.each r hr).blocks_lt x hx
   refine ⟨by cases (Value.slice a' (rs ++ [q]).length c').ownBlock <;> simp, ⟨hap, by simpa using hq.apart, fun x hx y hy e => ?_⟩, fun x hx y hy e => ?_⟩
   ·have := hin x hx
    simp only [List.flatMap_cons, List.flatMap_nil, List.append_nil] at hy
    have := hqb y hy
    omega
   ·have hx' := Option.mem_toList.1 hx
    subst e
    rcases List.mem_append.1 hy with hy | hy
    ·obtain ⟨r, hr, hy⟩ := List.mem_flatMap.1 hy
     exact rowSt_apart h1 (hold r hr) x hx' hy
    ·simp only [List.flatMap_cons, List.flatMap_nil, List.append_nil] at hy
     exact rowSt_apart h1 hnew x hx' hy
def SeatV.short (s : SeatV) (m : Nat) : Prop := ∀ x ∈ s.ss, x.o.ints.length ≤ m ∧ x.o.refs.length ≤ m
theorem zeroStV_short (m : Nat) : zeroStV.short m := by
 intro x hx
 have : x = zeroS.v := by
  have e : zeroStV.ss = [zeroS.v, zeroS.v, zeroS.v, zeroS.v] := rfl
  rw [e] at hx
  simpa using hx
 rw [this]
 exact ⟨Nat.zero_le _, Nat.zero_le _⟩
theorem getV_short {ss : List SeatV} {m : Nat} (h : ∀ s ∈ ss, s.short m) (k : Nat) : (ss.getD k zeroStV).short m := by
 by_cases hk : k < ss.length
 ·have e : ss.getD k zeroStV = ss[k] := by simp [List.getD, hk]
  rw [e]
  exact h _ (List.getElem_mem hk)
 ·have e : ss.getD k zeroStV = zeroStV := by simp [List.getD, List.getElem?_eq_none (by omega : ss.length ≤ k)]
  rw [e]
  exact zeroStV_short m
theorem setV_short {ss : List SeatV} {m k : Nat} {x : SeatV} (h : ∀ s ∈ ss, s.short m) (hx : x.short m) : ∀ s ∈ ss.set k x, s.short m := fun s hs => by
 rcases List.mem_or_eq_of_mem_set hs with hs | rfl
 ·exact h s hs
 ·exact hx
theorem victimV_short {m : Nat} (n : Nat) : ∀ (ss : List SeatV) (h : Nat), (∀ s ∈ ss, s.short m) → ∀ s ∈ (victimV n ss h).1, s.short m := by
 induction n with
 | zero => intro ss h hs; exact hs
 | succ n ih =>
  intro ss h hs
  rw [victimV]
  split
  ·exact ih _ _ (setV_short hs (fun x hx => getV_short hs h x hx))
  ·exact hs
theorem pool_shortV {p : PoolA} {m : Nat} (h : p.short m) : ∀ s ∈ p.v.seats, s.short m := fun s hs => by
 obtain ⟨r, hr, rfl⟩ := List.mem_map.1 hs
 intro x hx
 obtain ⟨y, hy, rfl⟩ := List.mem_map.1 hx
 exact h.each r hr y hy
theorem short_by {t : PoolA} {m : Nat} (hlen : t.v.seats.length ≤ m) (h : ∀ s ∈ t.v.seats, s.short m) : t.short m := by
 refine ⟨by simpa [PoolA.v] using hlen, fun r hr x hx => ?_⟩
 exact h r.v (List.mem_map.2 ⟨r, hr, rfl⟩) x.v (List.mem_map.2 ⟨x, hx, rfl⟩)
theorem bringV_short {m : Nat} {ss : List SeatV} {h : Nat} {new : SeatV} (hs : ∀ s ∈ ss, s.short m) (hn : new.short m) : (∀ s ∈ (bringV ss h new).1, s.short m) ∧ (bringV ss h new).2.2.1.short m := by
 rw [bringV]
 split
 ·refine ⟨fun s hs' => ?_, zeroStV_short m⟩
  rcases List.mem_append.1 hs' with h' | h'
  ·exact hs s h'
  ·rw [List.mem_singleton.1 h']; exact hn
 ·exact ⟨setV_short (victimV_short 4 _ _ hs) hn, getV_short (victimV_short 4 _ _ hs) _⟩
theorem bringV_len {ss : List SeatV} {h : Nat} {new : SeatV} (h3 : ss.length ≤ 3) : (bringV ss h new).1.length ≤ 3 := by
 rw [bringV]
 split
 ·simp; omega
 ·simpa [victim_len] using h3
theorem bring_short {p t : PoolA} {no lsn : Int} {ss : List SlotV} (h : t.v = (bringOf p.v no lsn ss).1) (hl : p.short 1048576) (hp : ∀ x ∈ ss, x.o.ints.length ≤ 1048576 ∧ x.o.refs.length ≤ 1048576) : t.short 1048576 := by
 have hs := pool_shortV hl
 have hlen : p.v.seats.length ≤ 1048576 := by have := hl.len; simpa [PoolA.v] using this
 rw [bringOf] at h
 split at h
 ·rename_i hm
  have h3 : p.v.seats.length ≤ 3 := by
   simp only [mayBring, Bool.and_eq_true] at hm
   exact (okPool_iff hm.1).1
  have hb := bringV_short (h := p.v.hand.toNat) hs (new := ⟨no, lsn, ss, false, true⟩) hp
  have hl3 := bringV_len (h := p.v.hand.toNat) (new := ⟨no, lsn, ss, false, true⟩) h3
  exact short_by (by rw [h]; show (bringV p.v.seats p.v.hand.toNat ⟨no, lsn, ss, false, true⟩).1.length ≤ 1048576; omega) (by rw [h]; exact hb.1)
 ·exact short_by (by rw [h]; exact hlen) (by rw [h]; exact hs)
theorem bring_gone_short {p : PoolA} {s : SeatA} {no lsn : Int} {ss : List SlotV} (h : s.v = (bringOf p.v no lsn ss).2.1) (hl : p.short 1048576) (hp : ∀ x ∈ ss, x.o.ints.length ≤ 1048576 ∧ x.o.refs.length ≤ 1048576) : s.short 1048576 := by
 have hs := pool_shortV hl
 have key : s.v.short 1048576 := by
  rw [h, bringOf]
  split
  ·exact (bringV_short (new := ⟨no, lsn, ss, false, true⟩) hs hp).2
  ·exact zeroStV_short _
 intro x hx
 exact key x.v (List.mem_map.2 ⟨x, hx, rfl⟩)
end Go.Proofs.YtoboickdkednkabDoor
namespace Go.Proofs.YtoboickdkednkabDoor
open Go.RowKit
attribute [local go_sem ↓] Go.wp_at_zero Go.wp_at_succ
theorem implBring_any (p : PoolA) (no : Int) (pg : PageA) (h4 : pg.ss.length = 4) (w : World) (hg : ErrT w) (hr : p.reads w) (hl : p.short 1048576) (hrp : ReadsS w pg.ss) (hlp : Fit pg.ss) :
  Calls Tryd.prog 9 #[.agg p.cells.toArray, .int .i64 no, .agg pg.cells.toArray] w fun e w' => BringAns6 p no pg.lsn (pg.ss.map (·.v)) w e w' := by
 obtain ⟨V, hV, a3, a5, hbV, hsV⟩ := boxes2 w [.slice p.a p.seats.length p.c, .int .i64 p.hand] pg.cells 37 43
 obtain ⟨W, hW, a6, a7, hbW', hsW⟩ := boxes2 V [.slice none 0 0, .int .i64 0] [.int .i64 0, .int .i64 0, .bool false, .int .i64 0, .slice none 0 0, .slice none 0 0, .bool false, .int .i64 0, .slice none 0 0, .slice none 0 0, .bool false, .int .i64 0, .slice none 0 0, .slice none 0 0, .bool false, .int .i64 0, .slice none 0 0, .slice none 0 0, .bool false, .bool false] 37 45
 have b3 := a3.below hbW' a3.lt
 have b5 := a5.below hbW' a5.lt
 have b6 : Box W (w.heap.size + 1 + 1) [.slice none 0 0, .int .i64 0] 37 := by rw [show w.heap.size + 1 + 1 = V.heap.size by omega]; exact a6
 have b7 : Box W (w.heap.size + 1 + 1 + 1) zeroSt.cells 45 := by rw [show w.heap.size + 1 + 1 + 1 = V.heap.size + 1 by omega]; exact a7
 have hbW : Below w.heap.size w W := hbV.trans (hbW'.mono hbV.size)
 have hs0 : w.heap.size + 1 + 1 + 1 < W.heap.size := by omega
 have HWW : Hid ((((w.alloc (.cells #[.slice p.a p.seats.length p.c, .int .i64 p.hand] 37)).alloc (.cells pg.cells.toArray 43)).alloc (.cells #[.slice none 0 0, .int .i64 0] 37)).alloc (.cells #[.int .i64 0, .int .i64 0, .bool false, .int .i64 0, .slice none 0 0, .slice none 0 0, .bool false, .int .i64 0, .slice none 0 0, .slice none 0 0, .bool false, .int .i64 0, .slice none 0 0, .slice none 0 0, .bool false, .int .i64 0, .slice none 0 0, .slice none 0 0, .bool false, .bool false] 45) = W) := by
  rw [Hid, ← hW.out, ← hV.out]
 clear hV hW hsV hsW hbV hbW' a3 a5 a6 a7
 have p0 := b3.cell 0 _ rfl
 have p1 := b3.cell 1 _ rfl
 have C := implPoolOk_any p W (hg.keep hbW) (PoolA.reads.below hr hbW) (PoolA.short_wide hl)
 have HI : Hid ((Tryd.prog.info? 43).map (·.size) = some pg.cells.length) := Tryd.infoPg pg h4
 simp only [PoolA.cells] at *
 go_enter Tryd.func9, Tryd.ntmps9
 go_upto_region 1 with fail
 rw [HWW.out]
 clear HWW
 go_wp2_with fail
 refine C.mono ?_
 clear C p0 p1
 rintro e w3 ⟨rfl, hb3⟩
 have hs3 := hb3.size
 have n3 : Below w.heap.size w w3 := hbW.trans (hb3.mono hbW.size)
 cases HOKP : okPool p.v with
 | false =>
  have HMAY : Hid (mayBring p.v no pg.lsn (pg.ss.map (·.v)) = false) := mayB_pool HOKP
  obtain ⟨wN, hwN⟩ : ∃ wN, Hid (w3 = wN) := ⟨_, rfl⟩
  have bN := hb3
  rw [hwN.out] at bN ⊢
  clear HOKP hwN hb3 hs3 n3
  have b3N := b3.below bN b3.lt
  have b6N := b6.below bN b6.lt
  have b7N := b7.below bN b7.lt
  have nN : Below w.heap.size w wN := hbW.trans (bN.mono hbW.size)
  have sN := bN.size
  have C := copyPool_any p wN (PoolA.reads.below hr nN) hl
  simp only [PoolA.cells] at C
  have p0 := b3N.cell 0 _ rfl
  have p1 := b3N.cell 1 _ rfl
  go_wp2_with fail
  refine C.mono ?_
  clear C p0 p1
  rintro e wc ⟨t, rfl, hv, ho, hbc⟩
  have sc := hbc.size
  have b6F := b6N.below hbc b6N.lt
  have b7F := b7N.below hbc b7N.lt
  have nF : Below w.heap.size w wc := nN.trans (hbc.mono nN.size)
  have m0 := b6F.cell 0 _ rfl
  have m1 := b6F.cell 1 _ rfl
  have mf0 := b6F.frozen 0
  have mf1 := b6F.frozen 1
  obtain ⟨WP, hWP, bP, hwP, hsP⟩ := box2_fill b6F (.slice t.a t.seats.length t.c) (.int .i64 t.hand)
  have b7P := b7F.within hwP (by omega)
  obtain ⟨WF, hWF, hwF, hsF, HTF, HLF, bF⟩ := seat_out zeroSt _ rfl b7P
  have bPF := bP.within hwF (by omega)
  have HLP : Hid ((loadVar 37 ⟨w.heap.size + 1 + 1, 0, none⟩).run Tryd.prog WF = .ok (.agg t.cells.toArray) WF) := pool_load t bPF
  have hoF := ((PoolA.own.within ho hwP (.inr (by omega))).within hwF (.inr (by omega))).widen (show w.heap.size ≤ wN.heap.size by omega) (show wc.heap.size ≤ WF.heap.size by omega) (Nat.le_refl _)
  have hbF : Below w.heap.size w WF := (nF.trans (hwP.below (by omega) (by omega))).trans (hwF.below (by omega) (by omega))
  have HWF : Hid (WP.setCells (w.heap.size + 1 + 1 + 1) 0 zeroSt.cells.toArray.toList = WF) := hWF.out
  have HTF' : WP.there (w.heap.size + 1 + 1 + 1) 0 zeroSt.cells.toArray.size := HTF.out
  have HIz := seat_info zeroSt
  have HOz := seat_one zeroSt
  have HZO := zeroSt_own' WF w.heap.size WF.heap.size (Nat.le_refl _)
  have HV : Hid (t.v = p.v) := hv.out
  clear hwP hsP bP hwF hsF bF bPF b7P b6F b7F b6N b7N b3N nF hWF HTF ho hv
  obtain ⟨Zs, hZs⟩ : ∃ Zs, Hid (zeroSt = Zs) := ⟨_, rfl⟩
  have HZV : Hid (zeroStV = Zs.v) := by rw [Hid, ← hZs.out]; rfl
  rw [hZs.out] at HWF HTF' HIz HOz HLF HZO
  go_wp2_with (first | (guard_target = wpList _ _ _ (Oper.mk (some 35) _ _ _ _ _ :: _) _ _; refine build_zero_seat ?_; rw [hZs.out]) | (guard_target = wpList _ _ _ (Oper.mk none (Op.store _ (Operand.tmp 7) _) _ _ _ _ :: _) _ _; rw [hWP.out]; refine wpList_store_mid rfl 45 (.tmp 7) (.tmp 35) rfl (w.heap.size + 1 + 1 + 1) 0 Zs.cells.toArray rfl rfl HTF' HIz HOz ?_; rw [HWF.out]) | fail)
  exact bodyPost_ret (v := .tuple #[.agg t.cells.toArray, .agg Zs.cells.toArray, .bool false]) (results_three Tryd.results9 rfl rfl HLP.out HLF.out rfl) rfl ⟨t, Zs, false, rfl, by rw [Hid, bringOf_no HMAY.out, HV.out, HZV.out], hoF, HZO, hbF⟩
 | true =>
  have C := pageNoOk_any no w3
  cases HINB : inB no 0 7 with
  | false =>
   have HMAY : Hid (mayBring p.v no pg.lsn (pg.ss.map (·.v)) = false) := mayB_no HINB
   rw [HINB] at C
   go_wp2_with fail
   refine C.mono ?_
   clear C
   rintro e u ⟨rfl, hu⟩
   rw [hu]
   clear hu u
   obtain ⟨wN, hwN⟩ : ∃ wN, Hid (w3 = wN) := ⟨_, rfl⟩
   have bN := hb3
   rw [hwN.out] at bN ⊢
   clear HOKP HINB hwN hb3 hs3 n3
   have b3N := b3.below bN b3.lt
   have b6N := b6.below bN b6.lt
   have b7N := b7.below bN b7.lt
   have nN : Below w.heap.size w wN := hbW.trans (bN.mono hbW.size)
   have sN := bN.size
   have C := copyPool_any p wN (PoolA.reads.below hr nN) hl
   simp only [PoolA.cells] at C
   have p0 := b3N.cell 0 _ rfl
   have p1 := b3N.cell 1 _ rfl
   go_wp2_with fail
   refine C.mono ?_
   clear C p0 p1
   rintro e wc ⟨t, rfl, hv, ho, hbc⟩
   have sc := hbc.size
   have b6F := b6N.below hbc b6N.lt
   have b7F := b7N.below hbc b7N.lt
   have nF : Below w.heap.size w wc := nN.trans (hbc.mono nN.size)
   have m0 := b6F.cell 0 _ rfl
   have m1 := b6F.cell 1 _ rfl
   have mf0 := b6F.frozen 0
   have mf1 := b6F.frozen 1
   obtain ⟨WP, hWP, bP, hwP, hsP⟩ := box2_fill b6F (.slice t.a t.seats.length t.c) (.int .i64 t.hand)
   have b7P := b7F.within hwP (by omega)
   obtain ⟨WF, hWF, hwF, hsF, HTF, HLF, bF⟩ := seat_out zeroSt _ rfl b7P
   have bPF := bP.within hwF (by omega)
   have HLP : Hid ((loadVar 37 ⟨w.heap.size + 1 + 1, 0, none⟩).run Tryd.prog WF = .ok (.agg t.cells.toArray) WF) := pool_load t bPF
   have hoF := ((PoolA.own.within ho hwP (.inr (by omega))).within hwF (.inr (by omega))).widen (show w.heap.size ≤ wN.heap.size by omega) (show wc.heap.size ≤ WF.heap.size by omega) (Nat.le_refl _)
   have hbF : Below w.heap.size w WF := (nF.trans (hwP.below (by omega) (by omega))).trans (hwF.below (by omega) (by omega))
   have HWF : Hid (WP.setCells (w.heap.size + 1 + 1 + 1) 0 zeroSt.cells.toArray.toList = WF) := hWF.out
   have HTF' : WP.there (w.heap.size + 1 + 1 + 1) 0 zeroSt.cells.toArray.size := HTF.out
   have HIz := seat_info zeroSt
   have HOz := seat_one zeroSt
   have HZO := zeroSt_own' WF w.heap.size WF.heap.size (Nat.le_refl _)
   have HV : Hid (t.v = p.v) := hv.out
   clear hwP hsP bP hwF hsF bF bPF b7P b6F b7F b6N b7N b3N nF hWF HTF ho hv
   obtain ⟨Zs, hZs⟩ : ∃ Zs, Hid (zeroSt = Zs) := ⟨_, rfl⟩
   have HZV : Hid (zeroStV = Zs.v) := by rw [Hid, ← hZs.out]; rfl
   rw [hZs.out] at HWF HTF' HIz HOz HLF HZO
   go_wp2_with (first | (guard_target = wpList _ _ _ (Oper.mk (some 35) _ _ _ _ _ :: _) _ _; refine build_zero_seat ?_; rw [hZs.out]) | (guard_target = wpList _ _ _ (Oper.mk none (Op.store _ (Operand.tmp 7) _) _ _ _ _ :: _) _ _; rw [hWP.out]; refine wpList_store_mid rfl 45 (.tmp 7) (.tmp 35) rfl (w.heap.size + 1 + 1 + 1) 0 Zs.cells.toArray rfl rfl HTF' HIz HOz ?_; rw [HWF.out]) | fail)
   exact bodyPost_ret (v := .tuple #[.agg t.cells.toArray, .agg Zs.cells.toArray, .bool false]) (results_three Tryd.results9 rfl rfl HLP.out HLF.out rfl) rfl ⟨t, Zs, false, rfl, by rw [Hid, bringOf_no HMAY.out, HV.out, HZV.out], hoF, HZO, hbF⟩
  | true =>
   rw [HINB] at C
   go_wp2_with fail
   refine C.mono ?_
   clear C
   rintro e u ⟨rfl, hu⟩
   rw [hu]
   clear hu u
   have b53 := b5.below hb3 b5.lt
   have C := implPageOk_any pg h4 w3 (hg.keep n3) (hrp.below n3) hlp
   have rP : w3.rangeAt (w.heap.size + 1) 0 pg.cells := Box.range [] pg.cells [] (by simpa using b53)
   go_wp2_with (first | (guard_target = wpList _ _ _ (Oper.mk (some 23) _ _ _ _ _ :: _) _ _; refine wpList_load_mid_if (by rfl) 43 (.tmp 5) rfl (w.heap.size + 1) 0 rfl pg.cells _ rP Tryd.underlying43 rfl HI.out ?_) | fail)
   refine C.mono ?_
   clear C rP b53
   rintro e w4 ⟨rfl, hb4⟩
   have hs4 := hb4.size
   have N4 : Below W.heap.size W w4 := hb3.trans (hb4.mono hb3.size)
   have n4 : Below w.heap.size w w4 := n3.trans (hb4.mono n3.size)
   cases HOKG : okP pg.lsn (pg.ss.map (·.v)) with
   | false =>
    have HMAY : Hid (mayBring p.v no pg.lsn (pg.ss.map (·.v)) = false) := mayB_page HOKG
    obtain ⟨wN, hwN⟩ : ∃ wN, Hid (w4 = wN) := ⟨_, rfl⟩
    have bN := N4
    rw [hwN.out] at bN ⊢
    clear HOKP HINB HOKG hwN hb3 hs3 n3 hb4 hs4 N4 n4
    have b3N := b3.below bN b3.lt
    have b6N := b6.below bN b6.lt
    have b7N := b7.below bN b7.lt
    have nN : Below w.heap.size w wN := hbW.trans (bN.mono hbW.size)
    have sN := bN.size
    have C := copyPool_any p wN (PoolA.reads.below hr nN) hl
    simp only [PoolA.cells] at C
    have p0 := b3N.cell 0 _ rfl
    have p1 := b3N.cell 1 _ rfl
    go_wp2_with fail
    refine C.mono ?_
    clear C p0 p1
    rintro e wc ⟨t, rfl, hv, ho, hbc⟩
    have sc := hbc.size
    have b6F := b6N.below hbc b6N.lt
    have b7F := b7N.below hbc b7N.lt
    have nF : Below w.heap.size w wc := nN.trans (hbc.mono nN.size)
    have m0 := b6F.cell 0 _ rfl
    have m1 := b6F.cell 1 _ rfl
    have mf0 := b6F.frozen 0
    have mf1 := b6F.frozen 1
    obtain ⟨WP, hWP, bP, hwP, hsP⟩ := box2_fill b6F (.slice t.a t.seats.length t.c) (.int .i64 t.hand)
    have b7P := b7F.within hwP (by omega)
    obtain ⟨WF, hWF, hwF, hsF, HTF, HLF, bF⟩ := seat_out zeroSt _ rfl b7P
    have bPF := bP.within hwF (by omega)
    have HLP : Hid ((loadVar 37 ⟨w.heap.size + 1 + 1, 0, none⟩).run Tryd.prog WF = .ok (.agg t.cells.toArray) WF) := pool_load t bPF
    have hoF := ((PoolA.own.within ho hwP (.inr (by omega))).within hwF (.inr (by omega))).widen (show w.heap.size ≤ wN.heap.size by omega) (show wc.heap.size ≤ WF.heap.size by omega) (Nat.le_refl _)
    have hbF : Below w.heap.size w WF := (nF.trans (hwP.below (by omega) (by omega))).trans (hwF.below (by omega) (by omega))
    have HWF : Hid (WP.setCells (w.heap.size + 1 + 1 + 1) 0 zeroSt.cells.toArray.toList = WF) := hWF.out
    have HTF' : WP.there (w.heap.size + 1 + 1 + 1) 0 zeroSt.cells.toArray.size := HTF.out
    have HIz := seat_info zeroSt
    have HOz := seat_one zeroSt
    have HZO := zeroSt_own' WF w.heap.size WF.heap.size (Nat.le_refl _)
    have HV : Hid (t.v = p.v) := hv.out
    clear hwP hsP bP hwF hsF bF bPF b7P b6F b7F b6N b7N b3N nF hWF HTF ho hv
    obtain ⟨Zs, hZs⟩ : ∃ Zs, Hid (zeroSt = Zs) := ⟨_, rfl⟩
    have HZV : Hid (zeroStV = Zs.v) := by rw [Hid, ← hZs.out]; rfl
    rw [hZs.out] at HWF HTF' HIz HOz HLF HZO
    go_wp2_with (first | (guard_target = wpList _ _ _ (Oper.mk (some 35) _ _ _ _ _ :: _) _ _; refine build_zero_seat ?_; rw [hZs.out]) | (guard_target = wpList _ _ _ (Oper.mk none (Op.store _ (Operand.tmp 7) _) _ _ _ _ :: _) _ _; rw [hWP.out]; refine wpList_store_mid rfl 45 (.tmp 7) (.tmp 35) rfl (w.heap.size + 1 + 1 + 1) 0 Zs.cells.toArray rfl rfl HTF' HIz HOz ?_; rw [HWF.out]) | fail)
    exact bodyPost_ret (v := .tuple #[.agg t.cells.toArray, .agg Zs.cells.toArray, .bool false]) (results_three Tryd.results9 rfl rfl HLP.out HLF.out rfl) rfl ⟨t, Zs, false, rfl, by rw [Hid, bringOf_no HMAY.out, HV.out, HZV.out], hoF, HZO, hbF⟩
   | true =>
    have b34 := b3.below N4 b3.lt
    have p0 := b34.cell 0 _ rfl
    have p1 := b34.cell 1 _ rfl
    have C := implSeated_any p no w4 (PoolA.reads.below hr n4) (PoolA.short_wide hl)
    simp only [PoolA.cells] at C
    go_wp2_with fail
    refine C.mono ?_
    clear C p0 p1 b34
    rintro e w5 ⟨rfl, hb5⟩
    have hs5 := hb5.size
    have N5 : Below W.heap.size W w5 := N4.trans (hb5.mono N4.size)
    by_cases hsd : 0 ≤ seatedOf p.v.seats no
    ·have HMAY : Hid (mayBring p.v no pg.lsn (pg.ss.map (·.v)) = false) := mayB_there hsd
     obtain ⟨wN, hwN⟩ : ∃ wN, Hid (w5 = wN) := ⟨_, rfl⟩
     have bN := N5
     rw [hwN.out] at bN ⊢
     clear HOKP HINB HOKG hwN hb3 hs3 n3 hb4 hs4 N4 n4 hb5 hs5 N5
     generalize seatedOf p.v.seats no = sd at *
     have b3N := b3.below bN b3.lt
     have b6N := b6.below bN b6.lt
     have b7N := b7.below bN b7.lt
     have nN : Below w.heap.size w wN := hbW.trans (bN.mono hbW.size)
     have sN := bN.size
     have C := copyPool_any p wN (PoolA.reads.below hr nN) hl
     simp only [PoolA.cells] at C
     have p0 := b3N.cell 0 _ rfl
     have p1 := b3N.cell 1 _ rfl
     go_wp2_with fail
     refine C.mono ?_
     clear C p0 p1
     rintro e wc ⟨t, rfl, hv, ho, hbc⟩
     have sc := hbc.size
     have b6F := b6N.below hbc b6N.lt
     have b7F := b7N.below hbc b7N.lt
     have nF : Below w.heap.size w wc := nN.trans (hbc.mono nN.size)
     have m0 := b6F.cell 0 _ rfl
     have m1 := b6F.cell 1 _ rfl
     have mf0 := b6F.frozen 0
     have mf1 := b6F.frozen 1
     obtain ⟨WP, hWP, bP, hwP, hsP⟩ := box2_fill b6F (.slice t.a t.seats.length t.c) (.int .i64 t.hand)
     have b7P := b7F.within hwP (by omega)
     obtain ⟨WF, hWF, hwF, hsF, HTF, HLF, bF⟩ := seat_out zeroSt _ rfl b7P
     have bPF := bP.within hwF (by omega)
     have HLP : Hid ((loadVar 37 ⟨w.heap.size + 1 + 1, 0, none⟩).run Tryd.prog WF = .ok (.agg t.cells.toArray) WF) := pool_load t bPF
     have hoF := ((PoolA.own.within ho hwP (.inr (by omega))).within hwF (.inr (by omega))).widen (show w.heap.size ≤ wN.heap.size by omega) (show wc.heap.size ≤ WF.heap.size by omega) (Nat.le_refl _)
     have hbF : Below w.heap.size w WF := (nF.trans (hwP.below (by omega) (by omega))).trans (hwF.below (by omega) (by omega))
     have HWF : Hid (WP.setCells (w.heap.size + 1 + 1 + 1) 0 zeroSt.cells.toArray.toList = WF) := hWF.out
     have HTF' : WP.there (w.heap.size + 1 + 1 + 1) 0 zeroSt.cells.toArray.size := HTF.out
     have HIz := seat_info zeroSt
     have HOz := seat_one zeroSt
     have HZO := zeroSt_own' WF w.heap.size WF.heap.size (Nat.le_refl _)
     have HV : Hid (t.v = p.v) := hv.out
     clear hwP hsP bP hwF hsF bF bPF b7P b6F b7F b6N b7N b3N nF hWF HTF ho hv
     obtain ⟨Zs, hZs⟩ : ∃ Zs, Hid (zeroSt = Zs) := ⟨_, rfl⟩
     have HZV : Hid (zeroStV = Zs.v) := by rw [Hid, ← hZs.out]; rfl
     rw [hZs.out] at HWF HTF' HIz HOz HLF HZO
     go_wp2_with (first | (guard_target = wpList _ _ _ (Oper.mk (some 35) _ _ _ _ _ :: _) _ _; refine build_zero_seat ?_; rw [hZs.out]) | (guard_target = wpList _ _ _ (Oper.mk none (Op.store _ (Operand.tmp 7) _) _ _ _ _ :: _) _ _; rw [hWP.out]; refine wpList_store_mid rfl 45 (.tmp 7) (.tmp 35) rfl (w.heap.size + 1 + 1 + 1) 0 Zs.cells.toArray rfl rfl HTF' HIz HOz ?_; rw [HWF.out]) | fail)
     exact bodyPost_ret (v := .tuple #[.agg t.cells.toArray, .agg Zs.cells.toArray, .bool false]) (results_three Tryd.results9 rfl rfl HLP.out HLF.out rfl) rfl ⟨t, Zs, false, rfl, by rw [Hid, bringOf_no HMAY.out, HV.out, HZV.out], hoF, HZO, hbF⟩
    ·have HMAY : Hid (mayBring p.v no pg.lsn (pg.ss.map (·.v)) = true) := mayB_all HOKP HINB HOKG (by omega)
     obtain ⟨h, hh, h3⟩ := okPool_handNat HOKP
     have hlen3 : p.seats.length ≤ 3 := by have := (okPool_iff HOKP).1; simpa [PoolA.v] using this
     have b35 := b3.below N5 b3.lt
     have b55 := b5.below N5 b5.lt
     have b65 := b6.below N5 b6.lt
     have b75 := b7.below N5 b7.lt
     have n5 : Below w.heap.size w w5 := hbW.trans (N5.mono hbW.size)
     have sW5 := N5.size
     have rP : w5.rangeAt (w.heap.size + 1) 0 pg.cells := Box.range [] pg.cells [] (by simpa using b55)
     have hsdb : ¬ seatedOf p.v.seats no ≥ 0 := hsd
     have C := copyPage_own pg h4 w5 (hrp.below n5) hlp
     have HOKP' : Hid (okPool p.v = true) := HOKP
     clear HINB HOKG hlen3 N4 n3 n4 hb3 hb4 hb5 N5 HOKP
     go_upto_region 3 with fail
     generalize seatedOf p.v.seats no = sd at *
     go_wp2_with (first | (guard_target = wpList _ _ _ (Oper.mk (some 37) _ _ _ _ _ :: _) _ _; refine wpList_load_mid rfl 43 (.tmp 5) rfl (w.heap.size + 1) 0 rfl pg.cells _ rP Tryd.underlying43 rfl HI.out ?_) | fail)
     refine C.mono ?_
     clear C rP
     rintro e w6 ⟨xs, rfl, hxs, oxs, hb6⟩
     obtain ⟨x0, x1, x2, x3, rfl⟩ := four_slots' (ts := xs) (by have := congrArg List.length hxs.out; simpa [h4] using this)
     obtain ⟨q, hq⟩ : ∃ q : SeatA, Hid ((⟨no, pg.lsn, x0, x1, x2, x3, false, true⟩ : SeatA) = q) := ⟨_, rfl⟩
     have HQV : Hid (q.v = ⟨no, pg.lsn, pg.ss.map (·.v), false, true⟩) := by rw [Hid, ← hq.out, ← hxs.out]; rfl
     have oq6 : q.own w6 w5.heap.size w6.heap.size := by rw [← hq.out]; exact oxs
     have s6 := hb6.size
     obtain ⟨V7, hV7, a9, hb7, hs7⟩ := boxes1 w6 [.int .i64 0, .int .i64 0, .bool false, .int .i64 0, .slice none 0 0, .slice none 0 0, .bool false, .int .i64 0, .slice none 0 0, .slice none 0 0, .bool false, .int .i64 0, .slice none 0 0, .slice none 0 0, .bool false, .int .i64 0, .slice none 0 0, .slice none 0 0, .bool false, .bool false] 45
     obtain ⟨W7, hW7, hw7, hs7', HT7, _, b9⟩ := seat_out q _ rfl a9
     have N67 : Below w6.heap.size w6 W7 := hb7.trans (hw7.below (Nat.le_refl _) (by omega))
     have HW7 : Hid (V7.setCells w6.heap.size 0 q.cells.toArray.toList = W7) := hW7.out
     have HIq := seat_info q
     have HOq := seat_one q
     have N57 : Below w5.heap.size w5 W7 := hb6.trans (N67.mono hb6.size)
     have b37 := b35.below N57 b35.lt
     have b67 := b65.below N57 b65.lt
     have b77 := b75.below N57 b75.lt
     have oq7 := oq6.below N67
     have n7 : Below w.heap.size w W7 := n5.trans (N57.mono n5.size)
     have s7 := b9.lt
     have p0 := b37.cell 0 _ rfl
     have p1 := b37.cell 1 _ rfl
     clear hW7 hs7 hs7' hw7 hb7 a9 N67 hb6 N57 b35 b55 b65 b75 n5 oq6 oxs hxs
     go_upto_region 4 with (first | (guard_target = wpList _ _ _ (Oper.mk (some 39) _ _ _ _ _ :: _) _ _; refine build_seat (.tmp 36) (.tmp 38) no pg.lsn x0 x1 x2 x3 rfl rfl ?_; rw [hq.out]) | (guard_target = wpList _ _ _ (Oper.mk none (Op.store _ (Operand.tmp 9) _) _ _ _ _ :: _) _ _; rw [hV7.out]; refine wpList_store_mid rfl 45 (.tmp 9) (.tmp 39) rfl w6.heap.size 0 q.cells.toArray rfl rfl HT7.out HIq HOq ?_; rw [HW7.out]) | fail)
     clear hq hV7 HW7 HT7
     by_cases hlt : p.seats.length < 3
     ·have hltb : (p.seats.length : Int) < 3 := by omega
      have C := copyPool_any p W7 (PoolA.reads.below hr n7) hl
      simp only [PoolA.cells] at C
      go_wp2_with fail
      refine C.mono ?_
      clear C p0 p1
      rintro e w8 ⟨t, rfl, hv, ho, hb8⟩
      have s8 := hb8.size
      obtain ⟨ts, hand, a, c⟩ := t
      simp only [PoolA.own] at ho
      have htl : Hid (ts.length = p.seats.length) := by
       have e := congrArg (fun v => v.seats.length) hv.out
       simp only [PoolA.v, List.length_map] at e
       exact e
      obtain ⟨W9, hW9, b10, hb9, hs9⟩ := boxes1 w8 [.slice a ts.length c, .int .i64 hand] 37
      have N79 : Below W7.heap.size W7 W9 := hb8.trans (hb9.mono hb8.size)
      have b69 := b67.below N79 b67.lt
      have b79 := b77.below N79 b77.lt
      have b99 := b9.below N79 b9.lt
      have oq9 := oq7.below N79
      have o9 := ho.below hb9
      have n9 : Below w.heap.size w W9 := n7.trans (N79.mono n7.size)
      have s9 := b10.lt
      obtain ⟨W10, hW10, bs, hb10, hs10⟩ := boxes1 W9 q.cells 45
      have b6a := b69.below hb10 b69.lt
      have b7a := b79.below hb10 b79.lt
      have b10a := b10.below hb10 b10.lt
      have oqa := oq9.below hb10
      have oa := o9.below hb10
      have na : Below w.heap.size w W10 := n9.trans (hb10.mono n9.size)
      have rq : W9.rangeAt w6.heap.size 0 q.cells := Box.range [] q.cells [] (by simpa using b99)
      have rs : W10.rangeAt W9.heap.size 0 q.cells := Box.range [] q.cells [] (by simpa using bs)
      have sa := hb10.size
      have hll : ts.length + 1 ≤ 68719476736 := by rw [htl.out]; omega
      have m10 := b10.cell 0 _ rfl
      have HV : Hid (PoolA.v ⟨ts, hand, a, c⟩ = p.v) := hv.out
      clear hs9 hs10 hb9 hb10 N79 hb8 ho o9 oq9 b69 b79 b99 n9 bs hv b37 b67 b77 b9 oq7 n7 htl
      go_upto_region 6 with fail
      rw [hW9.out]
      clear hW9
      go_wp2_with (first | (guard_target = wpList _ _ _ (Oper.mk (some 48) _ _ _ _ _ :: _) _ _; refine wpList_load_mid rfl 45 (.tmp 9) rfl w6.heap.size 0 rfl q.cells _ rq Tryd.underlying45 rfl HIq ?_) | (guard_target = wpList _ _ _ (Oper.mk (some 49) _ _ _ _ _ :: _) _ _; refine build_seats1 (.tmp 48) q rfl ?_; rw [hW10.out]) | (guard_target = wpList _ _ _ (Oper.mk (some 50) _ _ _ _ _ :: _) _ _; refine append_seatLow rfl _ _ rfl W7.heap.size w8.heap.size a c ts rfl oa W9.heap.size 0 1 q rfl rs w5.heap.size w6.heap.size oqa (by omega) s6 hll s8 ?_) | fail)
      intro a' c' w11 o11 g11
      obtain ⟨ys, hys⟩ : ∃ ys, Hid (ts ++ [q] = ys) := ⟨_, rfl⟩
      have hyl : ts.length + 1 = ys.length := by rw [← hys.out]; simp
      rw [hys.out] at o11
      rw [hyl]
      clear hyl m10 rq rs
      have t11 : Touch (Value.slice a ts.length c).ownBlock.toList W10 w11 := Touch.of_grown g11 (fun k hk => Option.mem_toList.2 hk)
      have hbl : ∀ k ∈ (Value.slice a ts.length c).ownBlock.toList, W7.heap.size ≤ k ∧ k < w8.heap.size := fun k hk => oa.blocks_lt k (List.mem_append.2 (.inl hk))
      have s11 := t11.size
      have b6b := b6a.touch t11 (fun hk => by have := hbl _ hk; omega)
      have b7b := b7a.touch t11 (fun hk => by have := hbl _ hk; omega)
      have b10b := b10a.touch t11 (fun hk => by have := hbl _ hk; omega)
      have nb : Below w.heap.size w w11 := na.trans ((t11.within hbl).below (by omega) (by omega))
      have k0 := b10b.cell 0 _ rfl
      have kf0 := b10b.frozen 0
      obtain ⟨Wc, hWc, b10c, hwc, hsc⟩ := box_set b10b 0 (.slice a' ys.length c')
      simp only [List.set] at b10c
      have b6c := b6b.within hwc (by omega)
      have b7c := b7b.within hwc (by omega)
      have hn8 : ∀ k ∈ blocksSts a' c' ys, k ≠ w8.heap.size := fun k hk e => by
       rw [← hys.out] at hk
       simp only [blocksSts, List.mem_append, Option.mem_toList, List.flatMap_append, List.flatMap_cons, List.flatMap_nil, List.append_nil] at hk
       rcases hk with hk | hk | hk
       ·subst e
        obtain ⟨cur, hcur⟩ := ownsRow_at o11.row (by rw [← hys.out]; exact hk)
        unfold Box at b10b
        rw [b10b] at hcur
        simp only [Option.some.injEq, Obj.cells.injEq] at hcur
        have := hcur.2.1
        cases this
       ·have := (oa.blocks_lt k (List.mem_append.2 (.inr hk))).2; omega
       ·have := (oqa.blocks_lt k hk).2; omega
      have tc : Touch [w8.heap.size] w11 Wc := ⟨hwc.os, hwc.tape, hwc.output, hwc.size, fun j hj hn => hwc.block j hj (fun hh => hn (by simp; omega))⟩
      have oc := (o11.touch tc (fun k hk hk' => hn8 k hk (List.mem_singleton.1 hk'))).widen (Nat.le_refl _) (Nat.le_of_eq hsc.symm) (Nat.le_refl _)
      have nc : Below w.heap.size w Wc := nb.trans (hwc.below (by omega) (by omega))
      have hsca := Nat.le_of_eq hsc
      have hscb := Nat.le_of_eq hsc.symm
      have e0 := b10c.cell 0 _ rfl
      have e1 := b10c.cell 1 _ rfl
      have m0 := b6c.cell 0 _ rfl
      have m1 := b6c.cell 1 _ rfl
      have mf0 := b6c.frozen 0
      have mf1 := b6c.frozen 1
      obtain ⟨WP, hWP, bP, hwP, hsP⟩ := box2_fill b6c (.slice a' ys.length c') (.int .i64 hand)
      have b7P := b7c.within hwP (by omega)
      obtain ⟨WF, hWF, hwF, hsF, HTF, HLF, bF⟩ := seat_out zeroSt _ rfl b7P
      have bPF := bP.within hwF (by omega)
      have HLP : Hid ((loadVar 37 ⟨w.heap.size + 1 + 1, 0, none⟩).run Tryd.prog WF = .ok (.agg (PoolA.cells ⟨ys, hand, a', c'⟩).toArray) WF) := pool_load _ bPF
      have hoF := ((oc.within hwP (.inr (by omega))).within hwF (.inr (by omega))).widen (show w.heap.size ≤ w5.heap.size by omega) (show Wc.heap.size ≤ WF.heap.size by omega) (Nat.le_refl _)
      have hbF : Below w.heap.size w WF := (nc.trans (hwP.below (by omega) (by omega))).trans (hwF.below (by omega) (by omega))
      have HWF : Hid (WP.setCells (w.heap.size + 1 + 1 + 1) 0 zeroSt.cells.toArray.toList = WF) := hWF.out
      have HTF' : WP.there (w.heap.size + 1 + 1 + 1) 0 zeroSt.cells.toArray.size := HTF.out
      have HIz := seat_info zeroSt
      have HOz := seat_one zeroSt
      have HZO := zeroSt_own' WF w.heap.size WF.heap.size (Nat.le_refl _)
      have HFIN : Hid (bringOf p.v no pg.lsn (pg.ss.map (·.v)) = (PoolA.v ⟨ys, hand, a', c'⟩, zeroStV, false)) := by
       have e2 : p.v.hand = hand := by rw [← HV.out]; rfl
       have e3 : p.v.seats = ts.map SeatA.v := by rw [← HV.out]; rfl
       have e4 : p.v.hand.toNat = h := by rw [hh]; rfl
       have e5 : hand = (h : Int) := by rw [← e2, hh]
       rw [Hid, bringOf, if_pos HMAY.out, e4, bringV, if_pos (by simpa [PoolA.v] using hlt), e3, ← hys.out, e5]
       simp only [PoolA.v, List.map_append, List.map_cons, List.map_nil, HQV.out]
      simp only [PoolA.cells] at HLP
      clear hwP hsP bP hwF hsF bF bPF b7P b6c b7c b10c nc hWF HTF oc tc hn8 b6a b7a b10a oqa oa na t11 hbl b6b b7b b10b nb hwc hsc HV HMAY hh o11 g11
      obtain ⟨Zs, hZs⟩ : ∃ Zs, Hid (zeroSt = Zs) := ⟨_, rfl⟩
      have HZV : Hid (zeroStV = Zs.v) := by rw [Hid, ← hZs.out]; rfl
      rw [HZV.out] at HFIN
      rw [hZs.out] at HWF HTF' HIz HOz HLF HZO
      go_upto_region 7 with fail
      rw [hWc.out]
      clear hWc k0 kf0
      go_wp2_with (first | (guard_target = wpList _ _ _ (Oper.mk (some 53) _ _ _ _ _ :: _) _ _; refine build_zero_seat ?_; rw [hZs.out]) | (guard_target = wpList _ _ _ (Oper.mk none (Op.store _ (Operand.tmp 7) _) _ _ _ _ :: _) _ _; rw [hWP.out]; refine wpList_store_mid rfl 45 (.tmp 7) (.tmp 53) rfl (w.heap.size + 1 + 1 + 1) 0 Zs.cells.toArray rfl rfl HTF' HIz HOz ?_; rw [HWF.out]) | fail)
      exact bodyPost_ret (v := .tuple #[.agg #[.slice a' ys.length c', .int .i64 hand], .agg Zs.cells.toArray, .bool false]) (results_three Tryd.results9 rfl rfl HLP.out HLF.out rfl) rfl ⟨⟨ys, hand, a', c'⟩, Zs, false, rfl, HFIN, hoF, HZO, hbF⟩
     ·have hge : ¬ (p.seats.length : Int) < 3 := by omega
      have hlen3 : p.seats.length = 3 := by have := (okPool_iff HOKP'.out).1; simp only [PoolA.v, List.length_map] at this; omega
      have HVO := victimOf_yes (h := h) HOKP'.out (by simpa [PoolA.v] using hlen3) hh
      have HVH := (victim_hand 4 p.v.seats h h3).2
      have HVL : (victimV 4 p.v.seats h).1.length = 3 := by rw [victim_len]; simpa [PoolA.v] using hlen3
      have C := implVictim_any p W7 (hg.keep n7) (PoolA.reads.below hr n7) hl
      simp only [PoolA.cells, VictimAns] at C
      have HP3 : Hid (p.seats.length = 3) := hlen3
      clear hlen3
      go_wp2_with fail
      refine C.mono ?_
      clear C p0 p1
      rintro e w8 ⟨t, kv, rfl, hvt, ho, hb8⟩
      rw [HVO] at hvt
      obtain ⟨k, hk⟩ : ∃ k : Nat, Hid ((victimV 4 p.v.seats h).2.2 = k) := ⟨_, rfl⟩
      have hkv : kv = (k : Int) := by have e := congrArg Prod.snd hvt.out; rw [← hk.out]; exact e.symm
      have htv : t.v = PoolV.mk (victimV 4 p.v.seats h).1 ((victimV 4 p.v.seats h).2.1 : Int) := (congrArg Prod.fst hvt.out).symm
      have hk3 : k < 3 := by rw [← hk.out]; exact HVH
      obtain ⟨ts, hand, a, c⟩ := t
      simp only [PoolA.own] at ho
      have htm : ts.map SeatA.v = (victimV 4 p.v.seats h).1 := congrArg PoolV.seats htv
      have hth : hand = ((victimV 4 p.v.seats h).2.1 : Int) := congrArg PoolV.hand htv
      have htl : ts.length = 3 := by have e := congrArg List.length htm; rw [HVL] at e; simpa using e
      subst hkv
      have HFV : Hid (bringOf p.v no pg.lsn (pg.ss.map (·.v)) = (PoolA.v ⟨ts.set k q, hand, a, c⟩, (ts.getD k zeroSt).v, true)) := by
       have e4 : p.v.hand.toNat = h := by rw [hh]; rfl
       rw [Hid, bringOf, if_pos HMAY.out, e4, bringV, if_neg (by simpa [PoolA.v] using hlt)]
       rw [← htm, hk.out, ← hth]
       simp only [PoolA.v, List.map_set, HQV.out, seatV_at]
      obtain ⟨g, rfl⟩ : ∃ g, a = some ⟨g, 0, none⟩ := by
       rcases ho.row.2 with ⟨_, h0⟩ | ⟨g, cap', cur, hv, _⟩
       ·omega
       ·simp only [Value.slice.injEq] at hv; exact ⟨g, hv.1⟩
      have s8 := hb8.size
      have hgl := ho.blocks_lt g (by simp [blocksSts, Value.ownBlock])
      have hkt : k < ts.length := by omega
      obtain ⟨W9, hW9, b11, hb9, hs9⟩ := boxes1 w8 [.slice (some ⟨g, 0, none⟩) ts.length c, .int .i64 hand] 37
      have N79 : Below W7.heap.size W7 W9 := hb8.trans (hb9.mono hb8.size)
      have b69 := b67.below N79 b67.lt
      have b79 := b77.below N79 b77.lt
      have b99 := b9.below N79 b9.lt
      have oq9 := oq7.below N79
      have o9 := ho.below hb9
      have n9 : Below w.heap.size w W9 := n7.trans (N79.mono n7.size)
      have s9 := b11.lt
      obtain ⟨old, hold⟩ : ∃ old, Hid (ts.getD k zeroSt = old) := ⟨_, rfl⟩
      have r9 := (row_seat o9.row rfl k hkt).1
      have oold := o9.each _ (seatD_mem ts k hkt)
      rw [hold.out] at r9 oold HFV
      obtain ⟨V10, hV10, a13, hb10, hs10⟩ := boxes1 W9 [.int .i64 0, .int .i64 0, .bool false, .int .i64 0, .slice none 0 0, .slice none 0 0, .bool false, .int .i64 0, .slice none 0 0, .slice none 0 0, .bool false, .int .i64 0, .slice none 0 0, .slice none 0 0, .bool false, .int .i64 0, .slice none 0 0, .slice none 0 0, .bool false, .bool false] 45
      obtain ⟨W10, hW10, hw10, hs10', HT10, _, b13⟩ := seat_out old _ rfl a13
      have N910 : Below W9.heap.size W9 W10 := hb10.trans (hw10.below (Nat.le_refl _) (by omega))
      have HW10 : Hid (V10.setCells W9.heap.size 0 old.cells.toArray.toList = W10) := hW10.out
      have b6a := b69.below N910 b69.lt
      have b7a := b79.below N910 b79.lt
      have b9a := b99.below N910 b99.lt
      have b11a := b11.below N910 b11.lt
      have oqa := oq9.below N910
      have oa := o9.below N910
      have oolda := oold.below N910
      have na : Below w.heap.size w W10 := n9.trans (N910.mono n9.size)
      have sa := N910.size
      have l13 := b13.lt
      have hng : g ∉ old.blocks := fun hk => rowSt_apart oa.row oolda g rfl hk
      obtain ⟨WS, hWS, oS, tS, hsS⟩ := OwnSts.fillLow (A := ts.take k) (z := ts.getD k zeroSt) (B := ts.drop (k + 1)) (by rw [← seatD_split ts k hkt]; exact oa) q oqa (by omega) s8 s6
      have hkl : (ts.take k).length = k := by rw [List.length_take]; omega
      rw [hkl] at hWS
      rw [← seat_set ts k q hkt] at oS
      have HWS : Hid (W10.setCells g (k * 20) q.cells.toArray.toList = WS) := hWS.out
      have HTS : W10.there g (k * 20) q.cells.toArray.size := (row_seat oa.row rfl k hkt).2
      have b6S := b6a.touch tS (by simp; omega)
      have b7S := b7a.touch tS (by simp; omega)
      have b11S := b11a.touch tS (by simp; omega)
      have b13S := b13.touch tS (by simp; omega)
      have ooS := oolda.touch tS (fun j hj hk => hng (by rw [← List.mem_singleton.1 hk]; exact hj))
      have nS : Below w.heap.size w WS := na.trans ((tS.within (lo := W7.heap.size) (hi := w8.heap.size) (fun j hj => by obtain rfl := List.mem_singleton.1 hj; exact hgl)).below (by omega) (by omega))
      have hsSa := Nat.le_of_eq hsS
      have hsSb := Nat.le_of_eq hsS.symm
      have HIo := seat_info old
      have HOo := seat_one old
      have rq : W10.rangeAt w6.heap.size 0 q.cells := Box.range [] q.cells [] (by simpa using b9a)
      have m11 := b11.cell 0 _ rfl
      have m11a := b11a.cell 0 _ rfl
      have hkb : (k : Int) < (ts.length : Int) := by omega
      have hk0 : (0 : Int) ≤ (k : Int) := by omega
      have HLN : Hid ((ts.set k q).length = ts.length) := by rw [Hid]; simp
      clear hs9 hs10 hs10' hw10 hb9 hb10 N79 N910 hb8 ho o9 oq9 b69 b79 b99 n9 b37 b67 b77 b9 oq7 n7 hvt htv htm hth htl HVO HVH HVL hW10 hWS oold hsS hkl b6a b7a b9a b11a oa oolda na hng a13 b11 hk hold HMAY HQV hh
      go_upto_region 9 with fail
      rw [hW9.out]
      clear hW9
      go_upto_region 10 with (first | (guard_target = wpList _ _ _ (Oper.mk (some 63) _ _ _ _ _ :: _) _ _; refine wpList_load_mid rfl 45 (.tmp 62) rfl g (k * 20) rfl old.cells _ r9 Tryd.underlying45 rfl HIo ?_) | (guard_target = wpList _ _ _ (Oper.mk none (Op.store _ (Operand.tmp 13) _) _ _ _ _ :: _) _ _; rw [hV10.out]; refine wpList_store_mid rfl 45 (.tmp 13) (.tmp 63) rfl W9.heap.size 0 old.cells.toArray rfl rfl HT10.out HIo HOo ?_; rw [HW10.out]) | fail)
      clear m11 r9 hV10 HT10 HW10
      go_upto_region 11 with (first | (guard_target = wpList _ _ _ (Oper.mk (some 67) _ _ _ _ _ :: _) _ _; refine wpList_load_mid rfl 45 (.tmp 9) rfl w6.heap.size 0 rfl q.cells _ rq Tryd.underlying45 rfl HIq ?_) | (guard_target = wpList _ _ _ (Oper.mk none (Op.store _ (Operand.tmp 68) _) _ _ _ _ :: _) _ _; refine wpList_store_mid rfl 45 (.tmp 68) (.tmp 67) rfl g (k * 20) q.cells.toArray rfl rfl HTS HIq HOq ?_; rw [HWS.out]) | fail)
      clear m11a rq HTS HWS
      have ND : Below WS.heap.size WS WS.drew := (Below.refl _ _).drew
      obtain ⟨w12, hw12⟩ : ∃ w12, Hid (WS.drew = w12) := ⟨_, rfl⟩
      rw [hw12.out] at ND
      have sd := ND.size
      have b6d := b6S.below ND b6S.lt
      have b7d := b7S.below ND b7S.lt
      have b11d := b11S.below ND b11S.lt
      have b13d := b13S.below ND b13S.lt
      have od := oS.below ND
      have ood := ooS.below ND
      have nd : Below w.heap.size w w12 := nS.trans (ND.mono nS.size)
      obtain ⟨us, hus⟩ : ∃ us, Hid (ts.set k q = us) := ⟨_, rfl⟩
      rw [hus.out] at od HFV HLN
      have b11u : Box w12 w8.heap.size [.slice (some ⟨g, 0, none⟩) us.length c, .int .i64 hand] 37 := by rw [HLN.out]; exact b11d
      obtain ⟨WP, hWP, hwP, hsP, HTP, _, bP⟩ := pool_out ⟨us, hand, some ⟨g, 0, none⟩, c⟩ _ rfl b6d
      have b7P := b7d.within hwP (by omega)
      obtain ⟨WF, hWF, hwF, hsF, HTF, HLF, bF⟩ := seat_out old _ rfl b7P
      have bPF := bP.within hwF (by omega)
      have HLP : Hid ((loadVar 37 ⟨w.heap.size + 1 + 1, 0, none⟩).run Tryd.prog WF = .ok (.agg (PoolA.cells ⟨us, hand, some ⟨g, 0, none⟩, c⟩).toArray) WF) := pool_load _ bPF
      have hoF := ((od.within hwP (.inr (by omega))).within hwF (.inr (by omega))).widen (show w.heap.size ≤ w5.heap.size by omega) (show w8.heap.size ≤ WF.heap.size by omega) (Nat.le_refl _)
      have hgF := ((ood.within hwP (.inr (by omega))).within hwF (.inr (by omega))).widen (show w.heap.size ≤ W7.heap.size by omega) (show w8.heap.size ≤ WF.heap.size by omega) (Nat.le_refl _)
      have hbF : Below w.heap.size w WF := (nd.trans (hwP.below (by omega) (by omega))).trans (hwF.below (by omega) (by omega))
      have HSS : Hid (∀ u, Box u w8.heap.size [.slice (some ⟨g, 0, none⟩) us.length c, .int .i64 hand] 37 → Box u W9.heap.size old.cells 45 → (u.cell? ⟨w8.heap.size, 0, none⟩ = some (.slice (some ⟨g, 0, none⟩) us.length c) ∧ u.cell? ⟨w8.heap.size, 1, none⟩ = some (.int .i64 hand)) ∧ u.rangeAt W9.heap.size 0 old.cells) := fun u h1 h2 => ⟨⟨h1.cell 0 _ rfl, h1.cell 1 _ rfl⟩, Box.range [] old.cells [] (by simpa using h2)⟩
      have K8 := HSS.out w12 b11u b13d
      have KP := HSS.out WP (b11u.within hwP (by omega)) (b13d.within hwP (by omega))
      have KF := HSS.out WF ((b11u.within hwP (by omega)).within hwF (by omega)) ((b13d.within hwP (by omega)).within hwF (by omega))
      have EP : Hid (w12.setCells (w.heap.size + 1 + 1) 0 (PoolA.cells ⟨us, hand, some ⟨g, 0, none⟩, c⟩).toArray.toList = WP) := hWP.out
      have EF : Hid (WP.setCells (w.heap.size + 1 + 1 + 1) 0 old.cells.toArray.toList = WF) := hWF.out
      have TP : w12.there (w.heap.size + 1 + 1) 0 (PoolA.cells ⟨us, hand, some ⟨g, 0, none⟩, c⟩).toArray.size := HTP.out
      have TF : WP.there (w.heap.size + 1 + 1 + 1) 0 old.cells.toArray.size := HTF.out
      have HIp := pool_info ⟨us, hand, some ⟨g, 0, none⟩, c⟩
      have HOp := pool_one ⟨us, hand, some ⟨g, 0, none⟩, c⟩
      simp only [PoolA.cells] at EP TP HIp HOp HLP
      clear b6S b7S b11S b13S oS ooS nS b6d b7d b11d b13d od ood nd b11u hwP hsP bP b7P hwF hsF bF bPF hWP hWF HTP HTF HSS ND tS hus
      refine wp_region_held_drew (S := fun u => (u.cell? ⟨w8.heap.size, 0, none⟩ = some (.slice (some ⟨g, 0, none⟩) us.length c) ∧ u.cell? ⟨w8.heap.size, 1, none⟩ = some (.int .i64 hand)) ∧ u.rangeAt W9.heap.size 0 old.cells) (by kernel_rfl) ?_ (fun hHeld => ?_)
      ·rw [hw12.out]; exact K8
      rw [hw12.out] at hHeld ⊢
      clear hw12
      refine tk 0 (v := .agg #[.slice (some ⟨g, 0, none⟩) us.length c, .int .i64 hand]) rfl (Or.inl ⟨by rfl, ?_⟩) hHeld ?_
      ·intro w' hSw
       have hx0 := hSw.1.1
       have hx1 := hSw.1.2
       go_simp <;> rfl
      try simp only [Act.put, zA, zB, zD, zE, zF]
      refine tk 1 rfl (yieldsIf_load_mid (by rfl) _ _ rfl _ _ rfl old.cells _ (fun _ h => h.2) Tryd.underlying45 rfl HIo) hHeld ?_
      try simp only [Act.put, zA, zB, zC, zD, zE, zF]
      refine wpAnyH_ready (rs := [2]) (by kernel_rfl) (by simp) ?_
      refine AllReadyH.cons rfl (fun K hK => ?_) AllReadyH.nil
      rw [if_pos (by rfl)]
      refine wp_store_mid 37 (.tmp 6) (.tmp 69) rfl (w.heap.size + 1 + 1) 0 #[.slice (some ⟨g, 0, none⟩) us.length c, .int .i64 hand] rfl rfl TP HIp HOp ?_
      rw [EP.out]
      refine hK.out _ _ KP (fun hHeld => ?_)
      clear hK K
      try simp only [Act.put, zA, zB, zC]
      refine wpAnyH_ready (rs := [3]) (by kernel_rfl) (by simp) ?_
      refine AllReadyH.cons rfl (fun K hK => ?_) AllReadyH.nil
      rw [if_pos (by rfl)]
      refine wp_store_mid 45 (.tmp 7) (.tmp 70) rfl (w.heap.size + 1 + 1 + 1) 0 old.cells.toArray rfl rfl TF HIo HOo ?_
      rw [EF.out]
      refine hK.out _ _ KF (fun hHeld => ?_)
      clear hK K
      try simp only [Act.put, zA, zB, zC]
      refine tk 4 (v := .bool true) rfl (Or.inl ⟨by rfl, ?_⟩) hHeld ?_
      ·intro w' hSw
       go_simp <;> rfl
      try simp only [Act.put, zA, zB, zC, zD, zE, zF]
      refine wpAnyH_done (by kernel_rfl) ?_ _
      clear hHeld K8 KP KF
      go_wp2_with fail
      exact bodyPost_ret (v := .tuple #[.agg #[.slice (some ⟨g, 0, none⟩) us.length c, .int .i64 hand], .agg old.cells.toArray, .bool true]) (results_three Tryd.results9 rfl rfl HLP.out HLF.out rfl) rfl ⟨⟨us, hand, some ⟨g, 0, none⟩, c⟩, old, true, rfl, HFV, hoF, hgF, hbF⟩
end Go.Proofs.YtoboickdkednkabDoor
namespace Go.Proofs.YtoboickdkednkabDoor
open Go.RowKit
structure PgA where
 lsn : Int
 s0 : SlotA
 s1 : SlotA
 s2 : SlotA
 s3 : SlotA
structure PgV where
 lsn : Int
 ss : List SlotV
def PgA.ss (r : PgA) : List SlotA := [r.s0, r.s1, r.s2, r.s3]
def PgA.page (r : PgA) : PageA := ⟨r.lsn, r.ss⟩
def PgA.v (r : PgA) : PgV := ⟨r.lsn, r.ss.map (·.v)⟩
def PgA.cells (r : PgA) : List Value := r.page.cells
def PgA.reads (w : World) (r : PgA) : Prop := ReadsS w r.ss
def PgA.own (w : World) (lo hi : Nat) (r : PgA) : Prop := OwnS w lo hi r.ss
def PgA.short (r : PgA) (m : Nat) : Prop := ∀ x ∈ r.ss, x.v.o.ints.length ≤ m ∧ x.v.o.refs.length ≤ m
def PgA.blocks (r : PgA) : List Nat := r.ss.flatMap SlotA.blocks
def PgA.count (r : PgA) : Nat := countS r.ss
theorem PgA.reads.below {w w' : World} {r : PgA} (h : r.reads w) (hb : Below w.heap.size w w') : r.reads w' := ReadsS.below h hb
theorem PgA.own.reads {w : World} {lo hi : Nat} {r : PgA} (h : r.own w lo hi) : r.reads w := OwnS.reads h
theorem PgA.own.below {w w' : World} {lo hi : Nat} {r : PgA} (h : r.own w lo hi) (hb : Below w.heap.size w w') : r.own w' lo hi := OwnS.below h hb
theorem PgA.own.within {w w' : World} {lo hi l u : Nat} {r : PgA} (h : r.own w lo hi) (hw : Within l u w w') (hd : hi ≤ l ∨ u ≤ lo) : r.own w' lo hi := OwnS.within h hw hd
theorem PgA.own.widen {w : World} {lo hi lo' hi' : Nat} {r : PgA} (h : r.own w lo hi) (h1 : lo' ≤ lo) (h2 : hi ≤ hi') (h3 : hi' ≤ w.heap.size) : r.own w lo' hi' := OwnS.widen h h1 h2 h3
theorem PgA.own.blocks_lt {w : World} {lo hi : Nat} {r : PgA} (h : r.own w lo hi) : ∀ k ∈ r.blocks, lo ≤ k ∧ k < hi := OwnS.blocks_lt h
theorem PgA.own.top {w : World} {lo hi : Nat} {r : PgA} (h : r.own w lo hi) : hi ≤ w.heap.size := (h.each r.s0 (by simp [PgA.ss])).ints.2.1
theorem pg_short_of {a b : PgA} {m : Nat} (h : a.v = b.v) (hb : b.short m) : a.short m := by
 intro x hx
 have e : a.ss.map (·.v) = b.ss.map (·.v) := congrArg PgV.ss h
 have : x.v ∈ b.ss.map (·.v) := by rw [← e]; exact List.mem_map.2 ⟨x, hx, rfl⟩
 obtain ⟨y, hy, e⟩ := List.mem_map.1 this
 rw [← e]
 exact hb y hy
theorem pg_short_wide {r : PgA} (h : r.short 1048576) : r.short 1099511627776 := fun x hx => by have := h x hx; omega
theorem pg_info (q : PgA) : (Tryd.prog.info? 43).map (·.size) = some q.cells.length := by show _ = some 17; kernel_rfl
theorem lpg_info (q : PgA) : (Tryd.prog.info? 32).map (·.size) = some q.cells.length := by show _ = some 17; kernel_rfl
theorem pg_one (q : PgA) : q.cells.toArray.all (·.oneCell') = true := all_oneCell_toArray (oneP q.page)
theorem pg_rng {w : World} {B : Nat} {t : TypeId} (q : PgA) (b : Box w B q.cells t) : w.rangeAt B 0 q.cells := Box.range [] q.cells [] (by simpa using b)
theorem pg_out {w : World} {C : Nat} (q : PgA) (old : List Value) (ho : old.length = 17) (bC : Box w C old 43) :
  ∃ WF, Hid (w.setCells C 0 q.cells = WF) ∧ Within C (C + 1) w WF ∧ WF.heap.size = w.heap.size ∧ Hid (w.there C 0 q.cells.toArray.size) ∧ Hid ((loadVar 43 ⟨C, 0, none⟩).run Tryd.prog WF = .ok (.agg q.cells.toArray) WF) ∧ Box WF C q.cells 43 := by
 obtain ⟨WF, hWF, bF, hwF, hsF⟩ := range_fill [] old q.cells [] (by simpa using bC) (by rw [ho]; rfl)
 have bF' : Box WF C q.cells 43 := by simpa using bF
 exact ⟨WF, hWF, hwF, hsF, bC.there 0 _ (by rw [ho]; show 0 + 17 ≤ 17; decide), run_loadVar_mid (P := Tryd.prog) WF C 0 43 q.cells _ (pg_rng q bF') Tryd.underlying43 rfl (pg_info q), bF'⟩
theorem toPg_law (r : PgA) (w : World) (hr : r.reads w) (hl : r.short 1048576) :
  Calls Tryd.prog 8 #[.agg r.cells.toArray] w fun e w' => ∃ t : PgA, e = .returned (.agg t.cells.toArray) ∧ Hid (t.v = r.v) ∧ t.own w' w.heap.size w'.heap.size ∧ Below w.heap.size w w' := by
 refine (toPage_own r.page rfl w hr (wide_of hl)).mono ?_
 rintro e w' ⟨ts, rfl, hv, ho, hb⟩
 obtain ⟨a, b, c, d, rfl⟩ := four_slots' (ts := ts) (by have := congrArg List.length hv.out; simpa [PgA.page, PgA.ss] using this)
 exact ⟨⟨r.lsn, a, b, c, d⟩, rfl, by rw [Hid]; simp only [PgA.v, PgV.mk.injEq]; exact ⟨trivial, hv.out⟩, ho, hb⟩
theorem szPg_any (r : PgA) (left : Int) (w : World) (hn : r.short 9223372036854775807) (h0 : 0 ≤ left ∧ left ≤ 1048576) :
  Calls Tryd.prog 5 #[.agg r.cells.toArray, .int .i64 left] w fun e w' => ∃ z, e = .returned (.int .i64 z) ∧ (z < 0 ∨ (0 ≤ z ∧ z ≤ left ∧ r.short 1048576)) ∧ Below w.heap.size w w' :=
 szPage_any r.page rfl left w hn h0
theorem eqPg_same (s t : PgA) (he : t.v = s.v) (w : World) (hs : s.reads w) (ht : t.reads w) (hl : s.short 1099511627776) :
  Calls Tryd.prog 12 #[.agg s.cells.toArray, .agg t.cells.toArray] w fun e w' => e = .returned (.bool true) ∧ Below w.heap.size w w' := by
 simp only [PgA.v, PgV.mk.injEq] at he
 have e : t.cells = PageA.cells ⟨s.lsn, t.ss⟩ := by show PageA.cells ⟨t.lsn, t.ss⟩ = _; rw [he.1]
 rw [e]
 exact eqPage_same s.lsn s.ss t.ss rfl he.2 w hs ht hl
theorem markPg_wide (r : PgA) (lo hi : Nat) (k0 : Int) (w : World) (ho : r.own w lo hi) (hl : r.short 1099511627776) (h0 : 0 ≤ k0) (hk : k0 ≤ 10995116277760) :
  Calls Tryd.prog 14 #[.agg r.cells.toArray, .int .i64 k0] w fun e w' => e = .returned (.int .i64 (k0 + r.count)) ∧ True ∧ Touch r.blocks w w' := by
 refine (markPage_touch r.page rfl lo hi k0 w ho hl h0 hk ho.top).mono ?_
 rintro e w' ⟨rfl, _, ht⟩
 exact ⟨rfl, trivial, ht⟩
end Go.Proofs.YtoboickdkednkabDoor