/- Several texts in one, in their order. -/
import Derived.Test.YtickiokdcbeefabDoorPVictimx26
import Derived.Test.YtickiokdcbeefabDoorPVictimx23
import Derived.Deep.RegionHeld3
import Derived.Deep.CutRange
import Derived.Test.YtickiokdcbeefabDoorRows
import Derived.Test.YtickiokdcbeefabDoorPVictimx16
import Derived.LaidLaws
import Derived.LaidHandle
import Derived.Stop.Joined
import Derived.ChangeVars
/- The walk of laws.FnExactVictim. -/
namespace Go.Proofs.YtickiokdcbeefabDoor
open Go.RowKit

set_option maxHeartbeats 4000000 in
set_option maxRecDepth 100000 in
theorem lawVictim_walk (p : PoolA) (w : World) (hg : ErrT w) (hin : InPool w p) :
    Calls Tryd.prog 3 #[.agg p.cells.toArray] w fun e w' => e = .returned (.bool true) ∧ Below w.heap.size w w' := by
  have hsm : p.short 9223372036854775807 := hin.short
  have hrd : p.reads w := hin.reads
  obtain ⟨W, hW, b0, hbW, hsW⟩ := boxes1 w p.cells 24
  have HP : Hid (∀ u, Below W.heap.size W u → u.cell? ⟨w.heap.size, 0, none⟩ = some (.slice p.a p.seats.length p.c) ∧ u.cell? ⟨w.heap.size, 1, none⟩ = some (.int .i64 p.hand)) := fun u hu => ⟨(b0.below hu b0.lt).cell 0 _ rfl, (b0.below hu b0.lt).cell 1 _ rfl⟩
  have hRd : ∀ u, Below W.heap.size W u → p.reads u := fun u hu => hrd.below (hbW.trans (hu.mono hbW.size))
  have hgB : ∀ u, Below W.heap.size W u → ErrT u := fun u hu => hg.keep (hbW.trans (hu.mono hbW.size))
  have HOK : Hid (∀ t : PoolA, t.v = (victimOf p.v).1 → p.short 1048576 → t.short 1048576) := fun t h hs => victim_short h hs
  have HCT : Hid (∀ t : PoolA, t.short 1048576 → 1 + (t.count : Int) ≤ 1152921504606846976) := fun t h => countSt_short h
  have hlt0 := b0.lt
  clear hsW b0 hin
  simp only [PoolA.cells] at *
  have p0 := (HP.out W (Below.refl _ _)).1
  have p1 := (HP.out W (Below.refl _ _)).2
  have C := szPool_any p 1048576 W (hRd W (Below.refl _ _)) hsm (by omega)
  simp only [PoolA.cells] at C
  go_enter Tryd.func3, Tryd.ntmps3
  go_wp2_with fail
  rw [hW.out]
  clear hW
  refine C.mono ?_
  clear C p0 p1
  rintro e w1 ⟨z, rfl, hz, B1⟩
  rcases hz with hneg | ⟨hz0, _, hl⟩
  · go_wp2
    go_ret
    exact ⟨rfl, hbW.trans (B1.mono hbW.size)⟩
  have hzn : ¬ z < 0 := by omega
  have hs1 := B1.size
  have p0 := (HP.out w1 B1).1
  have p1 := (HP.out w1 B1).2
  have C := toPool_any p w1 (hRd w1 B1) hl
  simp only [PoolA.cells] at C
  go_wp2_with fail
  refine C.mono ?_
  clear C p0 p1
  rintro e w2 ⟨ts, rfl, hv2, o2, hb2⟩
  have hs2 := hb2.size
  have B2 : Below W.heap.size W w2 := B1.trans (hb2.mono hs1)
  have C := specVictim_any ts w2 o2.reads (PoolA.short_of hv2.out hl)
  simp only [PoolA.cells, VictimAns, hv2.out] at C
  go_wp2_with fail
  refine C.mono ?_
  clear C o2 hv2
  rintro e w3 ⟨tw, kw, rfl, hvw0, ow3, hb3⟩
  have hvw : Hid (tw.v = (victimOf p.v).1) := by rw [Hid, hvw0.out]
  have HKW : Hid (∀ z, z = (victimOf p.v).2 → z = kw) := fun z hz => by rw [hz, hvw0.out]
  clear hvw0
  have hs3 := hb3.size
  have B3 : Below W.heap.size W w3 := B2.trans (hb3.mono (by omega))
  clear hb2 hb3
  obtain ⟨W4, hW4, k6, hb4, hs4⟩ := boxes1 w3 [.slice tw.a tw.seats.length tw.c, .int .i64 tw.hand] 28
  have hs4' := k6.lt
  clear hs4
  have B4 : Below W.heap.size W W4 := B3.trans (hb4.mono (by omega))
  have ow4 := ow3.below hb4
  clear ow3 hb4
  go_upto_region 6 with fail
  rw [hW4.out]
  clear hW4
  have p0 := (HP.out W4 B4).1
  have p1 := (HP.out W4 B4).2
  have C := toPool_any p W4 (hRd W4 B4) hl
  simp only [PoolA.cells] at C
  go_wp2_with fail
  refine C.mono ?_
  clear C p0 p1
  rintro e w5 ⟨q, rfl, hqm, oq5, hb5⟩
  have hs5 := hb5.size
  have B5 : Below W.heap.size W w5 := B4.trans (hb5.mono (by omega))
  have k65 := k6.below hb5 k6.lt
  have ow5 := ow4.below hb5
  have hqS := PoolA.short_of hqm.out hl
  clear k6 ow4 hb5
  obtain ⟨W6, hW6, k7, hb6, hs6⟩ := boxes1 w5 [.slice q.a q.seats.length q.c, .int .i64 q.hand] 28
  have hs6' := k7.lt
  clear hs6
  have B6 : Below W.heap.size W W6 := B5.trans (hb6.mono (by omega))
  have k66 := k65.below hb6 k65.lt
  have ow6 := ow5.below hb6
  have oq6 := oq5.below hb6
  clear k65 ow5 oq5 hb6
  go_upto_region 7 with fail
  rw [hW6.out]
  clear hW6
  have p0 := k7.cell 0 _ rfl
  have p1 := k7.cell 1 _ rfl
  have C := implVictim_any q W6 (hgB W6 B6) oq6.reads hqS
  simp only [PoolA.cells, VictimAns, hqm.out] at C
  go_wp2_with fail
  refine C.mono ?_
  clear C p0 p1
  rintro e w7 ⟨tg, kg, rfl, hvg0, og7, hb7⟩
  have hvg : Hid (tg.v = (victimOf p.v).1) := by rw [Hid, hvg0.out]
  obtain rfl : kw = kg := (HKW.out kg (by rw [hvg0.out])).symm
  clear hvg0
  have hs7 := hb7.size
  have B7 : Below W.heap.size W w7 := B6.trans (hb7.mono (by omega))
  have k67 := k66.below hb7 k66.lt
  have k77 := k7.below hb7 k7.lt
  have ow7 := ow6.below hb7
  have oq7 := oq6.below hb7
  clear k66 k7 ow6 oq6 hb7
  obtain ⟨W8, hW8, k8, hb8, hs8⟩ := boxes1 w7 [.slice tg.a tg.seats.length tg.c, .int .i64 tg.hand] 28
  have hs8' := k8.lt
  clear hs8
  have B8 : Below W.heap.size W W8 := B7.trans (hb8.mono (by omega))
  have k68 := k67.below hb8 k67.lt
  have k78 := k77.below hb8 k77.lt
  have ow8 := ow7.below hb8
  have oq8 := oq7.below hb8
  have og8 := og7.below hb8
  have HWG : Hid (tw.v = tg.v) := hvw.out.trans hvg.out.symm
  have hgS := HOK.out tg hvg.out hl
  clear k67 k77 ow7 oq7 og7 hb8
  go_upto_region 8 with fail
  rw [hW8.out]
  clear hW8
  have g0 := k8.cell 0 _ rfl
  have g1 := k8.cell 1 _ rfl
  have v0 := k68.cell 0 _ rfl
  have v1 := k68.cell 1 _ rfl
  have C := eqPool_same tg tw HWG.out W8 og8.reads ow8.reads (PoolA.short_wide hgS)
  simp only [PoolA.cells] at C
  go_wp2_with fail
  refine C.mono ?_
  clear C g0 g1 v0 v1
  rintro e w9 ⟨rfl, hb9⟩
  have hs9 := hb9.size
  have B9 : Below W.heap.size W w9 := B8.trans (hb9.mono (by omega))
  have k69 := k68.below hb9 k68.lt
  have k79 := k78.below hb9 k78.lt
  have k89 := k8.below hb9 k8.lt
  have ow9 := ow8.below hb9
  have oq9 := oq8.below hb9
  have og9 := og8.below hb9
  clear k68 k78 k8 ow8 oq8 og8 hb9
  have HQ : Hid (q.v = p.v) := hqm.out
  have HS7 : Hid (∀ u, Below W.heap.size W u → Below w9.heap.size w9 u → (u.cell? ⟨w.heap.size, 0, none⟩ = some (.slice p.a p.seats.length p.c) ∧ u.cell? ⟨w.heap.size, 1, none⟩ = some (.int .i64 p.hand)) ∧ (u.cell? ⟨w5.heap.size, 0, none⟩ = some (.slice q.a q.seats.length q.c) ∧ u.cell? ⟨w5.heap.size, 1, none⟩ = some (.int .i64 q.hand))) := fun u h1 h2 => ⟨HP.out u h1, (k79.below h2 k79.lt).cell 0 _ rfl, (k79.below h2 k79.lt).cell 1 _ rfl⟩
  have hr9 := hRd _ B9.drew
  have oqr := oq9.reads
  clear hqm
  go_wp2_with fail
  refine wp_region_held_drew (S := fun u => (u.cell? ⟨w.heap.size, 0, none⟩ = some (.slice p.a p.seats.length p.c) ∧ u.cell? ⟨w.heap.size, 1, none⟩ = some (.int .i64 p.hand)) ∧ (u.cell? ⟨w5.heap.size, 0, none⟩ = some (.slice q.a q.seats.length q.c) ∧ u.cell? ⟨w5.heap.size, 1, none⟩ = some (.int .i64 q.hand))) (by kernel_rfl) ?_ (fun hHeld => ?_)
  · exact HS7.out _ B9.drew (Below.refl _ _).drew
  refine wpAnyH_take (i := 0) (v := .agg #[.slice q.a q.seats.length q.c, .int .i64 q.hand]) rfl (by kernel_rfl) (by kernel_rfl) (by kernel_rfl) (fun _ _ _ h => h) (Or.inl ⟨by rfl, ?_⟩) hHeld ?_
  · intro w' hSw
    have hx0 := hSw.2.1
    have hx1 := hSw.2.2
    go_simp <;> rfl
  try simp only [Act.put, List.getElem_toArray, List.getElem_cons_zero, List.setIfInBounds_toArray, List.set_cons_zero, List.set_cons_succ]
  refine wpAnyH_take (i := 1) (v := .agg #[.slice p.a p.seats.length p.c, .int .i64 p.hand]) rfl (by kernel_rfl) (by kernel_rfl) (by kernel_rfl) (fun _ _ _ h => h) (Or.inl ⟨by rfl, ?_⟩) hHeld ?_
  · intro w' hSw
    have hx0 := hSw.1.1
    have hx1 := hSw.1.2
    go_simp <;> rfl
  try simp only [Act.put, List.getElem_toArray, List.getElem_cons_zero, List.getElem_cons_succ, List.setIfInBounds_toArray, List.set_cons_zero, List.set_cons_succ]
  refine wpAnyH_ready (rs := [2]) (by kernel_rfl) (by simp) ?_
  refine AllReadyH.cons rfl (fun K hK => ?_) AllReadyH.nil
  have C := toPool_any p w9.drew hr9 hl
  simp only [PoolA.cells] at C
  go_simp
  refine C.mono ?_
  clear C
  rintro e w10 ⟨vs, rfl, hv10, o10, hb10⟩
  have hb10' : Below w9.heap.size w9 w10 := ((Below.refl _ _).drew).trans hb10
  have B10 : Below W.heap.size W w10 := B9.trans (hb10'.mono (by omega))
  refine hK.out _ _ (HS7.out _ B10 hb10') (fun hHeld => ?_)
  clear hK K
  try simp only [Act.put, List.getElem_toArray, List.getElem_cons_zero, List.getElem_cons_succ, List.setIfInBounds_toArray, List.set_cons_zero, List.set_cons_succ]
  refine wpAnyH_ready (rs := [3]) (by kernel_rfl) (by simp) ?_
  refine AllReadyH.cons rfl (fun K hK => ?_) AllReadyH.nil
  have C := eqPool_same q vs (hv10.out.trans HQ.out.symm) w10 (oqr.below hb10') o10.reads (PoolA.short_wide hqS)
  simp only [PoolA.cells] at C
  go_simp
  refine C.mono ?_
  clear C
  rintro e w11 ⟨rfl, hb11⟩
  have hb11' : Below w9.heap.size w9 w11 := hb10'.trans (hb11.mono hb10'.size)
  have B11 : Below W.heap.size W w11 := B9.trans (hb11'.mono (by omega))
  refine hK.out _ _ (HS7.out _ B11 hb11') (fun hHeld => ?_)
  clear hK K
  try simp only [Act.put, List.getElem_toArray, List.getElem_cons_zero, List.getElem_cons_succ, List.setIfInBounds_toArray, List.set_cons_zero, List.set_cons_succ]
  refine wpAnyH_take (i := 4) (v := .bool false) rfl (by kernel_rfl) (by kernel_rfl) (by kernel_rfl) (fun _ _ _ h => h) (Or.inl ⟨by rfl, ?_⟩) hHeld ?_
  · intro w' _; go_simp
  refine wpAnyH_done (by kernel_rfl) ?_ _
  have hs11 := hb11'.size
  have k6b := k69.below hb11' k69.lt
  have k7b := k79.below hb11' k79.lt
  have k8b := k89.below hb11' k89.lt
  have owb := ow9.below hb11'
  have oqb := oq9.below hb11'
  have ogb := og9.below hb11'
  clear hHeld hb11 hb10 hb10' hb11' o10 hv10 B10 k69 k79 k89 ow9 oq9 og9 oqr hr9 HS7
  have p0 := k7b.cell 0 _ rfl
  have p1 := k7b.cell 1 _ rfl
  have C := markPool_touch q W4.heap.size w5.heap.size 1 w11 oqb (PoolA.short_wide hqS) (by omega) (HCT.out q hqS)
  simp only [PoolA.cells] at C
  go_wp2_with fail
  refine C.mono ?_
  clear C p0 p1
  rintro e w12 ⟨rfl, _, ht12⟩
  have hw12 : Within W4.heap.size w5.heap.size w11 w12 := ht12.within oqb.blocks_lt
  have hs12 := hw12.size
  have k6c := k6b.within hw12 (by omega)
  have k8c := k8b.within hw12 (by omega)
  have owc := owb.within hw12 (.inl (by omega))
  have ogc := ogb.within hw12 (.inr (by omega))
  have B12 : Below W.heap.size W w12 := B11.trans (hw12.below (by omega) (by omega))
  have hcn : ¬ ((1 : Int) + (q.count : Int)) < 0 := by omega
  clear ht12 hw12 k6b k7b k8b owb oqb ogb
  generalize q.count = cq at *
  have g0 := k8c.cell 0 _ rfl
  have g1 := k8c.cell 1 _ rfl
  have v0 := k6c.cell 0 _ rfl
  have v1 := k6c.cell 1 _ rfl
  have C := eqPool_same tg tw HWG.out w12 ogc.reads owc.reads (PoolA.short_wide hgS)
  simp only [PoolA.cells] at C
  go_wp2_with fail
  refine C.mono ?_
  clear C g0 g1 v0 v1
  rintro e w13 ⟨rfl, hb13⟩
  have hs13 := hb13.size
  have B13 : Below W.heap.size W w13 := B12.trans (hb13.mono (by omega))
  have k6d := k6c.below hb13 k6c.lt
  have k8d := k8c.below hb13 k8c.lt
  have owd := owc.below hb13
  have ogd := ogc.below hb13
  clear k6c k8c owc ogc hb13
  have g0 := k8d.cell 0 _ rfl
  have g1 := k8d.cell 1 _ rfl
  have C := markPool_touch tg W6.heap.size w7.heap.size 1 w13 ogd (PoolA.short_wide hgS) (by omega) (HCT.out tg hgS)
  simp only [PoolA.cells] at C
  go_wp2_with fail
  refine C.mono ?_
  clear C g0 g1
  rintro e w14 ⟨rfl, omg, ht14⟩
  have hw14 : Within W6.heap.size w7.heap.size w13 w14 := ht14.within ogd.blocks_lt
  have hs14 := hw14.size
  have k6e := k6d.within hw14 (by omega)
  have k8e := k8d.within hw14 (by omega)
  have owe := owd.within hw14 (.inl (by omega))
  have B14 : Below W.heap.size W w14 := B13.trans (hw14.below (by omega) (by omega))
  clear ht14 hw14 k6d k8d owd ogd
  have hcg : ¬ ((1 : Int) + (tg.count : Int)) < 0 := by omega
  have g0 := k8e.cell 0 _ rfl
  have g1 := k8e.cell 1 _ rfl
  have C := heldPool_any tg W6.heap.size w7.heap.size 1 w14 omg (by have := hgS.len; omega) (by omega) (HCT.out tg hgS)
  simp only [PoolA.cells] at C
  go_wp2_with fail
  refine C.mono ?_
  clear C g0 g1
  rintro e w15 ⟨rfl, hb15⟩
  have hs15 := hb15.size
  have B15 : Below W.heap.size W w15 := B14.trans (hb15.mono (by omega))
  have k6f := k6e.below hb15 k6e.lt
  have k8f := k8e.below hb15 k8e.lt
  have owf := owe.below hb15
  have omf := omg.below hb15
  clear k6e k8e owe omg hb15
  have p0 := (HP.out w15 B15).1
  have p1 := (HP.out w15 B15).2
  have C := toPool_any p w15 (hRd w15 B15) hl
  simp only [PoolA.cells] at C
  go_wp2_with fail
  refine C.mono ?_
  clear C p0 p1
  rintro e w16 ⟨us, rfl, hvu, ou, hb16⟩
  have hs16 := hb16.size
  have B16 : Below W.heap.size W w16 := B15.trans (hb16.mono (by omega))
  have C := implVictim_any us w16 (hgB w16 B16) ou.reads (PoolA.short_of hvu.out hl)
  simp only [PoolA.cells, VictimAns, hvu.out] at C
  go_wp2_with fail
  refine C.mono ?_
  clear C
  rintro e w17 ⟨th, kh, rfl, hvh0, oh, hb17⟩
  have hvh : Hid (th.v = (victimOf p.v).1) := by rw [Hid, hvh0.out]
  obtain rfl : kw = kh := (HKW.out kh (by rw [hvh0.out])).symm
  clear hvh0
  have hb17' : Below w15.heap.size w15 w17 := hb16.trans (hb17.mono hs16)
  have hs17 := hb17'.size
  have B17 : Below W.heap.size W w17 := B15.trans (hb17'.mono (by omega))
  have k6g := k6f.below hb17' k6f.lt
  have k8g := k8f.below hb17' k8f.lt
  have owg := owf.below hb17'
  have omgg := omf.below hb17'
  clear k6f k8f owf omf hb17 hb16 hb17' ou hvu B16
  obtain ⟨W18, hW18, k12, hb18, hs18⟩ := boxes1 w17 [.slice th.a th.seats.length th.c, .int .i64 th.hand] 28
  have hs18' := k12.lt
  clear hs18
  have B18 : Below W.heap.size W W18 := B17.trans (hb18.mono (by omega))
  have k6h := k6g.below hb18 k6g.lt
  have k8h := k8g.below hb18 k8g.lt
  have owh := owg.below hb18
  have omh := omgg.below hb18
  have ohh := oh.below hb18
  have HWH : Hid (tw.v = th.v) := hvw.out.trans hvh.out.symm
  have hhS := HOK.out th hvh.out hl
  clear k6g k8g owg omgg oh hb18
  go_upto_region 25 with fail
  rw [hW18.out]
  clear hW18
  have g0 := k12.cell 0 _ rfl
  have g1 := k12.cell 1 _ rfl
  have v0 := k6h.cell 0 _ rfl
  have v1 := k6h.cell 1 _ rfl
  have C := eqPool_same th tw HWH.out W18 ohh.reads owh.reads (PoolA.short_wide hhS)
  simp only [PoolA.cells] at C
  go_wp2_with fail
  refine C.mono ?_
  clear C g0 g1 v0 v1
  rintro e w19 ⟨rfl, hb19⟩
  have B19 : Below W.heap.size W w19 := B18.trans (hb19.mono (by omega))
  have k8i := k8h.below hb19 k8h.lt
  have omi := omh.below hb19
  clear k6h k8h owh omh ohh k12
  have g0 := k8i.cell 0 _ rfl
  have g1 := k8i.cell 1 _ rfl
  have C := heldPool_any tg W6.heap.size w7.heap.size 1 w19 omi (by have := hgS.len; omega) (by omega) (HCT.out tg hgS)
  simp only [PoolA.cells] at C
  go_wp2_with fail
  refine C.mono ?_
  clear C g0 g1
  rintro e w20 ⟨rfl, hb20⟩
  have B20 : Below W.heap.size W w20 := B19.trans (hb20.mono B19.size)
  go_wp2
  go_ret
  exact ⟨rfl, hbW.trans (B20.mono hbW.size)⟩
end Go.Proofs.YtickiokdcbeefabDoor

/- What the row's condition on errors.errorType gives a walk; a world that meets it. -/
namespace Go.Proofs.YtickiokdcbeefabDoor
open Go.ChangeShapes Go.WideShapes Go.RowKit

theorem Tryd.et : Tryd.prog.globalNamed "errors.errorType" = some 0 := by kernel_rfl
theorem Tryd.rt : (Tryd.prog.cutTypes.find? (·.1 == "internal/reflectlite.rtype")).map (·.2) = some 127 := by kernel_rfl
theorem Tryd.oneRow : ((List.range 170).filter fun t => Tryd.prog.rowNamed t [101, 114, 114, 111, 114]) = [105] := by kernel_rfl
theorem Tryd.typesSize : Tryd.prog.types.size = 170 := by kernel_rfl

theorem errT_of_handles {W : World} {laid : List (String × DataW Unit)} (hm : ("errors.errorType", Rows.laid_errors_errorType) ∈ laid) (h : handlesMet Tryd.prog laid W) : ErrT W := by
  obtain ⟨name, u, ty, e1, e2, e3, e4, e5⟩ := h _ hm
  have en : name = [101, 114, 114, 111, 114] := (Option.some.inj e1).symm
  subst en
  obtain rfl := Option.some.inj (Tryd.rt.symm.trans e2)
  have hm : ty ∈ (List.range 170).filter fun t => Tryd.prog.rowNamed t [101, 114, 114, 111, 114] := List.mem_filter.2 ⟨List.mem_range.2 (by rw [← Tryd.typesSize]; exact e3), e4⟩
  rw [Tryd.oneRow] at hm
  obtain rfl := List.mem_singleton.1 hm
  have hh : typeHandle Tryd.prog 105 = .pointer (some ⟨1, 105, none⟩) := by kernel_rfl
  rw [hh] at e5
  unfold ErrT
  simpa using World.var?_cell Tryd.et e5 0

/-- The one listed variable. -/
def laid1 : List (String × DataW Unit) := [("errors.errorType", Rows.laid_errors_errorType)]
theorem errT_of_laid1 {W : World} (h : laidMetH Tryd.prog laid1 W) : ErrT W := by
  have h' : laidMet Tryd.prog [] W ∧ handlesMet Tryd.prog laid1 W := h
  exact errT_of_handles (List.mem_singleton.2 rfl) h'.2
end Go.Proofs.YtickiokdcbeefabDoor
