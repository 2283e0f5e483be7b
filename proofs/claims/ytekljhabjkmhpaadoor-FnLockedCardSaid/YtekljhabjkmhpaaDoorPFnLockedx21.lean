/- Several texts in one, in their order. -/
import Derived.Test.YtekljhabjkmhpaaDoorPFnLockedx9
import Derived.Test.YtekljhabjkmhpaaDoorPFnLockedx16
import Derived.Test.YtekljhabjkmhpaaDoorPFnLockedx17
import Derived.Test.YtekljhabjkmhpaaDoorPFnLockedx20
import Derived.Test.YtekljhabjkmhpaaDoorPFnLockedx18
import Derived.Test.YtekljhabjkmhpaaDoorPFnLockedx19
import Derived.Test.YtekljhabjkmhpaaDoorPFnLockedx12
/- The walk of impl.Ask. -/
namespace Go.Proofs.YtekljhabjkmhpaaDoor
open Go.RowKit

set_option maxHeartbeats 8000000 in
set_option maxRecDepth 100000 in
theorem implAsk_any (l : LocksA) (g : GrantV) (w : World) (hTG : TabGo w) (hTB : TabBoth w) (hr : l.reads w) (hlen : l.given.length < 60 ∧ l.waits.length < 60) :
    Calls Tryd.prog 16 #[.agg #[.slice l.aG l.given.length l.cG, .slice l.aW l.waits.length l.cW], .int .i64 g.tx, .int .i64 g.res, .int .i64 g.mode] w fun e w' => AskEnd w (if refB l.given l.waits g = true then (l.given, l.waits, 2) else askI l.given l.waits g) e w' := by
  obtain ⟨AV, HAV⟩ : ∃ AV, Hid ((if refB l.given l.waits g = true then (l.given, l.waits, 2) else askI l.given l.waits g) = AV) := ⟨_, rfl⟩
  rw [HAV.out]
  obtain ⟨W, hW, b0, b1, hbW, hsW⟩ := boxes2 w [.slice l.aG l.given.length l.cG, .slice l.aW l.waits.length l.cW] [.slice none 0 0, .slice none 0 0] 30 30
  have hs0 := b0.lt
  have hs1 := b1.lt
  have hrW := hr.below hbW
  have hs2 : w.heap.size + 2 ≤ W.heap.size := Nat.le_of_eq hsW.symm
  have HX : Hid (Below w.heap.size w W) := hbW
  clear hsW hr
  go_enter Tryd.func16, Tryd.ntmps16
  go_wp2_with fail
  rw [hW.out]
  clear hW hbW
  refine (copyLocks_any l W hrW ⟨by omega, by omega⟩).mono ?_
  rintro e w1 ⟨a1, c1, a2, c2, rfl, ho1, hb1⟩
  have hL := lkAt_new ho1
  obtain ⟨W2, hW2, b2, hbW2, hsW2⟩ := boxes1 w1 [.slice a1 l.given.length c1, .slice a2 l.waits.length c2] 30
  simp only at hL
  have hL2 : LkAt W2 W.heap.size w1.heap.size ⟨l.given, l.waits, a1, c1, a2, c2⟩ := by rw [← hW2.out]; exact hL
  have D2 : Below W.heap.size W W2 := hb1.trans (hbW2.mono hb1.size)
  have hz1 := hb1.size
  have hz2 : w1.heap.size < W2.heap.size := b2.lt
  obtain ⟨W3, hW3, b3, hbW3, hsW3⟩ := boxes1 W2 [.int .i64 g.tx, .int .i64 g.res, .int .i64 g.mode] 37
  have hz3 : W2.heap.size < W3.heap.size := b3.lt
  have D3 : Below W.heap.size W W3 := D2.trans (hbW3.mono D2.size)
  have HL3 : Hid (∀ u, Below W3.heap.size W3 u → LkAt u W.heap.size w1.heap.size ⟨l.given, l.waits, a1, c1, a2, c2⟩) := fun u hu => (hL2.below hbW3).below hu
  have HBT : Hid (∀ u, Below W3.heap.size W3 u → Below W.heap.size W u) := fun u hu => D3.trans (hu.mono D3.size)
  have HBX : Hid (∀ u, Below W.heap.size W u → Box u w.heap.size [.slice l.aG l.given.length l.cG, .slice l.aW l.waits.length l.cW] 30 ∧ Box u (w.heap.size + 1) [.slice none 0 0, .slice none 0 0] 30) := fun u hu => ⟨b0.below hu hs0, b1.below hu hs1⟩
  have HB3 : Hid (∀ u, Below W3.heap.size W3 u → Box u W2.heap.size [.int .i64 g.tx, .int .i64 g.res, .int .i64 g.mode] 37) := fun u hu => b3.below hu b3.lt
  have HRD : Hid (∀ u, Below W.heap.size W u → l.reads u) := fun u hu => hrW.below hu
  have FIN : Hid (∀ (u : World) (l' : LocksA) (z : Int), Below W.heap.size W u → LkAt u W.heap.size w1.heap.size l' → Hid (l'.given = AV.1 ∧ l'.waits = AV.2.1 ∧ z = AV.2.2) → AskEnd w AV (.returned (.tuple #[.agg #[.slice l'.aG l'.given.length l'.cG, .slice l'.aW l'.waits.length l'.cW], .int .i64 z])) ((u.setCell ⟨w.heap.size + 1, 0, none⟩ (.slice l'.aG l'.given.length l'.cG)).setCell ⟨w.heap.size + 1, 1, none⟩ (.slice l'.aW l'.waits.length l'.cW)) ∧ Box ((u.setCell ⟨w.heap.size + 1, 0, none⟩ (.slice l'.aG l'.given.length l'.cG)).setCell ⟨w.heap.size + 1, 1, none⟩ (.slice l'.aW l'.waits.length l'.cW)) (w.heap.size + 1) [.slice l'.aG l'.given.length l'.cG, .slice l'.aW l'.waits.length l'.cW] 30) := fun u l' z hu hl' hh => by
    have hsu := hu.size
    have hwF : Within (w.heap.size + 1) (w.heap.size + 2) u _ := (within_set u (w.heap.size + 1) 0 (.slice l'.aG l'.given.length l'.cG) (by omega)).trans (within_set _ (w.heap.size + 1) 1 (.slice l'.aW l'.waits.length l'.cW) (by omega))
    have bF := ((HBX.out u hu).2.set 0 (.slice l'.aG l'.given.length l'.cG)).set 1 (.slice l'.aW l'.waits.length l'.cW)
    simp only [List.set] at bF
    have Du : Below w.heap.size w u := HX.out.trans (hu.mono HX.out.size)
    obtain ⟨h1, h2, rfl⟩ := hh.out
    exact ⟨⟨l', rfl, h1, h2, (hl'.own.within hwF (.inr (by omega))).widen (by omega) hwF.size (Nat.le_refl _), Du.trans (hwF.below (by omega) (by have := Du.size; omega))⟩, bF⟩
  have N3 : Below W3.heap.size W3 W3 := Below.refl _ _
  have C := implLocksOk_any l W3 (hTG.keep (HX.out.trans (D3.mono HX.out.size))) (HRD.out _ D3) ⟨by omega, by omega⟩
  have x0 := (HBX.out _ D3).1.cell 0 _ rfl
  have x1 := (HBX.out _ D3).1.cell 1 _ rfl
  have HTG : Hid (∀ u, Below W.heap.size W u → TabGo u ∧ TabBoth u) := fun u hu => ⟨hTG.keep (HX.out.trans (hu.mono HX.out.size)), hTB.keep (HX.out.trans (hu.mono HX.out.size))⟩
  have HV : Hid ((if (!okLocks l.given l.waits || !grantB g || l.waits.any (fun h => h.tx == g.tx)) = true then (l.given, l.waits, 2) else askI l.given l.waits g) = AV) := HAV.out
  clear hL ho1 hb1 hbW2 hsW2 b2 b0 b1 b3 hbW3 hsW3 hL2 HAV hTG hTB
  go_upto_region 2 with fail
  rw [hW2.out]
  clear hW2
  go_upto_region 3 with fail
  rw [hW3.out]
  clear hW3
  go_wp2_with fail
  refine C.mono ?_
  clear C x0 x1
  rintro e w3 ⟨rfl, hb3⟩
  have D3' : Below W.heap.size W w3 := HBT.out _ hb3
  generalize okLocks l.given l.waits = ok at *
  generalize hgb : grantB g = gb at *
  generalize hva : l.waits.any (fun h => h.tx == g.tx) = va at *
  cases ok with
  | false =>
    clear hgb hva
    have HA : Hid (l.given = AV.1 ∧ l.waits = AV.2.1 ∧ 2 = AV.2.2) := by rw [Hid, ← HV.out]; exact ⟨rfl, rfl, rfl⟩
    have D9 := HBT.out _ hb3
    obtain ⟨f0, bF⟩ := FIN.out w3 ⟨l.given, l.waits, a1, c1, a2, c2⟩ 2 D9 (HL3.out _ hb3) HA
    have bL := (HL3.out _ hb3).box
    simp only at bL f0 bF
    have y0 := bL.cell 0 _ rfl
    have y1 := bL.cell 1 _ rfl
    have bR := (HBX.out _ D9).2
    have z0 := bR.cell 0 _ rfl
    have z1 := bR.cell 1 _ rfl
    have g0 := bR.frozen 0
    have g1 := bR.frozen 1
    obtain ⟨WF, hWF⟩ : ∃ WF, Hid ((w3.setCell ⟨w.heap.size + 1, 0, none⟩ (.slice a1 l.given.length c1)).setCell ⟨w.heap.size + 1, 1, none⟩ (.slice a2 l.waits.length c2) = WF) := ⟨_, rfl⟩
    rw [hWF.out] at f0 bF
    have q0 := bF.cell 0 _ rfl
    have q1 := bF.cell 1 _ rfl
    have HF : Hid (_) := f0
    clear bL bR bF f0 HV HA
    go_wp2_with fail
    rw [hWF.out]
    refine bodyPost_ret (v := .tuple #[.agg #[.slice a1 l.given.length c1, .slice a2 l.waits.length c2], .int .i64 2]) (by simp [results, Tryd.results16, go_sem, q0, q1]) rfl HF.out
  | true =>
    have b4 := HB3.out _ hb3
    have x0 := b4.cell 0 _ rfl
    have x1 := b4.cell 1 _ rfl
    have x2 := b4.cell 2 _ rfl
    have C := grantOk_any g w3
    rw [hgb] at C
    clear b4 hgb
    go_wp2_with fail
    refine C.mono ?_
    clear C x0 x1 x2
    rintro e w4 ⟨rfl, hb4'⟩
    have hb4 : Below W3.heap.size W3 w4 := hb3.trans (hb4'.mono hb3.size)
    clear hb4' hb3 D3'
    cases gb with
    | false =>
      clear hva
      have HA : Hid (l.given = AV.1 ∧ l.waits = AV.2.1 ∧ 2 = AV.2.2) := by rw [Hid, ← HV.out]; exact ⟨rfl, rfl, rfl⟩
      have D9 := HBT.out _ hb4
      obtain ⟨f0, bF⟩ := FIN.out w4 ⟨l.given, l.waits, a1, c1, a2, c2⟩ 2 D9 (HL3.out _ hb4) HA
      have bL := (HL3.out _ hb4).box
      simp only at bL f0 bF
      have y0 := bL.cell 0 _ rfl
      have y1 := bL.cell 1 _ rfl
      have bR := (HBX.out _ D9).2
      have z0 := bR.cell 0 _ rfl
      have z1 := bR.cell 1 _ rfl
      have g0 := bR.frozen 0
      have g1 := bR.frozen 1
      obtain ⟨WF, hWF⟩ : ∃ WF, Hid ((w4.setCell ⟨w.heap.size + 1, 0, none⟩ (.slice a1 l.given.length c1)).setCell ⟨w.heap.size + 1, 1, none⟩ (.slice a2 l.waits.length c2) = WF) := ⟨_, rfl⟩
      rw [hWF.out] at f0 bF
      have q0 := bF.cell 0 _ rfl
      have q1 := bF.cell 1 _ rfl
      have HF : Hid (_) := f0
      clear bL bR bF f0 HV HA
      go_wp2_with fail
      rw [hWF.out]
      refine bodyPost_ret (v := .tuple #[.agg #[.slice a1 l.given.length c1, .slice a2 l.waits.length c2], .int .i64 2]) (by simp [results, Tryd.results16, go_sem, q0, q1]) rfl HF.out
    | true =>
      have D4 := HBT.out _ hb4
      have x0 := (HBX.out _ D4).1.cell 0 _ rfl
      have x1 := (HBX.out _ D4).1.cell 1 _ rfl
      have C := isAmong_any l.aW l.cW l.waits g.tx w4 (HRD.out _ D4).waits (by omega)
      rw [hva] at C
      clear hva D4
      go_wp2_with fail
      refine C.mono ?_
      clear C x0 x1
      rintro e w5 ⟨rfl, hb5'⟩
      have hb5 : Below W3.heap.size W3 w5 := hb4.trans (hb5'.mono hb4.size)
      clear hb5' hb4
      cases va with
      | true =>
        have HA : Hid (l.given = AV.1 ∧ l.waits = AV.2.1 ∧ 2 = AV.2.2) := by rw [Hid, ← HV.out]; exact ⟨rfl, rfl, rfl⟩
        have D9 := HBT.out _ hb5
        obtain ⟨f0, bF⟩ := FIN.out w5 ⟨l.given, l.waits, a1, c1, a2, c2⟩ 2 D9 (HL3.out _ hb5) HA
        have bL := (HL3.out _ hb5).box
        simp only at bL f0 bF
        have y0 := bL.cell 0 _ rfl
        have y1 := bL.cell 1 _ rfl
        have bR := (HBX.out _ D9).2
        have z0 := bR.cell 0 _ rfl
        have z1 := bR.cell 1 _ rfl
        have g0 := bR.frozen 0
        have g1 := bR.frozen 1
        obtain ⟨WF, hWF⟩ : ∃ WF, Hid ((w5.setCell ⟨w.heap.size + 1, 0, none⟩ (.slice a1 l.given.length c1)).setCell ⟨w.heap.size + 1, 1, none⟩ (.slice a2 l.waits.length c2) = WF) := ⟨_, rfl⟩
        rw [hWF.out] at f0 bF
        have q0 := bF.cell 0 _ rfl
        have q1 := bF.cell 1 _ rfl
        have HF : Hid (_) := f0
        clear bL bR bF f0 HV HA
        go_wp2_with fail
        rw [hWF.out]
        refine bodyPost_ret (v := .tuple #[.agg #[.slice a1 l.given.length c1, .slice a2 l.waits.length c2], .int .i64 2]) (by simp [results, Tryd.results16, go_sem, q0, q1]) rfl HF.out
      | false =>
        have HA : Hid (askI l.given l.waits g = AV) := by rw [Hid, ← HV.out]; rfl
        have b4 := HB3.out _ hb5
        have x0 := b4.cell 0 _ rfl
        have x1 := b4.cell 1 _ rfl
        have x2 := b4.cell 2 _ rfl
        have L5 := HL3.out _ hb5
        have D5 := HBT.out _ hb5
        have C := implAsk1_any W.heap.size w1.heap.size ⟨l.given, l.waits, a1, c1, a2, c2⟩ g w5 (HTG.out _ D5).1 (HTG.out _ D5).2 L5 (by have := D5.size; omega) ⟨by simp only; omega, by simp only; omega⟩
        simp only [HA.out] at C
        clear HA HV b4
        go_wp2_with fail
        refine C.mono ?_
        clear C x0 x1 x2
        rintro e w6 ⟨l', rfl, h1, h2, hst⟩
        have HA : Hid (l'.given = AV.1 ∧ l'.waits = AV.2.1 ∧ AV.2.2 = AV.2.2) := ⟨h1, h2, rfl⟩
        clear h1 h2
        have D6 : Below W.heap.size W w6 := D5.trans ((hst.low L5 (by omega) (Nat.le_refl _)).mono (Nat.le_refl _))
        obtain ⟨f0, bF⟩ := FIN.out w6 l' AV.2.2 D6 hst.now HA
        have bL := hst.now.box
        have y0 := bL.cell 0 _ rfl
        have y1 := bL.cell 1 _ rfl
        have bR := (HBX.out _ D6).2
        have z0 := bR.cell 0 _ rfl
        have z1 := bR.cell 1 _ rfl
        have g0 := bR.frozen 0
        have g1 := bR.frozen 1
        obtain ⟨WF, hWF⟩ : ∃ WF, Hid ((w6.setCell ⟨w.heap.size + 1, 0, none⟩ (.slice l'.aG l'.given.length l'.cG)).setCell ⟨w.heap.size + 1, 1, none⟩ (.slice l'.aW l'.waits.length l'.cW) = WF) := ⟨_, rfl⟩
        rw [hWF.out] at f0 bF
        have q0 := bF.cell 0 _ rfl
        have q1 := bF.cell 1 _ rfl
        have HF : Hid (_) := f0
        clear bL bR bF f0 HA hst L5 D5 D6
        go_wp2_with fail
        rw [hWF.out]
        refine bodyPost_ret (v := .tuple #[.agg #[.slice l'.aG l'.given.length l'.cG, .slice l'.aW l'.waits.length l'.cW], .int .i64 AV.2.2]) (by simp [results, Tryd.results16, go_sem, q0, q1]) rfl HF.out
end Go.Proofs.YtekljhabjkmhpaaDoor

/- The walk of spec.Ask. -/
namespace Go.Proofs.YtekljhabjkmhpaaDoor
open Go.RowKit

set_option maxHeartbeats 8000000 in
set_option maxRecDepth 100000 in
theorem specAsk_any (l : LocksA) (g : GrantV) (w : World) (hr : l.reads w) (hlen : l.given.length < 60 ∧ l.waits.length < 60) :
    Calls Tryd.prog 17 #[.agg #[.slice l.aG l.given.length l.cG, .slice l.aW l.waits.length l.cW], .int .i64 g.tx, .int .i64 g.res, .int .i64 g.mode] w fun e w' => AskEnd w (if refB l.given l.waits g = true then (l.given, l.waits, 2) else askV l.given l.waits g) e w' := by
  obtain ⟨AV, HAV⟩ : ∃ AV, Hid ((if refB l.given l.waits g = true then (l.given, l.waits, 2) else askV l.given l.waits g) = AV) := ⟨_, rfl⟩
  rw [HAV.out]
  obtain ⟨W, hW, b0, b1, hbW, hsW⟩ := boxes2 w [.slice l.aG l.given.length l.cG, .slice l.aW l.waits.length l.cW] [.slice none 0 0, .slice none 0 0] 30 30
  have hs0 := b0.lt
  have hs1 := b1.lt
  have hrW := hr.below hbW
  have hs2 : w.heap.size + 2 ≤ W.heap.size := Nat.le_of_eq hsW.symm
  have HX : Hid (Below w.heap.size w W) := hbW
  clear hsW hr
  go_enter Tryd.func17, Tryd.ntmps17
  go_wp2_with fail
  rw [hW.out]
  clear hW hbW
  refine (l9Copy_any l W hrW ⟨by omega, by omega⟩).mono ?_
  rintro e w1 ⟨a1, c1, a2, c2, rfl, ho1, hb1⟩
  have hL := lkAt_new ho1
  obtain ⟨W2, hW2, b2, hbW2, hsW2⟩ := boxes1 w1 [.slice a1 l.given.length c1, .slice a2 l.waits.length c2] 30
  simp only at hL
  have hL2 : LkAt W2 W.heap.size w1.heap.size ⟨l.given, l.waits, a1, c1, a2, c2⟩ := by rw [← hW2.out]; exact hL
  have D2 : Below W.heap.size W W2 := hb1.trans (hbW2.mono hb1.size)
  have hz1 := hb1.size
  have hz2 : w1.heap.size < W2.heap.size := b2.lt
  obtain ⟨W3, hW3, b3, hbW3, hsW3⟩ := boxes1 W2 [.int .i64 g.tx, .int .i64 g.res, .int .i64 g.mode] 37
  have hz3 : W2.heap.size < W3.heap.size := b3.lt
  have D3 : Below W.heap.size W W3 := D2.trans (hbW3.mono D2.size)
  have HL3 : Hid (∀ u, Below W3.heap.size W3 u → LkAt u W.heap.size w1.heap.size ⟨l.given, l.waits, a1, c1, a2, c2⟩) := fun u hu => (hL2.below hbW3).below hu
  have HBT : Hid (∀ u, Below W3.heap.size W3 u → Below W.heap.size W u) := fun u hu => D3.trans (hu.mono D3.size)
  have HBX : Hid (∀ u, Below W.heap.size W u → Box u w.heap.size [.slice l.aG l.given.length l.cG, .slice l.aW l.waits.length l.cW] 30 ∧ Box u (w.heap.size + 1) [.slice none 0 0, .slice none 0 0] 30) := fun u hu => ⟨b0.below hu hs0, b1.below hu hs1⟩
  have HB3 : Hid (∀ u, Below W3.heap.size W3 u → Box u W2.heap.size [.int .i64 g.tx, .int .i64 g.res, .int .i64 g.mode] 37) := fun u hu => b3.below hu b3.lt
  have HRD : Hid (∀ u, Below W.heap.size W u → l.reads u) := fun u hu => hrW.below hu
  have FIN : Hid (∀ (u : World) (l' : LocksA) (z : Int), Below W.heap.size W u → LkAt u W.heap.size w1.heap.size l' → Hid (l'.given = AV.1 ∧ l'.waits = AV.2.1 ∧ z = AV.2.2) → AskEnd w AV (.returned (.tuple #[.agg #[.slice l'.aG l'.given.length l'.cG, .slice l'.aW l'.waits.length l'.cW], .int .i64 z])) ((u.setCell ⟨w.heap.size + 1, 0, none⟩ (.slice l'.aG l'.given.length l'.cG)).setCell ⟨w.heap.size + 1, 1, none⟩ (.slice l'.aW l'.waits.length l'.cW)) ∧ Box ((u.setCell ⟨w.heap.size + 1, 0, none⟩ (.slice l'.aG l'.given.length l'.cG)).setCell ⟨w.heap.size + 1, 1, none⟩ (.slice l'.aW l'.waits.length l'.cW)) (w.heap.size + 1) [.slice l'.aG l'.given.length l'.cG, .slice l'.aW l'.waits.length l'.cW] 30) := fun u l' z hu hl' hh => by
    have hsu := hu.size
    have hwF : Within (w.heap.size + 1) (w.heap.size + 2) u _ := (within_set u (w.heap.size + 1) 0 (.slice l'.aG l'.given.length l'.cG) (by omega)).trans (within_set _ (w.heap.size + 1) 1 (.slice l'.aW l'.waits.length l'.cW) (by omega))
    have bF := ((HBX.out u hu).2.set 0 (.slice l'.aG l'.given.length l'.cG)).set 1 (.slice l'.aW l'.waits.length l'.cW)
    simp only [List.set] at bF
    have Du : Below w.heap.size w u := HX.out.trans (hu.mono HX.out.size)
    obtain ⟨h1, h2, rfl⟩ := hh.out
    exact ⟨⟨l', rfl, h1, h2, (hl'.own.within hwF (.inr (by omega))).widen (by omega) hwF.size (Nat.le_refl _), Du.trans (hwF.below (by omega) (by have := Du.size; omega))⟩, bF⟩
  have N3 : Below W3.heap.size W3 W3 := Below.refl _ _
  have C := specLocksOk_any l W3 (HRD.out _ D3) ⟨by omega, by omega⟩
  have x0 := (HBX.out _ D3).1.cell 0 _ rfl
  have x1 := (HBX.out _ D3).1.cell 1 _ rfl
  have hG6 : ((l.given.length : Int) == 60) = false := beq_eq_false_iff_ne.2 (by omega)
  have hW6 : ((l.waits.length : Int) == 60) = false := beq_eq_false_iff_ne.2 (by omega)
  have HV : Hid ((if (!okLocks l.given l.waits || !grantB g || l.waits.any (fun h => h.tx == g.tx)) = true then (l.given, l.waits, 2) else askV l.given l.waits g) = AV) := HAV.out
  clear hL ho1 hb1 hbW2 hsW2 b2 b0 b1 b3 hbW3 hsW3 hL2 HAV
  go_upto_region 2 with fail
  rw [hW2.out]
  clear hW2
  go_upto_region 3 with fail
  rw [hW3.out]
  clear hW3
  go_wp2_with fail
  refine C.mono ?_
  clear C x0 x1
  rintro e w3 ⟨rfl, hb3⟩
  have D3' : Below W.heap.size W w3 := HBT.out _ hb3
  generalize okLocks l.given l.waits = ok at *
  generalize hgb : grantB g = gb at *
  generalize hva : l.waits.any (fun h => h.tx == g.tx) = va at *
  cases ok with
  | false =>
    clear hgb hva
    have HA : Hid (l.given = AV.1 ∧ l.waits = AV.2.1 ∧ 2 = AV.2.2) := by rw [Hid, ← HV.out]; exact ⟨rfl, rfl, rfl⟩
    have D9 := HBT.out _ hb3
    obtain ⟨f0, bF⟩ := FIN.out w3 ⟨l.given, l.waits, a1, c1, a2, c2⟩ 2 D9 (HL3.out _ hb3) HA
    have bL := (HL3.out _ hb3).box
    simp only at bL f0 bF
    have y0 := bL.cell 0 _ rfl
    have y1 := bL.cell 1 _ rfl
    have bR := (HBX.out _ D9).2
    have z0 := bR.cell 0 _ rfl
    have z1 := bR.cell 1 _ rfl
    have g0 := bR.frozen 0
    have g1 := bR.frozen 1
    obtain ⟨WF, hWF⟩ : ∃ WF, Hid ((w3.setCell ⟨w.heap.size + 1, 0, none⟩ (.slice a1 l.given.length c1)).setCell ⟨w.heap.size + 1, 1, none⟩ (.slice a2 l.waits.length c2) = WF) := ⟨_, rfl⟩
    rw [hWF.out] at f0 bF
    have q0 := bF.cell 0 _ rfl
    have q1 := bF.cell 1 _ rfl
    have HF : Hid (_) := f0
    clear bL bR bF f0 HV HA
    go_wp2_with fail
    rw [hWF.out]
    refine bodyPost_ret (v := .tuple #[.agg #[.slice a1 l.given.length c1, .slice a2 l.waits.length c2], .int .i64 2]) (by simp [results, Tryd.results17, go_sem, q0, q1]) rfl HF.out
  | true =>
    have b4 := HB3.out _ hb3
    have x0 := b4.cell 0 _ rfl
    have x1 := b4.cell 1 _ rfl
    have x2 := b4.cell 2 _ rfl
    have C := l9Grant_any g w3
    rw [hgb] at C
    clear b4 hgb
    go_wp2_with fail
    refine C.mono ?_
    clear C x0 x1 x2
    rintro e w4 ⟨rfl, hb4'⟩
    have hb4 : Below W3.heap.size W3 w4 := hb3.trans (hb4'.mono hb3.size)
    clear hb4' hb3 D3'
    cases gb with
    | false =>
      clear hva
      have HA : Hid (l.given = AV.1 ∧ l.waits = AV.2.1 ∧ 2 = AV.2.2) := by rw [Hid, ← HV.out]; exact ⟨rfl, rfl, rfl⟩
      have D9 := HBT.out _ hb4
      obtain ⟨f0, bF⟩ := FIN.out w4 ⟨l.given, l.waits, a1, c1, a2, c2⟩ 2 D9 (HL3.out _ hb4) HA
      have bL := (HL3.out _ hb4).box
      simp only at bL f0 bF
      have y0 := bL.cell 0 _ rfl
      have y1 := bL.cell 1 _ rfl
      have bR := (HBX.out _ D9).2
      have z0 := bR.cell 0 _ rfl
      have z1 := bR.cell 1 _ rfl
      have g0 := bR.frozen 0
      have g1 := bR.frozen 1
      obtain ⟨WF, hWF⟩ : ∃ WF, Hid ((w4.setCell ⟨w.heap.size + 1, 0, none⟩ (.slice a1 l.given.length c1)).setCell ⟨w.heap.size + 1, 1, none⟩ (.slice a2 l.waits.length c2) = WF) := ⟨_, rfl⟩
      rw [hWF.out] at f0 bF
      have q0 := bF.cell 0 _ rfl
      have q1 := bF.cell 1 _ rfl
      have HF : Hid (_) := f0
      clear bL bR bF f0 HV HA
      go_wp2_with fail
      rw [hWF.out]
      refine bodyPost_ret (v := .tuple #[.agg #[.slice a1 l.given.length c1, .slice a2 l.waits.length c2], .int .i64 2]) (by simp [results, Tryd.results17, go_sem, q0, q1]) rfl HF.out
    | true =>
      have D4 := HBT.out _ hb4
      have x0 := (HBX.out _ D4).1.cell 0 _ rfl
      have x1 := (HBX.out _ D4).1.cell 1 _ rfl
      have C := l9Waits_any l.waits (.slice l.aG l.given.length l.cG) l.aW l.cW g.tx w4 (HRD.out _ D4).waits (by omega)
      rw [hva] at C
      clear hva D4
      go_wp2_with fail
      refine C.mono ?_
      clear C x0 x1
      rintro e w5 ⟨rfl, hb5'⟩
      have hb5 : Below W3.heap.size W3 w5 := hb4.trans (hb5'.mono hb4.size)
      clear hb5' hb4
      cases va with
      | true =>
        have HA : Hid (l.given = AV.1 ∧ l.waits = AV.2.1 ∧ 2 = AV.2.2) := by rw [Hid, ← HV.out]; exact ⟨rfl, rfl, rfl⟩
        have D9 := HBT.out _ hb5
        obtain ⟨f0, bF⟩ := FIN.out w5 ⟨l.given, l.waits, a1, c1, a2, c2⟩ 2 D9 (HL3.out _ hb5) HA
        have bL := (HL3.out _ hb5).box
        simp only at bL f0 bF
        have y0 := bL.cell 0 _ rfl
        have y1 := bL.cell 1 _ rfl
        have bR := (HBX.out _ D9).2
        have z0 := bR.cell 0 _ rfl
        have z1 := bR.cell 1 _ rfl
        have g0 := bR.frozen 0
        have g1 := bR.frozen 1
        obtain ⟨WF, hWF⟩ : ∃ WF, Hid ((w5.setCell ⟨w.heap.size + 1, 0, none⟩ (.slice a1 l.given.length c1)).setCell ⟨w.heap.size + 1, 1, none⟩ (.slice a2 l.waits.length c2) = WF) := ⟨_, rfl⟩
        rw [hWF.out] at f0 bF
        have q0 := bF.cell 0 _ rfl
        have q1 := bF.cell 1 _ rfl
        have HF : Hid (_) := f0
        clear bL bR bF f0 HV HA
        go_wp2_with fail
        rw [hWF.out]
        refine bodyPost_ret (v := .tuple #[.agg #[.slice a1 l.given.length c1, .slice a2 l.waits.length c2], .int .i64 2]) (by simp [results, Tryd.results17, go_sem, q0, q1]) rfl HF.out
      | false =>
        have D5 := HBT.out _ hb5
        have u0 := (HBX.out _ D5).1.cell 0 _ rfl
        have u1 := (HBX.out _ D5).1.cell 1 _ rfl
        clear D5
        have HA : Hid (askV l.given l.waits g = AV) := by rw [Hid, ← HV.out]; rfl
        have b4 := HB3.out _ hb5
        have x0 := b4.cell 0 _ rfl
        have x1 := b4.cell 1 _ rfl
        have x2 := b4.cell 2 _ rfl
        have L5 := HL3.out _ hb5
        have D5 := HBT.out _ hb5
        have C := l9Ask_any W.heap.size w1.heap.size ⟨l.given, l.waits, a1, c1, a2, c2⟩ g w5 L5 (by have := D5.size; omega) ⟨by simp only; omega, by simp only; omega⟩
        simp only [HA.out] at C
        clear HA HV b4
        go_wp2_with fail
        refine C.mono ?_
        clear C x0 x1 x2 u0 u1
        rintro e w6 ⟨l', rfl, h1, hst⟩
        have HA : Hid (l'.given = AV.1 ∧ l'.waits = AV.2.1 ∧ AV.2.2 = AV.2.2) := ⟨h1.out.1, h1.out.2, rfl⟩
        clear h1
        have D6 : Below W.heap.size W w6 := D5.trans ((hst.low L5 (by omega) (Nat.le_refl _)).mono (Nat.le_refl _))
        obtain ⟨f0, bF⟩ := FIN.out w6 l' AV.2.2 D6 hst.now HA
        have bL := hst.now.box
        have y0 := bL.cell 0 _ rfl
        have y1 := bL.cell 1 _ rfl
        have bR := (HBX.out _ D6).2
        have z0 := bR.cell 0 _ rfl
        have z1 := bR.cell 1 _ rfl
        have g0 := bR.frozen 0
        have g1 := bR.frozen 1
        obtain ⟨WF, hWF⟩ : ∃ WF, Hid ((w6.setCell ⟨w.heap.size + 1, 0, none⟩ (.slice l'.aG l'.given.length l'.cG)).setCell ⟨w.heap.size + 1, 1, none⟩ (.slice l'.aW l'.waits.length l'.cW) = WF) := ⟨_, rfl⟩
        rw [hWF.out] at f0 bF
        have q0 := bF.cell 0 _ rfl
        have q1 := bF.cell 1 _ rfl
        have HF : Hid (_) := f0
        clear bL bR bF f0 HA hst L5 D5 D6
        go_wp2_with fail
        rw [hWF.out]
        refine bodyPost_ret (v := .tuple #[.agg #[.slice l'.aG l'.given.length l'.cG, .slice l'.aW l'.waits.length l'.cW], .int .i64 AV.2.2]) (by simp [results, Tryd.results17, go_sem, q0, q1]) rfl HF.out
end Go.Proofs.YtekljhabjkmhpaaDoor

/- The program's ask and the document's make the same of right locks, and what an ask that is granted leaves. -/
namespace Go.Proofs.YtekljhabjkmhpaaDoor

theorem modeB_pos {m : Int} (h : modeB m = true) : 0 < m := by
  simp only [modeB, inB, decide_eq_true_eq] at h; omega
theorem ask_same {G V : List GrantV} (h : GoodG G) {g : GrantV} (hg : grantB g = true) : askI G V g = askV G V g := by
  have hm := (grantB_out hg).2.2
  have e1 : decide (0 ≤ placeZ (atB g.tx g.res) G) = (hasZ G g.tx g.res != 0) := by
    unfold hasZ
    by_cases hp : 0 ≤ placeZ (atB g.tx g.res) G
    · obtain ⟨k, hk, e⟩ := placeZ_lt hp
      have hpos := modeB_pos (h.modes _ (mem_getD hk zeroG))
      rw [if_pos hp, e, Int.toNat_natCast, decide_eq_true (by omega)]
      exact (bne_iff_ne.2 (by omega)).symm
    · rw [if_neg hp, decide_eq_false hp]; rfl
  have e2 : ((decide (0 ≤ placeZ (atB g.tx g.res) G) && ((G.getD (placeZ (atB g.tx g.res) G).toNat zeroG).mode == wouldZ G g)) = true) ↔ wouldZ G g = hasZ G g.tx g.res := by
    rw [Bool.and_eq_true, decide_eq_true_eq, beq_iff_eq]
    unfold hasZ
    by_cases hp : 0 ≤ placeZ (atB g.tx g.res) G
    · rw [if_pos hp]
      exact ⟨fun q => q.2.symm, fun q => ⟨hp, q.symm⟩⟩
    · rw [if_neg hp]
      refine ⟨fun q => absurd q.1 hp, fun q => ?_⟩
      have hw : wouldZ G g = g.mode := by unfold wouldZ; rw [if_neg hp]
      have hpos := modeB_pos hm
      omega
  unfold askI askV
  rw [would_same h.modes]
  by_cases hc : wouldZ G g = hasZ G g.tx g.res
  · rw [if_pos (e2.2 hc), if_pos hc]
  · rw [if_neg (fun q => hc (e2.1 q)), if_neg hc, e1]
/-- A mode that holds all that g asks. -/
def HoldsB (g : GrantV) (m : Int) : Prop := modeB m = true ∧ bothZ m g.mode = m
theorem both_self {a : Int} (h : modeB a = true) : bothZ a a = a := by
  simp only [modeB, inB, decide_eq_true_eq] at h
  have : a = 1 ∨ a = 2 ∨ a = 3 ∨ a = 4 := by omega
  rcases this with rfl | rfl | rfl | rfl <;> decide
theorem holds_would {G : List GrantV} (h : GoodG G) {g : GrantV} (hg : grantB g = true) : HoldsB g (wouldZ G g) := by
  refine ⟨would_mode h hg, ?_⟩
  have hm := (grantB_out hg).2.2
  unfold wouldZ
  split
  · rename_i h0
    obtain ⟨k, hk, e⟩ := placeZ_lt h0
    rw [e, Int.toNat_natCast]
    exact (both_same hm (h.modes _ (mem_getD hk zeroG))).1
  · exact both_self hm
/-- What an ask that is granted leaves: the one at the place holds it. -/
theorem ask_left {G V : List GrantV} (h : GoodG G) {g : GrantV} (hg : grantB g = true) (h0 : (askV G V g).2.2 = 0) : (askV G V g).2.1 = V ∧ ∃ k : Nat, k < (askV G V g).1.length ∧ placeZ (atB g.tx g.res) (askV G V g).1 = k ∧ HoldsB g ((askV G V g).1.getD k zeroG).mode := by
  have hm := (grantB_out hg).2.2
  have hh := holds_would h hg
  revert h0
  unfold askV
  rw [would_same h.modes]
  split
  · rename_i e
    intro _
    refine ⟨rfl, ?_⟩
    have hp : 0 ≤ placeZ (atB g.tx g.res) G := by
      refine Decidable.byContradiction (fun hp => ?_)
      have hz : hasZ G g.tx g.res = 0 := by unfold hasZ; rw [if_neg hp]
      have := modeB_pos hh.1
      rw [e, hz] at this
      omega
    obtain ⟨k, hk, e2⟩ := placeZ_lt hp
    have hz : hasZ G g.tx g.res = (G.getD k zeroG).mode := by unfold hasZ; rw [if_pos hp, e2, Int.toNat_natCast]
    exact ⟨k, hk, e2, by rw [← hz, ← e]; exact hh⟩
  · split
    · intro _
      refine ⟨rfl, ?_⟩
      simp only
      unfold giveV
      split
      · rename_i hp
        obtain ⟨k, hk, e2⟩ := placeZ_lt hp
        obtain ⟨_, hat, hno⟩ := placeZ_at e2 zeroG
        rw [e2, Int.toNat_natCast]
        refine ⟨k, by simpa using hk, ?_, by simpa [List.getD, hk] using hh⟩
        refine placeZ_hit (z := zeroG) (by simpa using hk) (by rw [List.take_set_of_le (Nat.le_refl _)]; exact hno) ?_
        simp [List.getD, hk, atB]
      · rename_i hp
        have hno : G.any (atB g.tx g.res) = false := by
          cases hc : G.any (atB g.tx g.res) with
          | false => rfl
          | true => exact absurd ((placeZ_neg _ _).2 hc) hp
        refine ⟨G.length, by simp, ?_, by simpa [List.getD] using hh⟩
        refine placeZ_hit (z := zeroG) (by simp) (by simpa using hno) ?_
        simp [List.getD, atB]
    · intro h; simp at h
theorem ask_two (G V : List GrantV) (g : GrantV) : (askV G V g).2.2 = 0 ∨ ((askV G V g).2.2 = 1 ∧ (askV G V g).2.1 = V ++ [g]) := by
  unfold askV
  split
  · exact .inl rfl
  · split
    · exact .inl rfl
    · exact .inr ⟨rfl, rfl⟩
/-- One alone stands at a place. -/
theorem good_one {G : List GrantV} (h : GoodG G) {tx res : Int} {i j : Nat} (hi : i < G.length) (hj : j < G.length) (ai : atB tx res (G.getD i zeroG) = true) (aj : atB tx res (G.getD j zeroG) = true) : i = j := by
  have hp := List.pairwise_iff_getElem.1 h.pair
  rw [getD_get G i hi] at ai
  rw [getD_get G j hj] at aj
  simp only [atB, Bool.and_eq_true, beq_iff_eq] at ai aj
  rcases Nat.lt_trichotomy i j with hlt | e | hlt
  · have := hp i j hi hj hlt
    simp [clashB, ai, aj] at this
  · exact e
  · have := hp j i hj hi hlt
    simp [clashB, ai, aj] at this
theorem ask_again {G' V : List GrantV} {g : GrantV} {k : Nat} (hp : placeZ (atB g.tx g.res) G' = k) (hh : HoldsB g (G'.getD k zeroG).mode) : (askI G' V g).2.2 = 0 := by
  have h0 : 0 ≤ placeZ (atB g.tx g.res) G' := by omega
  have hw : wouldZ G' g = (G'.getD k zeroG).mode := by
    unfold wouldZ
    rw [if_pos h0, hp, Int.toNat_natCast, bothZ_symm]
    exact hh.2
  unfold askI
  rw [hw, hp, Int.toNat_natCast, if_pos (by simp)]
/-- The last one at a place. -/
def lastZ (tx res : Int) (ls : List GrantV) : Int := ls.foldl (fun a g => if atB tx res g then g.mode else a) 0
theorem lastZ_snoc (tx res : Int) (ls : List GrantV) (g : GrantV) : lastZ tx res (ls ++ [g]) = if atB tx res g then g.mode else lastZ tx res ls := by simp [lastZ]
theorem lastZ_at {G : List GrantV} (h : GoodG G) {tx res : Int} {k : Nat} (hk : k < G.length) (ha : atB tx res (G.getD k zeroG) = true) : lastZ tx res G = (G.getD k zeroG).mode := by
  have key : ∀ n, n ≤ G.length → lastZ tx res (G.take n) = if k < n then (G.getD k zeroG).mode else 0 := by
    intro n
    induction n with
    | zero => intro _; simp [lastZ]
    | succ n ih =>
      intro hn
      have hn' : n < G.length := by omega
      rw [List.take_add_one, List.getElem?_eq_getElem hn', Option.toList_some, lastZ_snoc, ih (by omega)]
      by_cases hkn : k = n
      · subst hkn
        rw [getD_get G k hk] at ha ⊢
        rw [if_pos ha, if_pos (by omega)]
      · have hna : ¬ atB tx res G[n] = true := fun e => hkn (good_one h hk hn' ha (by rw [getD_get G n hn']; exact e))
        rw [if_neg hna]
        by_cases hlt : k < n
        · rw [if_pos hlt, if_pos (by omega)]
        · rw [if_neg hlt, if_neg (by omega)]
  have := key G.length (Nat.le_refl _)
  rw [List.take_length, if_pos hk] at this
  exact this
end Go.Proofs.YtekljhabjkmhpaaDoor

/- The walk of spec.l9DrawAny. -/
namespace Go.Proofs.YtekljhabjkmhpaaDoor
open Go.RowKit

/-- Locks in a box, a cursor below them. -/
structure DrI (w u : World) (C : Nat) (zs : List Int) (lo B : Nat) (l : LocksA) : Prop where
  cur : CurAt u C zs
  lk : LkAt u lo B l
  res : Box u w.heap.size [.slice none 0 0, .slice none 0 0] 30
  grown : w.grownBy u (some C)
  top : lo ≤ u.heap.size
  ord : C < w.heap.size ∧ w.heap.size < lo ∧ lo ≤ B
theorem DrI.next {w u u' : World} {C : Nat} {zs : List Int} {lo B : Nat} {l : LocksA} (h : DrI w u C zs lo B l) (hc : CurAt u' C zs) (hg : u.grownBy u' (some C)) : DrI w u' C zs lo B l := by
  have ho := h.ord
  have ht := h.top
  have hs := hg.size
  exact ⟨hc, h.lk.cur hg (by omega) (by omega), h.res.cur hg (by omega), grownBy_trans h.grown hg, by omega, ho⟩
theorem DrI.below {w u u' : World} {C : Nat} {zs : List Int} {lo B : Nat} {l : LocksA} (h : DrI w u C zs lo B l) (hb : Below u.heap.size u u') : DrI w u' C zs lo B l :=
  ⟨h.cur.below hb, h.lk.below hb, h.res.below hb h.res.lt, grown_low h.grown (hb.mono h.grown.size), Nat.le_trans h.top hb.size, h.ord⟩
theorem DrI.step {w u u' : World} {C : Nat} {zs : List Int} {lo B : Nat} {l l' : LocksA} (h : DrI w u C zs lo B l) (hst : LkStep u u' lo B l l') : DrI w u' C zs lo B l' := by
  have ho := h.ord
  have hlow : Below w.heap.size u u' := hst.low h.lk (by omega) (by omega)
  exact ⟨h.cur.low hlow ho.1, hst.now, hst.box h.res (by omega) (fun hm => by have := (h.lk.own.lt hm).1; omega), grown_low h.grown hlow, Nat.le_trans h.top hst.size, ho⟩
def LkDrawnA (w w' : World) (C : Nat) (zs : List Int) (n : Nat) (r : Ending) : Prop := ∃ l : LocksA, r = .returned (.agg #[.slice l.aG l.given.length l.cG, .slice l.aW l.waits.length l.cW]) ∧ l.own w' w.heap.size w'.heap.size ∧ l.given.length + l.waits.length ≤ n + 1 ∧ CurAt w' C zs ∧ w.grownBy w' (some C)

set_option maxHeartbeats 8000000 in
set_option maxRecDepth 100000 in
theorem l9DrawAny_any (C : Nat) (zs : List Int) (n : Nat) (w : World) (hc : CurAt w C zs) (hl : zs.length ≤ 70368744177664) (hn : 0 < n ∧ n ≤ 30) :
    Calls Tryd.prog 34 #[.pointer (some ⟨C, 0, none⟩), .int .i64 n] w fun e w' => LkDrawnA w w' C zs n e := by
  have hCw := hc.lt
  obtain ⟨W, hW, b0, hbW, hsW⟩ := boxes1 w [.slice none 0 0, .slice none 0 0] 30
  have hcW := hc.below hbW
  have hs1 := b0.lt
  have hg0 : w.grownBy W (some C) := ⟨hbW.os, hbW.tape, hbW.output, hbW.size, fun k hk _ => hbW.block k hk⟩
  clear hsW hbW hc
  go_enter Tryd.func34, Tryd.ntmps34
  go_wp2_with fail
  rw [hW.out]
  clear hW
  refine (l9Draw_any C zs n W hcW hl hn).mono ?_
  rintro e w1 ⟨l, rfl, ho1, _, hlen, hc1, hg1⟩
  obtain ⟨W2, hW2, b2, hbW2, hsW2⟩ := boxes1 w1 [.slice l.aG l.given.length l.cG, .slice l.aW l.waits.length l.cW] 30
  have hL2 : LkAt W2 W.heap.size w1.heap.size l := by rw [← hW2.out]; exact lkAt_new ho1
  have I0 : DrI w W2 C zs W.heap.size w1.heap.size l := ⟨hc1.below hbW2, hL2, (b0.cur hg1 (by omega)).below hbW2 (b0.cur hg1 (by omega)).lt, grown_low (grownBy_trans hg0 hg1) (hbW2.mono (by have := hg1.size; omega)), by have := hg1.size; have := hbW2.size; omega, hCw, hs1, hg1.size⟩
  clear hsW2 hbW2 b2 hL2 ho1 hc1 hg1 hg0 hcW b0 hs1 hCw
  go_upto_region 2 with fail
  rw [hW2.out]
  clear hW2
  generalize W.heap.size = lo at *
  generalize w1.heap.size = B at *
  go_wp2_with fail
  refine (l1Below_any C zs 12 W2 I0.cur hl (by omega)).mono ?_
  rintro e w3 ⟨x, rfl, _, hc3, hg3⟩
  have I3 := I0.next hc3 hg3
  have hll : l.given.length + l.waits.length ≤ 30 := by omega
  clear I0 hc3 hg3
  by_cases hx0 : x = 0
  · subst hx0
    go_upto_region 4 with fail
    have I4 : DrI w w3.drew C zs lo B l := I3.below (Below.refl _ _).drew
    refine wp_region_late (· == 12) (S := fun u => u.cell? ⟨B, 0, none⟩ = some (.slice l.aG l.given.length l.cG)) (by kernel_rfl) (I4.lk.box.cell 0 _ rfl) (fun hHeld => ?_)
    generalize w3.drew = d0 at *
    clear I3
    refine wpAnyL_take (i := 0) (v := .pointer (some ⟨B, 0, none⟩)) rfl (by kernel_rfl) (fun _ _ _ h => h) (Or.inl ⟨by rfl, ?_⟩) hHeld ?_
    · intro w' hSw
      go_simp <;> rfl
    try simp only [Act.put, List.getElem_toArray, List.getElem_cons_zero, List.setIfInBounds_toArray, List.set_cons_zero, List.set_cons_succ]
    refine wpAnyL_take (i := 1) (v := .slice l.aG l.given.length l.cG) rfl (by kernel_rfl) (fun _ _ _ h => h) (Or.inl ⟨by rfl, ?_⟩) hHeld ?_
    · intro w' hSw
      have hx := hSw
      go_simp <;> rfl
    try simp only [Act.put, List.getElem_toArray, List.getElem_cons_zero, List.getElem_cons_succ, List.setIfInBounds_toArray, List.set_cons_zero, List.set_cons_succ]
    refine wpAnyL_take (i := 2) (v := .pointer (some ⟨C, 0, none⟩)) rfl (by kernel_rfl) (fun _ _ _ h => h) (Or.inl ⟨by rfl, ?_⟩) hHeld ?_
    · intro w' hSw
      go_simp <;> rfl
    try simp only [Act.put, List.getElem_toArray, List.getElem_cons_zero, List.getElem_cons_succ, List.setIfInBounds_toArray, List.set_cons_zero, List.set_cons_succ]
    refine wpAnyL_take (i := 4) (v := .pointer (some ⟨C, 0, none⟩)) rfl (by kernel_rfl) (fun _ _ _ h => h) (Or.inl ⟨by rfl, ?_⟩) hHeld ?_
    · intro w' hSw
      go_simp <;> rfl
    try simp only [Act.put, List.getElem_toArray, List.getElem_cons_zero, List.getElem_cons_succ, List.setIfInBounds_toArray, List.set_cons_zero, List.set_cons_succ]
    refine wpAnyL_take (i := 6) (v := .pointer (some ⟨C, 0, none⟩)) rfl (by kernel_rfl) (fun _ _ _ h => h) (Or.inl ⟨by rfl, ?_⟩) hHeld ?_
    · intro w' hSw
      go_simp <;> rfl
    try simp only [Act.put, List.getElem_toArray, List.getElem_cons_zero, List.getElem_cons_succ, List.setIfInBounds_toArray, List.set_cons_zero, List.set_cons_succ]
    refine wpAnyL_next 3 (by kernel_rfl) rfl (fun K hK => ?_)
    go_simp
    refine (l1Below_any C zs 4 d0 I4.cur hl (by omega)).mono ?_
    rintro r d1 ⟨t1, rfl, ht1, hcd1, hgd1⟩
    have I5 := I4.next hcd1 hgd1
    refine hK.out _ _ (I5.lk.box.cell 0 _ rfl) (fun hHeld => ?_)
    clear hK K I4 hcd1 hgd1
    try simp only [Act.put, List.getElem_toArray, List.getElem_cons_zero, List.getElem_cons_succ, List.setIfInBounds_toArray, List.set_cons_zero, List.set_cons_succ]
    refine wpAnyL_next 5 (by kernel_rfl) rfl (fun K hK => ?_)
    go_simp
    refine (l1Below_any C zs 3 d1 I5.cur hl (by omega)).mono ?_
    rintro r d2 ⟨t2, rfl, ht2, hcd2, hgd2⟩
    have I6 := I5.next hcd2 hgd2
    refine hK.out _ _ (I6.lk.box.cell 0 _ rfl) (fun hHeld => ?_)
    clear hK K I5 hcd2 hgd2
    try simp only [Act.put, List.getElem_toArray, List.getElem_cons_zero, List.getElem_cons_succ, List.setIfInBounds_toArray, List.set_cons_zero, List.set_cons_succ]
    refine wpAnyL_next 7 (by kernel_rfl) rfl (fun K hK => ?_)
    go_simp
    refine (l1Below_any C zs 6 d2 I6.cur hl (by omega)).mono ?_
    rintro r d3 ⟨t3, rfl, ht3, hcd3, hgd3⟩
    have I7 := I6.next hcd3 hgd3
    refine hK.out _ _ (I7.lk.box.cell 0 _ rfl) (fun hHeld => ?_)
    clear hK K I6 hcd3 hgd3
    try simp only [Act.put, List.getElem_toArray, List.getElem_cons_zero, List.getElem_cons_succ, List.setIfInBounds_toArray, List.set_cons_zero, List.set_cons_succ]
    refine wpAnyL_take (i := 8) (v := .agg #[.int .i64 (t1 : Int), .int .i64 (t2 : Int), .int .i64 (t3 : Int)]) rfl (by kernel_rfl) (fun _ _ _ h => h) (Or.inl ⟨by rfl, ?_⟩) hHeld ?_
    · intro w' hSw
      go_simp <;> rfl
    try simp only [Act.put, List.getElem_toArray, List.getElem_cons_zero, List.getElem_cons_succ, List.setIfInBounds_toArray, List.set_cons_zero, List.set_cons_succ]
    have hD : Below d3.heap.size d3 d3 := Below.refl _ _
    have htop := I7.top
    clear ht1 ht2 ht3
    refine wpAnyL_next 9 (by kernel_rfl) rfl (fun K hK => ?_)
    go_simp
    obtain ⟨W9, hW9, y9, hb9, hs9⟩ := boxes1 d3 [.int .i64 (⟨(t1 : Int), (t2 : Int), (t3 : Int)⟩ : GrantV).tx, .int .i64 (⟨(t1 : Int), (t2 : Int), (t3 : Int)⟩ : GrantV).res, .int .i64 (⟨(t1 : Int), (t2 : Int), (t3 : Int)⟩ : GrantV).mode] 37
    have r9 : ReadsG W9 (some ⟨d3.heap.size, 0, none⟩) [(⟨(t1 : Int), (t2 : Int), (t3 : Int)⟩ : GrantV)] := by rw [← hW9.out]; exact readsG_one d3 (⟨(t1 : Int), (t2 : Int), (t3 : Int)⟩ : GrantV) _
    try simp only at hW9 r9
    rw [hW9.out]
    have D9 : Below d3.heap.size d3 W9 := hD.trans (hb9.mono hD.size)
    have o9 := (I7.lk.below D9).own.given
    clear hs9 y9
    have I9 := I7.below hb9
    refine hK.out _ _ (I9.lk.box.cell 0 _ rfl) (fun hHeld => ?_)
    clear hK K hW9 hb9
    try simp only [Act.put, List.getElem_toArray, List.getElem_cons_zero, List.getElem_cons_succ, List.setIfInBounds_toArray, List.set_cons_zero, List.set_cons_succ]
    refine wpAnyL_next 10 (by kernel_rfl) rfl (fun K hK => ?_)
    refine step_append_grants rfl (.tmp 14) (.tmp 22) rfl lo W9.heap.size l.aG l.cG l.given rfl o9 _ _ [(⟨(t1 : Int), (t2 : Int), (t3 : Int)⟩ : GrantV)] rfl r9 (fun h => by cases h) (by simp only [List.length_cons, List.length_nil]; omega) (by have := D9.size; omega) ?_
    intro a10 c10 y10 w10 hy10 o10 g10 k10
    obtain ⟨⟨f1, f2⟩, W3, hW3, hst⟩ := LkAt.setG (w := d3) I7.lk D9 o10 g10 (fun k hk => by
      rcases k10 k hk with e | e
      · exact .inl e
      · exact .inr (by have := D9.size; omega))
    have HK10 : Hid (_) := fun k (hk : k < W9.heap.size) hn => g10.block k hk hn
    clear k10 r9 o9
    have KS := f1
    refine hK.out _ _ (KS) (fun hHeld => ?_)
    clear hK K 
    try simp only [Act.put, List.getElem_toArray, List.getElem_cons_zero, List.getElem_cons_succ, List.setIfInBounds_toArray, List.set_cons_zero, List.set_cons_succ]
    refine wpAnyL_take (i := 11) (v := .pointer (some ⟨B, 0, none⟩)) rfl (by kernel_rfl) (fun _ _ _ h => h) (Or.inl ⟨by rfl, ?_⟩) hHeld ?_
    · intro w' hSw
      go_simp <;> rfl
    try simp only [Act.put, List.getElem_toArray, List.getElem_cons_zero, List.getElem_cons_succ, List.setIfInBounds_toArray, List.set_cons_zero, List.set_cons_succ]
    refine wpAnyL_last 12 (by kernel_rfl) rfl rfl (fun K hK => ?_)
    go_simp
    rw [hW3.out]
    refine hK.out _ _ ?_
    clear hK K
    refine wpAnyL_done (by kernel_rfl) ?_ _
    clear hHeld hW3 f1 f2 g10 o10 HK10 KS
    have I10 := I7.step hst
    clear hst I7 I9 hD htop
    have HN : Hid (y10.length + l.waits.length ≤ n + 1) := by rw [Hid]; rw [hy10.out]; simp; omega
    have ho := I10.ord
    have ht := I10.top
    have x0 := I10.lk.box.cell 0 _ rfl
    have x1 := I10.lk.box.cell 1 _ rfl
    have bR := I10.res
    have y0 := bR.cell 0 _ rfl
    have y1 := bR.cell 1 _ rfl
    have f0 := bR.frozen 0
    have f1 := bR.frozen 1
    have bF := (bR.set 0 (.slice a10 y10.length c10)).set 1 (.slice l.aW l.waits.length l.cW)
    simp only [List.set] at bF
    have hwF : Within w.heap.size (w.heap.size + 1) W3 _ := (within_set W3 w.heap.size 0 (.slice a10 y10.length c10) (by omega)).trans (within_set _ w.heap.size 1 (.slice l.aW l.waits.length l.cW) (by omega))
    obtain ⟨WF, hWF⟩ : ∃ WF, Hid ((W3.setCell ⟨w.heap.size, 0, none⟩ (.slice a10 y10.length c10)).setCell ⟨w.heap.size, 1, none⟩ (.slice l.aW l.waits.length l.cW) = WF) := ⟨_, rfl⟩
    rw [hWF.out] at bF hwF
    have HF : Hid (LkDrawnA w WF C zs n (.returned (.agg #[.slice a10 y10.length c10, .slice l.aW l.waits.length l.cW]))) := by
      have hlow : Below w.heap.size W3 WF := hwF.below (Nat.le_refl _) (by omega)
      exact ⟨⟨y10, l.waits, a10, c10, l.aW, l.cW⟩, rfl, (I10.lk.own.within hwF (.inr (by omega))).widen (by omega) hwF.size (Nat.le_refl _), HN.out, I10.cur.low hlow (by omega), grown_low I10.grown hlow⟩
    have q0 := bF.cell 0 _ rfl
    have q1 := bF.cell 1 _ rfl
    clear hwF bR bF I10 HN
    go_wp2_with fail
    rw [hWF.out]
    refine bodyPost_ret (v := .agg #[.slice a10 y10.length c10, .slice l.aW l.waits.length l.cW]) (by simp [results, Tryd.results34, go_sem, q0, q1]) rfl HF.out
  · by_cases hx1 : x = 1
    · subst hx1
      go_upto_region 6 with fail
      have I4 : DrI w w3.drew C zs lo B l := I3.below (Below.refl _ _).drew
      refine wp_region_late (· == 14) (S := fun u => u.cell? ⟨B, 1, none⟩ = some (.slice l.aW l.waits.length l.cW)) (by kernel_rfl) (I4.lk.box.cell 1 _ rfl) (fun hHeld => ?_)
      generalize w3.drew = d0 at *
      clear I3 hx0
      refine wpAnyL_take (i := 0) (v := .pointer (some ⟨B, 1, none⟩)) rfl (by kernel_rfl) (fun _ _ _ h => h) (Or.inl ⟨by rfl, ?_⟩) hHeld ?_
      · intro w' hSw
        go_simp <;> rfl
      try simp only [Act.put, List.getElem_toArray, List.getElem_cons_zero, List.setIfInBounds_toArray, List.set_cons_zero, List.set_cons_succ]
      refine wpAnyL_take (i := 1) (v := .slice l.aW l.waits.length l.cW) rfl (by kernel_rfl) (fun _ _ _ h => h) (Or.inl ⟨by rfl, ?_⟩) hHeld ?_
      · intro w' hSw
        have hx := hSw
        go_simp <;> rfl
      try simp only [Act.put, List.getElem_toArray, List.getElem_cons_zero, List.getElem_cons_succ, List.setIfInBounds_toArray, List.set_cons_zero, List.set_cons_succ]
      refine wpAnyL_take (i := 2) (v := .pointer (some ⟨C, 0, none⟩)) rfl (by kernel_rfl) (fun _ _ _ h => h) (Or.inl ⟨by rfl, ?_⟩) hHeld ?_
      · intro w' hSw
        go_simp <;> rfl
      try simp only [Act.put, List.getElem_toArray, List.getElem_cons_zero, List.getElem_cons_succ, List.setIfInBounds_toArray, List.set_cons_zero, List.set_cons_succ]
      refine wpAnyL_take (i := 4) (v := .pointer (some ⟨C, 0, none⟩)) rfl (by kernel_rfl) (fun _ _ _ h => h) (Or.inl ⟨by rfl, ?_⟩) hHeld ?_
      · intro w' hSw
        go_simp <;> rfl
      try simp only [Act.put, List.getElem_toArray, List.getElem_cons_zero, List.getElem_cons_succ, List.setIfInBounds_toArray, List.set_cons_zero, List.set_cons_succ]
      refine wpAnyL_take (i := 7) (v := .pointer (some ⟨C, 0, none⟩)) rfl (by kernel_rfl) (fun _ _ _ h => h) (Or.inl ⟨by rfl, ?_⟩) hHeld ?_
      · intro w' hSw
        go_simp <;> rfl
      try simp only [Act.put, List.getElem_toArray, List.getElem_cons_zero, List.getElem_cons_succ, List.setIfInBounds_toArray, List.set_cons_zero, List.set_cons_succ]
      refine wpAnyL_ready (rs := [3, 5]) (by kernel_rfl) (by simp) ?_
      refine AllReadyL.cons rfl (fun K hK => ?_) (AllReadyL.cons rfl (fun K hK => ?_) AllReadyL.nil)
      ·skip
       go_simp
       refine (l1Below_any C zs 4 d0 I4.cur hl (by omega)).mono ?_
       rintro r d1 ⟨t1, rfl, ht1, hcd1, hgd1⟩
       have I1 := I4.next hcd1 hgd1
       clear ht1
       refine hK.out _ _ (fun _ => I1.lk.box.cell 1 _ rfl) (fun h0 => ?_)
       have hHeld := h0 rfl
       clear hK K h0 I4 hcd1 hgd1
       try simp only [Act.put, List.getElem_toArray, List.getElem_cons_zero, List.getElem_cons_succ, List.setIfInBounds_toArray, List.set_cons_zero, List.set_cons_succ]
       refine wpAnyL_next 5 (by kernel_rfl) rfl (fun K hK => ?_)
       go_simp
       obtain ⟨d2, hd2, hq1, hbd2, hq2⟩ := boxes1 d1 [.int .i64 0, .int .i64 100] 3
       have rd2 : ReadsI d2 (some ⟨d1.heap.size, 0, none⟩) [0, 100] := by rw [← hd2.out]; exact readsI_lit d1 [0, 100] _
       have nd2 : C < d1.heap.size := I1.cur.lt
       have I2 := I1.below hbd2
       try simp only [List.toArray] at hd2
       rw [hd2.out]
       clear hq1 hq2
       refine hK.out _ _ (I2.lk.box.cell 1 _ rfl) (fun hHeld => ?_)
       clear hK K hd2 hbd2 I1
       try simp only [Act.put, List.getElem_toArray, List.getElem_cons_zero, List.getElem_cons_succ, List.setIfInBounds_toArray, List.set_cons_zero, List.set_cons_succ]
       refine wpAnyL_next 6 (by kernel_rfl) rfl (fun K hK => ?_)
       go_simp
       refine (l1Int_any C zs (some ⟨d1.heap.size, 0, none⟩) 2 [0, 100] d2 I2.cur hl rd2 (fun b off e => by cases e; omega) (by decide) (by decide)).mono ?_
       rintro r d5 ⟨j, hj, rfl, hc5, hg5⟩
       have I5 := I2.next hc5 hg5
       generalize ([0, 100] : List Int).getD j 0 = rz at *
       refine hK.out _ _ (I5.lk.box.cell 1 _ rfl) (fun hHeld => ?_)
       clear hK K I2 hc5 hg5 rd2 nd2 hj
       try simp only [Act.put, List.getElem_toArray, List.getElem_cons_zero, List.getElem_cons_succ, List.setIfInBounds_toArray, List.set_cons_zero, List.set_cons_succ]
       refine wpAnyL_next 8 (by kernel_rfl) rfl (fun K hK => ?_)
       go_simp
       refine (l1Below_any C zs 4 d5 I5.cur hl (by omega)).mono ?_
       rintro r d6 ⟨t3, rfl, ht3, hcd6, hgd6⟩
       have I6 := I5.next hcd6 hgd6
       refine hK.out _ _ (I6.lk.box.cell 1 _ rfl) (fun hHeld => ?_)
       clear hK K I5 hcd6 hgd6
       try simp only [Act.put, List.getElem_toArray, List.getElem_cons_zero, List.getElem_cons_succ, List.setIfInBounds_toArray, List.set_cons_zero, List.set_cons_succ]
       have ht4 : (t3 : Int) < 4 := ht3 (by omega)
       clear ht3
       refine wpAnyL_take (i := 9) (v := .int .i64 (1 + (t3 : Int))) rfl (by kernel_rfl) (fun _ _ _ h => h) (Or.inl ⟨by rfl, ?_⟩) hHeld ?_
       · intro w' hSw
         go_simp
         rw [IntKind.wrap_i64]; omega
       try simp only [Act.put, List.getElem_toArray, List.getElem_cons_zero, List.getElem_cons_succ, List.setIfInBounds_toArray, List.set_cons_zero, List.set_cons_succ]
       refine wpAnyL_take (i := 10) (v := .agg #[.int .i64 (t1 : Int), .int .i64 rz, .int .i64 (1 + (t3 : Int))]) rfl (by kernel_rfl) (fun _ _ _ h => h) (Or.inl ⟨by rfl, ?_⟩) hHeld ?_
       · intro w' hSw
         go_simp <;> rfl
       try simp only [Act.put, List.getElem_toArray, List.getElem_cons_zero, List.getElem_cons_succ, List.setIfInBounds_toArray, List.set_cons_zero, List.set_cons_succ]
       have hD : Below d6.heap.size d6 d6 := Below.refl _ _
       have htop := I6.top
       clear ht4
       refine wpAnyL_next 11 (by kernel_rfl) rfl (fun K hK => ?_)
       go_simp
       obtain ⟨W9, hW9, y9, hb9, hs9⟩ := boxes1 d6 [.int .i64 (⟨(t1 : Int), rz, 1 + (t3 : Int)⟩ : GrantV).tx, .int .i64 (⟨(t1 : Int), rz, 1 + (t3 : Int)⟩ : GrantV).res, .int .i64 (⟨(t1 : Int), rz, 1 + (t3 : Int)⟩ : GrantV).mode] 37
       have r9 : ReadsG W9 (some ⟨d6.heap.size, 0, none⟩) [(⟨(t1 : Int), rz, 1 + (t3 : Int)⟩ : GrantV)] := by rw [← hW9.out]; exact readsG_one d6 (⟨(t1 : Int), rz, 1 + (t3 : Int)⟩ : GrantV) _
       try simp only at hW9 r9
       rw [hW9.out]
       have D9 : Below d6.heap.size d6 W9 := hD.trans (hb9.mono hD.size)
       have o9 := (I6.lk.below D9).own.waits
       clear hs9 y9
       have I9 := I6.below hb9
       refine hK.out _ _ (I9.lk.box.cell 1 _ rfl) (fun hHeld => ?_)
       clear hK K hW9 hb9
       try simp only [Act.put, List.getElem_toArray, List.getElem_cons_zero, List.getElem_cons_succ, List.setIfInBounds_toArray, List.set_cons_zero, List.set_cons_succ]
       refine wpAnyL_next 12 (by kernel_rfl) rfl (fun K hK => ?_)
       refine step_append_grants rfl (.tmp 28) (.tmp 38) rfl lo W9.heap.size l.aW l.cW l.waits rfl o9 _ _ [(⟨(t1 : Int), rz, 1 + (t3 : Int)⟩ : GrantV)] rfl r9 (fun h => by cases h) (by simp only [List.length_cons, List.length_nil]; omega) (by have := D9.size; omega) ?_
       intro a10 c10 y10 w10 hy10 o10 g10 k10
       obtain ⟨⟨f1, f2⟩, W3, hW3, hst⟩ := LkAt.setW (w := d6) I6.lk D9 o10 g10 (fun k hk => by
         rcases k10 k hk with e | e
         · exact .inl e
         · exact .inr (by have := D9.size; omega))
       have HK10 : Hid (_) := fun k (hk : k < W9.heap.size) hn => g10.block k hk hn
       clear k10 r9 o9
       have KS := f1
       refine hK.out _ _ (KS) (fun hHeld => ?_)
       clear hK K 
       try simp only [Act.put, List.getElem_toArray, List.getElem_cons_zero, List.getElem_cons_succ, List.setIfInBounds_toArray, List.set_cons_zero, List.set_cons_succ]
       refine wpAnyL_take (i := 13) (v := .pointer (some ⟨B, 1, none⟩)) rfl (by kernel_rfl) (fun _ _ _ h => h) (Or.inl ⟨by rfl, ?_⟩) hHeld ?_
       · intro w' hSw
         go_simp <;> rfl
       try simp only [Act.put, List.getElem_toArray, List.getElem_cons_zero, List.getElem_cons_succ, List.setIfInBounds_toArray, List.set_cons_zero, List.set_cons_succ]
       refine wpAnyL_last 14 (by kernel_rfl) rfl rfl (fun K hK => ?_)
       go_simp
       rw [hW3.out]
       refine hK.out _ _ ?_
       clear hK K
       refine wpAnyL_done (by kernel_rfl) ?_ _
       clear hHeld hW3 f1 f2 g10 o10 HK10 KS
       have I10 := I6.step hst
       clear hst I6 I9 hD htop
       have HN : Hid (l.given.length + y10.length ≤ n + 1) := by rw [Hid]; rw [hy10.out]; simp; omega
       have ho := I10.ord
       have ht := I10.top
       have x0 := I10.lk.box.cell 0 _ rfl
       have x1 := I10.lk.box.cell 1 _ rfl
       have bR := I10.res
       have y0 := bR.cell 0 _ rfl
       have y1 := bR.cell 1 _ rfl
       have f0 := bR.frozen 0
       have f1 := bR.frozen 1
       have bF := (bR.set 0 (.slice l.aG l.given.length l.cG)).set 1 (.slice a10 y10.length c10)
       simp only [List.set] at bF
       have hwF : Within w.heap.size (w.heap.size + 1) W3 _ := (within_set W3 w.heap.size 0 (.slice l.aG l.given.length l.cG) (by omega)).trans (within_set _ w.heap.size 1 (.slice a10 y10.length c10) (by omega))
       obtain ⟨WF, hWF⟩ : ∃ WF, Hid ((W3.setCell ⟨w.heap.size, 0, none⟩ (.slice l.aG l.given.length l.cG)).setCell ⟨w.heap.size, 1, none⟩ (.slice a10 y10.length c10) = WF) := ⟨_, rfl⟩
       rw [hWF.out] at bF hwF
       have HF : Hid (LkDrawnA w WF C zs n (.returned (.agg #[.slice l.aG l.given.length l.cG, .slice a10 y10.length c10]))) := by
         have hlow : Below w.heap.size W3 WF := hwF.below (Nat.le_refl _) (by omega)
         exact ⟨⟨l.given, y10, l.aG, l.cG, a10, c10⟩, rfl, (I10.lk.own.within hwF (.inr (by omega))).widen (by omega) hwF.size (Nat.le_refl _), HN.out, I10.cur.low hlow (by omega), grown_low I10.grown hlow⟩
       have q0 := bF.cell 0 _ rfl
       have q1 := bF.cell 1 _ rfl
       clear hwF bR bF I10 HN
       go_wp2_with fail
       rw [hWF.out]
       refine bodyPost_ret (v := .agg #[.slice l.aG l.given.length l.cG, .slice a10 y10.length c10]) (by simp [results, Tryd.results34, go_sem, q0, q1]) rfl HF.out
      ·skip
       go_simp
       obtain ⟨d1, hd1, hq1, hbd1, hq2⟩ := boxes1 d0 [.int .i64 0, .int .i64 100] 3
       have rd1 : ReadsI d1 (some ⟨d0.heap.size, 0, none⟩) [0, 100] := by rw [← hd1.out]; exact readsI_lit d0 [0, 100] _
       have nd1 : C < d0.heap.size := I4.cur.lt
       have I1 := I4.below hbd1
       try simp only [List.toArray] at hd1
       rw [hd1.out]
       clear hq1 hq2
       refine hK.out _ _ (fun _ => I1.lk.box.cell 1 _ rfl) (fun h0 => ?_)
       have hHeld := h0 rfl
       clear hK K h0 I4 hd1 hbd1
       try simp only [Act.put, List.getElem_toArray, List.getElem_cons_zero, List.getElem_cons_succ, List.setIfInBounds_toArray, List.set_cons_zero, List.set_cons_succ]
       refine wpAnyL_next 3 (by kernel_rfl) rfl (fun K hK => ?_)
       go_simp
       refine (l1Below_any C zs 4 d1 I1.cur hl (by omega)).mono ?_
       rintro r d2 ⟨t1, rfl, ht1, hcd2, hgd2⟩
       have I2 := I1.next hcd2 hgd2
       clear ht1
       have rd2 : ReadsI d2 (some ⟨d0.heap.size, 0, none⟩) [0, 100] := rd1.grown hgd2 (fun b off e => by cases e; omega)
       clear rd1
       refine hK.out _ _ (I2.lk.box.cell 1 _ rfl) (fun hHeld => ?_)
       clear hK K hcd2 hgd2 I1
       try simp only [Act.put, List.getElem_toArray, List.getElem_cons_zero, List.getElem_cons_succ, List.setIfInBounds_toArray, List.set_cons_zero, List.set_cons_succ]
       refine wpAnyL_next 6 (by kernel_rfl) rfl (fun K hK => ?_)
       go_simp
       refine (l1Int_any C zs (some ⟨d0.heap.size, 0, none⟩) 2 [0, 100] d2 I2.cur hl rd2 (fun b off e => by cases e; omega) (by decide) (by decide)).mono ?_
       rintro r d5 ⟨j, hj, rfl, hc5, hg5⟩
       have I5 := I2.next hc5 hg5
       generalize ([0, 100] : List Int).getD j 0 = rz at *
       refine hK.out _ _ (I5.lk.box.cell 1 _ rfl) (fun hHeld => ?_)
       clear hK K I2 hc5 hg5 rd2 nd1 hj
       try simp only [Act.put, List.getElem_toArray, List.getElem_cons_zero, List.getElem_cons_succ, List.setIfInBounds_toArray, List.set_cons_zero, List.set_cons_succ]
       refine wpAnyL_next 8 (by kernel_rfl) rfl (fun K hK => ?_)
       go_simp
       refine (l1Below_any C zs 4 d5 I5.cur hl (by omega)).mono ?_
       rintro r d6 ⟨t3, rfl, ht3, hcd6, hgd6⟩
       have I6 := I5.next hcd6 hgd6
       refine hK.out _ _ (I6.lk.box.cell 1 _ rfl) (fun hHeld => ?_)
       clear hK K I5 hcd6 hgd6
       try simp only [Act.put, List.getElem_toArray, List.getElem_cons_zero, List.getElem_cons_succ, List.setIfInBounds_toArray, List.set_cons_zero, List.set_cons_succ]
       have ht4 : (t3 : Int) < 4 := ht3 (by omega)
       clear ht3
       refine wpAnyL_take (i := 9) (v := .int .i64 (1 + (t3 : Int))) rfl (by kernel_rfl) (fun _ _ _ h => h) (Or.inl ⟨by rfl, ?_⟩) hHeld ?_
       · intro w' hSw
         go_simp
         rw [IntKind.wrap_i64]; omega
       try simp only [Act.put, List.getElem_toArray, List.getElem_cons_zero, List.getElem_cons_succ, List.setIfInBounds_toArray, List.set_cons_zero, List.set_cons_succ]
       refine wpAnyL_take (i := 10) (v := .agg #[.int .i64 (t1 : Int), .int .i64 rz, .int .i64 (1 + (t3 : Int))]) rfl (by kernel_rfl) (fun _ _ _ h => h) (Or.inl ⟨by rfl, ?_⟩) hHeld ?_
       · intro w' hSw
         go_simp <;> rfl
       try simp only [Act.put, List.getElem_toArray, List.getElem_cons_zero, List.getElem_cons_succ, List.setIfInBounds_toArray, List.set_cons_zero, List.set_cons_succ]
       have hD : Below d6.heap.size d6 d6 := Below.refl _ _
       have htop := I6.top
       clear ht4
       refine wpAnyL_next 11 (by kernel_rfl) rfl (fun K hK => ?_)
       go_simp
       obtain ⟨W9, hW9, y9, hb9, hs9⟩ := boxes1 d6 [.int .i64 (⟨(t1 : Int), rz, 1 + (t3 : Int)⟩ : GrantV).tx, .int .i64 (⟨(t1 : Int), rz, 1 + (t3 : Int)⟩ : GrantV).res, .int .i64 (⟨(t1 : Int), rz, 1 + (t3 : Int)⟩ : GrantV).mode] 37
       have r9 : ReadsG W9 (some ⟨d6.heap.size, 0, none⟩) [(⟨(t1 : Int), rz, 1 + (t3 : Int)⟩ : GrantV)] := by rw [← hW9.out]; exact readsG_one d6 (⟨(t1 : Int), rz, 1 + (t3 : Int)⟩ : GrantV) _
       try simp only at hW9 r9
       rw [hW9.out]
       have D9 : Below d6.heap.size d6 W9 := hD.trans (hb9.mono hD.size)
       have o9 := (I6.lk.below D9).own.waits
       clear hs9 y9
       have I9 := I6.below hb9
       refine hK.out _ _ (I9.lk.box.cell 1 _ rfl) (fun hHeld => ?_)
       clear hK K hW9 hb9
       try simp only [Act.put, List.getElem_toArray, List.getElem_cons_zero, List.getElem_cons_succ, List.setIfInBounds_toArray, List.set_cons_zero, List.set_cons_succ]
       refine wpAnyL_next 12 (by kernel_rfl) rfl (fun K hK => ?_)
       refine step_append_grants rfl (.tmp 28) (.tmp 38) rfl lo W9.heap.size l.aW l.cW l.waits rfl o9 _ _ [(⟨(t1 : Int), rz, 1 + (t3 : Int)⟩ : GrantV)] rfl r9 (fun h => by cases h) (by simp only [List.length_cons, List.length_nil]; omega) (by have := D9.size; omega) ?_
       intro a10 c10 y10 w10 hy10 o10 g10 k10
       obtain ⟨⟨f1, f2⟩, W3, hW3, hst⟩ := LkAt.setW (w := d6) I6.lk D9 o10 g10 (fun k hk => by
         rcases k10 k hk with e | e
         · exact .inl e
         · exact .inr (by have := D9.size; omega))
       have HK10 : Hid (_) := fun k (hk : k < W9.heap.size) hn => g10.block k hk hn
       clear k10 r9 o9
       have KS := f1
       refine hK.out _ _ (KS) (fun hHeld => ?_)
       clear hK K 
       try simp only [Act.put, List.getElem_toArray, List.getElem_cons_zero, List.getElem_cons_succ, List.setIfInBounds_toArray, List.set_cons_zero, List.set_cons_succ]
       refine wpAnyL_take (i := 13) (v := .pointer (some ⟨B, 1, none⟩)) rfl (by kernel_rfl) (fun _ _ _ h => h) (Or.inl ⟨by rfl, ?_⟩) hHeld ?_
       · intro w' hSw
         go_simp <;> rfl
       try simp only [Act.put, List.getElem_toArray, List.getElem_cons_zero, List.getElem_cons_succ, List.setIfInBounds_toArray, List.set_cons_zero, List.set_cons_succ]
       refine wpAnyL_last 14 (by kernel_rfl) rfl rfl (fun K hK => ?_)
       go_simp
       rw [hW3.out]
       refine hK.out _ _ ?_
       clear hK K
       refine wpAnyL_done (by kernel_rfl) ?_ _
       clear hHeld hW3 f1 f2 g10 o10 HK10 KS
       have I10 := I6.step hst
       clear hst I6 I9 hD htop
       have HN : Hid (l.given.length + y10.length ≤ n + 1) := by rw [Hid]; rw [hy10.out]; simp; omega
       have ho := I10.ord
       have ht := I10.top
       have x0 := I10.lk.box.cell 0 _ rfl
       have x1 := I10.lk.box.cell 1 _ rfl
       have bR := I10.res
       have y0 := bR.cell 0 _ rfl
       have y1 := bR.cell 1 _ rfl
       have f0 := bR.frozen 0
       have f1 := bR.frozen 1
       have bF := (bR.set 0 (.slice l.aG l.given.length l.cG)).set 1 (.slice a10 y10.length c10)
       simp only [List.set] at bF
       have hwF : Within w.heap.size (w.heap.size + 1) W3 _ := (within_set W3 w.heap.size 0 (.slice l.aG l.given.length l.cG) (by omega)).trans (within_set _ w.heap.size 1 (.slice a10 y10.length c10) (by omega))
       obtain ⟨WF, hWF⟩ : ∃ WF, Hid ((W3.setCell ⟨w.heap.size, 0, none⟩ (.slice l.aG l.given.length l.cG)).setCell ⟨w.heap.size, 1, none⟩ (.slice a10 y10.length c10) = WF) := ⟨_, rfl⟩
       rw [hWF.out] at bF hwF
       have HF : Hid (LkDrawnA w WF C zs n (.returned (.agg #[.slice l.aG l.given.length l.cG, .slice a10 y10.length c10]))) := by
         have hlow : Below w.heap.size W3 WF := hwF.below (Nat.le_refl _) (by omega)
         exact ⟨⟨l.given, y10, l.aG, l.cG, a10, c10⟩, rfl, (I10.lk.own.within hwF (.inr (by omega))).widen (by omega) hwF.size (Nat.le_refl _), HN.out, I10.cur.low hlow (by omega), grown_low I10.grown hlow⟩
       have q0 := bF.cell 0 _ rfl
       have q1 := bF.cell 1 _ rfl
       clear hwF bR bF I10 HN
       go_wp2_with fail
       rw [hWF.out]
       refine bodyPost_ret (v := .agg #[.slice l.aG l.given.length l.cG, .slice a10 y10.length c10]) (by simp [results, Tryd.results34, go_sem, q0, q1]) rfl HF.out
    · have hx1' : ((x : Int) == 1) = false := beq_eq_false_iff_ne.2 (by omega)
      have hx0' : ((x : Int) == 0) = false := beq_eq_false_iff_ne.2 (by omega)
      have HN : Hid (l.given.length + l.waits.length ≤ n + 1) := by rw [Hid]; omega
      have ho := I3.ord
      have ht := I3.top
      have x0 := I3.lk.box.cell 0 _ rfl
      have x1 := I3.lk.box.cell 1 _ rfl
      have bR := I3.res
      have y0 := bR.cell 0 _ rfl
      have y1 := bR.cell 1 _ rfl
      have f0 := bR.frozen 0
      have f1 := bR.frozen 1
      have bF := (bR.set 0 (.slice l.aG l.given.length l.cG)).set 1 (.slice l.aW l.waits.length l.cW)
      simp only [List.set] at bF
      have hwF : Within w.heap.size (w.heap.size + 1) w3 _ := (within_set w3 w.heap.size 0 (.slice l.aG l.given.length l.cG) (by omega)).trans (within_set _ w.heap.size 1 (.slice l.aW l.waits.length l.cW) (by omega))
      obtain ⟨WF, hWF⟩ : ∃ WF, Hid ((w3.setCell ⟨w.heap.size, 0, none⟩ (.slice l.aG l.given.length l.cG)).setCell ⟨w.heap.size, 1, none⟩ (.slice l.aW l.waits.length l.cW) = WF) := ⟨_, rfl⟩
      rw [hWF.out] at bF hwF
      have HF : Hid (LkDrawnA w WF C zs n (.returned (.agg #[.slice l.aG l.given.length l.cG, .slice l.aW l.waits.length l.cW]))) := by
        have hlow : Below w.heap.size w3 WF := hwF.below (Nat.le_refl _) (by omega)
        exact ⟨l, rfl, (I3.lk.own.within hwF (.inr (by omega))).widen (by omega) hwF.size (Nat.le_refl _), HN.out, I3.cur.low hlow (by omega), grown_low I3.grown hlow⟩
      have q0 := bF.cell 0 _ rfl
      have q1 := bF.cell 1 _ rfl
      clear hwF bR bF I3 HN
      go_wp2_with fail
      rw [hWF.out]
      refine bodyPost_ret (v := .agg #[.slice l.aG l.given.length l.cG, .slice l.aW l.waits.length l.cW]) (by simp [results, Tryd.results34, go_sem, q0, q1]) rfl HF.out
end Go.Proofs.YtekljhabjkmhpaaDoor
