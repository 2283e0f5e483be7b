/- Several texts in one, in their order. -/
import Derived.Test.YtekljhabjkmhpaaDoorPFnLockedx19
import Derived.Test.YtekljhabjkmhpaaDoorPFnLockedx10
import Derived.Test.YtekljhabjkmhpaaDoorPFnLockedx8
import Derived.Deep.QuietTactic
import Derived.Test.YtekljhabjkmhpaaDoorPFnLockedx17
/- Drawn locks: the walks of spec.l1Once, l1Size, l9Draw, DrawLocks. -/
namespace Go.Proofs.YtekljhabjkmhpaaDoor
open Go.RowKit

theorem l1OnceK_any (B : Nat) (zs : List Int) (n : Int) (w : World) (hc : CurAt w B zs) (hl : zs.length ≤ 70368744177664) (hn : n ≤ 1000000000) :
    Calls Tryd.prog 68 #[.pointer (some ⟨B, 0, none⟩), .int .i64 n] w fun e w' => ∃ b : Bool, e = .returned (.bool b) ∧ CurAt w' B zs ∧ w.grownBy w' (some B) := by
  go_enter Tryd.func68, Tryd.ntmps68
  go_wp2_with fail
  refine (l1Below_any B zs n w hc hl hn).mono ?_
  rintro e w1 ⟨x, rfl, _, hc1, hg1⟩
  go_wp2
  go_ret
  exact ⟨_, rfl, hc1, hg1⟩
theorem l1SizeK_any (a : Option Addr) (c : Nat) (zs : List Int) (m : Nat) (w : World) (hl : zs.length ≤ 70368744177664) (hm : 0 < m) :
    Calls Tryd.prog 35 #[.slice a zs.length c, .int .i64 m] w fun r w' => ∃ n : Nat, r = .returned (.int .i64 n) ∧ 0 < n ∧ n ≤ m ∧ w' = w := by
  by_cases h : 3 + (zs.length : Int) / 12 > (m : Int)
  · go_enter Tryd.func35, Tryd.ntmps35
    go_wp2
    go_ret
    exact ⟨m, rfl, hm, Nat.le_refl _, rfl⟩
  · go_enter Tryd.func35, Tryd.ntmps35
    go_wp2
    go_ret
    exact ⟨3 + zs.length / 12, ret_int (by omega), by omega, by omega, rfl⟩
theorem CurAt.low {w w' : World} {B n : Nat} {zs : List Int} (h : CurAt w B zs) (hb : Below n w w') (hn : B < n) : CurAt w' B zs := by
  have hB := h.lt
  obtain ⟨a, c, i, h, hh, hi, hr, hlt⟩ := h
  refine ⟨a, c, i, h, ?_, hi, ⟨hr.1, fun e => ?_⟩, hlt⟩
  · rw [hb.block B hn]; exact hh
  · obtain ⟨b, off, ha, hc⟩ := hr.2 e
    refine ⟨b, off, ha, fun j hj => ?_⟩
    have h1 := hlt e b off ha
    rw [World.cell?_of_block (w := w) (w' := w') (a := ⟨b, off + j, none⟩) (hb.block b (by omega))]
    exact hc j hj
/-- A cursor's step leaves them alone. -/
theorem LkAt.cur {w w' : World} {lo B C : Nat} {l : LocksA} (h : LkAt w lo B l) (hg : w.grownBy w' (some C)) (hC : C < lo) (hB : C ≠ B) : LkAt w' lo B l :=
  h.touch (bl := [C]) (Touch.of_grown hg (fun k hk => by cases hk; simp)) (fun hm => hB (List.mem_singleton.1 hm).symm) (fun k hk hm => by have := (h.own.lt hk).1; have := List.mem_singleton.1 hm; omega)
theorem Box.cur {w w' : World} {B C : Nat} {vs : List Value} {t : TypeId} (h : Box w B vs t) (hg : w.grownBy w' (some C)) (hB : C ≠ B) : Box w' B vs t := h.block (hg.block B h.lt (fun e => hB (by cases e; rfl)))
theorem grown_low {w0 w w' : World} {C : Nat} (h : w0.grownBy w (some C)) (hb : Below w0.heap.size w w') : w0.grownBy w' (some C) :=
  ⟨hb.os.trans h.os, hb.tape.trans h.tape, hb.output.trans h.output, Nat.le_trans h.size hb.size, fun k hk hn => (hb.block k hk).trans (h.block k hk hn)⟩

def LkDrawn (w w' : World) (C : Nat) (zs : List Int) (n : Nat) (r : Ending) : Prop := ∃ l : LocksA, r = .returned (.agg #[.slice l.aG l.given.length l.cG, .slice l.aW l.waits.length l.cW]) ∧ l.own w' w.heap.size w'.heap.size ∧ (GoodG l.given ∧ GoodW l.waits) ∧ l.given.length + l.waits.length ≤ n ∧ CurAt w' C zs ∧ w.grownBy w' (some C)

set_option maxHeartbeats 4000000 in
set_option maxRecDepth 100000 in
theorem l9Draw_any (C : Nat) (zs : List Int) (n : Nat) (w : World) (hc : CurAt w C zs) (hl : zs.length ≤ 70368744177664) (hn : 0 < n ∧ n ≤ 30) :
    Calls Tryd.prog 47 #[.pointer (some ⟨C, 0, none⟩), .int .i64 n] w fun e w' => LkDrawn w w' C zs n e := by
  have hCw := hc.lt
  obtain ⟨W, hW, b0, b1, hbW, hsW⟩ := boxes2 w [.slice none 0 0, .slice none 0 0] [.slice none 0 0, .slice none 0 0] 30 30
  have hcW := hc.below hbW
  have hs2 : w.heap.size + 2 ≤ W.heap.size := Nat.le_of_eq hsW.symm
  have hL0 : LkAt W (w.heap.size + 2) (w.heap.size + 1) ⟨[], [], none, 0, none, 0⟩ := ⟨b1, ⟨ownG_nil _ _ _ (Nat.le_refl _), ownG_nil _ _ _ (Nat.le_refl _), fun k hk => by cases hk⟩, by simp [LocksA.blocks, Value.ownBlock]⟩
  have hg0 : w.grownBy W (some C) := ⟨hbW.os, hbW.tape, hbW.output, hbW.size, fun k hk _ => hbW.block k hk⟩
  clear hsW b1 hbW hc
  go_enter Tryd.func47, Tryd.ntmps47
  go_wp2_with fail
  rw [hW.out]
  clear hW
  refine (l1Below_any C zs n W hcW hl (by omega)).mono ?_
  rintro e w1 ⟨x, rfl, hx, hc1, hg1⟩
  have hxn : x < n := by have := hx (by omega); omega
  have hL1 := hL0.cur hg1 (by omega) (by omega)
  have bR1 := b0.cur hg1 (by omega)
  have hgr1 := grownBy_trans hg0 hg1
  have hz1 := hg1.size
  clear hx hcW hL0 b0 hg0 hg1
  have HS0 : Hid (CurAt w1 C zs ∧ LkAt w1 (w.heap.size + 2) (w.heap.size + 1) ⟨[], [], none, 0, none, 0⟩ ∧ Box w1 w.heap.size [.slice none 0 0, .slice none 0 0] 30 ∧ w.grownBy w1 (some C)) := ⟨hc1, hL1, bR1, hgr1⟩
  clear hc1 hL1 bR1 hgr1
  go_wp2_with fail
  go_loopw [6] (fun i wr => ∃ (j : Nat) (l : LocksA), j ≤ x ∧ i = .int .i64 j ∧ Hid ((GoodG l.given ∧ GoodW l.waits) ∧ l.given.length + l.waits.length + j ≤ n) ∧ w.heap.size + 2 ≤ wr.heap.size ∧ CurAt wr C zs ∧ LkAt wr (w.heap.size + 2) (w.heap.size + 1) l ∧ Box wr w.heap.size [.slice none 0 0, .slice none 0 0] 30 ∧ w.grownBy wr (some C)) (fun i _ => (intOf i).toNat)
  case atStart => exact ⟨x, _, Nat.le_refl _, rfl, ⟨⟨goodG_nil, goodW_nil⟩, by simp; omega⟩, by omega, HS0.out⟩
  case round =>
    obtain ⟨j, l, hj, rfl, hI, hsz, hc, hL, bR, hgr⟩ := hrel
    clear HS0
    by_cases hj0 : 0 < j
    · have hjI : (0 : Int) < (j : Int) := by omega
      have hll : l.given.length + l.waits.length ≤ 30 := by have := hI.out.2; omega
      go_wp2_with fail
      refine (l1Below_any C zs 5 wr hc hl (by omega)).mono ?_
      rintro e w2 ⟨t, rfl, ht, hc2, hg2⟩
      have ht5 : t < 5 := by have := ht (by omega); omega
      have hL2 := hL.cur hg2 (by omega) (by omega)
      have bR2 := bR.cur hg2 (by omega)
      have hgr2 := grownBy_trans hgr hg2
      have hz2 := hg2.size
      clear hL bR hgr hg2 hc ht
      go_wp2_with fail
      refine (l1OnceK_any C zs 6 w2 hc2 hl (by omega)).mono ?_
      rintro e w3 ⟨bb, rfl, hc3, hg3⟩
      have hL3 := hL2.cur hg3 (by omega) (by omega)
      have bR3 := bR2.cur hg3 (by omega)
      have hgr3 := grownBy_trans hgr2 hg3
      have hz3 := hg3.size
      clear hL2 bR2 hgr2 hg3 hc2
      cases bb
      · have HTX : Hid (1 ≤ (1 : Int) + t ∧ (1 : Int) + t ≤ 99) := by rw [Hid]; omega
        have CW := l9Waits_any l.waits (.slice l.aG l.given.length l.cG) l.aW l.cW (1 + t) w3 hL3.own.waits.reads (by omega)
        have x0 := hL3.box.cell 0 _ rfl
        have x1 := hL3.box.cell 1 _ rfl
        go_wp2_with fail
        refine CW.mono ?_
        clear CW x0 x1
        rintro e w4 ⟨rfl, hb4⟩
        have hL4 := hL3.below hb4
        have hc4 := hc3.below hb4
        have bR4 := bR3.below hb4 bR3.lt
        have hgr4 : w.grownBy w4 (some C) := grown_low hgr3 (hb4.mono hgr3.size)
        have hz4 := hb4.size
        clear hL3 bR3 hgr3 hb4 hc3
        obtain ⟨am, HAM⟩ : ∃ am, Hid (l.waits.any (fun g => g.tx == 1 + (t : Int)) = am) := ⟨_, rfl⟩
        rw [HAM.out]
        cases am
        · go_wp2_with fail
          refine (l1Below_any C zs 3 w4 hc4 hl (by omega)).mono ?_
          rintro e w5 ⟨rs, rfl, hrs, hc5, hg5⟩
          have hL5 := hL4.cur hg5 (by omega) (by omega)
          have bR5 := bR4.cur hg5 (by omega)
          have hgr5 := grownBy_trans hgr4 hg5
          have hz5 := hg5.size
          have hr3 : rs < 3 := by have := hrs (by omega); omega
          clear hL4 bR4 hgr4 hg5 hc4 hrs
          go_wp2_with fail
          refine (l1Below_any C zs 4 w5 hc5 hl (by omega)).mono ?_
          rintro e w6 ⟨md, rfl, hmd, hc6, hg6⟩
          have hL6 := hL5.cur hg6 (by omega) (by omega)
          have bR6 := bR5.cur hg6 (by omega)
          have hgr6 := grownBy_trans hgr5 hg6
          have hz6 := hg6.size
          have hm4 : md < 4 := by have := hmd (by omega); omega
          clear hL5 bR5 hgr5 hg6 hc5 hmd
          have CA := l9Ask_any (w.heap.size + 2) (w.heap.size + 1) l ⟨1 + t, rs, 1 + md⟩ w6 hL6 (by omega) ⟨by omega, by omega⟩
          have HGD : Hid (_) := ask_good hI.out.1.1 hI.out.1.2 (g := ⟨1 + t, rs, 1 + md⟩) (by simp only [grantB, modeB, inB, Bool.and_eq_true, decide_eq_true_eq]; omega) HAM.out
          simp only at CA
          go_wp2_with fail
          refine CA.mono ?_
          clear CA
          rintro e w7 ⟨l', rfl, hl', hst⟩
          have hlow : Below w.heap.size w6 w7 := hst.low hL6 (by omega) (by omega)
          have hc7 := hc6.low hlow (by omega)
          have bR7 := hst.box bR6 (by omega) (fun hm => by have := (hL6.own.lt hm).1; omega)
          have hgr7 := grown_low hgr6 hlow
          have hz7 := hst.size
          have HI7 : Hid ((GoodG l'.given ∧ GoodW l'.waits) ∧ l'.given.length + l'.waits.length + (j - 1) ≤ n) := by
            rw [Hid, hl'.out.1, hl'.out.2]
            have h2 := hI.out.2
            obtain ⟨h3, h4, h5⟩ := HGD.out
            exact ⟨⟨h3, h4⟩, by omega⟩
          have hL7 := hst.now
          clear hst hL6 bR6 hgr6 hc6 hlow HGD hl'
          go_wp2_with fail
          go_roundw
          case rel => exact ⟨j - 1, l', by omega, by go_num, HI7.out, by omega, hc7, hL7, bR7, hgr7⟩
          case measure => simp [intOf]; omega
        · have HI4 : Hid ((GoodG l.given ∧ GoodW l.waits) ∧ l.given.length + l.waits.length + (j - 1) ≤ n) := ⟨hI.out.1, by have := hI.out.2; omega⟩
          go_wp2_with fail
          go_roundw
          case rel => exact ⟨j - 1, l, by omega, by go_num, HI4.out, by omega, hc4, hL4, bR4, hgr4⟩
          case measure => simp [intOf]; omega
      · have CD := l9Drop_any (w.heap.size + 2) (w.heap.size + 1) l (1 + t) w3 hL3 (by omega) ⟨by omega, by omega⟩
        have HGD : Hid (_) := drop_good hI.out.1.1 hI.out.1.2 (1 + t)
        go_wp2_with fail
        refine CD.mono ?_
        clear CD
        rintro e w7 ⟨l', a', c', rfl, hl', hst, _, _⟩
        have hlow : Below w.heap.size w3 w7 := hst.low hL3 (by omega) (by omega)
        have hc7 := hc3.low hlow (by omega)
        have bR7 := hst.box bR3 (by omega) (fun hm => by have := (hL3.own.lt hm).1; omega)
        have hgr7 := grown_low hgr3 hlow
        have hz7 := hst.size
        have HI7 : Hid ((GoodG l'.given ∧ GoodW l'.waits) ∧ l'.given.length + l'.waits.length + (j - 1) ≤ n) := by
          rw [Hid, hl'.out.1, hl'.out.2]
          have h2 := hI.out.2
          obtain ⟨h3, h4, h5, _⟩ := HGD.out
          exact ⟨⟨h3, h4⟩, by omega⟩
        have hL7 := hst.now
        clear hst hL3 bR3 hgr3 hc3 hlow HGD hl'
        go_wp2_with fail
        go_roundw
        case rel => exact ⟨j - 1, l', by omega, by go_num, HI7.out, by omega, hc7, hL7, bR7, hgr7⟩
        case measure => simp [intOf]; omega
    · have hjI : ¬ (0 : Int) < (j : Int) := by omega
      have x0 := hL.box.cell 0 _ rfl
      have x1 := hL.box.cell 1 _ rfl
      have y0 := bR.cell 0 _ rfl
      have y1 := bR.cell 1 _ rfl
      have f0 := bR.frozen 0
      have f1 := bR.frozen 1
      have bF := (bR.set 0 (.slice l.aG l.given.length l.cG)).set 1 (.slice l.aW l.waits.length l.cW)
      simp only [List.set] at bF
      have hwF : Within w.heap.size (w.heap.size + 1) wr _ := (within_set wr w.heap.size 0 (.slice l.aG l.given.length l.cG) (by omega)).trans (within_set _ w.heap.size 1 (.slice l.aW l.waits.length l.cW) (by omega))
      obtain ⟨WF, hWF⟩ : ∃ WF, Hid ((wr.setCell ⟨w.heap.size, 0, none⟩ (.slice l.aG l.given.length l.cG)).setCell ⟨w.heap.size, 1, none⟩ (.slice l.aW l.waits.length l.cW) = WF) := ⟨_, rfl⟩
      rw [hWF.out] at bF hwF
      have HF : Hid (l.own WF w.heap.size WF.heap.size ∧ CurAt WF C zs ∧ w.grownBy WF (some C)) := by
        have hlow : Below w.heap.size wr WF := hwF.below (Nat.le_refl _) (by omega)
        exact ⟨((hL.own.within hwF (.inr (by omega))).widen (by omega) hwF.size (Nat.le_refl _)), hc.low hlow (by omega), grown_low hgr hlow⟩
      have HI2 : Hid (_) := hI.out
      clear hwF hL hc hgr hI bR
      go_wp2_with fail
      rw [hWF.out]
      refine bodyPost_ret (v := .agg #[.slice l.aG l.given.length l.cG, .slice l.aW l.waits.length l.cW]) (by simp [results, Tryd.results47, go_sem, bF.cell 0 _ rfl, bF.cell 1 _ rfl]) rfl ⟨l, rfl, HF.out.1, HI2.out.1, by have := HI2.out.2; omega, HF.out.2.1, HF.out.2.2⟩
end Go.Proofs.YtekljhabjkmhpaaDoor

/- The walk of spec.LocksOk. -/
namespace Go.Proofs.YtekljhabjkmhpaaDoor
open Go.RowKit

set_option maxHeartbeats 2000000 in
set_option maxRecDepth 100000 in
theorem specLocksOk_any (l : LocksA) (w : World) (hr : l.reads w) (hl : l.short 1099511627776) :
    Calls Tryd.prog 27 #[.agg #[.slice l.aG l.given.length l.cG, .slice l.aW l.waits.length l.cW]] w fun e w' => e = .returned (.bool (okLocks l.given l.waits)) ∧ Below w.heap.size w w' := by
  obtain ⟨G, V, aG, cG, aW, cW⟩ := l
  obtain ⟨hG, hV, _, _, _, _⟩ := hr
  obtain ⟨hlG, hlV⟩ := hl
  simp only at *
  have HLG : Hid (¬ G.length ≤ 60 → okLocks G V = false) := okLocks_g
  have HLV : Hid (¬ V.length ≤ 60 → okLocks G V = false) := okLocks_w
  have HG : Hid (∀ k, k < G.length → givenAt G k = false → okLocks G V = false) := fun k => okLocks_given k
  have HV : Hid (∀ k, k < V.length → waitAt V k = false → okLocks G V = false) := fun k => okLocks_wait k
  have HY : Hid (G.length ≤ 60 → V.length ≤ 60 → (∀ k, k < G.length → givenAt G k = true) → (∀ k, k < V.length → waitAt V k = true) → okLocks G V = true) := okLocks_yes
  generalize okLocks G V = R at *
  obtain ⟨W, hW, b0, hbW, hsW⟩ := boxes1 w [.slice aG G.length cG, .slice aW V.length cW] 30
  have hb0 := b0.lt
  have HB : Hid (∀ w', Below W.heap.size W w' → Below w.heap.size w w') := fun w' h => hbW.trans (h.mono hbW.size)
  have hGW := hG.below hbW
  have hVW := hV.below hbW
  have c0 := b0.cell 0 _ rfl
  have c1 := b0.cell 1 _ rfl
  clear hG hV hsW
  have HCG : Hid (∀ w', Below W.heap.size W w' → ∀ k, k < G.length → ∃ b off, aG = some ⟨b, off, none⟩ ∧ w'.cell? ⟨b, off + k * 3, none⟩ = some (.int .i64 (G.getD k zeroG).tx) ∧ w'.cell? ⟨b, off + k * 3 + 1, none⟩ = some (.int .i64 (G.getD k zeroG).res) ∧ w'.cell? ⟨b, off + k * 3 + 2, none⟩ = some (.int .i64 (G.getD k zeroG).mode)) := fun w' h k hk => by
    obtain ⟨b, off, ha, hc⟩ := (hGW.below h) (by intro e; rw [e] at hk; simp at hk)
    exact ⟨b, off, ha, hc k hk⟩
  have HCV : Hid (∀ w', Below W.heap.size W w' → ∀ k, k < V.length → ∃ b off, aW = some ⟨b, off, none⟩ ∧ w'.cell? ⟨b, off + k * 3, none⟩ = some (.int .i64 (V.getD k zeroG).tx) ∧ w'.cell? ⟨b, off + k * 3 + 1, none⟩ = some (.int .i64 (V.getD k zeroG).res) ∧ w'.cell? ⟨b, off + k * 3 + 2, none⟩ = some (.int .i64 (V.getD k zeroG).mode)) := fun w' h k hk => by
    obtain ⟨b, off, ha, hc⟩ := (hVW.below h) (by intro e; rw [e] at hk; simp at hk)
    exact ⟨b, off, ha, hc k hk⟩
  clear hGW hVW hbW
  by_cases h1 : G.length ≤ 60
  case neg =>
    have HR : Hid (R = false) := HLG.out h1
    clear HLG HLV HG HV HY
    have HX := HB.out W (Below.refl _ _)
    go_enter Tryd.func27, Tryd.ntmps27
    go_wp2
    go_ret
    rw [hW.out]
    exact ⟨ret_bool HR.out.symm, HX⟩
  by_cases h2 : V.length ≤ 60
  case neg =>
    have HR : Hid (R = false) := HLV.out h2
    clear HLG HLV HG HV HY
    have HX := HB.out W (Below.refl _ _)
    go_enter Tryd.func27, Tryd.ntmps27
    go_wp2
    go_ret
    rw [hW.out]
    exact ⟨ret_bool HR.out.symm, HX⟩
  go_enter Tryd.func27, Tryd.ntmps27
  go_wp2
  rw [hW.out]
  clear hW HLG HLV
  go_loopw [3] (fun i wr => ∃ k : Nat, k ≤ G.length ∧ i = .int .i64 k ∧ Hid (∀ j, j < k → givenAt G j = true) ∧ Below W.heap.size W wr) (fun i _ => G.length - (intOf i).toNat)
  case atStart => exact ⟨0, Nat.zero_le _, rfl, fun j hj => by omega, Below.refl _ _⟩
  case round =>
    obtain ⟨k, hk, rfl, hall, hbl⟩ := hrel
    have x0 := (hbl.cell (p := ⟨w.heap.size, 0, none⟩) hb0).trans c0
    have x1 := (hbl.cell (p := ⟨w.heap.size, 1, none⟩) hb0).trans c1
    have hlw : w.heap.size < wr.heap.size := Nat.lt_of_lt_of_le hb0 hbl.size
    by_cases hlt : k < G.length
    · obtain ⟨b, off, rfl, d0, d1, d2⟩ := HCG.out wr hbl k hlt
      have HF : Hid (grantB (G.getD k zeroG) = false → R = false) := fun h => HG.out k hlt (by simp only [givenAt, h, Bool.false_and])
      have HF2 : Hid ((G.take k).any (clashB (G.getD k zeroG)) = true → R = false) := fun h => HG.out k hlt (by simp only [givenAt, h, Bool.not_true, Bool.and_false])
      have HN : Hid (grantB (G.getD k zeroG) = true → (G.take k).any (clashB (G.getD k zeroG)) = false → ∀ j, j < k + 1 → givenAt G j = true) := fun h h' j hj => by
        by_cases e : j < k
        · exact hall.out j e
        · obtain rfl : j = k := by omega
          simp only [givenAt, h, h', Bool.not_false, Bool.and_self]
      clear hall HG HV HY HCV
      generalize G.getD k zeroG = z at *
      obtain ⟨V1, hV1, bz, hbV1, hsV1⟩ := boxes1 wr [.int .i64 z.tx, .int .i64 z.res, .int .i64 z.mode] 37
      have hB1 : Below W.heap.size W V1 := hbl.trans (hbV1.mono hbl.size)
      have C := l9Grant_any z V1
      have hzl := bz.lt
      clear hsV1 hbV1 c0 c1
      go_wp2_with fail
      rw [hV1.out]
      refine C.mono ?_
      clear C hV1
      generalize grantB z = gz at *
      rintro e w1 ⟨rfl, hb1⟩
      have hB2 : Below W.heap.size W w1 := hB1.trans (hb1.mono hB1.size)
      have bz1 := bz.below hb1 hzl
      have hL1 := bz1.lt
      have y0 := (Box.below b0 hB2 hb0).cell 0 _ rfl
      clear hb1 hB1 hbl d0 d1 d2 x0 x1 bz hzl
      cases gz
      · have HR : Hid (R = false) := HF.out rfl
        have HX := HB.out _ hB2
        go_wp2
        go_ret
        exact ⟨ret_bool HR.out.symm, HX⟩
      · clear HF
        have hsz : w.heap.size < wr.heap.size := hlw
        clear hlw
        generalize wr = wo at *
        go_wp2_with fail
        go_loopw [5] (fun i wq => ∃ j : Nat, j ≤ k ∧ i = .int .i64 j ∧ Hid ((G.take j).any (clashB z) = false) ∧ Below w1.heap.size w1 wq) (fun i _ => k - (intOf i).toNat)
        case atStart => exact ⟨0, Nat.zero_le _, rfl, rfl, Below.refl _ _⟩
        case round =>
          obtain ⟨j, hj, rfl, hany, hbq⟩ := hrel
          have hBq : Below W.heap.size W wr := hB2.trans (hbq.mono hB2.size)
          have bzq := bz1.below hbq hL1
          by_cases hjk : j < k
          · obtain ⟨b', off', hh, d0, d1, d2⟩ := HCG.out wr hBq j (by omega)
            cases hh
            have HH : Hid (clashB z (G.getD j zeroG) = true → R = false) := fun h => HF2.out (any_hit (k := j) (z := zeroG) (by rw [List.length_take]; omega) (by
              have e : (G.take k).getD j zeroG = G.getD j zeroG := by simp [List.getD, hjk]
              rw [e]; exact h))
            have HN2 : Hid (clashB z (G.getD j zeroG) = false → (G.take (j + 1)).any (clashB z) = false) := any_step (by omega) hany
            have HCB : Hid (∀ h, clashB z h = (h.res == z.res && (h.tx == z.tx || !goesB h.mode z.mode))) := fun _ => rfl
            clear hany HF2 HN HCG
            generalize G.getD j zeroG = h at *
            obtain ⟨e0, e1, e2, _⟩ := bzq.three
            have y0q := (Box.below b0 hBq hb0).cell 0 _ rfl
            have hzq := bzq.lt
            have hlq : w.heap.size < wr.heap.size := (Box.below b0 hBq hb0).lt
            obtain ⟨V2, hV2, bh, hbV2, hsV2⟩ := boxes1 wr [.int .i64 h.tx, .int .i64 h.res, .int .i64 h.mode] 37
            have hB3 : Below W.heap.size W V2 := hBq.trans (hbV2.mono hBq.size)
            have hB4 : Below w1.heap.size w1 V2 := hbq.trans (hbV2.mono hbq.size)
            have C := specGoes_any h.mode z.mode V2
            have HV2 : Hid (_ = V2) := hV2
            clear bh hsV2 hbV2 bz1 bzq y0 hL1
            by_cases q1 : h.res = z.res
            case neg =>
              have HR : Hid _ := HN2.out (by rw [HCB.out]; simp [q1])
              have HS : Hid (_ ∧ _) := ⟨hB3, hB4⟩
              clear hB3 hB4 C
              go_wp2_with fail
              rw [hV2.out]
              go_roundw
              case rel => exact ⟨j + 1, by omega, by go_num, HR.out, HS.out.2⟩
              case measure => simp [intOf]; omega
            by_cases q2 : h.tx = z.tx
            · have HR : Hid (R = false) := HH.out (by rw [HCB.out]; simp [q1, q2])
              have HX := HB.out _ hB3
              clear hB3 hB4 C
              obtain ⟨tx, res, mode⟩ := h
              simp only at q1 q2
              subst q1 q2
              go_wp2_with fail
              go_ret
              rw [HV2.out]
              exact ⟨ret_bool HR.out.symm, HX⟩
            · have HC1 : Hid (goesB h.mode z.mode = false → R = false) := fun hh => HH.out (by rw [HCB.out]; simp [q1, hh])
              have HC2 : Hid (goesB h.mode z.mode = true → (G.take (j + 1)).any (clashB z) = false) := fun hh => HN2.out (by rw [HCB.out]; simp [q2, hh])
              have HX := HB.out _ hB3
              have HS : Hid (_ ∧ _) := ⟨hB3, hB4⟩
              clear hB3 hB4
              generalize goesB h.mode z.mode = gg at *
              obtain ⟨tx, res, mode⟩ := h
              simp only at q1 q2
              subst q1
              go_wp2_with fail
              rw [hV2.out]
              refine C.mono ?_
              rintro e w' ⟨rfl, rfl⟩
              cases gg
              · have HR : Hid (R = false) := HC1.out rfl
                go_wp2_with fail
                go_ret
                exact ⟨ret_bool HR.out.symm, HX⟩
              · have HR : Hid _ := HC2.out rfl
                go_wp2_with fail
                go_roundw
                case rel => exact ⟨j + 1, by omega, by go_num, HR.out, HS.out.2⟩
                case measure => simp [intOf]; omega
          · have HK : Hid _ := HN.out trivial (by
              obtain rfl : j = k := by omega
              exact hany.out)
            clear HN HF2 hany bz1 bzq
            go_wp2_with fail
            go_roundw
            case rel => exact ⟨k + 1, by omega, by go_num, HK.out, hBq⟩
            case measure => simp [intOf]; omega
    · have HGA : Hid (∀ j, j < G.length → givenAt G j = true) := fun j hj => hall.out j (by omega)
      have hbL := hbl
      clear hall HG HCG
      generalize wr = wo at *
      go_wp2_with fail
      go_loopw [7] (fun i wr => ∃ k : Nat, k ≤ V.length ∧ i = .int .i64 k ∧ Hid (∀ j, j < k → waitAt V j = true) ∧ Below W.heap.size W wr) (fun i _ => V.length - (intOf i).toNat)
      case atStart => exact ⟨0, Nat.zero_le _, rfl, fun j hj => by omega, hbL⟩
      case round =>
        clear hbl x0 x1 hbL hlw
        obtain ⟨k, hk, rfl, hall, hbl⟩ := hrel
        have x0 := (hbl.cell (p := ⟨w.heap.size, 0, none⟩) hb0).trans c0
        have x1 := (hbl.cell (p := ⟨w.heap.size, 1, none⟩) hb0).trans c1
        by_cases hlt : k < V.length
        · obtain ⟨b, off, rfl, d0, d1, d2⟩ := HCV.out wr hbl k hlt
          have HF : Hid (grantB (V.getD k zeroG) = false → R = false) := fun h => HV.out k hlt (by simp only [waitAt, h, Bool.false_and])
          have HF2 : Hid ((V.take k).any (fun h => h.tx == (V.getD k zeroG).tx) = true → R = false) := fun h => HV.out k hlt (by simp only [waitAt, h, Bool.not_true, Bool.and_false])
          have HN : Hid (grantB (V.getD k zeroG) = true → (V.take k).any (fun h => h.tx == (V.getD k zeroG).tx) = false → ∀ j, j < k + 1 → waitAt V j = true) := fun h h' j hj => by
            by_cases e : j < k
            · exact hall.out j e
            · obtain rfl : j = k := by omega
              simp only [waitAt, h, h', Bool.not_false, Bool.and_self]
          have HZ : Hid (∀ w', Below W.heap.size W w' → w'.cell? ⟨b, off + k * 3, none⟩ = some (.int .i64 (V.getD k zeroG).tx)) := fun w' h => by
            obtain ⟨b', off', e, h0, _⟩ := HCV.out w' h k hlt
            cases e
            exact h0
          clear hall HV HY HGA
          generalize V.getD k zeroG = z at *
          have C := l9Grant_any z wr
          go_wp2_with fail
          refine C.mono ?_
          clear C
          generalize grantB z = gz at *
          rintro e w1 ⟨rfl, hb1⟩
          have hB2 : Below W.heap.size W w1 := hbl.trans (hb1.mono hbl.size)
          clear hb1 hbl d0 d1 d2 x0 x1
          cases gz
          · have HR : Hid (R = false) := HF.out rfl
            have HX := HB.out _ hB2
            go_wp2
            go_ret
            exact ⟨ret_bool HR.out.symm, HX⟩
          · clear HF
            generalize wr = wp at *
            go_wp2_with fail
            go_loopw [8] (fun i wq => ∃ j : Nat, j ≤ k ∧ i = .int .i64 j ∧ Hid ((V.take j).any (fun h => h.tx == z.tx) = false) ∧ Below W.heap.size W wq) (fun i _ => k - (intOf i).toNat)
            case atStart => exact ⟨0, Nat.zero_le _, rfl, rfl, hB2⟩
            case round =>
              obtain ⟨j, hj, rfl, hany, hBq⟩ := hrel
              have x1 := (hBq.cell (p := ⟨w.heap.size, 1, none⟩) hb0).trans c1
              by_cases hjk : j < k
              · obtain ⟨b', off', hh, d0, d1, d2⟩ := HCV.out wr hBq j (by omega)
                cases hh
                have d3 := HZ.out wr hBq
                have HH : Hid (((V.getD j zeroG).tx == z.tx) = true → R = false) := fun h => HF2.out (any_hit (p := fun h : GrantV => h.tx == z.tx) (k := j) (z := zeroG) (by rw [List.length_take]; omega) (by
                  have e : (V.take k).getD j zeroG = V.getD j zeroG := by simp [List.getD, hjk]
                  rw [e]; exact h))
                have HN2 : Hid (((V.getD j zeroG).tx == z.tx) = false → (V.take (j + 1)).any (fun h => h.tx == z.tx) = false) := any_step (p := fun h : GrantV => h.tx == z.tx) (by omega) hany
                clear hany HF2 HN HCV HZ d1 d2
                generalize V.getD j zeroG = h at *
                have HX := HB.out _ hBq.drew
                have HS : Hid (Below _ _ _) := hBq
                clear hBq hB2 c1
                by_cases q1 : h.tx = z.tx
                · have HR : Hid (R = false) := HH.out (by simp [q1])
                  go_wp2_with fail
                  go_quiet (fail)
                  go_wp2_with fail
                  go_ret
                  exact ⟨ret_bool HR.out.symm, below_drewN (HB.out _ HS.out) _⟩
                · have HR : Hid _ := HN2.out (by simp [q1])
                  go_wp2_with fail
                  go_quiet (fail)
                  go_wp2_with fail
                  go_roundw
                  case rel => exact ⟨j + 1, by omega, by go_num, HR.out, below_drewN HS.out _⟩
                  case measure => simp [intOf]; omega
              · have HK : Hid _ := HN.out trivial (by
                  obtain rfl : j = k := by omega
                  exact hany.out)
                clear HN HF2 hany
                go_wp2_with fail
                go_roundw
                case rel => exact ⟨k + 1, by omega, by go_num, HK.out, hBq⟩
                case measure => simp [intOf]; omega
        · have HR : Hid (R = true) := HY.out h1 h2 HGA.out (fun j hj => hall.out j (by omega))
          have HX := HB.out _ hbl
          go_wp2_with fail
          go_ret
          exact ⟨ret_bool HR.out.symm, HX⟩
end Go.Proofs.YtekljhabjkmhpaaDoor

/- The walks of spec.DropAll and spec.DrawLocks. -/
namespace Go.Proofs.YtekljhabjkmhpaaDoor
open Go.RowKit

theorem lkAt_new {w : World} {lo : Nat} {l : LocksA} (h : l.own w lo w.heap.size) : LkAt (w.alloc (.cells #[.slice l.aG l.given.length l.cG, .slice l.aW l.waits.length l.cW] 30)) lo w.heap.size l := by
  have hb : Below w.heap.size w (w.alloc (.cells #[.slice l.aG l.given.length l.cG, .slice l.aW l.waits.length l.cW] 30)) := (Below.refl _ _).alloc (Nat.le_refl _) _
  exact ⟨box_new w _ _, (h.below hb).widen (Nat.le_refl _) hb.size (Nat.le_refl _), fun hm => by have := (h.lt hm).2; omega⟩

end Go.Proofs.YtekljhabjkmhpaaDoor

/- What an ask of locks answers. -/
namespace Go.Proofs.YtekljhabjkmhpaaDoor
open Go.RowKit

/-- An ask that is refused. -/
def refB (G V : List GrantV) (g : GrantV) : Bool := !okLocks G V || !grantB g || V.any (fun h => h.tx == g.tx)
def AskEnd (w : World) (A : List GrantV × List GrantV × Int) (e : Ending) (w' : World) : Prop := ∃ l' : LocksA, e = .returned (.tuple #[.agg #[.slice l'.aG l'.given.length l'.cG, .slice l'.aW l'.waits.length l'.cW], .int .i64 A.2.2]) ∧ l'.given = A.1 ∧ l'.waits = A.2.1 ∧ l'.own w' w.heap.size w'.heap.size ∧ Below w.heap.size w w'
end Go.Proofs.YtekljhabjkmhpaaDoor
