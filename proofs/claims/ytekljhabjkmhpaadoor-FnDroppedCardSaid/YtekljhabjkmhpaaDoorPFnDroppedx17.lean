/- Several texts in one, in their order. -/
import Derived.Test.YtekljhabjkmhpaaDoorPFnDroppedx16
import Derived.Test.YtekljhabjkmhpaaDoorPFnDroppedx9
import Derived.Test.YtekljhabjkmhpaaDoorPFnDroppedx12
import Derived.Deep.RegionHeld3
import Derived.Test.YtekljhabjkmhpaaDoorPFnDroppedx8
import Derived.Deep.QuietTactic
/- Drawn locks: the walks of spec.l1Once, l1Size, l9Draw, DrawLocks. -/
namespace Go.Proofs.YtekljhabjkmhpaaDoor
open Go.RowKit

theorem l1OnceK_any (B : Nat) (zs : List Int) (n : Int) (w : World) (hc : CurAt w B zs) (hl : zs.length ≤ 70368744177664) (hn : n ≤ 1000000000) :
    Calls Tryd.prog 68 #[.pointer (some ⟨B, 0, none⟩), .int .i64 n] w fun e w' => ∃ b : Bool, e = .returned (.bool b) ∧ CurAt w' B zs ∧ w.grownBy w' (some B) := by
  go_enter Tryd.func68, Tryd.ntmps68
  go_wp2_with fail
  refine (l1Below_any B zs n w hc hl hn).mono ?_
  rintro e w1 ⟨x, rfl, _, hc1, hg1⟩
  go_wp2
  go_ret
  exact ⟨_, rfl, hc1, hg1⟩
theorem l1SizeK_any (a : Option Addr) (c : Nat) (zs : List Int) (m : Nat) (w : World) (hl : zs.length ≤ 70368744177664) (hm : 0 < m) :
    Calls Tryd.prog 35 #[.slice a zs.length c, .int .i64 m] w fun r w' => ∃ n : Nat, r = .returned (.int .i64 n) ∧ 0 < n ∧ n ≤ m ∧ w' = w := by
  by_cases h : 3 + (zs.length : Int) / 12 > (m : Int)
  · go_enter Tryd.func35, Tryd.ntmps35
    go_wp2
    go_ret
    exact ⟨m, rfl, hm, Nat.le_refl _, rfl⟩
  · go_enter Tryd.func35, Tryd.ntmps35
    go_wp2
    go_ret
    exact ⟨3 + zs.length / 12, ret_int (by omega), by omega, by omega, rfl⟩
theorem CurAt.low {w w' : World} {B n : Nat} {zs : List Int} (h : CurAt w B zs) (hb : Below n w w') (hn : B < n) : CurAt w' B zs := by
  have hB := h.lt
  obtain ⟨a, c, i, h, hh, hi, hr, hlt⟩ := h
  refine ⟨a, c, i, h, ?_, hi, ⟨hr.1, fun e => ?_⟩, hlt⟩
  · rw [hb.block B hn]; exact hh
  · obtain ⟨b, off, ha, hc⟩ := hr.2 e
    refine ⟨b, off, ha, fun j hj => ?_⟩
    have h1 := hlt e b off ha
    rw [World.cell?_of_block (w := w) (w' := w') (a := ⟨b, off + j, none⟩) (hb.block b (by omega))]
    exact hc j hj
/-- A cursor's step leaves them alone. -/
theorem LkAt.cur {w w' : World} {lo B C : Nat} {l : LocksA} (h : LkAt w lo B l) (hg : w.grownBy w' (some C)) (hC : C < lo) (hB : C ≠ B) : LkAt w' lo B l :=
  h.touch (bl := [C]) (Touch.of_grown hg (fun k hk => by cases hk; simp)) (fun hm => hB (List.mem_singleton.1 hm).symm) (fun k hk hm => by have := (h.own.lt hk).1; have := List.mem_singleton.1 hm; omega)
theorem Box.cur {w w' : World} {B C : Nat} {vs : List Value} {t : TypeId} (h : Box w B vs t) (hg : w.grownBy w' (some C)) (hB : C ≠ B) : Box w' B vs t := h.block (hg.block B h.lt (fun e => hB (by cases e; rfl)))
theorem grown_low {w0 w w' : World} {C : Nat} (h : w0.grownBy w (some C)) (hb : Below w0.heap.size w w') : w0.grownBy w' (some C) :=
  ⟨hb.os.trans h.os, hb.tape.trans h.tape, hb.output.trans h.output, Nat.le_trans h.size hb.size, fun k hk hn => (hb.block k hk).trans (h.block k hk hn)⟩

def LkDrawn (w w' : World) (C : Nat) (zs : List Int) (n : Nat) (r : Ending) : Prop := ∃ l : LocksA, r = .returned (.agg #[.slice l.aG l.given.length l.cG, .slice l.aW l.waits.length l.cW]) ∧ l.own w' w.heap.size w'.heap.size ∧ (GoodG l.given ∧ GoodW l.waits) ∧ l.given.length + l.waits.length ≤ n ∧ CurAt w' C zs ∧ w.grownBy w' (some C)

set_option maxHeartbeats 4000000 in
set_option maxRecDepth 100000 in
theorem l9Draw_any (C : Nat) (zs : List Int) (n : Nat) (w : World) (hc : CurAt w C zs) (hl : zs.length ≤ 70368744177664) (hn : 0 < n ∧ n ≤ 30) :
    Calls Tryd.prog 47 #[.pointer (some ⟨C, 0, none⟩), .int .i64 n] w fun e w' => LkDrawn w w' C zs n e := by
  have hCw := hc.lt
  obtain ⟨W, hW, b0, b1, hbW, hsW⟩ := boxes2 w [.slice none 0 0, .slice none 0 0] [.slice none 0 0, .slice none 0 0] 30 30
  have hcW := hc.below hbW
  have hs2 : w.heap.size + 2 ≤ W.heap.size := Nat.le_of_eq hsW.symm
  have hL0 : LkAt W (w.heap.size + 2) (w.heap.size + 1) ⟨[], [], none, 0, none, 0⟩ := ⟨b1, ⟨ownG_nil _ _ _ (Nat.le_refl _), ownG_nil _ _ _ (Nat.le_refl _), fun k hk => by cases hk⟩, by simp [LocksA.blocks, Value.ownBlock]⟩
  have hg0 : w.grownBy W (some C) := ⟨hbW.os, hbW.tape, hbW.output, hbW.size, fun k hk _ => hbW.block k hk⟩
  clear hsW b1 hbW hc
  go_enter Tryd.func47, Tryd.ntmps47
  go_wp2_with fail
  rw [hW.out]
  clear hW
  refine (l1Below_any C zs n W hcW hl (by omega)).mono ?_
  rintro e w1 ⟨x, rfl, hx, hc1, hg1⟩
  have hxn : x < n := by have := hx (by omega); omega
  have hL1 := hL0.cur hg1 (by omega) (by omega)
  have bR1 := b0.cur hg1 (by omega)
  have hgr1 := grownBy_trans hg0 hg1
  have hz1 := hg1.size
  clear hx hcW hL0 b0 hg0 hg1
  have HS0 : Hid (CurAt w1 C zs ∧ LkAt w1 (w.heap.size + 2) (w.heap.size + 1) ⟨[], [], none, 0, none, 0⟩ ∧ Box w1 w.heap.size [.slice none 0 0, .slice none 0 0] 30 ∧ w.grownBy w1 (some C)) := ⟨hc1, hL1, bR1, hgr1⟩
  clear hc1 hL1 bR1 hgr1
  go_wp2_with fail
  go_loopw [6] (fun i wr => ∃ (j : Nat) (l : LocksA), j ≤ x ∧ i = .int .i64 j ∧ Hid ((GoodG l.given ∧ GoodW l.waits) ∧ l.given.length + l.waits.length + j ≤ n) ∧ w.heap.size + 2 ≤ wr.heap.size ∧ CurAt wr C zs ∧ LkAt wr (w.heap.size + 2) (w.heap.size + 1) l ∧ Box wr w.heap.size [.slice none 0 0, .slice none 0 0] 30 ∧ w.grownBy wr (some C)) (fun i _ => (intOf i).toNat)
  case atStart => exact ⟨x, _, Nat.le_refl _, rfl, ⟨⟨goodG_nil, goodW_nil⟩, by simp; omega⟩, by omega, HS0.out⟩
  case round =>
    obtain ⟨j, l, hj, rfl, hI, hsz, hc, hL, bR, hgr⟩ := hrel
    clear HS0
    by_cases hj0 : 0 < j
    · have hjI : (0 : Int) < (j : Int) := by omega
      have hll : l.given.length + l.waits.length ≤ 30 := by have := hI.out.2; omega
      go_wp2_with fail
      refine (l1Below_any C zs 5 wr hc hl (by omega)).mono ?_
      rintro e w2 ⟨t, rfl, ht, hc2, hg2⟩
      have ht5 : t < 5 := by have := ht (by omega); omega
      have hL2 := hL.cur hg2 (by omega) (by omega)
      have bR2 := bR.cur hg2 (by omega)
      have hgr2 := grownBy_trans hgr hg2
      have hz2 := hg2.size
      clear hL bR hgr hg2 hc ht
      go_wp2_with fail
      refine (l1OnceK_any C zs 6 w2 hc2 hl (by omega)).mono ?_
      rintro e w3 ⟨bb, rfl, hc3, hg3⟩
      have hL3 := hL2.cur hg3 (by omega) (by omega)
      have bR3 := bR2.cur hg3 (by omega)
      have hgr3 := grownBy_trans hgr2 hg3
      have hz3 := hg3.size
      clear hL2 bR2 hgr2 hg3 hc2
      cases bb
      · have HTX : Hid (1 ≤ (1 : Int) + t ∧ (1 : Int) + t ≤ 99) := by rw [Hid]; omega
        have CW := l9Waits_any l.waits (.slice l.aG l.given.length l.cG) l.aW l.cW (1 + t) w3 hL3.own.waits.reads (by omega)
        have x0 := hL3.box.cell 0 _ rfl
        have x1 := hL3.box.cell 1 _ rfl
        go_wp2_with fail
        refine CW.mono ?_
        clear CW x0 x1
        rintro e w4 ⟨rfl, hb4⟩
        have hL4 := hL3.below hb4
        have hc4 := hc3.below hb4
        have bR4 := bR3.below hb4 bR3.lt
        have hgr4 : w.grownBy w4 (some C) := grown_low hgr3 (hb4.mono hgr3.size)
        have hz4 := hb4.size
        clear hL3 bR3 hgr3 hb4 hc3
        obtain ⟨am, HAM⟩ : ∃ am, Hid (l.waits.any (fun g => g.tx == 1 + (t : Int)) = am) := ⟨_, rfl⟩
        rw [HAM.out]
        cases am
        · go_wp2_with fail
          refine (l1Below_any C zs 3 w4 hc4 hl (by omega)).mono ?_
          rintro e w5 ⟨rs, rfl, hrs, hc5, hg5⟩
          have hL5 := hL4.cur hg5 (by omega) (by omega)
          have bR5 := bR4.cur hg5 (by omega)
          have hgr5 := grownBy_trans hgr4 hg5
          have hz5 := hg5.size
          have hr3 : rs < 3 := by have := hrs (by omega); omega
          clear hL4 bR4 hgr4 hg5 hc4 hrs
          go_wp2_with fail
          refine (l1Below_any C zs 4 w5 hc5 hl (by omega)).mono ?_
          rintro e w6 ⟨md, rfl, hmd, hc6, hg6⟩
          have hL6 := hL5.cur hg6 (by omega) (by omega)
          have bR6 := bR5.cur hg6 (by omega)
          have hgr6 := grownBy_trans hgr5 hg6
          have hz6 := hg6.size
          have hm4 : md < 4 := by have := hmd (by omega); omega
          clear hL5 bR5 hgr5 hg6 hc5 hmd
          have CA := l9Ask_any (w.heap.size + 2) (w.heap.size + 1) l ⟨1 + t, rs, 1 + md⟩ w6 hL6 (by omega) ⟨by omega, by omega⟩
          have HGD : Hid (_) := ask_good hI.out.1.1 hI.out.1.2 (g := ⟨1 + t, rs, 1 + md⟩) (by simp only [grantB, modeB, inB, Bool.and_eq_true, decide_eq_true_eq]; omega) HAM.out
          simp only at CA
          go_wp2_with fail
          refine CA.mono ?_
          clear CA
          rintro e w7 ⟨l', rfl, hl', hst⟩
          have hlow : Below w.heap.size w6 w7 := hst.low hL6 (by omega) (by omega)
          have hc7 := hc6.low hlow (by omega)
          have bR7 := hst.box bR6 (by omega) (fun hm => by have := (hL6.own.lt hm).1; omega)
          have hgr7 := grown_low hgr6 hlow
          have hz7 := hst.size
          have HI7 : Hid ((GoodG l'.given ∧ GoodW l'.waits) ∧ l'.given.length + l'.waits.length + (j - 1) ≤ n) := by
            rw [Hid, hl'.out.1, hl'.out.2]
            have h2 := hI.out.2
            obtain ⟨h3, h4, h5⟩ := HGD.out
            exact ⟨⟨h3, h4⟩, by omega⟩
          have hL7 := hst.now
          clear hst hL6 bR6 hgr6 hc6 hlow HGD hl'
          go_wp2_with fail
          go_roundw
          case rel => exact ⟨j - 1, l', by omega, by go_num, HI7.out, by omega, hc7, hL7, bR7, hgr7⟩
          case measure => simp [intOf]; omega
        · have HI4 : Hid ((GoodG l.given ∧ GoodW l.waits) ∧ l.given.length + l.waits.length + (j - 1) ≤ n) := ⟨hI.out.1, by have := hI.out.2; omega⟩
          go_wp2_with fail
          go_roundw
          case rel => exact ⟨j - 1, l, by omega, by go_num, HI4.out, by omega, hc4, hL4, bR4, hgr4⟩
          case measure => simp [intOf]; omega
      · have CD := l9Drop_any (w.heap.size + 2) (w.heap.size + 1) l (1 + t) w3 hL3 (by omega) ⟨by omega, by omega⟩
        have HGD : Hid (_) := drop_good hI.out.1.1 hI.out.1.2 (1 + t)
        go_wp2_with fail
        refine CD.mono ?_
        clear CD
        rintro e w7 ⟨l', a', c', rfl, hl', hst, _, _⟩
        have hlow : Below w.heap.size w3 w7 := hst.low hL3 (by omega) (by omega)
        have hc7 := hc3.low hlow (by omega)
        have bR7 := hst.box bR3 (by omega) (fun hm => by have := (hL3.own.lt hm).1; omega)
        have hgr7 := grown_low hgr3 hlow
        have hz7 := hst.size
        have HI7 : Hid ((GoodG l'.given ∧ GoodW l'.waits) ∧ l'.given.length + l'.waits.length + (j - 1) ≤ n) := by
          rw [Hid, hl'.out.1, hl'.out.2]
          have h2 := hI.out.2
          obtain ⟨h3, h4, h5, _⟩ := HGD.out
          exact ⟨⟨h3, h4⟩, by omega⟩
        have hL7 := hst.now
        clear hst hL3 bR3 hgr3 hc3 hlow HGD hl'
        go_wp2_with fail
        go_roundw
        case rel => exact ⟨j - 1, l', by omega, by go_num, HI7.out, by omega, hc7, hL7, bR7, hgr7⟩
        case measure => simp [intOf]; omega
    · have hjI : ¬ (0 : Int) < (j : Int) := by omega
      have x0 := hL.box.cell 0 _ rfl
      have x1 := hL.box.cell 1 _ rfl
      have y0 := bR.cell 0 _ rfl
      have y1 := bR.cell 1 _ rfl
      have f0 := bR.frozen 0
      have f1 := bR.frozen 1
      have bF := (bR.set 0 (.slice l.aG l.given.length l.cG)).set 1 (.slice l.aW l.waits.length l.cW)
      simp only [List.set] at bF
      have hwF : Within w.heap.size (w.heap.size + 1) wr _ := (within_set wr w.heap.size 0 (.slice l.aG l.given.length l.cG) (by omega)).trans (within_set _ w.heap.size 1 (.slice l.aW l.waits.length l.cW) (by omega))
      obtain ⟨WF, hWF⟩ : ∃ WF, Hid ((wr.setCell ⟨w.heap.size, 0, none⟩ (.slice l.aG l.given.length l.cG)).setCell ⟨w.heap.size, 1, none⟩ (.slice l.aW l.waits.length l.cW) = WF) := ⟨_, rfl⟩
      rw [hWF.out] at bF hwF
      have HF : Hid (l.own WF w.heap.size WF.heap.size ∧ CurAt WF C zs ∧ w.grownBy WF (some C)) := by
        have hlow : Below w.heap.size wr WF := hwF.below (Nat.le_refl _) (by omega)
        exact ⟨((hL.own.within hwF (.inr (by omega))).widen (by omega) hwF.size (Nat.le_refl _)), hc.low hlow (by omega), grown_low hgr hlow⟩
      have HI2 : Hid (_) := hI.out
      clear hwF hL hc hgr hI bR
      go_wp2_with fail
      rw [hWF.out]
      refine bodyPost_ret (v := .agg #[.slice l.aG l.given.length l.cG, .slice l.aW l.waits.length l.cW]) (by simp [results, Tryd.results47, go_sem, bF.cell 0 _ rfl, bF.cell 1 _ rfl]) rfl ⟨l, rfl, HF.out.1, HI2.out.1, by have := HI2.out.2; omega, HF.out.2.1, HF.out.2.2⟩
end Go.Proofs.YtekljhabjkmhpaaDoor

/- The walk of spec.l9Copy. -/
namespace Go.Proofs.YtekljhabjkmhpaaDoor
open Go.RowKit

/-- Two rows that the call owns, apart. -/
structure TwoG (u : World) (lo : Nat) (a : Option Addr) (c : Nat) (L : List GrantV) (b : Option Addr) (d : Nat) (M : List GrantV) : Prop where
  one : OwnG u lo u.heap.size a c L
  two : OwnG u lo u.heap.size b d M
  apart : ∀ k, (Value.slice a L.length c).ownBlock = some k → (Value.slice b M.length d).ownBlock ≠ some k
theorem TwoG.swap {u : World} {lo : Nat} {a : Option Addr} {c : Nat} {L : List GrantV} {b : Option Addr} {d : Nat} {M : List GrantV} (h : TwoG u lo a c L b d M) : TwoG u lo b d M a c L := ⟨h.two, h.one, fun k hk e => h.apart k e hk⟩
theorem OwnG.top {u : World} {lo hi : Nat} {a : Option Addr} {c : Nat} {L : List GrantV} (h : OwnG u lo hi a c L) : OwnG u lo u.heap.size a c L := h.widen (Nat.le_refl _) h.2.1 (Nat.le_refl _)
theorem two_new {u : World} {lo hi : Nat} {a : Option Addr} {c : Nat} {L : List GrantV} (h : OwnG u lo hi a c L) (hlo : lo ≤ u.heap.size) : TwoG (u.alloc (.cells #[] 37)) lo a c L (some ⟨u.heap.size, 0, none⟩) 0 [] :=
  ⟨(h.below ((Below.refl _ _).alloc (Nat.le_refl _) _)).top, ((ownG_lit0 u).widen hlo (by simp) (Nat.le_refl _)).top, fun k hk e => by
    have h1 := (h.lt k hk).2
    have h2 := h.2.1
    have h3 : u.heap.size = k := by simpa [Value.ownBlock] using e
    omega⟩
theorem TwoG.app {u u' : World} {lo : Nat} {a : Option Addr} {c : Nat} {L : List GrantV} {b : Option Addr} {d : Nat} {M : List GrantV} (h : TwoG u lo a c L b d M) {a' : Option Addr} {c' : Nat} {ys : List GrantV} (ho : OwnG u' lo u'.heap.size a' c' ys) (hg : u.grownBy u' (Value.slice a L.length c).ownBlock)
    (hk : ∀ k, (Value.slice a' ys.length c').ownBlock = some k → (Value.slice a L.length c).ownBlock = some k ∨ k = u.heap.size) : TwoG u' lo a' c' ys b d M := by
  have h2 : OwnG u' lo u.heap.size b d M := ⟨ownsRow_block h.two.1 (fun k hk' => hg.block k (h.two.1.lt k hk').2 (fun e => h.apart k e.symm hk')), hg.size, h.two.2.2⟩
  refine ⟨ho, h2.top, fun k hk' e => ?_⟩
  rcases hk k hk' with q | q
  · exact h.apart k q e
  · have := (h.two.lt k e).2; omega

set_option maxHeartbeats 4000000 in
set_option maxRecDepth 100000 in
theorem l9Copy_any (l : LocksA) (w : World) (hr : l.reads w) (hl : l.short 1000) :
    Calls Tryd.prog 41 #[.agg #[.slice l.aG l.given.length l.cG, .slice l.aW l.waits.length l.cW]] w fun e w' => ∃ a1 c1 a2 c2, e = .returned (.agg #[.slice a1 l.given.length c1, .slice a2 l.waits.length c2]) ∧ LocksA.own w' w.heap.size w'.heap.size ⟨l.given, l.waits, a1, c1, a2, c2⟩ ∧ Below w.heap.size w w' := by
  obtain ⟨G, V, aG, cG, aW, cW⟩ := l
  obtain ⟨hG, hV, hnG, hnV, _, _⟩ := hr
  obtain ⟨hlG, hlV⟩ := hl
  simp only at *
  obtain ⟨W, hW, b0, b1, hbW, hsW⟩ := boxes2 w [.slice aG G.length cG, .slice aW V.length cW] [.slice none 0 0, .slice none 0 0] 30 30
  have hs0 := b0.lt
  have hs1 := b1.lt
  have HK : Hid (∀ u, Below W.heap.size W u → u.cell? ⟨w.heap.size, 0, none⟩ = some (.slice aG G.length cG) ∧ u.cell? ⟨w.heap.size, 1, none⟩ = some (.slice aW V.length cW)) := fun u hu => ⟨(b0.below hu hs0).cell 0 _ rfl, (b0.below hu hs0).cell 1 _ rfl⟩
  have HRG : Hid (∀ u, Below W.heap.size W u → ReadsG u aG G ∧ ReadsG u aW V) := fun u hu => ⟨(hG.below hbW).below hu, (hV.below hbW).below hu⟩
  have HBR : Hid (∀ u, Below W.heap.size W u → Box u (w.heap.size + 1) [.slice none 0 0, .slice none 0 0] 30) := fun u hu => b1.below hu hs1
  have HBW : Hid (∀ u, Below W.heap.size W u → Below w.heap.size w u) := fun u hu => hbW.trans (hu.mono hbW.size)
  have hs2 : w.heap.size + 2 ≤ W.heap.size := Nat.le_of_eq hsW.symm
  have HNG : Hid (_) := hnG
  have HNV : Hid (_) := hnV
  clear b0 b1 hbW hsW hG hV hnG hnV
  have FIN : Hid (∀ (u : World) (a1 : Option Addr) (c1 : Nat) (a2 : Option Addr) (c2 : Nat), Below W.heap.size W u → TwoG u W.heap.size a1 c1 G a2 c2 V → LocksA.own ((u.setCell ⟨w.heap.size + 1, 0, none⟩ (.slice a1 G.length c1)).setCell ⟨w.heap.size + 1, 1, none⟩ (.slice a2 V.length c2)) w.heap.size ((u.setCell ⟨w.heap.size + 1, 0, none⟩ (.slice a1 G.length c1)).setCell ⟨w.heap.size + 1, 1, none⟩ (.slice a2 V.length c2)).heap.size ⟨G, V, a1, c1, a2, c2⟩ ∧ Below w.heap.size w ((u.setCell ⟨w.heap.size + 1, 0, none⟩ (.slice a1 G.length c1)).setCell ⟨w.heap.size + 1, 1, none⟩ (.slice a2 V.length c2)) ∧ Box ((u.setCell ⟨w.heap.size + 1, 0, none⟩ (.slice a1 G.length c1)).setCell ⟨w.heap.size + 1, 1, none⟩ (.slice a2 V.length c2)) (w.heap.size + 1) [.slice a1 G.length c1, .slice a2 V.length c2] 30) := fun u a1 c1 a2 c2 hu h2 => by
    have hbx := HBR.out u hu
    have hwF : Within (w.heap.size + 1) (w.heap.size + 2) u _ := (within_set u (w.heap.size + 1) 0 (.slice a1 G.length c1) (by omega)).trans (within_set _ (w.heap.size + 1) 1 (.slice a2 V.length c2) (by omega))
    have hbF := (hbx.set 0 (.slice a1 G.length c1)).set 1 (.slice a2 V.length c2)
    simp only [List.set] at hbF
    have hu0 := HBW.out u hu
    have hsu := hu.size
    exact ⟨⟨((h2.one.within hwF (.inr (by omega))).top).widen (by omega) (Nat.le_refl _) (Nat.le_refl _), ((h2.two.within hwF (.inr (by omega))).top).widen (by omega) (Nat.le_refl _) (Nat.le_refl _), h2.apart⟩, hu0.trans (hwF.below (by omega) (by omega)), hbF⟩
  go_enter Tryd.func41, Tryd.ntmps41
  go_upto_region 1 with fail
  rw [hW.out]
  clear hW
  have D0 : Below W.heap.size W W.drew := (Below.refl _ _).drew
  have hz0 : W.heap.size ≤ W.drew.heap.size := Nat.le_refl _
  refine wp_region_held_drew (S := fun u => u.cell? ⟨w.heap.size, 0, none⟩ = some (.slice aG G.length cG) ∧ u.cell? ⟨w.heap.size, 1, none⟩ = some (.slice aW V.length cW)) (by kernel_rfl) (HK.out _ D0) (fun hHeld => ?_)
  generalize W.drew = d0 at *
  refine wpAnyH_take (i := 1) (v := .pointer (some ⟨w.heap.size, 0, none⟩)) rfl (by kernel_rfl) (by kernel_rfl) (by kernel_rfl) (fun _ _ _ h => h) (Or.inl ⟨by rfl, ?_⟩) hHeld ?_
  · intro w' hSw
    go_simp <;> rfl
  try simp only [Act.put, List.getElem_toArray, List.getElem_cons_zero, List.getElem_cons_succ, List.setIfInBounds_toArray, List.set_cons_zero, List.set_cons_succ]
  refine wpAnyH_take (i := 2) (v := .slice aG G.length cG) rfl (by kernel_rfl) (by kernel_rfl) (by kernel_rfl) (fun _ _ _ h => h) (Or.inl ⟨by rfl, ?_⟩) hHeld ?_
  · intro w' hSw
    have hx := hSw.1
    go_simp <;> rfl
  try simp only [Act.put, List.getElem_toArray, List.getElem_cons_zero, List.getElem_cons_succ, List.setIfInBounds_toArray, List.set_cons_zero, List.set_cons_succ]
  refine wpAnyH_take (i := 5) (v := .pointer (some ⟨w.heap.size, 1, none⟩)) rfl (by kernel_rfl) (by kernel_rfl) (by kernel_rfl) (fun _ _ _ h => h) (Or.inl ⟨by rfl, ?_⟩) hHeld ?_
  · intro w' hSw
    go_simp <;> rfl
  try simp only [Act.put, List.getElem_toArray, List.getElem_cons_zero, List.getElem_cons_succ, List.setIfInBounds_toArray, List.set_cons_zero, List.set_cons_succ]
  refine wpAnyH_take (i := 6) (v := .slice aW V.length cW) rfl (by kernel_rfl) (by kernel_rfl) (by kernel_rfl) (fun _ _ _ h => h) (Or.inl ⟨by rfl, ?_⟩) hHeld ?_
  · intro w' hSw
    have hx := hSw.2
    go_simp <;> rfl
  try simp only [Act.put, List.getElem_toArray, List.getElem_cons_zero, List.getElem_cons_succ, List.setIfInBounds_toArray, List.set_cons_zero, List.set_cons_succ]
  have KF : Hid (∀ u, Below W.heap.size W u → ∀ {a1 c1 a2 c2} {WF : World}, ((u.setCell ⟨w.heap.size + 1, 0, none⟩ (.slice a1 G.length c1)).setCell ⟨w.heap.size + 1, 1, none⟩ (.slice a2 V.length c2) = WF) → WF.cell? ⟨w.heap.size, 0, none⟩ = some (.slice aG G.length cG) ∧ WF.cell? ⟨w.heap.size, 1, none⟩ = some (.slice aW V.length cW)) := fun u hu {a1 c1 a2 c2 WF} e => by
    rw [← e]
    have hwF : Within (w.heap.size + 1) (w.heap.size + 2) u _ := (within_set u (w.heap.size + 1) 0 (.slice a1 G.length c1) (by omega)).trans (within_set _ (w.heap.size + 1) 1 (.slice a2 V.length c2) (by omega))
    obtain ⟨k0, k1⟩ := HK.out u hu
    exact ⟨(World.cell?_of_block (a := ⟨w.heap.size, 0, none⟩) (hwF.block w.heap.size (by have := hu.size; omega) (by omega))).trans k0, (World.cell?_of_block (a := ⟨w.heap.size, 1, none⟩) (hwF.block w.heap.size (by have := hu.size; omega) (by omega))).trans k1⟩
  refine wpAnyH_ready (rs := [0, 4]) (by kernel_rfl) (by simp) ?_
  refine (AllReadyH.cons rfl (fun K hK => ?_) (AllReadyH.cons rfl (fun K hK => ?_) AllReadyH.nil))
  ·skip
   go_simp
   obtain ⟨u1, hu1, hq1, hbu1, hq2⟩ := boxes1 d0 [] 37
   clear hq1 hq2
   have D21 : Below W.heap.size W u1 := D0.trans (hbu1.mono D0.size)
   have hz1 := D0.size
   have o1 : OwnG u1 W.heap.size (d0.heap.size + 1) (some ⟨d0.heap.size, 0, none⟩) 0 [] := by rw [← hu1.out]; exact (ownG_lit0 d0).widen (by omega) (Nat.le_refl _) (by simp)
   try simp only [List.toArray] at hu1
   rw [hu1.out]
   refine hK.out _ _ (HK.out _ D21) (fun hHeld => ?_)
   clear hK K hu1
   try simp only [Act.put, List.getElem_toArray, List.getElem_cons_zero, List.getElem_cons_succ, List.setIfInBounds_toArray, List.set_cons_zero, List.set_cons_succ]
   refine wpAnyH_ready (rs := [3, 4]) (by kernel_rfl) (by simp) ?_
   refine (AllReadyH.cons rfl (fun K hK => ?_) (AllReadyH.cons rfl (fun K hK => ?_) AllReadyH.nil))
   ·skip
    refine step_append_grants rfl (.tmp 3) (.tmp 5) rfl W.heap.size _ (some ⟨d0.heap.size, 0, none⟩) 0 [] rfl o1 aG cG G rfl (HRG.out _ D21).1 HNG.out (by simp only [List.length_nil]; omega) (by have := D21.size; omega) ?_
    intro a2 c2 y2 u2 hy2 oo2 gg2 kk2
    obtain rfl : G = y2 := hy2.out.symm
    have D22 : Below W.heap.size W u2 := D21.grown gg2 (by have := D21.size; omega) (fun k hk => ((o1).lt k hk).1)
    refine hK.out _ _ (HK.out _ D22) (fun hHeld => ?_)
    clear hK K gg2 kk2 hy2
    try simp only [Act.put, List.getElem_toArray, List.getElem_cons_zero, List.getElem_cons_succ, List.setIfInBounds_toArray, List.set_cons_zero, List.set_cons_succ]
    refine wpAnyH_ready (rs := [4]) (by kernel_rfl) (by simp) ?_
    refine (AllReadyH.cons rfl (fun K hK => ?_) AllReadyH.nil)
    go_simp
    obtain ⟨u3, hu3, hq1, hbu3, hq2⟩ := boxes1 u2 [] 37
    clear hq1 hq2
    have D23 : Below W.heap.size W u3 := D22.trans (hbu3.mono D22.size)
    have hz3 := D22.size
    have t3 : TwoG u3 W.heap.size a2 c2 G (some ⟨u2.heap.size, 0, none⟩) 0 [] := by rw [← hu3.out]; exact two_new oo2 (by omega)
    try simp only [List.toArray] at hu3
    rw [hu3.out]
    refine hK.out _ _ (HK.out _ D23) (fun hHeld => ?_)
    clear hK K hu3
    try simp only [Act.put, List.getElem_toArray, List.getElem_cons_zero, List.getElem_cons_succ, List.setIfInBounds_toArray, List.set_cons_zero, List.set_cons_succ]
    refine wpAnyH_ready (rs := [7]) (by kernel_rfl) (by simp) ?_
    refine (AllReadyH.cons rfl (fun K hK => ?_) AllReadyH.nil)
    refine step_append_grants rfl (.tmp 7) (.tmp 9) rfl W.heap.size u3.heap.size (some ⟨u2.heap.size, 0, none⟩) 0 [] rfl t3.swap.one aW cW V rfl (HRG.out _ D23).2 HNV.out (by simp only [List.length_nil]; omega) (by have := D23.size; omega) ?_
    intro a4 c4 y4 u4 hy4 oo4 gg4 kk4
    obtain rfl : V = y4 := hy4.out.symm
    have D24 : Below W.heap.size W u4 := D23.grown gg4 (by have := D23.size; omega) (fun k hk => ((t3.swap.one).lt k hk).1)
    have tt4 := TwoG.app (t3.swap) oo4 gg4 kk4
    refine hK.out _ _ (HK.out _ D24) (fun hHeld => ?_)
    clear hK K gg4 kk4 hy4
    try simp only [Act.put, List.getElem_toArray, List.getElem_cons_zero, List.getElem_cons_succ, List.setIfInBounds_toArray, List.set_cons_zero, List.set_cons_succ]
    refine wpAnyH_take (i := 8) (v := .agg #[.slice a2 G.length c2, .slice a4 V.length c4]) rfl (by kernel_rfl) (by kernel_rfl) (by kernel_rfl) (fun _ _ _ h => h) (Or.inl ⟨by rfl, ?_⟩) hHeld ?_
    · intro w' hSw
      go_simp <;> rfl
    try simp only [Act.put, List.getElem_toArray, List.getElem_cons_zero, List.getElem_cons_succ, List.setIfInBounds_toArray, List.set_cons_zero, List.set_cons_succ]
    obtain ⟨f0, f1, hbF⟩ := FIN.out _ _ _ _ _ D24 tt4.swap
    have hbx := HBR.out _ D24
    have y0 := hbx.cell 0 _ rfl
    have y1 := hbx.cell 1 _ rfl
    have z0 := hbx.frozen 0
    have z1 := hbx.frozen 1
    obtain ⟨WF, hWF⟩ : ∃ WF, Hid ((u4.setCell ⟨w.heap.size + 1, 0, none⟩ (.slice a2 G.length c2)).setCell ⟨w.heap.size + 1, 1, none⟩ (.slice a4 V.length c4) = WF) := ⟨_, rfl⟩
    rw [hWF.out] at f0 f1 hbF
    refine wpAnyH_ready (rs := [9]) (by kernel_rfl) (by simp) ?_
    refine AllReadyH.cons rfl (fun K hK => ?_) AllReadyH.nil
    go_simp
    rw [hWF.out]
    refine hK.out _ _ ?_ (fun _ => ?_)
    · exact KF.out _ D24 hWF.out
    clear hK K
    refine wpAnyH_done (by kernel_rfl) ?_ _
    have q0 := hbF.cell 0 _ rfl
    have q1 := hbF.cell 1 _ rfl
    go_wp2_with fail
    refine bodyPost_ret (v := .agg #[.slice a2 G.length c2, .slice a4 V.length c4]) (by simp [results, Tryd.results41, go_sem, q0, q1]) rfl ⟨_, _, _, _, rfl, f0, f1⟩
   ·skip
    go_simp
    obtain ⟨u5, hu5, hq1, hbu5, hq2⟩ := boxes1 u1 [] 37
    clear hq1 hq2
    have D25 : Below W.heap.size W u5 := D21.trans (hbu5.mono D21.size)
    have hz5 := D21.size
    have t5 : TwoG u5 W.heap.size (some ⟨d0.heap.size, 0, none⟩) 0 [] (some ⟨u1.heap.size, 0, none⟩) 0 [] := by rw [← hu5.out]; exact two_new o1 (by omega)
    try simp only [List.toArray] at hu5
    rw [hu5.out]
    refine hK.out _ _ (HK.out _ D25) (fun hHeld => ?_)
    clear hK K hu5
    try simp only [Act.put, List.getElem_toArray, List.getElem_cons_zero, List.getElem_cons_succ, List.setIfInBounds_toArray, List.set_cons_zero, List.set_cons_succ]
    refine wpAnyH_ready (rs := [3]) (by kernel_rfl) (by simp) ?_
    refine (AllReadyH.cons rfl (fun K hK => ?_) AllReadyH.nil)
    refine step_append_grants rfl (.tmp 3) (.tmp 5) rfl W.heap.size u5.heap.size (some ⟨d0.heap.size, 0, none⟩) 0 [] rfl t5.one aG cG G rfl (HRG.out _ D25).1 HNG.out (by simp only [List.length_nil]; omega) (by have := D25.size; omega) ?_
    intro a6 c6 y6 u6 hy6 oo6 gg6 kk6
    obtain rfl : G = y6 := hy6.out.symm
    have D26 : Below W.heap.size W u6 := D25.grown gg6 (by have := D25.size; omega) (fun k hk => ((t5.one).lt k hk).1)
    have tt6 := TwoG.app (t5) oo6 gg6 kk6
    refine hK.out _ _ (HK.out _ D26) (fun hHeld => ?_)
    clear hK K gg6 kk6 hy6
    try simp only [Act.put, List.getElem_toArray, List.getElem_cons_zero, List.getElem_cons_succ, List.setIfInBounds_toArray, List.set_cons_zero, List.set_cons_succ]
    refine wpAnyH_ready (rs := [7]) (by kernel_rfl) (by simp) ?_
    refine (AllReadyH.cons rfl (fun K hK => ?_) AllReadyH.nil)
    refine step_append_grants rfl (.tmp 7) (.tmp 9) rfl W.heap.size u6.heap.size (some ⟨u1.heap.size, 0, none⟩) 0 [] rfl tt6.swap.one aW cW V rfl (HRG.out _ D26).2 HNV.out (by simp only [List.length_nil]; omega) (by have := D26.size; omega) ?_
    intro a7 c7 y7 u7 hy7 oo7 gg7 kk7
    obtain rfl : V = y7 := hy7.out.symm
    have D27 : Below W.heap.size W u7 := D26.grown gg7 (by have := D26.size; omega) (fun k hk => ((tt6.swap.one).lt k hk).1)
    have tt7 := TwoG.app (tt6.swap) oo7 gg7 kk7
    refine hK.out _ _ (HK.out _ D27) (fun hHeld => ?_)
    clear hK K gg7 kk7 hy7
    try simp only [Act.put, List.getElem_toArray, List.getElem_cons_zero, List.getElem_cons_succ, List.setIfInBounds_toArray, List.set_cons_zero, List.set_cons_succ]
    refine wpAnyH_take (i := 8) (v := .agg #[.slice a6 G.length c6, .slice a7 V.length c7]) rfl (by kernel_rfl) (by kernel_rfl) (by kernel_rfl) (fun _ _ _ h => h) (Or.inl ⟨by rfl, ?_⟩) hHeld ?_
    · intro w' hSw
      go_simp <;> rfl
    try simp only [Act.put, List.getElem_toArray, List.getElem_cons_zero, List.getElem_cons_succ, List.setIfInBounds_toArray, List.set_cons_zero, List.set_cons_succ]
    obtain ⟨f0, f1, hbF⟩ := FIN.out _ _ _ _ _ D27 tt7.swap
    have hbx := HBR.out _ D27
    have y0 := hbx.cell 0 _ rfl
    have y1 := hbx.cell 1 _ rfl
    have z0 := hbx.frozen 0
    have z1 := hbx.frozen 1
    obtain ⟨WF, hWF⟩ : ∃ WF, Hid ((u7.setCell ⟨w.heap.size + 1, 0, none⟩ (.slice a6 G.length c6)).setCell ⟨w.heap.size + 1, 1, none⟩ (.slice a7 V.length c7) = WF) := ⟨_, rfl⟩
    rw [hWF.out] at f0 f1 hbF
    refine wpAnyH_ready (rs := [9]) (by kernel_rfl) (by simp) ?_
    refine AllReadyH.cons rfl (fun K hK => ?_) AllReadyH.nil
    go_simp
    rw [hWF.out]
    refine hK.out _ _ ?_ (fun _ => ?_)
    · exact KF.out _ D27 hWF.out
    clear hK K
    refine wpAnyH_done (by kernel_rfl) ?_ _
    have q0 := hbF.cell 0 _ rfl
    have q1 := hbF.cell 1 _ rfl
    go_wp2_with fail
    refine bodyPost_ret (v := .agg #[.slice a6 G.length c6, .slice a7 V.length c7]) (by simp [results, Tryd.results41, go_sem, q0, q1]) rfl ⟨_, _, _, _, rfl, f0, f1⟩
  ·skip
   go_simp
   obtain ⟨u8, hu8, hq1, hbu8, hq2⟩ := boxes1 d0 [] 37
   clear hq1 hq2
   have D28 : Below W.heap.size W u8 := D0.trans (hbu8.mono D0.size)
   have hz8 := D0.size
   have o8 : OwnG u8 W.heap.size (d0.heap.size + 1) (some ⟨d0.heap.size, 0, none⟩) 0 [] := by rw [← hu8.out]; exact (ownG_lit0 d0).widen (by omega) (Nat.le_refl _) (by simp)
   try simp only [List.toArray] at hu8
   rw [hu8.out]
   refine hK.out _ _ (HK.out _ D28) (fun hHeld => ?_)
   clear hK K hu8
   try simp only [Act.put, List.getElem_toArray, List.getElem_cons_zero, List.getElem_cons_succ, List.setIfInBounds_toArray, List.set_cons_zero, List.set_cons_succ]
   refine wpAnyH_ready (rs := [0]) (by kernel_rfl) (by simp) ?_
   refine (AllReadyH.cons rfl (fun K hK => ?_) AllReadyH.nil)
   go_simp
   obtain ⟨u9, hu9, hq1, hbu9, hq2⟩ := boxes1 u8 [] 37
   clear hq1 hq2
   have D29 : Below W.heap.size W u9 := D28.trans (hbu9.mono D28.size)
   have hz9 := D28.size
   have t9 : TwoG u9 W.heap.size (some ⟨d0.heap.size, 0, none⟩) 0 [] (some ⟨u8.heap.size, 0, none⟩) 0 [] := by rw [← hu9.out]; exact two_new o8 (by omega)
   try simp only [List.toArray] at hu9
   rw [hu9.out]
   refine hK.out _ _ (HK.out _ D29) (fun hHeld => ?_)
   clear hK K hu9
   try simp only [Act.put, List.getElem_toArray, List.getElem_cons_zero, List.getElem_cons_succ, List.setIfInBounds_toArray, List.set_cons_zero, List.set_cons_succ]
   refine wpAnyH_ready (rs := [3]) (by kernel_rfl) (by simp) ?_
   refine (AllReadyH.cons rfl (fun K hK => ?_) AllReadyH.nil)
   refine step_append_grants rfl (.tmp 3) (.tmp 5) rfl W.heap.size u9.heap.size (some ⟨u8.heap.size, 0, none⟩) 0 [] rfl t9.swap.one aG cG G rfl (HRG.out _ D29).1 HNG.out (by simp only [List.length_nil]; omega) (by have := D29.size; omega) ?_
   intro a10 c10 y10 u10 hy10 oo10 gg10 kk10
   obtain rfl : G = y10 := hy10.out.symm
   have D30 : Below W.heap.size W u10 := D29.grown gg10 (by have := D29.size; omega) (fun k hk => ((t9.swap.one).lt k hk).1)
   have tt10 := TwoG.app (t9.swap) oo10 gg10 kk10
   refine hK.out _ _ (HK.out _ D30) (fun hHeld => ?_)
   clear hK K gg10 kk10 hy10
   try simp only [Act.put, List.getElem_toArray, List.getElem_cons_zero, List.getElem_cons_succ, List.setIfInBounds_toArray, List.set_cons_zero, List.set_cons_succ]
   refine wpAnyH_ready (rs := [7]) (by kernel_rfl) (by simp) ?_
   refine (AllReadyH.cons rfl (fun K hK => ?_) AllReadyH.nil)
   refine step_append_grants rfl (.tmp 7) (.tmp 9) rfl W.heap.size u10.heap.size (some ⟨d0.heap.size, 0, none⟩) 0 [] rfl tt10.swap.one aW cW V rfl (HRG.out _ D30).2 HNV.out (by simp only [List.length_nil]; omega) (by have := D30.size; omega) ?_
   intro a11 c11 y11 u11 hy11 oo11 gg11 kk11
   obtain rfl : V = y11 := hy11.out.symm
   have D31 : Below W.heap.size W u11 := D30.grown gg11 (by have := D30.size; omega) (fun k hk => ((tt10.swap.one).lt k hk).1)
   have tt11 := TwoG.app (tt10.swap) oo11 gg11 kk11
   refine hK.out _ _ (HK.out _ D31) (fun hHeld => ?_)
   clear hK K gg11 kk11 hy11
   try simp only [Act.put, List.getElem_toArray, List.getElem_cons_zero, List.getElem_cons_succ, List.setIfInBounds_toArray, List.set_cons_zero, List.set_cons_succ]
   refine wpAnyH_take (i := 8) (v := .agg #[.slice a10 G.length c10, .slice a11 V.length c11]) rfl (by kernel_rfl) (by kernel_rfl) (by kernel_rfl) (fun _ _ _ h => h) (Or.inl ⟨by rfl, ?_⟩) hHeld ?_
   · intro w' hSw
     go_simp <;> rfl
   try simp only [Act.put, List.getElem_toArray, List.getElem_cons_zero, List.getElem_cons_succ, List.setIfInBounds_toArray, List.set_cons_zero, List.set_cons_succ]
   obtain ⟨f0, f1, hbF⟩ := FIN.out _ _ _ _ _ D31 tt11.swap
   have hbx := HBR.out _ D31
   have y0 := hbx.cell 0 _ rfl
   have y1 := hbx.cell 1 _ rfl
   have z0 := hbx.frozen 0
   have z1 := hbx.frozen 1
   obtain ⟨WF, hWF⟩ : ∃ WF, Hid ((u11.setCell ⟨w.heap.size + 1, 0, none⟩ (.slice a10 G.length c10)).setCell ⟨w.heap.size + 1, 1, none⟩ (.slice a11 V.length c11) = WF) := ⟨_, rfl⟩
   rw [hWF.out] at f0 f1 hbF
   refine wpAnyH_ready (rs := [9]) (by kernel_rfl) (by simp) ?_
   refine AllReadyH.cons rfl (fun K hK => ?_) AllReadyH.nil
   go_simp
   rw [hWF.out]
   refine hK.out _ _ ?_ (fun _ => ?_)
   · exact KF.out _ D31 hWF.out
   clear hK K
   refine wpAnyH_done (by kernel_rfl) ?_ _
   have q0 := hbF.cell 0 _ rfl
   have q1 := hbF.cell 1 _ rfl
   go_wp2_with fail
   refine bodyPost_ret (v := .agg #[.slice a10 G.length c10, .slice a11 V.length c11]) (by simp [results, Tryd.results41, go_sem, q0, q1]) rfl ⟨_, _, _, _, rfl, f0, f1⟩
end Go.Proofs.YtekljhabjkmhpaaDoor

/- The walk of spec.LocksOk. -/
namespace Go.Proofs.YtekljhabjkmhpaaDoor
open Go.RowKit

set_option maxHeartbeats 2000000 in
set_option maxRecDepth 100000 in
theorem specLocksOk_any (l : LocksA) (w : World) (hr : l.reads w) (hl : l.short 1099511627776) :
    Calls Tryd.prog 27 #[.agg #[.slice l.aG l.given.length l.cG, .slice l.aW l.waits.length l.cW]] w fun e w' => e = .returned (.bool (okLocks l.given l.waits)) ∧ Below w.heap.size w w' := by
  obtain ⟨G, V, aG, cG, aW, cW⟩ := l
  obtain ⟨hG, hV, _, _, _, _⟩ := hr
  obtain ⟨hlG, hlV⟩ := hl
  simp only at *
  have HLG : Hid (¬ G.length ≤ 60 → okLocks G V = false) := okLocks_g
  have HLV : Hid (¬ V.length ≤ 60 → okLocks G V = false) := okLocks_w
  have HG : Hid (∀ k, k < G.length → givenAt G k = false → okLocks G V = false) := fun k => okLocks_given k
  have HV : Hid (∀ k, k < V.length → waitAt V k = false → okLocks G V = false) := fun k => okLocks_wait k
  have HY : Hid (G.length ≤ 60 → V.length ≤ 60 → (∀ k, k < G.length → givenAt G k = true) → (∀ k, k < V.length → waitAt V k = true) → okLocks G V = true) := okLocks_yes
  generalize okLocks G V = R at *
  obtain ⟨W, hW, b0, hbW, hsW⟩ := boxes1 w [.slice aG G.length cG, .slice aW V.length cW] 30
  have hb0 := b0.lt
  have HB : Hid (∀ w', Below W.heap.size W w' → Below w.heap.size w w') := fun w' h => hbW.trans (h.mono hbW.size)
  have hGW := hG.below hbW
  have hVW := hV.below hbW
  have c0 := b0.cell 0 _ rfl
  have c1 := b0.cell 1 _ rfl
  clear hG hV hsW
  have HCG : Hid (∀ w', Below W.heap.size W w' → ∀ k, k < G.length → ∃ b off, aG = some ⟨b, off, none⟩ ∧ w'.cell? ⟨b, off + k * 3, none⟩ = some (.int .i64 (G.getD k zeroG).tx) ∧ w'.cell? ⟨b, off + k * 3 + 1, none⟩ = some (.int .i64 (G.getD k zeroG).res) ∧ w'.cell? ⟨b, off + k * 3 + 2, none⟩ = some (.int .i64 (G.getD k zeroG).mode)) := fun w' h k hk => by
    obtain ⟨b, off, ha, hc⟩ := (hGW.below h) (by intro e; rw [e] at hk; simp at hk)
    exact ⟨b, off, ha, hc k hk⟩
  have HCV : Hid (∀ w', Below W.heap.size W w' → ∀ k, k < V.length → ∃ b off, aW = some ⟨b, off, none⟩ ∧ w'.cell? ⟨b, off + k * 3, none⟩ = some (.int .i64 (V.getD k zeroG).tx) ∧ w'.cell? ⟨b, off + k * 3 + 1, none⟩ = some (.int .i64 (V.getD k zeroG).res) ∧ w'.cell? ⟨b, off + k * 3 + 2, none⟩ = some (.int .i64 (V.getD k zeroG).mode)) := fun w' h k hk => by
    obtain ⟨b, off, ha, hc⟩ := (hVW.below h) (by intro e; rw [e] at hk; simp at hk)
    exact ⟨b, off, ha, hc k hk⟩
  clear hGW hVW hbW
  by_cases h1 : G.length ≤ 60
  case neg =>
    have HR : Hid (R = false) := HLG.out h1
    clear HLG HLV HG HV HY
    have HX := HB.out W (Below.refl _ _)
    go_enter Tryd.func27, Tryd.ntmps27
    go_wp2
    go_ret
    rw [hW.out]
    exact ⟨ret_bool HR.out.symm, HX⟩
  by_cases h2 : V.length ≤ 60
  case neg =>
    have HR : Hid (R = false) := HLV.out h2
    clear HLG HLV HG HV HY
    have HX := HB.out W (Below.refl _ _)
    go_enter Tryd.func27, Tryd.ntmps27
    go_wp2
    go_ret
    rw [hW.out]
    exact ⟨ret_bool HR.out.symm, HX⟩
  go_enter Tryd.func27, Tryd.ntmps27
  go_wp2
  rw [hW.out]
  clear hW HLG HLV
  go_loopw [3] (fun i wr => ∃ k : Nat, k ≤ G.length ∧ i = .int .i64 k ∧ Hid (∀ j, j < k → givenAt G j = true) ∧ Below W.heap.size W wr) (fun i _ => G.length - (intOf i).toNat)
  case atStart => exact ⟨0, Nat.zero_le _, rfl, fun j hj => by omega, Below.refl _ _⟩
  case round =>
    obtain ⟨k, hk, rfl, hall, hbl⟩ := hrel
    have x0 := (hbl.cell (p := ⟨w.heap.size, 0, none⟩) hb0).trans c0
    have x1 := (hbl.cell (p := ⟨w.heap.size, 1, none⟩) hb0).trans c1
    have hlw : w.heap.size < wr.heap.size := Nat.lt_of_lt_of_le hb0 hbl.size
    by_cases hlt : k < G.length
    · obtain ⟨b, off, rfl, d0, d1, d2⟩ := HCG.out wr hbl k hlt
      have HF : Hid (grantB (G.getD k zeroG) = false → R = false) := fun h => HG.out k hlt (by simp only [givenAt, h, Bool.false_and])
      have HF2 : Hid ((G.take k).any (clashB (G.getD k zeroG)) = true → R = false) := fun h => HG.out k hlt (by simp only [givenAt, h, Bool.not_true, Bool.and_false])
      have HN : Hid (grantB (G.getD k zeroG) = true → (G.take k).any (clashB (G.getD k zeroG)) = false → ∀ j, j < k + 1 → givenAt G j = true) := fun h h' j hj => by
        by_cases e : j < k
        · exact hall.out j e
        · obtain rfl : j = k := by omega
          simp only [givenAt, h, h', Bool.not_false, Bool.and_self]
      clear hall HG HV HY HCV
      generalize G.getD k zeroG = z at *
      obtain ⟨V1, hV1, bz, hbV1, hsV1⟩ := boxes1 wr [.int .i64 z.tx, .int .i64 z.res, .int .i64 z.mode] 37
      have hB1 : Below W.heap.size W V1 := hbl.trans (hbV1.mono hbl.size)
      have C := l9Grant_any z V1
      have hzl := bz.lt
      clear hsV1 hbV1 c0 c1
      go_wp2_with fail
      rw [hV1.out]
      refine C.mono ?_
      clear C hV1
      generalize grantB z = gz at *
      rintro e w1 ⟨rfl, hb1⟩
      have hB2 : Below W.heap.size W w1 := hB1.trans (hb1.mono hB1.size)
      have bz1 := bz.below hb1 hzl
      have hL1 := bz1.lt
      have y0 := (Box.below b0 hB2 hb0).cell 0 _ rfl
      clear hb1 hB1 hbl d0 d1 d2 x0 x1 bz hzl
      cases gz
      · have HR : Hid (R = false) := HF.out rfl
        have HX := HB.out _ hB2
        go_wp2
        go_ret
        exact ⟨ret_bool HR.out.symm, HX⟩
      · clear HF
        have hsz : w.heap.size < wr.heap.size := hlw
        clear hlw
        generalize wr = wo at *
        go_wp2_with fail
        go_loopw [5] (fun i wq => ∃ j : Nat, j ≤ k ∧ i = .int .i64 j ∧ Hid ((G.take j).any (clashB z) = false) ∧ Below w1.heap.size w1 wq) (fun i _ => k - (intOf i).toNat)
        case atStart => exact ⟨0, Nat.zero_le _, rfl, rfl, Below.refl _ _⟩
        case round =>
          obtain ⟨j, hj, rfl, hany, hbq⟩ := hrel
          have hBq : Below W.heap.size W wr := hB2.trans (hbq.mono hB2.size)
          have bzq := bz1.below hbq hL1
          by_cases hjk : j < k
          · obtain ⟨b', off', hh, d0, d1, d2⟩ := HCG.out wr hBq j (by omega)
            cases hh
            have HH : Hid (clashB z (G.getD j zeroG) = true → R = false) := fun h => HF2.out (any_hit (k := j) (z := zeroG) (by rw [List.length_take]; omega) (by
              have e : (G.take k).getD j zeroG = G.getD j zeroG := by simp [List.getD, hjk]
              rw [e]; exact h))
            have HN2 : Hid (clashB z (G.getD j zeroG) = false → (G.take (j + 1)).any (clashB z) = false) := any_step (by omega) hany
            have HCB : Hid (∀ h, clashB z h = (h.res == z.res && (h.tx == z.tx || !goesB h.mode z.mode))) := fun _ => rfl
            clear hany HF2 HN HCG
            generalize G.getD j zeroG = h at *
            obtain ⟨e0, e1, e2, _⟩ := bzq.three
            have y0q := (Box.below b0 hBq hb0).cell 0 _ rfl
            have hzq := bzq.lt
            have hlq : w.heap.size < wr.heap.size := (Box.below b0 hBq hb0).lt
            obtain ⟨V2, hV2, bh, hbV2, hsV2⟩ := boxes1 wr [.int .i64 h.tx, .int .i64 h.res, .int .i64 h.mode] 37
            have hB3 : Below W.heap.size W V2 := hBq.trans (hbV2.mono hBq.size)
            have hB4 : Below w1.heap.size w1 V2 := hbq.trans (hbV2.mono hbq.size)
            have C := specGoes_any h.mode z.mode V2
            have HV2 : Hid (_ = V2) := hV2
            clear bh hsV2 hbV2 bz1 bzq y0 hL1
            by_cases q1 : h.res = z.res
            case neg =>
              have HR : Hid _ := HN2.out (by rw [HCB.out]; simp [q1])
              have HS : Hid (_ ∧ _) := ⟨hB3, hB4⟩
              clear hB3 hB4 C
              go_wp2_with fail
              rw [hV2.out]
              go_roundw
              case rel => exact ⟨j + 1, by omega, by go_num, HR.out, HS.out.2⟩
              case measure => simp [intOf]; omega
            by_cases q2 : h.tx = z.tx
            · have HR : Hid (R = false) := HH.out (by rw [HCB.out]; simp [q1, q2])
              have HX := HB.out _ hB3
              clear hB3 hB4 C
              obtain ⟨tx, res, mode⟩ := h
              simp only at q1 q2
              subst q1 q2
              go_wp2_with fail
              go_ret
              rw [HV2.out]
              exact ⟨ret_bool HR.out.symm, HX⟩
            · have HC1 : Hid (goesB h.mode z.mode = false → R = false) := fun hh => HH.out (by rw [HCB.out]; simp [q1, hh])
              have HC2 : Hid (goesB h.mode z.mode = true → (G.take (j + 1)).any (clashB z) = false) := fun hh => HN2.out (by rw [HCB.out]; simp [q2, hh])
              have HX := HB.out _ hB3
              have HS : Hid (_ ∧ _) := ⟨hB3, hB4⟩
              clear hB3 hB4
              generalize goesB h.mode z.mode = gg at *
              obtain ⟨tx, res, mode⟩ := h
              simp only at q1 q2
              subst q1
              go_wp2_with fail
              rw [hV2.out]
              refine C.mono ?_
              rintro e w' ⟨rfl, rfl⟩
              cases gg
              · have HR : Hid (R = false) := HC1.out rfl
                go_wp2_with fail
                go_ret
                exact ⟨ret_bool HR.out.symm, HX⟩
              · have HR : Hid _ := HC2.out rfl
                go_wp2_with fail
                go_roundw
                case rel => exact ⟨j + 1, by omega, by go_num, HR.out, HS.out.2⟩
                case measure => simp [intOf]; omega
          · have HK : Hid _ := HN.out trivial (by
              obtain rfl : j = k := by omega
              exact hany.out)
            clear HN HF2 hany bz1 bzq
            go_wp2_with fail
            go_roundw
            case rel => exact ⟨k + 1, by omega, by go_num, HK.out, hBq⟩
            case measure => simp [intOf]; omega
    · have HGA : Hid (∀ j, j < G.length → givenAt G j = true) := fun j hj => hall.out j (by omega)
      have hbL := hbl
      clear hall HG HCG
      generalize wr = wo at *
      go_wp2_with fail
      go_loopw [7] (fun i wr => ∃ k : Nat, k ≤ V.length ∧ i = .int .i64 k ∧ Hid (∀ j, j < k → waitAt V j = true) ∧ Below W.heap.size W wr) (fun i _ => V.length - (intOf i).toNat)
      case atStart => exact ⟨0, Nat.zero_le _, rfl, fun j hj => by omega, hbL⟩
      case round =>
        clear hbl x0 x1 hbL hlw
        obtain ⟨k, hk, rfl, hall, hbl⟩ := hrel
        have x0 := (hbl.cell (p := ⟨w.heap.size, 0, none⟩) hb0).trans c0
        have x1 := (hbl.cell (p := ⟨w.heap.size, 1, none⟩) hb0).trans c1
        by_cases hlt : k < V.length
        · obtain ⟨b, off, rfl, d0, d1, d2⟩ := HCV.out wr hbl k hlt
          have HF : Hid (grantB (V.getD k zeroG) = false → R = false) := fun h => HV.out k hlt (by simp only [waitAt, h, Bool.false_and])
          have HF2 : Hid ((V.take k).any (fun h => h.tx == (V.getD k zeroG).tx) = true → R = false) := fun h => HV.out k hlt (by simp only [waitAt, h, Bool.not_true, Bool.and_false])
          have HN : Hid (grantB (V.getD k zeroG) = true → (V.take k).any (fun h => h.tx == (V.getD k zeroG).tx) = false → ∀ j, j < k + 1 → waitAt V j = true) := fun h h' j hj => by
            by_cases e : j < k
            · exact hall.out j e
            · obtain rfl : j = k := by omega
              simp only [waitAt, h, h', Bool.not_false, Bool.and_self]
          have HZ : Hid (∀ w', Below W.heap.size W w' → w'.cell? ⟨b, off + k * 3, none⟩ = some (.int .i64 (V.getD k zeroG).tx)) := fun w' h => by
            obtain ⟨b', off', e, h0, _⟩ := HCV.out w' h k hlt
            cases e
            exact h0
          clear hall HV HY HGA
          generalize V.getD k zeroG = z at *
          have C := l9Grant_any z wr
          go_wp2_with fail
          refine C.mono ?_
          clear C
          generalize grantB z = gz at *
          rintro e w1 ⟨rfl, hb1⟩
          have hB2 : Below W.heap.size W w1 := hbl.trans (hb1.mono hbl.size)
          clear hb1 hbl d0 d1 d2 x0 x1
          cases gz
          · have HR : Hid (R = false) := HF.out rfl
            have HX := HB.out _ hB2
            go_wp2
            go_ret
            exact ⟨ret_bool HR.out.symm, HX⟩
          · clear HF
            generalize wr = wp at *
            go_wp2_with fail
            go_loopw [8] (fun i wq => ∃ j : Nat, j ≤ k ∧ i = .int .i64 j ∧ Hid ((V.take j).any (fun h => h.tx == z.tx) = false) ∧ Below W.heap.size W wq) (fun i _ => k - (intOf i).toNat)
            case atStart => exact ⟨0, Nat.zero_le _, rfl, rfl, hB2⟩
            case round =>
              obtain ⟨j, hj, rfl, hany, hBq⟩ := hrel
              have x1 := (hBq.cell (p := ⟨w.heap.size, 1, none⟩) hb0).trans c1
              by_cases hjk : j < k
              · obtain ⟨b', off', hh, d0, d1, d2⟩ := HCV.out wr hBq j (by omega)
                cases hh
                have d3 := HZ.out wr hBq
                have HH : Hid (((V.getD j zeroG).tx == z.tx) = true → R = false) := fun h => HF2.out (any_hit (p := fun h : GrantV => h.tx == z.tx) (k := j) (z := zeroG) (by rw [List.length_take]; omega) (by
                  have e : (V.take k).getD j zeroG = V.getD j zeroG := by simp [List.getD, hjk]
                  rw [e]; exact h))
                have HN2 : Hid (((V.getD j zeroG).tx == z.tx) = false → (V.take (j + 1)).any (fun h => h.tx == z.tx) = false) := any_step (p := fun h : GrantV => h.tx == z.tx) (by omega) hany
                clear hany HF2 HN HCV HZ d1 d2
                generalize V.getD j zeroG = h at *
                have HX := HB.out _ hBq.drew
                have HS : Hid (Below _ _ _) := hBq
                clear hBq hB2 c1
                by_cases q1 : h.tx = z.tx
                · have HR : Hid (R = false) := HH.out (by simp [q1])
                  go_wp2_with fail
                  go_quiet (fail)
                  go_wp2_with fail
                  go_ret
                  exact ⟨ret_bool HR.out.symm, below_drewN (HB.out _ HS.out) _⟩
                · have HR : Hid _ := HN2.out (by simp [q1])
                  go_wp2_with fail
                  go_quiet (fail)
                  go_wp2_with fail
                  go_roundw
                  case rel => exact ⟨j + 1, by omega, by go_num, HR.out, below_drewN HS.out _⟩
                  case measure => simp [intOf]; omega
              · have HK : Hid _ := HN.out trivial (by
                  obtain rfl : j = k := by omega
                  exact hany.out)
                clear HN HF2 hany
                go_wp2_with fail
                go_roundw
                case rel => exact ⟨k + 1, by omega, by go_num, HK.out, hBq⟩
                case measure => simp [intOf]; omega
        · have HR : Hid (R = true) := HY.out h1 h2 HGA.out (fun j hj => hall.out j (by omega))
          have HX := HB.out _ hbl
          go_wp2_with fail
          go_ret
          exact ⟨ret_bool HR.out.symm, HX⟩
end Go.Proofs.YtekljhabjkmhpaaDoor

/- The walks of spec.DropAll and spec.DrawLocks. -/
namespace Go.Proofs.YtekljhabjkmhpaaDoor
open Go.RowKit

theorem lkAt_new {w : World} {lo : Nat} {l : LocksA} (h : l.own w lo w.heap.size) : LkAt (w.alloc (.cells #[.slice l.aG l.given.length l.cG, .slice l.aW l.waits.length l.cW] 30)) lo w.heap.size l := by
  have hb : Below w.heap.size w (w.alloc (.cells #[.slice l.aG l.given.length l.cG, .slice l.aW l.waits.length l.cW] 30)) := (Below.refl _ _).alloc (Nat.le_refl _) _
  exact ⟨box_new w _ _, (h.below hb).widen (Nat.le_refl _) hb.size (Nat.le_refl _), fun hm => by have := (h.lt hm).2; omega⟩

set_option maxHeartbeats 4000000 in
set_option maxRecDepth 100000 in
theorem specDropAll_any (l : LocksA) (tx : Int) (w : World) (hr : l.reads w) (hl : l.short 60) (hok : okLocks l.given l.waits = true) :
    Calls Tryd.prog 22 #[.agg #[.slice l.aG l.given.length l.cG, .slice l.aW l.waits.length l.cW], .int .i64 tx] w fun e w' => ∃ (v : Value) (a : Option Addr) (c : Nat), e = .returned (.tuple #[v, .slice a (dropV l.given l.waits tx).2.2.length c]) ∧ (∃ p q r p' q' r', v = .agg #[.slice p q r, .slice p' q' r']) ∧ OwnI w' w.heap.size w'.heap.size a c (dropV l.given l.waits tx).2.2 ∧ Below w.heap.size w w' := by
  obtain ⟨DV, HDV⟩ : ∃ DV, Hid (dropV l.given l.waits tx = DV) := ⟨_, rfl⟩
  rw [HDV.out]
  obtain ⟨W, hW, b0, b1, hbW, hsW⟩ := boxes2 w [.slice l.aG l.given.length l.cG, .slice l.aW l.waits.length l.cW] [.slice none 0 0, .slice none 0 0] 30 30
  have hs0 := b0.lt
  have hs1 := b1.lt
  have hrW := hr.below hbW
  have hs2 : w.heap.size + 2 ≤ W.heap.size := Nat.le_of_eq hsW.symm
  have hl2 : l.short 1000 := ⟨Nat.le_trans hl.1 (by decide), Nat.le_trans hl.2 (by decide)⟩
  have hl4 : l.short 400 := ⟨Nat.le_trans hl.1 (by decide), Nat.le_trans hl.2 (by decide)⟩
  have HX : Hid (Below w.heap.size w W) := hbW
  clear hsW hr
  go_enter Tryd.func22, Tryd.ntmps22
  go_wp2_with fail
  rw [hW.out]
  clear hW hbW
  refine (l9Copy_any l W hrW hl2).mono ?_
  rintro e w1 ⟨a1, c1, a2, c2, rfl, ho1, hb1⟩
  have hL := lkAt_new ho1
  obtain ⟨W2, hW2, b2, hbW2, hsW2⟩ := boxes1 w1 [.slice a1 l.given.length c1, .slice a2 l.waits.length c2] 30
  simp only at hL
  have hL2 : LkAt W2 W.heap.size w1.heap.size ⟨l.given, l.waits, a1, c1, a2, c2⟩ := by rw [← hW2.out]; exact hL
  have D2 : Below W.heap.size W W2 := hb1.trans (hbW2.mono hb1.size)
  have x0 := (b0.below D2 hs0).cell 0 _ rfl
  have x1 := (b0.below D2 hs0).cell 1 _ rfl
  have hz1 := hb1.size
  have hz2 : w1.heap.size < W2.heap.size := b2.lt
  have hlk0 := (b0.below hb1 b0.lt).lt
  have C := specLocksOk_any l W2 (hrW.below D2) ⟨Nat.le_trans hl.1 (by decide), Nat.le_trans hl.2 (by decide)⟩
  rw [hok] at C
  clear hL ho1 hb1 hbW2 hsW2 b2
  have x0' := x0
  go_upto_region 2 with fail
  rw [hW2.out]
  clear hW2
  go_wp2_with fail
  refine C.mono ?_
  clear C x0 x1 x0'
  rintro e w3 ⟨rfl, hb3⟩
  have hL3 := hL2.below hb3
  have D3 : Below W.heap.size W w3 := D2.trans (hb3.mono D2.size)
  have hz3 := hb3.size
  clear hL2 hb3
  have CD := l9Drop_any W.heap.size w1.heap.size ⟨l.given, l.waits, a1, c1, a2, c2⟩ tx w3 hL3 (by omega) hl4
  simp only [HDV.out] at CD
  go_wp2_with fail
  refine CD.mono ?_
  clear CD
  rintro e w4 ⟨l', aK, cK, rfl, hl', hst, hoK, hapK⟩
  have y0 := hst.now.box.cell 0 _ rfl
  have y1 := hst.now.box.cell 1 _ rfl
  have bR := hst.box (b1.below D3 hs1) (by omega) (fun hm => by have := (hL3.own.lt hm).1; omega)
  have z0 := bR.cell 0 _ rfl
  have z1 := bR.cell 1 _ rfl
  have f0 := bR.frozen 0
  have f1 := bR.frozen 1
  have hlow : Below W.heap.size w3 w4 := hst.low hL3 (by omega) (Nat.le_refl _)
  have D4 : Below w.heap.size w w4 := (HX.out.trans (D3.mono HX.out.size)).trans (hlow.mono (by omega))
  have hwF : Within (w.heap.size + 1) (w.heap.size + 2) w4 _ := (within_set w4 (w.heap.size + 1) 0 (.slice l'.aG l'.given.length l'.cG) (by omega)).trans (within_set _ (w.heap.size + 1) 1 (.slice l'.aW l'.waits.length l'.cW) (by omega))
  have bF := (bR.set 0 (.slice l'.aG l'.given.length l'.cG)).set 1 (.slice l'.aW l'.waits.length l'.cW)
  simp only [List.set] at bF
  obtain ⟨WF, hWF⟩ : ∃ WF, Hid ((w4.setCell ⟨w.heap.size + 1, 0, none⟩ (.slice l'.aG l'.given.length l'.cG)).setCell ⟨w.heap.size + 1, 1, none⟩ (.slice l'.aW l'.waits.length l'.cW) = WF) := ⟨_, rfl⟩
  rw [hWF.out] at bF hwF
  have hz4 := hst.size
  have HF : Hid (OwnI WF w.heap.size WF.heap.size aK cK DV.2.2 ∧ Below w.heap.size w WF) := by
    have h1 := hoK.within hwF (.inr (by omega))
    exact ⟨h1.widen (by omega) hwF.size (Nat.le_refl _), D4.trans (hwF.below (by omega) (by have := D4.size; omega))⟩
  have q0 := bF.cell 0 _ rfl
  have q1 := bF.cell 1 _ rfl
  clear hwF hst hoK hapK bR hlow D4 hl'
  go_wp2_with fail
  rw [hWF.out]
  refine bodyPost_ret (v := .tuple #[.agg #[.slice l'.aG l'.given.length l'.cG, .slice l'.aW l'.waits.length l'.cW], .slice aK DV.2.2.length cK]) (by simp [results, Tryd.results22, go_sem, q0, q1]) rfl ⟨_, aK, cK, rfl, ⟨_, _, _, _, _, _, rfl⟩, HF.out.1, HF.out.2⟩

set_option maxHeartbeats 4000000 in
set_option maxRecDepth 100000 in
theorem drawLocks_any (a : Option Addr) (c : Nat) (zs : List Int) (w : World) (hr : Reads w a zs) (hl : zs.length ≤ 70368744177664) :
    Calls Tryd.prog 19 #[.slice a zs.length c] w fun e w' => ∃ l : LocksA, e = .returned (.agg #[.slice l.aG l.given.length l.cG, .slice l.aW l.waits.length l.cW]) ∧ l.own w' w.heap.size w'.heap.size ∧ (GoodG l.given ∧ GoodW l.waits) ∧ l.given.length + l.waits.length ≤ 30 ∧ Below w.heap.size w w' := by
  obtain ⟨W, hW, b0, hbW, hsW⟩ := boxes1 w [.slice none 0 0, .slice none 0 0] 30
  have hrW := hr.below hbW
  have hs1 := b0.lt
  clear hsW
  go_enter Tryd.func19, Tryd.ntmps19
  go_wp2_with fail
  rw [hW.out]
  clear hW
  refine (l1New_any a c zs W hrW hl).mono ?_
  rintro e w1 ⟨rfl, hc1, hb1⟩
  have hcl := hc1.lt
  go_wp2_with fail
  refine (l1SizeK_any a c zs 30 w1 hl (by omega)).mono ?_
  rintro e w2 ⟨n, rfl, hn0, hn30, rfl⟩
  go_wp2_with fail
  refine (l9Draw_any W.heap.size zs n w2 hc1 hl ⟨hn0, hn30⟩).mono ?_
  rintro e w3 ⟨l, rfl, ho3, hgd, hlen, hc3, hg3⟩
  have bR := (b0.below hb1 b0.lt).cur hg3 (by omega)
  have z0 := bR.cell 0 _ rfl
  have z1 := bR.cell 1 _ rfl
  have f0 := bR.frozen 0
  have f1 := bR.frozen 1
  have hwF : Within w.heap.size (w.heap.size + 1) w3 _ := (within_set w3 w.heap.size 0 (.slice l.aG l.given.length l.cG) (by omega)).trans (within_set _ w.heap.size 1 (.slice l.aW l.waits.length l.cW) (by omega))
  have bF := (bR.set 0 (.slice l.aG l.given.length l.cG)).set 1 (.slice l.aW l.waits.length l.cW)
  simp only [List.set] at bF
  obtain ⟨WF, hWF⟩ : ∃ WF, Hid ((w3.setCell ⟨w.heap.size, 0, none⟩ (.slice l.aG l.given.length l.cG)).setCell ⟨w.heap.size, 1, none⟩ (.slice l.aW l.waits.length l.cW) = WF) := ⟨_, rfl⟩
  rw [hWF.out] at bF hwF
  have hz1 := hb1.size
  have hz3 := hg3.size
  have HF : Hid (l.own WF w.heap.size WF.heap.size ∧ (GoodG l.given ∧ GoodW l.waits) ∧ l.given.length + l.waits.length ≤ 30 ∧ Below w.heap.size w WF) := by
    have D1 : Below w.heap.size w w2 := hbW.trans (hb1.mono hbW.size)
    have D3 : Below w.heap.size w w3 := D1.grown hg3 (by omega) (fun k hk => by cases hk; omega)
    exact ⟨(ho3.within hwF (.inr (by omega))).widen (by omega) hwF.size (Nat.le_refl _), hgd, by omega, D3.trans (hwF.below (Nat.le_refl _) (by have := D3.size; omega))⟩
  have q0 := bF.cell 0 _ rfl
  have q1 := bF.cell 1 _ rfl
  clear hwF ho3 bR hc3 hg3 hgd hlen
  go_wp2_with fail
  rw [hWF.out]
  refine bodyPost_ret (v := .agg #[.slice l.aG l.given.length l.cG, .slice l.aW l.waits.length l.cW]) (by simp [results, Tryd.results19, go_sem, q0, q1]) rfl ⟨l, rfl, HF.out⟩
end Go.Proofs.YtekljhabjkmhpaaDoor
