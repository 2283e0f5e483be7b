/- Several texts in one, in their order. -/
import Derived.Test.YtekljhabjkmhpaaDoorPFnLockedx21
/- The walk of spec.DrawAsk. -/
namespace Go.Proofs.YtekljhabjkmhpaaDoor
open Go.RowKit

/-- Locks in a box, a cursor below them, the result below the cursor. -/
structure DsI (w u : World) (C : Nat) (zs : List Int) (lo B : Nat) (l : LocksA) : Prop where
  cur : CurAt u C zs
  lk : LkAt u lo B l
  res : Box u w.heap.size [.slice none 0 0, .slice none 0 0] 30
  low : Below w.heap.size w u
  ord : w.heap.size < C ∧ C < lo ∧ lo ≤ B
theorem DsI.next {w u u' : World} {C : Nat} {zs : List Int} {lo B : Nat} {l : LocksA} (h : DsI w u C zs lo B l) (hc : CurAt u' C zs) (hg : u.grownBy u' (some C)) : DsI w u' C zs lo B l := by
  have ho := h.ord
  exact ⟨hc, h.lk.cur hg (by omega) (by omega), h.res.cur hg (by omega), h.low.grown hg (by have := h.low.size; omega) (fun k hk => by cases hk; omega), ho⟩
theorem DsI.below {w u u' : World} {C : Nat} {zs : List Int} {lo B : Nat} {l : LocksA} (h : DsI w u C zs lo B l) (hb : Below u.heap.size u u') : DsI w u' C zs lo B l :=
  ⟨h.cur.below hb, h.lk.below hb, h.res.below hb h.res.lt, h.low.trans (hb.mono h.low.size), h.ord⟩
theorem DsI.two {w u : World} {C : Nat} {zs : List Int} {lo B : Nat} {l : LocksA} (h : DsI w u C zs lo B l) : u.cell? ⟨B, 0, none⟩ = some (.slice l.aG l.given.length l.cG) ∧ u.cell? ⟨B, 1, none⟩ = some (.slice l.aW l.waits.length l.cW) := ⟨h.lk.box.cell 0 _ rfl, h.lk.box.cell 1 _ rfl⟩
/-- A row of numbers that the cursor is none of. -/
structure Lit (u : World) (C b : Nat) (ns : List Int) : Prop where
  reads : ReadsI u (some ⟨b, 0, none⟩) ns
  ne : C < b
theorem Lit.below {u u' : World} {C b : Nat} {ns : List Int} (h : Lit u C b ns) (hb : Below u.heap.size u u') : Lit u' C b ns := ⟨h.reads.below hb, h.ne⟩
theorem Lit.next {u u' : World} {C b : Nat} {ns : List Int} (h : Lit u C b ns) (hg : u.grownBy u' (some C)) : Lit u' C b ns := ⟨h.reads.grown hg (fun b off e => by cases e; have := h.ne; omega), h.ne⟩
theorem l1IntL {u : World} {C b : Nat} {ns zs : List Int} (c : Nat) (hc : CurAt u C zs) (hl : zs.length ≤ 70368744177664) (h : Lit u C b ns) (h1 : 1 ≤ ns.length) (h2 : ns.length ≤ 1000) :
    Calls Tryd.prog 36 #[.pointer (some ⟨C, 0, none⟩), .slice (some ⟨b, 0, none⟩) ns.length c] u fun e w' => ∃ z : Int, e = .returned (.int .i64 z) ∧ CurAt w' C zs ∧ u.grownBy w' (some C) :=
  (l1Int_any C zs (some ⟨b, 0, none⟩) c ns u hc hl h.reads (fun b' off e => by cases e; have := h.ne; omega) h1 h2).mono (fun _ _ ⟨j, _, he, hc', hg'⟩ => ⟨ns.getD j 0, he, hc', hg'⟩)
def AskDrawn (w w' : World) (e : Ending) : Prop := ∃ (l : LocksA) (t r m : Int), e = .returned (.tuple #[.agg #[.slice l.aG l.given.length l.cG, .slice l.aW l.waits.length l.cW], .int .i64 t, .int .i64 r, .int .i64 m]) ∧ l.own w' w.heap.size w'.heap.size ∧ l.given.length + l.waits.length ≤ 17 ∧ Below w.heap.size w w'

set_option maxHeartbeats 16000000 in
set_option maxRecDepth 100000 in
theorem drawAsk_any (a : Option Addr) (c : Nat) (zs : List Int) (w : World) (hr : Reads w a zs) (hl : zs.length ≤ 70368744177664) :
    Calls Tryd.prog 15 #[.slice a zs.length c] w fun e w' => AskDrawn w w' e := by
  obtain ⟨W, hW, b0, hbW, hsW⟩ := boxes1 w [.slice none 0 0, .slice none 0 0] 30
  have hrW := hr.below hbW
  have hs1 := b0.lt
  clear hsW hr
  go_enter Tryd.func15, Tryd.ntmps15
  go_wp2_with fail
  rw [hW.out]
  clear hW
  refine (l1New_any a c zs W hrW hl).mono ?_
  rintro e w1 ⟨rfl, hc1, hb1⟩
  have hcl := hc1.lt
  go_wp2_with fail
  refine (l1SizeK_any a c zs 16 w1 hl (by omega)).mono ?_
  rintro e w2 ⟨n, rfl, hn0, hn16, rfl⟩
  go_wp2_with fail
  refine (l9DrawAny_any W.heap.size zs n w2 hc1 hl ⟨hn0, by omega⟩).mono ?_
  rintro e w3 ⟨l, rfl, ho3, hlen, hc3, hg3⟩
  obtain ⟨W4, hW4, b4, hbW4, hsW4⟩ := boxes1 w3 [.slice l.aG l.given.length l.cG, .slice l.aW l.waits.length l.cW] 30
  have hL4 : LkAt W4 w2.heap.size w3.heap.size l := by rw [← hW4.out]; exact lkAt_new ho3
  have hz1 := hb1.size
  have hz3 := hg3.size
  have bR1 := (b0.below hb1 b0.lt).cur hg3 (by omega)
  have D3 : Below w.heap.size w w3 := (hbW.trans (hb1.mono hbW.size)).grown hg3 (by omega) (fun k hk => by cases hk; omega)
  have I0 : DsI w W4 W.heap.size zs w2.heap.size w3.heap.size l := ⟨hc3.below hbW4, hL4, bR1.below hbW4 bR1.lt, D3.trans (hbW4.mono D3.size), hs1, hcl, hz3⟩
  have HLN : Hid (l.given.length + l.waits.length ≤ 17) := by rw [Hid]; omega
  clear hsW4 hbW4 b4 hL4 ho3 hc3 hg3 hc1 hb1 b0 bR1 D3 hbW hrW hlen
  go_upto_region 3 with fail
  rw [hW4.out]
  clear hW4
  generalize W.heap.size = C at *
  generalize w3.heap.size = B at *
  generalize w2.heap.size = lo at *
  clear hs1 hcl hz1 hz3 hn0 hn16
  have I1 : DsI w W4.drew C zs lo B l := I0.below (Below.refl _ _).drew
  clear I0
  refine wp_region_held_drew (S := fun u => u.cell? ⟨B, 0, none⟩ = some (.slice l.aG l.given.length l.cG) ∧ u.cell? ⟨B, 1, none⟩ = some (.slice l.aW l.waits.length l.cW)) (by kernel_rfl) I1.two (fun hHeld => ?_)
  generalize W4.drew = d0 at *
  have FIN : Hid (∀ (u : World) (t r m : Int), DsI w u C zs lo B l → AskDrawn w ((u.setCell ⟨w.heap.size, 0, none⟩ (.slice l.aG l.given.length l.cG)).setCell ⟨w.heap.size, 1, none⟩ (.slice l.aW l.waits.length l.cW)) (.returned (.tuple #[.agg #[.slice l.aG l.given.length l.cG, .slice l.aW l.waits.length l.cW], .int .i64 t, .int .i64 r, .int .i64 m])) ∧ Box ((u.setCell ⟨w.heap.size, 0, none⟩ (.slice l.aG l.given.length l.cG)).setCell ⟨w.heap.size, 1, none⟩ (.slice l.aW l.waits.length l.cW)) w.heap.size [.slice l.aG l.given.length l.cG, .slice l.aW l.waits.length l.cW] 30 ∧ (((u.setCell ⟨w.heap.size, 0, none⟩ (.slice l.aG l.given.length l.cG)).setCell ⟨w.heap.size, 1, none⟩ (.slice l.aW l.waits.length l.cW)).cell? ⟨B, 0, none⟩ = some (.slice l.aG l.given.length l.cG) ∧ ((u.setCell ⟨w.heap.size, 0, none⟩ (.slice l.aG l.given.length l.cG)).setCell ⟨w.heap.size, 1, none⟩ (.slice l.aW l.waits.length l.cW)).cell? ⟨B, 1, none⟩ = some (.slice l.aW l.waits.length l.cW))) := fun u t r m hu => by
    have ho := hu.ord
    have hBu := hu.lk.box.lt
    have hwF : Within w.heap.size (w.heap.size + 1) u _ := (within_set u w.heap.size 0 (.slice l.aG l.given.length l.cG) (by omega)).trans (within_set _ w.heap.size 1 (.slice l.aW l.waits.length l.cW) (by omega))
    have bF := (hu.res.set 0 (.slice l.aG l.given.length l.cG)).set 1 (.slice l.aW l.waits.length l.cW)
    simp only [List.set] at bF
    obtain ⟨k0, k1⟩ := hu.two
    exact ⟨⟨l, t, r, m, rfl, (hu.lk.own.within hwF (.inr (by omega))).widen (by omega) hwF.size (Nat.le_refl _), HLN.out, hu.low.trans (hwF.below (Nat.le_refl _) (by have := hu.low.size; omega))⟩, bF, (World.cell?_of_block (a := ⟨B, 0, none⟩) (hwF.block B (by omega) (by omega))).trans k0, (World.cell?_of_block (a := ⟨B, 1, none⟩) (hwF.block B (by omega) (by omega))).trans k1⟩
  refine wpAnyH_take (i := 0) (v := .agg #[.slice l.aG l.given.length l.cG, .slice l.aW l.waits.length l.cW]) rfl (by kernel_rfl) (by kernel_rfl) (by kernel_rfl) (fun _ _ _ h => h) (Or.inl ⟨by rfl, ?_⟩) hHeld ?_
  · intro w' hSw
    obtain ⟨hx0, hx1⟩ := hSw
    go_simp <;> rfl
  try simp only [Act.put, List.getElem_toArray, List.getElem_cons_zero, List.setIfInBounds_toArray, List.set_cons_zero, List.set_cons_succ]
  refine wpAnyH_take (i := 1) (v := .pointer (some ⟨C, 0, none⟩)) rfl (by kernel_rfl) (by kernel_rfl) (by kernel_rfl) (fun _ _ _ h => h) (Or.inl ⟨by rfl, ?_⟩) hHeld ?_
  · intro w' hSw
    go_simp <;> rfl
  try simp only [Act.put, List.getElem_toArray, List.getElem_cons_zero, List.getElem_cons_succ, List.setIfInBounds_toArray, List.set_cons_zero, List.set_cons_succ]
  refine wpAnyH_take (i := 4) (v := .pointer (some ⟨C, 0, none⟩)) rfl (by kernel_rfl) (by kernel_rfl) (by kernel_rfl) (fun _ _ _ h => h) (Or.inl ⟨by rfl, ?_⟩) hHeld ?_
  · intro w' hSw
    go_simp <;> rfl
  try simp only [Act.put, List.getElem_toArray, List.getElem_cons_zero, List.getElem_cons_succ, List.setIfInBounds_toArray, List.set_cons_zero, List.set_cons_succ]
  refine wpAnyH_take (i := 7) (v := .pointer (some ⟨C, 0, none⟩)) rfl (by kernel_rfl) (by kernel_rfl) (by kernel_rfl) (fun _ _ _ h => h) (Or.inl ⟨by rfl, ?_⟩) hHeld ?_
  · intro w' hSw
    go_simp <;> rfl
  try simp only [Act.put, List.getElem_toArray, List.getElem_cons_zero, List.getElem_cons_succ, List.setIfInBounds_toArray, List.set_cons_zero, List.set_cons_succ]
  refine wpAnyH_ready (rs := [2, 5, 8]) (by kernel_rfl) (by simp) ?_
  refine (AllReadyH.cons rfl (fun K hK => ?_) (AllReadyH.cons rfl (fun K hK => ?_) (AllReadyH.cons rfl (fun K hK => ?_) AllReadyH.nil)))
  ·skip
   go_simp
   obtain ⟨u1, hu1, hq1, hbu1, hq2⟩ := boxes1 d0 [.int .i64 1, .int .i64 2, .int .i64 3, .int .i64 4, .int .i64 5, .int .i64 6, .int .i64 0, .int .i64 100] 3
   have L1 : Lit u1 C d0.heap.size [1, 2, 3, 4, 5, 6, 0, 100] := ⟨by rw [← hu1.out]; exact readsI_lit d0 [1, 2, 3, 4, 5, 6, 0, 100] _, I1.cur.lt⟩
   have J1 := I1.below hbu1
   try simp only [List.toArray] at hu1
   rw [hu1.out]
   refine hK.out _ _ (J1.two) (fun hHeld => ?_)
   clear hK K hu1 hbu1 hq1 hq2 I1 
   try simp only [Act.put, List.getElem_toArray, List.getElem_cons_zero, List.getElem_cons_succ, List.setIfInBounds_toArray, List.set_cons_zero, List.set_cons_succ]
   refine wpAnyH_ready (rs := [3, 5, 8]) (by kernel_rfl) (by simp) ?_
   refine (AllReadyH.cons rfl (fun K hK => ?_) (AllReadyH.cons rfl (fun K hK => ?_) (AllReadyH.cons rfl (fun K hK => ?_) AllReadyH.nil)))
   ·skip
    go_simp
    refine (l1IntL 8 J1.cur hl L1 (by decide) (by decide)).mono ?_
    rintro e u2 ⟨z2, rfl, hcu2, hgu2⟩
    have J2 := J1.next hcu2 hgu2
    refine hK.out _ _ (J2.two) (fun hHeld => ?_)
    clear hK K hcu2 hgu2 J1 L1
    try simp only [Act.put, List.getElem_toArray, List.getElem_cons_zero, List.getElem_cons_succ, List.setIfInBounds_toArray, List.set_cons_zero, List.set_cons_succ]
    refine wpAnyH_ready (rs := [5, 8]) (by kernel_rfl) (by simp) ?_
    refine (AllReadyH.cons rfl (fun K hK => ?_) (AllReadyH.cons rfl (fun K hK => ?_) AllReadyH.nil))
    ·skip
     go_simp
     obtain ⟨u3, hu3, hq1, hbu3, hq2⟩ := boxes1 u2 [.int .i64 0, .int .i64 1, .int .i64 2, .int .i64 2, .int .i64 (-1), .int .i64 100] 3
     have L3 : Lit u3 C u2.heap.size [0, 1, 2, 2, (-1), 100] := ⟨by rw [← hu3.out]; exact readsI_lit u2 [0, 1, 2, 2, (-1), 100] _, J2.cur.lt⟩
     have J3 := J2.below hbu3
     try simp only [List.toArray] at hu3
     rw [hu3.out]
     refine hK.out _ _ (J3.two) (fun hHeld => ?_)
     clear hK K hu3 hbu3 hq1 hq2 J2 
     try simp only [Act.put, List.getElem_toArray, List.getElem_cons_zero, List.getElem_cons_succ, List.setIfInBounds_toArray, List.set_cons_zero, List.set_cons_succ]
     refine wpAnyH_ready (rs := [6, 8]) (by kernel_rfl) (by simp) ?_
     refine (AllReadyH.cons rfl (fun K hK => ?_) (AllReadyH.cons rfl (fun K hK => ?_) AllReadyH.nil))
     ·skip
      go_simp
      refine (l1IntL 6 J3.cur hl L3 (by decide) (by decide)).mono ?_
      rintro e u4 ⟨z4, rfl, hcu4, hgu4⟩
      have J4 := J3.next hcu4 hgu4
      refine hK.out _ _ (J4.two) (fun hHeld => ?_)
      clear hK K hcu4 hgu4 J3 L3
      try simp only [Act.put, List.getElem_toArray, List.getElem_cons_zero, List.getElem_cons_succ, List.setIfInBounds_toArray, List.set_cons_zero, List.set_cons_succ]
      refine wpAnyH_ready (rs := [8]) (by kernel_rfl) (by simp) ?_
      refine (AllReadyH.cons rfl (fun K hK => ?_) AllReadyH.nil)
      go_simp
      obtain ⟨u5, hu5, hq1, hbu5, hq2⟩ := boxes1 u4 [.int .i64 1, .int .i64 2, .int .i64 3, .int .i64 4, .int .i64 4, .int .i64 0, .int .i64 5] 3
      have L5 : Lit u5 C u4.heap.size [1, 2, 3, 4, 4, 0, 5] := ⟨by rw [← hu5.out]; exact readsI_lit u4 [1, 2, 3, 4, 4, 0, 5] _, J4.cur.lt⟩
      have J5 := J4.below hbu5
      try simp only [List.toArray] at hu5
      rw [hu5.out]
      refine hK.out _ _ (J5.two) (fun hHeld => ?_)
      clear hK K hu5 hbu5 hq1 hq2 J4 
      try simp only [Act.put, List.getElem_toArray, List.getElem_cons_zero, List.getElem_cons_succ, List.setIfInBounds_toArray, List.set_cons_zero, List.set_cons_succ]
      refine wpAnyH_ready (rs := [9]) (by kernel_rfl) (by simp) ?_
      refine (AllReadyH.cons rfl (fun K hK => ?_) AllReadyH.nil)
      go_simp
      refine (l1IntL 7 J5.cur hl L5 (by decide) (by decide)).mono ?_
      rintro e u6 ⟨z6, rfl, hcu6, hgu6⟩
      have J6 := J5.next hcu6 hgu6
      refine hK.out _ _ (J6.two) (fun hHeld => ?_)
      clear hK K hcu6 hgu6 J5 L5
      try simp only [Act.put, List.getElem_toArray, List.getElem_cons_zero, List.getElem_cons_succ, List.setIfInBounds_toArray, List.set_cons_zero, List.set_cons_succ]
      obtain ⟨f0, bF, kF⟩ := FIN.out _ z2 z4 z6 J6
      have hbx := J6.res
      have y0 := hbx.cell 0 _ rfl
      have y1 := hbx.cell 1 _ rfl
      have g0 := hbx.frozen 0
      have g1 := hbx.frozen 1
      obtain ⟨WF, hWF⟩ : ∃ WF, Hid ((u6.setCell ⟨w.heap.size, 0, none⟩ (.slice l.aG l.given.length l.cG)).setCell ⟨w.heap.size, 1, none⟩ (.slice l.aW l.waits.length l.cW) = WF) := ⟨_, rfl⟩
      rw [hWF.out] at f0 bF kF
      have HF : Hid (_) := f0
      clear hbx J6 f0 FIN
      refine wpAnyH_ready (rs := [10]) (by kernel_rfl) (by simp) ?_
      refine AllReadyH.cons rfl (fun K hK => ?_) AllReadyH.nil
      go_simp
      rw [hWF.out]
      refine hK.out _ _ (kF) (fun hHeld => ?_)
      clear hK K hWF y0 y1 g0 g1
      try simp only [Act.put, List.getElem_toArray, List.getElem_cons_zero, List.getElem_cons_succ, List.setIfInBounds_toArray, List.set_cons_zero, List.set_cons_succ]
      refine wpAnyH_take (i := 11) (v := .int .i64 z2) rfl (by kernel_rfl) (by kernel_rfl) (by kernel_rfl) (fun _ _ _ h => h) (Or.inl ⟨by rfl, ?_⟩) hHeld ?_
      · intro w' hSw
        go_simp <;> rfl
      try simp only [Act.put, List.getElem_toArray, List.getElem_cons_zero, List.getElem_cons_succ, List.setIfInBounds_toArray, List.set_cons_zero, List.set_cons_succ]
      refine wpAnyH_take (i := 12) (v := .int .i64 z4) rfl (by kernel_rfl) (by kernel_rfl) (by kernel_rfl) (fun _ _ _ h => h) (Or.inl ⟨by rfl, ?_⟩) hHeld ?_
      · intro w' hSw
        go_simp <;> rfl
      try simp only [Act.put, List.getElem_toArray, List.getElem_cons_zero, List.getElem_cons_succ, List.setIfInBounds_toArray, List.set_cons_zero, List.set_cons_succ]
      refine wpAnyH_take (i := 13) (v := .int .i64 z6) rfl (by kernel_rfl) (by kernel_rfl) (by kernel_rfl) (fun _ _ _ h => h) (Or.inl ⟨by rfl, ?_⟩) hHeld ?_
      · intro w' hSw
        go_simp <;> rfl
      try simp only [Act.put, List.getElem_toArray, List.getElem_cons_zero, List.getElem_cons_succ, List.setIfInBounds_toArray, List.set_cons_zero, List.set_cons_succ]
      refine wpAnyH_done (by kernel_rfl) ?_ _
      clear hHeld
      have q0 := bF.cell 0 _ rfl
      have q1 := bF.cell 1 _ rfl
      go_wp2_with fail
      refine bodyPost_ret (v := .tuple #[.agg #[.slice l.aG l.given.length l.cG, .slice l.aW l.waits.length l.cW], .int .i64 z2, .int .i64 z4, .int .i64 z6]) (by simp [results, Tryd.results15, go_sem, q0, q1]) rfl HF.out
     ·skip
      go_simp
      obtain ⟨u7, hu7, hq1, hbu7, hq2⟩ := boxes1 u3 [.int .i64 1, .int .i64 2, .int .i64 3, .int .i64 4, .int .i64 4, .int .i64 0, .int .i64 5] 3
      have L7 : Lit u7 C u3.heap.size [1, 2, 3, 4, 4, 0, 5] := ⟨by rw [← hu7.out]; exact readsI_lit u3 [1, 2, 3, 4, 4, 0, 5] _, J3.cur.lt⟩
      have J7 := J3.below hbu7
      try simp only [List.toArray] at hu7
      rw [hu7.out]
      have M7_5 := L3.below hbu7
      refine hK.out _ _ (J7.two) (fun hHeld => ?_)
      clear hK K hu7 hbu7 hq1 hq2 J3 L3
      try simp only [Act.put, List.getElem_toArray, List.getElem_cons_zero, List.getElem_cons_succ, List.setIfInBounds_toArray, List.set_cons_zero, List.set_cons_succ]
      refine wpAnyH_ready (rs := [6]) (by kernel_rfl) (by simp) ?_
      refine (AllReadyH.cons rfl (fun K hK => ?_) AllReadyH.nil)
      go_simp
      refine (l1IntL 6 J7.cur hl M7_5 (by decide) (by decide)).mono ?_
      rintro e u8 ⟨z8, rfl, hcu8, hgu8⟩
      have J8 := J7.next hcu8 hgu8
      have M8_8 := L7.next hgu8
      refine hK.out _ _ (J8.two) (fun hHeld => ?_)
      clear hK K hcu8 hgu8 J7 M7_5 L7
      try simp only [Act.put, List.getElem_toArray, List.getElem_cons_zero, List.getElem_cons_succ, List.setIfInBounds_toArray, List.set_cons_zero, List.set_cons_succ]
      refine wpAnyH_ready (rs := [9]) (by kernel_rfl) (by simp) ?_
      refine (AllReadyH.cons rfl (fun K hK => ?_) AllReadyH.nil)
      go_simp
      refine (l1IntL 7 J8.cur hl M8_8 (by decide) (by decide)).mono ?_
      rintro e u9 ⟨z9, rfl, hcu9, hgu9⟩
      have J9 := J8.next hcu9 hgu9
      refine hK.out _ _ (J9.two) (fun hHeld => ?_)
      clear hK K hcu9 hgu9 J8 M8_8
      try simp only [Act.put, List.getElem_toArray, List.getElem_cons_zero, List.getElem_cons_succ, List.setIfInBounds_toArray, List.set_cons_zero, List.set_cons_succ]
      obtain ⟨f0, bF, kF⟩ := FIN.out _ z2 z8 z9 J9
      have hbx := J9.res
      have y0 := hbx.cell 0 _ rfl
      have y1 := hbx.cell 1 _ rfl
      have g0 := hbx.frozen 0
      have g1 := hbx.frozen 1
      obtain ⟨WF, hWF⟩ : ∃ WF, Hid ((u9.setCell ⟨w.heap.size, 0, none⟩ (.slice l.aG l.given.length l.cG)).setCell ⟨w.heap.size, 1, none⟩ (.slice l.aW l.waits.length l.cW) = WF) := ⟨_, rfl⟩
      rw [hWF.out] at f0 bF kF
      have HF : Hid (_) := f0
      clear hbx J9 f0 FIN
      refine wpAnyH_ready (rs := [10]) (by kernel_rfl) (by simp) ?_
      refine AllReadyH.cons rfl (fun K hK => ?_) AllReadyH.nil
      go_simp
      rw [hWF.out]
      refine hK.out _ _ (kF) (fun hHeld => ?_)
      clear hK K hWF y0 y1 g0 g1
      try simp only [Act.put, List.getElem_toArray, List.getElem_cons_zero, List.getElem_cons_succ, List.setIfInBounds_toArray, List.set_cons_zero, List.set_cons_succ]
      refine wpAnyH_take (i := 11) (v := .int .i64 z2) rfl (by kernel_rfl) (by kernel_rfl) (by kernel_rfl) (fun _ _ _ h => h) (Or.inl ⟨by rfl, ?_⟩) hHeld ?_
      · intro w' hSw
        go_simp <;> rfl
      try simp only [Act.put, List.getElem_toArray, List.getElem_cons_zero, List.getElem_cons_succ, List.setIfInBounds_toArray, List.set_cons_zero, List.set_cons_succ]
      refine wpAnyH_take (i := 12) (v := .int .i64 z8) rfl (by kernel_rfl) (by kernel_rfl) (by kernel_rfl) (fun _ _ _ h => h) (Or.inl ⟨by rfl, ?_⟩) hHeld ?_
      · intro w' hSw
        go_simp <;> rfl
      try simp only [Act.put, List.getElem_toArray, List.getElem_cons_zero, List.getElem_cons_succ, List.setIfInBounds_toArray, List.set_cons_zero, List.set_cons_succ]
      refine wpAnyH_take (i := 13) (v := .int .i64 z9) rfl (by kernel_rfl) (by kernel_rfl) (by kernel_rfl) (fun _ _ _ h => h) (Or.inl ⟨by rfl, ?_⟩) hHeld ?_
      · intro w' hSw
        go_simp <;> rfl
      try simp only [Act.put, List.getElem_toArray, List.getElem_cons_zero, List.getElem_cons_succ, List.setIfInBounds_toArray, List.set_cons_zero, List.set_cons_succ]
      refine wpAnyH_done (by kernel_rfl) ?_ _
      clear hHeld
      have q0 := bF.cell 0 _ rfl
      have q1 := bF.cell 1 _ rfl
      go_wp2_with fail
      refine bodyPost_ret (v := .tuple #[.agg #[.slice l.aG l.given.length l.cG, .slice l.aW l.waits.length l.cW], .int .i64 z2, .int .i64 z8, .int .i64 z9]) (by simp [results, Tryd.results15, go_sem, q0, q1]) rfl HF.out
    ·skip
     go_simp
     obtain ⟨u10, hu10, hq1, hbu10, hq2⟩ := boxes1 u2 [.int .i64 1, .int .i64 2, .int .i64 3, .int .i64 4, .int .i64 4, .int .i64 0, .int .i64 5] 3
     have L10 : Lit u10 C u2.heap.size [1, 2, 3, 4, 4, 0, 5] := ⟨by rw [← hu10.out]; exact readsI_lit u2 [1, 2, 3, 4, 4, 0, 5] _, J2.cur.lt⟩
     have J10 := J2.below hbu10
     try simp only [List.toArray] at hu10
     rw [hu10.out]
     refine hK.out _ _ (J10.two) (fun hHeld => ?_)
     clear hK K hu10 hbu10 hq1 hq2 J2 
     try simp only [Act.put, List.getElem_toArray, List.getElem_cons_zero, List.getElem_cons_succ, List.setIfInBounds_toArray, List.set_cons_zero, List.set_cons_succ]
     refine wpAnyH_ready (rs := [5]) (by kernel_rfl) (by simp) ?_
     refine (AllReadyH.cons rfl (fun K hK => ?_) AllReadyH.nil)
     go_simp
     obtain ⟨u11, hu11, hq1, hbu11, hq2⟩ := boxes1 u10 [.int .i64 0, .int .i64 1, .int .i64 2, .int .i64 2, .int .i64 (-1), .int .i64 100] 3
     have L11 : Lit u11 C u10.heap.size [0, 1, 2, 2, (-1), 100] := ⟨by rw [← hu11.out]; exact readsI_lit u10 [0, 1, 2, 2, (-1), 100] _, J10.cur.lt⟩
     have J11 := J10.below hbu11
     try simp only [List.toArray] at hu11
     rw [hu11.out]
     have M11_8 := L10.below hbu11
     refine hK.out _ _ (J11.two) (fun hHeld => ?_)
     clear hK K hu11 hbu11 hq1 hq2 J10 L10
     try simp only [Act.put, List.getElem_toArray, List.getElem_cons_zero, List.getElem_cons_succ, List.setIfInBounds_toArray, List.set_cons_zero, List.set_cons_succ]
     refine wpAnyH_ready (rs := [6]) (by kernel_rfl) (by simp) ?_
     refine (AllReadyH.cons rfl (fun K hK => ?_) AllReadyH.nil)
     go_simp
     refine (l1IntL 6 J11.cur hl L11 (by decide) (by decide)).mono ?_
     rintro e u12 ⟨z12, rfl, hcu12, hgu12⟩
     have J12 := J11.next hcu12 hgu12
     have M12_8 := M11_8.next hgu12
     refine hK.out _ _ (J12.two) (fun hHeld => ?_)
     clear hK K hcu12 hgu12 J11 M11_8 L11
     try simp only [Act.put, List.getElem_toArray, List.getElem_cons_zero, List.getElem_cons_succ, List.setIfInBounds_toArray, List.set_cons_zero, List.set_cons_succ]
     refine wpAnyH_ready (rs := [9]) (by kernel_rfl) (by simp) ?_
     refine (AllReadyH.cons rfl (fun K hK => ?_) AllReadyH.nil)
     go_simp
     refine (l1IntL 7 J12.cur hl M12_8 (by decide) (by decide)).mono ?_
     rintro e u13 ⟨z13, rfl, hcu13, hgu13⟩
     have J13 := J12.next hcu13 hgu13
     refine hK.out _ _ (J13.two) (fun hHeld => ?_)
     clear hK K hcu13 hgu13 J12 M12_8
     try simp only [Act.put, List.getElem_toArray, List.getElem_cons_zero, List.getElem_cons_succ, List.setIfInBounds_toArray, List.set_cons_zero, List.set_cons_succ]
     obtain ⟨f0, bF, kF⟩ := FIN.out _ z2 z12 z13 J13
     have hbx := J13.res
     have y0 := hbx.cell 0 _ rfl
     have y1 := hbx.cell 1 _ rfl
     have g0 := hbx.frozen 0
     have g1 := hbx.frozen 1
     obtain ⟨WF, hWF⟩ : ∃ WF, Hid ((u13.setCell ⟨w.heap.size, 0, none⟩ (.slice l.aG l.given.length l.cG)).setCell ⟨w.heap.size, 1, none⟩ (.slice l.aW l.waits.length l.cW) = WF) := ⟨_, rfl⟩
     rw [hWF.out] at f0 bF kF
     have HF : Hid (_) := f0
     clear hbx J13 f0 FIN
     refine wpAnyH_ready (rs := [10]) (by kernel_rfl) (by simp) ?_
     refine AllReadyH.cons rfl (fun K hK => ?_) AllReadyH.nil
     go_simp
     rw [hWF.out]
     refine hK.out _ _ (kF) (fun hHeld => ?_)
     clear hK K hWF y0 y1 g0 g1
     try simp only [Act.put, List.getElem_toArray, List.getElem_cons_zero, List.getElem_cons_succ, List.setIfInBounds_toArray, List.set_cons_zero, List.set_cons_succ]
     refine wpAnyH_take (i := 11) (v := .int .i64 z2) rfl (by kernel_rfl) (by kernel_rfl) (by kernel_rfl) (fun _ _ _ h => h) (Or.inl ⟨by rfl, ?_⟩) hHeld ?_
     · intro w' hSw
       go_simp <;> rfl
     try simp only [Act.put, List.getElem_toArray, List.getElem_cons_zero, List.getElem_cons_succ, List.setIfInBounds_toArray, List.set_cons_zero, List.set_cons_succ]
     refine wpAnyH_take (i := 12) (v := .int .i64 z12) rfl (by kernel_rfl) (by kernel_rfl) (by kernel_rfl) (fun _ _ _ h => h) (Or.inl ⟨by rfl, ?_⟩) hHeld ?_
     · intro w' hSw
       go_simp <;> rfl
     try simp only [Act.put, List.getElem_toArray, List.getElem_cons_zero, List.getElem_cons_succ, List.setIfInBounds_toArray, List.set_cons_zero, List.set_cons_succ]
     refine wpAnyH_take (i := 13) (v := .int .i64 z13) rfl (by kernel_rfl) (by kernel_rfl) (by kernel_rfl) (fun _ _ _ h => h) (Or.inl ⟨by rfl, ?_⟩) hHeld ?_
     · intro w' hSw
       go_simp <;> rfl
     try simp only [Act.put, List.getElem_toArray, List.getElem_cons_zero, List.getElem_cons_succ, List.setIfInBounds_toArray, List.set_cons_zero, List.set_cons_succ]
     refine wpAnyH_done (by kernel_rfl) ?_ _
     clear hHeld
     have q0 := bF.cell 0 _ rfl
     have q1 := bF.cell 1 _ rfl
     go_wp2_with fail
     refine bodyPost_ret (v := .tuple #[.agg #[.slice l.aG l.given.length l.cG, .slice l.aW l.waits.length l.cW], .int .i64 z2, .int .i64 z12, .int .i64 z13]) (by simp [results, Tryd.results15, go_sem, q0, q1]) rfl HF.out
   ·skip
    go_simp
    obtain ⟨u14, hu14, hq1, hbu14, hq2⟩ := boxes1 u1 [.int .i64 0, .int .i64 1, .int .i64 2, .int .i64 2, .int .i64 (-1), .int .i64 100] 3
    have L14 : Lit u14 C u1.heap.size [0, 1, 2, 2, (-1), 100] := ⟨by rw [← hu14.out]; exact readsI_lit u1 [0, 1, 2, 2, (-1), 100] _, J1.cur.lt⟩
    have J14 := J1.below hbu14
    try simp only [List.toArray] at hu14
    rw [hu14.out]
    have M14_2 := L1.below hbu14
    refine hK.out _ _ (J14.two) (fun hHeld => ?_)
    clear hK K hu14 hbu14 hq1 hq2 J1 L1
    try simp only [Act.put, List.getElem_toArray, List.getElem_cons_zero, List.getElem_cons_succ, List.setIfInBounds_toArray, List.set_cons_zero, List.set_cons_succ]
    refine wpAnyH_ready (rs := [3, 8]) (by kernel_rfl) (by simp) ?_
    refine (AllReadyH.cons rfl (fun K hK => ?_) (AllReadyH.cons rfl (fun K hK => ?_) AllReadyH.nil))
    ·skip
     go_simp
     refine (l1IntL 8 J14.cur hl M14_2 (by decide) (by decide)).mono ?_
     rintro e u15 ⟨z15, rfl, hcu15, hgu15⟩
     have J15 := J14.next hcu15 hgu15
     have M15_5 := L14.next hgu15
     refine hK.out _ _ (J15.two) (fun hHeld => ?_)
     clear hK K hcu15 hgu15 J14 M14_2 L14
     try simp only [Act.put, List.getElem_toArray, List.getElem_cons_zero, List.getElem_cons_succ, List.setIfInBounds_toArray, List.set_cons_zero, List.set_cons_succ]
     refine wpAnyH_ready (rs := [6, 8]) (by kernel_rfl) (by simp) ?_
     refine (AllReadyH.cons rfl (fun K hK => ?_) (AllReadyH.cons rfl (fun K hK => ?_) AllReadyH.nil))
     ·skip
      go_simp
      refine (l1IntL 6 J15.cur hl M15_5 (by decide) (by decide)).mono ?_
      rintro e u16 ⟨z16, rfl, hcu16, hgu16⟩
      have J16 := J15.next hcu16 hgu16
      refine hK.out _ _ (J16.two) (fun hHeld => ?_)
      clear hK K hcu16 hgu16 J15 M15_5
      try simp only [Act.put, List.getElem_toArray, List.getElem_cons_zero, List.getElem_cons_succ, List.setIfInBounds_toArray, List.set_cons_zero, List.set_cons_succ]
      refine wpAnyH_ready (rs := [8]) (by kernel_rfl) (by simp) ?_
      refine (AllReadyH.cons rfl (fun K hK => ?_) AllReadyH.nil)
      go_simp
      obtain ⟨u17, hu17, hq1, hbu17, hq2⟩ := boxes1 u16 [.int .i64 1, .int .i64 2, .int .i64 3, .int .i64 4, .int .i64 4, .int .i64 0, .int .i64 5] 3
      have L17 : Lit u17 C u16.heap.size [1, 2, 3, 4, 4, 0, 5] := ⟨by rw [← hu17.out]; exact readsI_lit u16 [1, 2, 3, 4, 4, 0, 5] _, J16.cur.lt⟩
      have J17 := J16.below hbu17
      try simp only [List.toArray] at hu17
      rw [hu17.out]
      refine hK.out _ _ (J17.two) (fun hHeld => ?_)
      clear hK K hu17 hbu17 hq1 hq2 J16 
      try simp only [Act.put, List.getElem_toArray, List.getElem_cons_zero, List.getElem_cons_succ, List.setIfInBounds_toArray, List.set_cons_zero, List.set_cons_succ]
      refine wpAnyH_ready (rs := [9]) (by kernel_rfl) (by simp) ?_
      refine (AllReadyH.cons rfl (fun K hK => ?_) AllReadyH.nil)
      go_simp
      refine (l1IntL 7 J17.cur hl L17 (by decide) (by decide)).mono ?_
      rintro e u18 ⟨z18, rfl, hcu18, hgu18⟩
      have J18 := J17.next hcu18 hgu18
      refine hK.out _ _ (J18.two) (fun hHeld => ?_)
      clear hK K hcu18 hgu18 J17 L17
      try simp only [Act.put, List.getElem_toArray, List.getElem_cons_zero, List.getElem_cons_succ, List.setIfInBounds_toArray, List.set_cons_zero, List.set_cons_succ]
      obtain ⟨f0, bF, kF⟩ := FIN.out _ z15 z16 z18 J18
      have hbx := J18.res
      have y0 := hbx.cell 0 _ rfl
      have y1 := hbx.cell 1 _ rfl
      have g0 := hbx.frozen 0
      have g1 := hbx.frozen 1
      obtain ⟨WF, hWF⟩ : ∃ WF, Hid ((u18.setCell ⟨w.heap.size, 0, none⟩ (.slice l.aG l.given.length l.cG)).setCell ⟨w.heap.size, 1, none⟩ (.slice l.aW l.waits.length l.cW) = WF) := ⟨_, rfl⟩
      rw [hWF.out] at f0 bF kF
      have HF : Hid (_) := f0
      clear hbx J18 f0 FIN
      refine wpAnyH_ready (rs := [10]) (by kernel_rfl) (by simp) ?_
      refine AllReadyH.cons rfl (fun K hK => ?_) AllReadyH.nil
      go_simp
      rw [hWF.out]
      refine hK.out _ _ (kF) (fun hHeld => ?_)
      clear hK K hWF y0 y1 g0 g1
      try simp only [Act.put, List.getElem_toArray, List.getElem_cons_zero, List.getElem_cons_succ, List.setIfInBounds_toArray, List.set_cons_zero, List.set_cons_succ]
      refine wpAnyH_take (i := 11) (v := .int .i64 z15) rfl (by kernel_rfl) (by kernel_rfl) (by kernel_rfl) (fun _ _ _ h => h) (Or.inl ⟨by rfl, ?_⟩) hHeld ?_
      · intro w' hSw
        go_simp <;> rfl
      try simp only [Act.put, List.getElem_toArray, List.getElem_cons_zero, List.getElem_cons_succ, List.setIfInBounds_toArray, List.set_cons_zero, List.set_cons_succ]
      refine wpAnyH_take (i := 12) (v := .int .i64 z16) rfl (by kernel_rfl) (by kernel_rfl) (by kernel_rfl) (fun _ _ _ h => h) (Or.inl ⟨by rfl, ?_⟩) hHeld ?_
      · intro w' hSw
        go_simp <;> rfl
      try simp only [Act.put, List.getElem_toArray, List.getElem_cons_zero, List.getElem_cons_succ, List.setIfInBounds_toArray, List.set_cons_zero, List.set_cons_succ]
      refine wpAnyH_take (i := 13) (v := .int .i64 z18) rfl (by kernel_rfl) (by kernel_rfl) (by kernel_rfl) (fun _ _ _ h => h) (Or.inl ⟨by rfl, ?_⟩) hHeld ?_
      · intro w' hSw
        go_simp <;> rfl
      try simp only [Act.put, List.getElem_toArray, List.getElem_cons_zero, List.getElem_cons_succ, List.setIfInBounds_toArray, List.set_cons_zero, List.set_cons_succ]
      refine wpAnyH_done (by kernel_rfl) ?_ _
      clear hHeld
      have q0 := bF.cell 0 _ rfl
      have q1 := bF.cell 1 _ rfl
      go_wp2_with fail
      refine bodyPost_ret (v := .tuple #[.agg #[.slice l.aG l.given.length l.cG, .slice l.aW l.waits.length l.cW], .int .i64 z15, .int .i64 z16, .int .i64 z18]) (by simp [results, Tryd.results15, go_sem, q0, q1]) rfl HF.out
     ·skip
      go_simp
      obtain ⟨u19, hu19, hq1, hbu19, hq2⟩ := boxes1 u15 [.int .i64 1, .int .i64 2, .int .i64 3, .int .i64 4, .int .i64 4, .int .i64 0, .int .i64 5] 3
      have L19 : Lit u19 C u15.heap.size [1, 2, 3, 4, 4, 0, 5] := ⟨by rw [← hu19.out]; exact readsI_lit u15 [1, 2, 3, 4, 4, 0, 5] _, J15.cur.lt⟩
      have J19 := J15.below hbu19
      try simp only [List.toArray] at hu19
      rw [hu19.out]
      have M19_5 := M15_5.below hbu19
      refine hK.out _ _ (J19.two) (fun hHeld => ?_)
      clear hK K hu19 hbu19 hq1 hq2 J15 M15_5
      try simp only [Act.put, List.getElem_toArray, List.getElem_cons_zero, List.getElem_cons_succ, List.setIfInBounds_toArray, List.set_cons_zero, List.set_cons_succ]
      refine wpAnyH_ready (rs := [6]) (by kernel_rfl) (by simp) ?_
      refine (AllReadyH.cons rfl (fun K hK => ?_) AllReadyH.nil)
      go_simp
      refine (l1IntL 6 J19.cur hl M19_5 (by decide) (by decide)).mono ?_
      rintro e u20 ⟨z20, rfl, hcu20, hgu20⟩
      have J20 := J19.next hcu20 hgu20
      have M20_8 := L19.next hgu20
      refine hK.out _ _ (J20.two) (fun hHeld => ?_)
      clear hK K hcu20 hgu20 J19 M19_5 L19
      try simp only [Act.put, List.getElem_toArray, List.getElem_cons_zero, List.getElem_cons_succ, List.setIfInBounds_toArray, List.set_cons_zero, List.set_cons_succ]
      refine wpAnyH_ready (rs := [9]) (by kernel_rfl) (by simp) ?_
      refine (AllReadyH.cons rfl (fun K hK => ?_) AllReadyH.nil)
      go_simp
      refine (l1IntL 7 J20.cur hl M20_8 (by decide) (by decide)).mono ?_
      rintro e u21 ⟨z21, rfl, hcu21, hgu21⟩
      have J21 := J20.next hcu21 hgu21
      refine hK.out _ _ (J21.two) (fun hHeld => ?_)
      clear hK K hcu21 hgu21 J20 M20_8
      try simp only [Act.put, List.getElem_toArray, List.getElem_cons_zero, List.getElem_cons_succ, List.setIfInBounds_toArray, List.set_cons_zero, List.set_cons_succ]
      obtain ⟨f0, bF, kF⟩ := FIN.out _ z15 z20 z21 J21
      have hbx := J21.res
      have y0 := hbx.cell 0 _ rfl
      have y1 := hbx.cell 1 _ rfl
      have g0 := hbx.frozen 0
      have g1 := hbx.frozen 1
      obtain ⟨WF, hWF⟩ : ∃ WF, Hid ((u21.setCell ⟨w.heap.size, 0, none⟩ (.slice l.aG l.given.length l.cG)).setCell ⟨w.heap.size, 1, none⟩ (.slice l.aW l.waits.length l.cW) = WF) := ⟨_, rfl⟩
      rw [hWF.out] at f0 bF kF
      have HF : Hid (_) := f0
      clear hbx J21 f0 FIN
      refine wpAnyH_ready (rs := [10]) (by kernel_rfl) (by simp) ?_
      refine AllReadyH.cons rfl (fun K hK => ?_) AllReadyH.nil
      go_simp
      rw [hWF.out]
      refine hK.out _ _ (kF) (fun hHeld => ?_)
      clear hK K hWF y0 y1 g0 g1
      try simp only [Act.put, List.getElem_toArray, List.getElem_cons_zero, List.getElem_cons_succ, List.setIfInBounds_toArray, List.set_cons_zero, List.set_cons_succ]
      refine wpAnyH_take (i := 11) (v := .int .i64 z15) rfl (by kernel_rfl) (by kernel_rfl) (by kernel_rfl) (fun _ _ _ h => h) (Or.inl ⟨by rfl, ?_⟩) hHeld ?_
      · intro w' hSw
        go_simp <;> rfl
      try simp only [Act.put, List.getElem_toArray, List.getElem_cons_zero, List.getElem_cons_succ, List.setIfInBounds_toArray, List.set_cons_zero, List.set_cons_succ]
      refine wpAnyH_take (i := 12) (v := .int .i64 z20) rfl (by kernel_rfl) (by kernel_rfl) (by kernel_rfl) (fun _ _ _ h => h) (Or.inl ⟨by rfl, ?_⟩) hHeld ?_
      · intro w' hSw
        go_simp <;> rfl
      try simp only [Act.put, List.getElem_toArray, List.getElem_cons_zero, List.getElem_cons_succ, List.setIfInBounds_toArray, List.set_cons_zero, List.set_cons_succ]
      refine wpAnyH_take (i := 13) (v := .int .i64 z21) rfl (by kernel_rfl) (by kernel_rfl) (by kernel_rfl) (fun _ _ _ h => h) (Or.inl ⟨by rfl, ?_⟩) hHeld ?_
      · intro w' hSw
        go_simp <;> rfl
      try simp only [Act.put, List.getElem_toArray, List.getElem_cons_zero, List.getElem_cons_succ, List.setIfInBounds_toArray, List.set_cons_zero, List.set_cons_succ]
      refine wpAnyH_done (by kernel_rfl) ?_ _
      clear hHeld
      have q0 := bF.cell 0 _ rfl
      have q1 := bF.cell 1 _ rfl
      go_wp2_with fail
      refine bodyPost_ret (v := .tuple #[.agg #[.slice l.aG l.given.length l.cG, .slice l.aW l.waits.length l.cW], .int .i64 z15, .int .i64 z20, .int .i64 z21]) (by simp [results, Tryd.results15, go_sem, q0, q1]) rfl HF.out
    ·skip
     go_simp
     obtain ⟨u22, hu22, hq1, hbu22, hq2⟩ := boxes1 u14 [.int .i64 1, .int .i64 2, .int .i64 3, .int .i64 4, .int .i64 4, .int .i64 0, .int .i64 5] 3
     have L22 : Lit u22 C u14.heap.size [1, 2, 3, 4, 4, 0, 5] := ⟨by rw [← hu22.out]; exact readsI_lit u14 [1, 2, 3, 4, 4, 0, 5] _, J14.cur.lt⟩
     have J22 := J14.below hbu22
     try simp only [List.toArray] at hu22
     rw [hu22.out]
     have M22_2 := M14_2.below hbu22
     have M22_5 := L14.below hbu22
     refine hK.out _ _ (J22.two) (fun hHeld => ?_)
     clear hK K hu22 hbu22 hq1 hq2 J14 M14_2 L14
     try simp only [Act.put, List.getElem_toArray, List.getElem_cons_zero, List.getElem_cons_succ, List.setIfInBounds_toArray, List.set_cons_zero, List.set_cons_succ]
     refine wpAnyH_ready (rs := [3]) (by kernel_rfl) (by simp) ?_
     refine (AllReadyH.cons rfl (fun K hK => ?_) AllReadyH.nil)
     go_simp
     refine (l1IntL 8 J22.cur hl M22_2 (by decide) (by decide)).mono ?_
     rintro e u23 ⟨z23, rfl, hcu23, hgu23⟩
     have J23 := J22.next hcu23 hgu23
     have M23_5 := M22_5.next hgu23
     have M23_8 := L22.next hgu23
     refine hK.out _ _ (J23.two) (fun hHeld => ?_)
     clear hK K hcu23 hgu23 J22 M22_2 M22_5 L22
     try simp only [Act.put, List.getElem_toArray, List.getElem_cons_zero, List.getElem_cons_succ, List.setIfInBounds_toArray, List.set_cons_zero, List.set_cons_succ]
     refine wpAnyH_ready (rs := [6]) (by kernel_rfl) (by simp) ?_
     refine (AllReadyH.cons rfl (fun K hK => ?_) AllReadyH.nil)
     go_simp
     refine (l1IntL 6 J23.cur hl M23_5 (by decide) (by decide)).mono ?_
     rintro e u24 ⟨z24, rfl, hcu24, hgu24⟩
     have J24 := J23.next hcu24 hgu24
     have M24_8 := M23_8.next hgu24
     refine hK.out _ _ (J24.two) (fun hHeld => ?_)
     clear hK K hcu24 hgu24 J23 M23_5 M23_8
     try simp only [Act.put, List.getElem_toArray, List.getElem_cons_zero, List.getElem_cons_succ, List.setIfInBounds_toArray, List.set_cons_zero, List.set_cons_succ]
     refine wpAnyH_ready (rs := [9]) (by kernel_rfl) (by simp) ?_
     refine (AllReadyH.cons rfl (fun K hK => ?_) AllReadyH.nil)
     go_simp
     refine (l1IntL 7 J24.cur hl M24_8 (by decide) (by decide)).mono ?_
     rintro e u25 ⟨z25, rfl, hcu25, hgu25⟩
     have J25 := J24.next hcu25 hgu25
     refine hK.out _ _ (J25.two) (fun hHeld => ?_)
     clear hK K hcu25 hgu25 J24 M24_8
     try simp only [Act.put, List.getElem_toArray, List.getElem_cons_zero, List.getElem_cons_succ, List.setIfInBounds_toArray, List.set_cons_zero, List.set_cons_succ]
     obtain ⟨f0, bF, kF⟩ := FIN.out _ z23 z24 z25 J25
     have hbx := J25.res
     have y0 := hbx.cell 0 _ rfl
     have y1 := hbx.cell 1 _ rfl
     have g0 := hbx.frozen 0
     have g1 := hbx.frozen 1
     obtain ⟨WF, hWF⟩ : ∃ WF, Hid ((u25.setCell ⟨w.heap.size, 0, none⟩ (.slice l.aG l.given.length l.cG)).setCell ⟨w.heap.size, 1, none⟩ (.slice l.aW l.waits.length l.cW) = WF) := ⟨_, rfl⟩
     rw [hWF.out] at f0 bF kF
     have HF : Hid (_) := f0
     clear hbx J25 f0 FIN
     refine wpAnyH_ready (rs := [10]) (by kernel_rfl) (by simp) ?_
     refine AllReadyH.cons rfl (fun K hK => ?_) AllReadyH.nil
     go_simp
     rw [hWF.out]
     refine hK.out _ _ (kF) (fun hHeld => ?_)
     clear hK K hWF y0 y1 g0 g1
     try simp only [Act.put, List.getElem_toArray, List.getElem_cons_zero, List.getElem_cons_succ, List.setIfInBounds_toArray, List.set_cons_zero, List.set_cons_succ]
     refine wpAnyH_take (i := 11) (v := .int .i64 z23) rfl (by kernel_rfl) (by kernel_rfl) (by kernel_rfl) (fun _ _ _ h => h) (Or.inl ⟨by rfl, ?_⟩) hHeld ?_
     · intro w' hSw
       go_simp <;> rfl
     try simp only [Act.put, List.getElem_toArray, List.getElem_cons_zero, List.getElem_cons_succ, List.setIfInBounds_toArray, List.set_cons_zero, List.set_cons_succ]
     refine wpAnyH_take (i := 12) (v := .int .i64 z24) rfl (by kernel_rfl) (by kernel_rfl) (by kernel_rfl) (fun _ _ _ h => h) (Or.inl ⟨by rfl, ?_⟩) hHeld ?_
     · intro w' hSw
       go_simp <;> rfl
     try simp only [Act.put, List.getElem_toArray, List.getElem_cons_zero, List.getElem_cons_succ, List.setIfInBounds_toArray, List.set_cons_zero, List.set_cons_succ]
     refine wpAnyH_take (i := 13) (v := .int .i64 z25) rfl (by kernel_rfl) (by kernel_rfl) (by kernel_rfl) (fun _ _ _ h => h) (Or.inl ⟨by rfl, ?_⟩) hHeld ?_
     · intro w' hSw
       go_simp <;> rfl
     try simp only [Act.put, List.getElem_toArray, List.getElem_cons_zero, List.getElem_cons_succ, List.setIfInBounds_toArray, List.set_cons_zero, List.set_cons_succ]
     refine wpAnyH_done (by kernel_rfl) ?_ _
     clear hHeld
     have q0 := bF.cell 0 _ rfl
     have q1 := bF.cell 1 _ rfl
     go_wp2_with fail
     refine bodyPost_ret (v := .tuple #[.agg #[.slice l.aG l.given.length l.cG, .slice l.aW l.waits.length l.cW], .int .i64 z23, .int .i64 z24, .int .i64 z25]) (by simp [results, Tryd.results15, go_sem, q0, q1]) rfl HF.out
   ·skip
    go_simp
    obtain ⟨u26, hu26, hq1, hbu26, hq2⟩ := boxes1 u1 [.int .i64 1, .int .i64 2, .int .i64 3, .int .i64 4, .int .i64 4, .int .i64 0, .int .i64 5] 3
    have L26 : Lit u26 C u1.heap.size [1, 2, 3, 4, 4, 0, 5] := ⟨by rw [← hu26.out]; exact readsI_lit u1 [1, 2, 3, 4, 4, 0, 5] _, J1.cur.lt⟩
    have J26 := J1.below hbu26
    try simp only [List.toArray] at hu26
    rw [hu26.out]
    have M26_2 := L1.below hbu26
    refine hK.out _ _ (J26.two) (fun hHeld => ?_)
    clear hK K hu26 hbu26 hq1 hq2 J1 L1
    try simp only [Act.put, List.getElem_toArray, List.getElem_cons_zero, List.getElem_cons_succ, List.setIfInBounds_toArray, List.set_cons_zero, List.set_cons_succ]
    refine wpAnyH_ready (rs := [3, 5]) (by kernel_rfl) (by simp) ?_
    refine (AllReadyH.cons rfl (fun K hK => ?_) (AllReadyH.cons rfl (fun K hK => ?_) AllReadyH.nil))
    ·skip
     go_simp
     refine (l1IntL 8 J26.cur hl M26_2 (by decide) (by decide)).mono ?_
     rintro e u27 ⟨z27, rfl, hcu27, hgu27⟩
     have J27 := J26.next hcu27 hgu27
     have M27_8 := L26.next hgu27
     refine hK.out _ _ (J27.two) (fun hHeld => ?_)
     clear hK K hcu27 hgu27 J26 M26_2 L26
     try simp only [Act.put, List.getElem_toArray, List.getElem_cons_zero, List.getElem_cons_succ, List.setIfInBounds_toArray, List.set_cons_zero, List.set_cons_succ]
     refine wpAnyH_ready (rs := [5]) (by kernel_rfl) (by simp) ?_
     refine (AllReadyH.cons rfl (fun K hK => ?_) AllReadyH.nil)
     go_simp
     obtain ⟨u28, hu28, hq1, hbu28, hq2⟩ := boxes1 u27 [.int .i64 0, .int .i64 1, .int .i64 2, .int .i64 2, .int .i64 (-1), .int .i64 100] 3
     have L28 : Lit u28 C u27.heap.size [0, 1, 2, 2, (-1), 100] := ⟨by rw [← hu28.out]; exact readsI_lit u27 [0, 1, 2, 2, (-1), 100] _, J27.cur.lt⟩
     have J28 := J27.below hbu28
     try simp only [List.toArray] at hu28
     rw [hu28.out]
     have M28_8 := M27_8.below hbu28
     refine hK.out _ _ (J28.two) (fun hHeld => ?_)
     clear hK K hu28 hbu28 hq1 hq2 J27 M27_8
     try simp only [Act.put, List.getElem_toArray, List.getElem_cons_zero, List.getElem_cons_succ, List.setIfInBounds_toArray, List.set_cons_zero, List.set_cons_succ]
     refine wpAnyH_ready (rs := [6]) (by kernel_rfl) (by simp) ?_
     refine (AllReadyH.cons rfl (fun K hK => ?_) AllReadyH.nil)
     go_simp
     refine (l1IntL 6 J28.cur hl L28 (by decide) (by decide)).mono ?_
     rintro e u29 ⟨z29, rfl, hcu29, hgu29⟩
     have J29 := J28.next hcu29 hgu29
     have M29_8 := M28_8.next hgu29
     refine hK.out _ _ (J29.two) (fun hHeld => ?_)
     clear hK K hcu29 hgu29 J28 M28_8 L28
     try simp only [Act.put, List.getElem_toArray, List.getElem_cons_zero, List.getElem_cons_succ, List.setIfInBounds_toArray, List.set_cons_zero, List.set_cons_succ]
     refine wpAnyH_ready (rs := [9]) (by kernel_rfl) (by simp) ?_
     refine (AllReadyH.cons rfl (fun K hK => ?_) AllReadyH.nil)
     go_simp
     refine (l1IntL 7 J29.cur hl M29_8 (by decide) (by decide)).mono ?_
     rintro e u30 ⟨z30, rfl, hcu30, hgu30⟩
     have J30 := J29.next hcu30 hgu30
     refine hK.out _ _ (J30.two) (fun hHeld => ?_)
     clear hK K hcu30 hgu30 J29 M29_8
     try simp only [Act.put, List.getElem_toArray, List.getElem_cons_zero, List.getElem_cons_succ, List.setIfInBounds_toArray, List.set_cons_zero, List.set_cons_succ]
     obtain ⟨f0, bF, kF⟩ := FIN.out _ z27 z29 z30 J30
     have hbx := J30.res
     have y0 := hbx.cell 0 _ rfl
     have y1 := hbx.cell 1 _ rfl
     have g0 := hbx.frozen 0
     have g1 := hbx.frozen 1
     obtain ⟨WF, hWF⟩ : ∃ WF, Hid ((u30.setCell ⟨w.heap.size, 0, none⟩ (.slice l.aG l.given.length l.cG)).setCell ⟨w.heap.size, 1, none⟩ (.slice l.aW l.waits.length l.cW) = WF) := ⟨_, rfl⟩
     rw [hWF.out] at f0 bF kF
     have HF : Hid (_) := f0
     clear hbx J30 f0 FIN
     refine wpAnyH_ready (rs := [10]) (by kernel_rfl) (by simp) ?_
     refine AllReadyH.cons rfl (fun K hK => ?_) AllReadyH.nil
     go_simp
     rw [hWF.out]
     refine hK.out _ _ (kF) (fun hHeld => ?_)
     clear hK K hWF y0 y1 g0 g1
     try simp only [Act.put, List.getElem_toArray, List.getElem_cons_zero, List.getElem_cons_succ, List.setIfInBounds_toArray, List.set_cons_zero, List.set_cons_succ]
     refine wpAnyH_take (i := 11) (v := .int .i64 z27) rfl (by kernel_rfl) (by kernel_rfl) (by kernel_rfl) (fun _ _ _ h => h) (Or.inl ⟨by rfl, ?_⟩) hHeld ?_
     · intro w' hSw
       go_simp <;> rfl
     try simp only [Act.put, List.getElem_toArray, List.getElem_cons_zero, List.getElem_cons_succ, List.setIfInBounds_toArray, List.set_cons_zero, List.set_cons_succ]
     refine wpAnyH_take (i := 12) (v := .int .i64 z29) rfl (by kernel_rfl) (by kernel_rfl) (by kernel_rfl) (fun _ _ _ h => h) (Or.inl ⟨by rfl, ?_⟩) hHeld ?_
     · intro w' hSw
       go_simp <;> rfl
     try simp only [Act.put, List.getElem_toArray, List.getElem_cons_zero, List.getElem_cons_succ, List.setIfInBounds_toArray, List.set_cons_zero, List.set_cons_succ]
     refine wpAnyH_take (i := 13) (v := .int .i64 z30) rfl (by kernel_rfl) (by kernel_rfl) (by kernel_rfl) (fun _ _ _ h => h) (Or.inl ⟨by rfl, ?_⟩) hHeld ?_
     · intro w' hSw
       go_simp <;> rfl
     try simp only [Act.put, List.getElem_toArray, List.getElem_cons_zero, List.getElem_cons_succ, List.setIfInBounds_toArray, List.set_cons_zero, List.set_cons_succ]
     refine wpAnyH_done (by kernel_rfl) ?_ _
     clear hHeld
     have q0 := bF.cell 0 _ rfl
     have q1 := bF.cell 1 _ rfl
     go_wp2_with fail
     refine bodyPost_ret (v := .tuple #[.agg #[.slice l.aG l.given.length l.cG, .slice l.aW l.waits.length l.cW], .int .i64 z27, .int .i64 z29, .int .i64 z30]) (by simp [results, Tryd.results15, go_sem, q0, q1]) rfl HF.out
    ·skip
     go_simp
     obtain ⟨u31, hu31, hq1, hbu31, hq2⟩ := boxes1 u26 [.int .i64 0, .int .i64 1, .int .i64 2, .int .i64 2, .int .i64 (-1), .int .i64 100] 3
     have L31 : Lit u31 C u26.heap.size [0, 1, 2, 2, (-1), 100] := ⟨by rw [← hu31.out]; exact readsI_lit u26 [0, 1, 2, 2, (-1), 100] _, J26.cur.lt⟩
     have J31 := J26.below hbu31
     try simp only [List.toArray] at hu31
     rw [hu31.out]
     have M31_2 := M26_2.below hbu31
     have M31_8 := L26.below hbu31
     refine hK.out _ _ (J31.two) (fun hHeld => ?_)
     clear hK K hu31 hbu31 hq1 hq2 J26 M26_2 L26
     try simp only [Act.put, List.getElem_toArray, List.getElem_cons_zero, List.getElem_cons_succ, List.setIfInBounds_toArray, List.set_cons_zero, List.set_cons_succ]
     refine wpAnyH_ready (rs := [3]) (by kernel_rfl) (by simp) ?_
     refine (AllReadyH.cons rfl (fun K hK => ?_) AllReadyH.nil)
     go_simp
     refine (l1IntL 8 J31.cur hl M31_2 (by decide) (by decide)).mono ?_
     rintro e u32 ⟨z32, rfl, hcu32, hgu32⟩
     have J32 := J31.next hcu32 hgu32
     have M32_8 := M31_8.next hgu32
     have M32_5 := L31.next hgu32
     refine hK.out _ _ (J32.two) (fun hHeld => ?_)
     clear hK K hcu32 hgu32 J31 M31_2 M31_8 L31
     try simp only [Act.put, List.getElem_toArray, List.getElem_cons_zero, List.getElem_cons_succ, List.setIfInBounds_toArray, List.set_cons_zero, List.set_cons_succ]
     refine wpAnyH_ready (rs := [6]) (by kernel_rfl) (by simp) ?_
     refine (AllReadyH.cons rfl (fun K hK => ?_) AllReadyH.nil)
     go_simp
     refine (l1IntL 6 J32.cur hl M32_5 (by decide) (by decide)).mono ?_
     rintro e u33 ⟨z33, rfl, hcu33, hgu33⟩
     have J33 := J32.next hcu33 hgu33
     have M33_8 := M32_8.next hgu33
     refine hK.out _ _ (J33.two) (fun hHeld => ?_)
     clear hK K hcu33 hgu33 J32 M32_8 M32_5
     try simp only [Act.put, List.getElem_toArray, List.getElem_cons_zero, List.getElem_cons_succ, List.setIfInBounds_toArray, List.set_cons_zero, List.set_cons_succ]
     refine wpAnyH_ready (rs := [9]) (by kernel_rfl) (by simp) ?_
     refine (AllReadyH.cons rfl (fun K hK => ?_) AllReadyH.nil)
     go_simp
     refine (l1IntL 7 J33.cur hl M33_8 (by decide) (by decide)).mono ?_
     rintro e u34 ⟨z34, rfl, hcu34, hgu34⟩
     have J34 := J33.next hcu34 hgu34
     refine hK.out _ _ (J34.two) (fun hHeld => ?_)
     clear hK K hcu34 hgu34 J33 M33_8
     try simp only [Act.put, List.getElem_toArray, List.getElem_cons_zero, List.getElem_cons_succ, List.setIfInBounds_toArray, List.set_cons_zero, List.set_cons_succ]
     obtain ⟨f0, bF, kF⟩ := FIN.out _ z32 z33 z34 J34
     have hbx := J34.res
     have y0 := hbx.cell 0 _ rfl
     have y1 := hbx.cell 1 _ rfl
     have g0 := hbx.frozen 0
     have g1 := hbx.frozen 1
     obtain ⟨WF, hWF⟩ : ∃ WF, Hid ((u34.setCell ⟨w.heap.size, 0, none⟩ (.slice l.aG l.given.length l.cG)).setCell ⟨w.heap.size, 1, none⟩ (.slice l.aW l.waits.length l.cW) = WF) := ⟨_, rfl⟩
     rw [hWF.out] at f0 bF kF
     have HF : Hid (_) := f0
     clear hbx J34 f0 FIN
     refine wpAnyH_ready (rs := [10]) (by kernel_rfl) (by simp) ?_
     refine AllReadyH.cons rfl (fun K hK => ?_) AllReadyH.nil
     go_simp
     rw [hWF.out]
     refine hK.out _ _ (kF) (fun hHeld => ?_)
     clear hK K hWF y0 y1 g0 g1
     try simp only [Act.put, List.getElem_toArray, List.getElem_cons_zero, List.getElem_cons_succ, List.setIfInBounds_toArray, List.set_cons_zero, List.set_cons_succ]
     refine wpAnyH_take (i := 11) (v := .int .i64 z32) rfl (by kernel_rfl) (by kernel_rfl) (by kernel_rfl) (fun _ _ _ h => h) (Or.inl ⟨by rfl, ?_⟩) hHeld ?_
     · intro w' hSw
       go_simp <;> rfl
     try simp only [Act.put, List.getElem_toArray, List.getElem_cons_zero, List.getElem_cons_succ, List.setIfInBounds_toArray, List.set_cons_zero, List.set_cons_succ]
     refine wpAnyH_take (i := 12) (v := .int .i64 z33) rfl (by kernel_rfl) (by kernel_rfl) (by kernel_rfl) (fun _ _ _ h => h) (Or.inl ⟨by rfl, ?_⟩) hHeld ?_
     · intro w' hSw
       go_simp <;> rfl
     try simp only [Act.put, List.getElem_toArray, List.getElem_cons_zero, List.getElem_cons_succ, List.setIfInBounds_toArray, List.set_cons_zero, List.set_cons_succ]
     refine wpAnyH_take (i := 13) (v := .int .i64 z34) rfl (by kernel_rfl) (by kernel_rfl) (by kernel_rfl) (fun _ _ _ h => h) (Or.inl ⟨by rfl, ?_⟩) hHeld ?_
     · intro w' hSw
       go_simp <;> rfl
     try simp only [Act.put, List.getElem_toArray, List.getElem_cons_zero, List.getElem_cons_succ, List.setIfInBounds_toArray, List.set_cons_zero, List.set_cons_succ]
     refine wpAnyH_done (by kernel_rfl) ?_ _
     clear hHeld
     have q0 := bF.cell 0 _ rfl
     have q1 := bF.cell 1 _ rfl
     go_wp2_with fail
     refine bodyPost_ret (v := .tuple #[.agg #[.slice l.aG l.given.length l.cG, .slice l.aW l.waits.length l.cW], .int .i64 z32, .int .i64 z33, .int .i64 z34]) (by simp [results, Tryd.results15, go_sem, q0, q1]) rfl HF.out
  ·skip
   go_simp
   obtain ⟨u35, hu35, hq1, hbu35, hq2⟩ := boxes1 d0 [.int .i64 0, .int .i64 1, .int .i64 2, .int .i64 2, .int .i64 (-1), .int .i64 100] 3
   have L35 : Lit u35 C d0.heap.size [0, 1, 2, 2, (-1), 100] := ⟨by rw [← hu35.out]; exact readsI_lit d0 [0, 1, 2, 2, (-1), 100] _, I1.cur.lt⟩
   have J35 := I1.below hbu35
   try simp only [List.toArray] at hu35
   rw [hu35.out]
   refine hK.out _ _ (J35.two) (fun hHeld => ?_)
   clear hK K hu35 hbu35 hq1 hq2 I1 
   try simp only [Act.put, List.getElem_toArray, List.getElem_cons_zero, List.getElem_cons_succ, List.setIfInBounds_toArray, List.set_cons_zero, List.set_cons_succ]
   refine wpAnyH_ready (rs := [2, 8]) (by kernel_rfl) (by simp) ?_
   refine (AllReadyH.cons rfl (fun K hK => ?_) (AllReadyH.cons rfl (fun K hK => ?_) AllReadyH.nil))
   ·skip
    go_simp
    obtain ⟨u36, hu36, hq1, hbu36, hq2⟩ := boxes1 u35 [.int .i64 1, .int .i64 2, .int .i64 3, .int .i64 4, .int .i64 5, .int .i64 6, .int .i64 0, .int .i64 100] 3
    have L36 : Lit u36 C u35.heap.size [1, 2, 3, 4, 5, 6, 0, 100] := ⟨by rw [← hu36.out]; exact readsI_lit u35 [1, 2, 3, 4, 5, 6, 0, 100] _, J35.cur.lt⟩
    have J36 := J35.below hbu36
    try simp only [List.toArray] at hu36
    rw [hu36.out]
    have M36_5 := L35.below hbu36
    refine hK.out _ _ (J36.two) (fun hHeld => ?_)
    clear hK K hu36 hbu36 hq1 hq2 J35 L35
    try simp only [Act.put, List.getElem_toArray, List.getElem_cons_zero, List.getElem_cons_succ, List.setIfInBounds_toArray, List.set_cons_zero, List.set_cons_succ]
    refine wpAnyH_ready (rs := [3, 8]) (by kernel_rfl) (by simp) ?_
    refine (AllReadyH.cons rfl (fun K hK => ?_) (AllReadyH.cons rfl (fun K hK => ?_) AllReadyH.nil))
    ·skip
     go_simp
     refine (l1IntL 8 J36.cur hl L36 (by decide) (by decide)).mono ?_
     rintro e u37 ⟨z37, rfl, hcu37, hgu37⟩
     have J37 := J36.next hcu37 hgu37
     have M37_5 := M36_5.next hgu37
     refine hK.out _ _ (J37.two) (fun hHeld => ?_)
     clear hK K hcu37 hgu37 J36 M36_5 L36
     try simp only [Act.put, List.getElem_toArray, List.getElem_cons_zero, List.getElem_cons_succ, List.setIfInBounds_toArray, List.set_cons_zero, List.set_cons_succ]
     refine wpAnyH_ready (rs := [6, 8]) (by kernel_rfl) (by simp) ?_
     refine (AllReadyH.cons rfl (fun K hK => ?_) (AllReadyH.cons rfl (fun K hK => ?_) AllReadyH.nil))
     ·skip
      go_simp
      refine (l1IntL 6 J37.cur hl M37_5 (by decide) (by decide)).mono ?_
      rintro e u38 ⟨z38, rfl, hcu38, hgu38⟩
      have J38 := J37.next hcu38 hgu38
      refine hK.out _ _ (J38.two) (fun hHeld => ?_)
      clear hK K hcu38 hgu38 J37 M37_5
      try simp only [Act.put, List.getElem_toArray, List.getElem_cons_zero, List.getElem_cons_succ, List.setIfInBounds_toArray, List.set_cons_zero, List.set_cons_succ]
      refine wpAnyH_ready (rs := [8]) (by kernel_rfl) (by simp) ?_
      refine (AllReadyH.cons rfl (fun K hK => ?_) AllReadyH.nil)
      go_simp
      obtain ⟨u39, hu39, hq1, hbu39, hq2⟩ := boxes1 u38 [.int .i64 1, .int .i64 2, .int .i64 3, .int .i64 4, .int .i64 4, .int .i64 0, .int .i64 5] 3
      have L39 : Lit u39 C u38.heap.size [1, 2, 3, 4, 4, 0, 5] := ⟨by rw [← hu39.out]; exact readsI_lit u38 [1, 2, 3, 4, 4, 0, 5] _, J38.cur.lt⟩
      have J39 := J38.below hbu39
      try simp only [List.toArray] at hu39
      rw [hu39.out]
      refine hK.out _ _ (J39.two) (fun hHeld => ?_)
      clear hK K hu39 hbu39 hq1 hq2 J38 
      try simp only [Act.put, List.getElem_toArray, List.getElem_cons_zero, List.getElem_cons_succ, List.setIfInBounds_toArray, List.set_cons_zero, List.set_cons_succ]
      refine wpAnyH_ready (rs := [9]) (by kernel_rfl) (by simp) ?_
      refine (AllReadyH.cons rfl (fun K hK => ?_) AllReadyH.nil)
      go_simp
      refine (l1IntL 7 J39.cur hl L39 (by decide) (by decide)).mono ?_
      rintro e u40 ⟨z40, rfl, hcu40, hgu40⟩
      have J40 := J39.next hcu40 hgu40
      refine hK.out _ _ (J40.two) (fun hHeld => ?_)
      clear hK K hcu40 hgu40 J39 L39
      try simp only [Act.put, List.getElem_toArray, List.getElem_cons_zero, List.getElem_cons_succ, List.setIfInBounds_toArray, List.set_cons_zero, List.set_cons_succ]
      obtain ⟨f0, bF, kF⟩ := FIN.out _ z37 z38 z40 J40
      have hbx := J40.res
      have y0 := hbx.cell 0 _ rfl
      have y1 := hbx.cell 1 _ rfl
      have g0 := hbx.frozen 0
      have g1 := hbx.frozen 1
      obtain ⟨WF, hWF⟩ : ∃ WF, Hid ((u40.setCell ⟨w.heap.size, 0, none⟩ (.slice l.aG l.given.length l.cG)).setCell ⟨w.heap.size, 1, none⟩ (.slice l.aW l.waits.length l.cW) = WF) := ⟨_, rfl⟩
      rw [hWF.out] at f0 bF kF
      have HF : Hid (_) := f0
      clear hbx J40 f0 FIN
      refine wpAnyH_ready (rs := [10]) (by kernel_rfl) (by simp) ?_
      refine AllReadyH.cons rfl (fun K hK => ?_) AllReadyH.nil
      go_simp
      rw [hWF.out]
      refine hK.out _ _ (kF) (fun hHeld => ?_)
      clear hK K hWF y0 y1 g0 g1
      try simp only [Act.put, List.getElem_toArray, List.getElem_cons_zero, List.getElem_cons_succ, List.setIfInBounds_toArray, List.set_cons_zero, List.set_cons_succ]
      refine wpAnyH_take (i := 11) (v := .int .i64 z37) rfl (by kernel_rfl) (by kernel_rfl) (by kernel_rfl) (fun _ _ _ h => h) (Or.inl ⟨by rfl, ?_⟩) hHeld ?_
      · intro w' hSw
        go_simp <;> rfl
      try simp only [Act.put, List.getElem_toArray, List.getElem_cons_zero, List.getElem_cons_succ, List.setIfInBounds_toArray, List.set_cons_zero, List.set_cons_succ]
      refine wpAnyH_take (i := 12) (v := .int .i64 z38) rfl (by kernel_rfl) (by kernel_rfl) (by kernel_rfl) (fun _ _ _ h => h) (Or.inl ⟨by rfl, ?_⟩) hHeld ?_
      · intro w' hSw
        go_simp <;> rfl
      try simp only [Act.put, List.getElem_toArray, List.getElem_cons_zero, List.getElem_cons_succ, List.setIfInBounds_toArray, List.set_cons_zero, List.set_cons_succ]
      refine wpAnyH_take (i := 13) (v := .int .i64 z40) rfl (by kernel_rfl) (by kernel_rfl) (by kernel_rfl) (fun _ _ _ h => h) (Or.inl ⟨by rfl, ?_⟩) hHeld ?_
      · intro w' hSw
        go_simp <;> rfl
      try simp only [Act.put, List.getElem_toArray, List.getElem_cons_zero, List.getElem_cons_succ, List.setIfInBounds_toArray, List.set_cons_zero, List.set_cons_succ]
      refine wpAnyH_done (by kernel_rfl) ?_ _
      clear hHeld
      have q0 := bF.cell 0 _ rfl
      have q1 := bF.cell 1 _ rfl
      go_wp2_with fail
      refine bodyPost_ret (v := .tuple #[.agg #[.slice l.aG l.given.length l.cG, .slice l.aW l.waits.length l.cW], .int .i64 z37, .int .i64 z38, .int .i64 z40]) (by simp [results, Tryd.results15, go_sem, q0, q1]) rfl HF.out
     ·skip
      go_simp
      obtain ⟨u41, hu41, hq1, hbu41, hq2⟩ := boxes1 u37 [.int .i64 1, .int .i64 2, .int .i64 3, .int .i64 4, .int .i64 4, .int .i64 0, .int .i64 5] 3
      have L41 : Lit u41 C u37.heap.size [1, 2, 3, 4, 4, 0, 5] := ⟨by rw [← hu41.out]; exact readsI_lit u37 [1, 2, 3, 4, 4, 0, 5] _, J37.cur.lt⟩
      have J41 := J37.below hbu41
      try simp only [List.toArray] at hu41
      rw [hu41.out]
      have M41_5 := M37_5.below hbu41
      refine hK.out _ _ (J41.two) (fun hHeld => ?_)
      clear hK K hu41 hbu41 hq1 hq2 J37 M37_5
      try simp only [Act.put, List.getElem_toArray, List.getElem_cons_zero, List.getElem_cons_succ, List.setIfInBounds_toArray, List.set_cons_zero, List.set_cons_succ]
      refine wpAnyH_ready (rs := [6]) (by kernel_rfl) (by simp) ?_
      refine (AllReadyH.cons rfl (fun K hK => ?_) AllReadyH.nil)
      go_simp
      refine (l1IntL 6 J41.cur hl M41_5 (by decide) (by decide)).mono ?_
      rintro e u42 ⟨z42, rfl, hcu42, hgu42⟩
      have J42 := J41.next hcu42 hgu42
      have M42_8 := L41.next hgu42
      refine hK.out _ _ (J42.two) (fun hHeld => ?_)
      clear hK K hcu42 hgu42 J41 M41_5 L41
      try simp only [Act.put, List.getElem_toArray, List.getElem_cons_zero, List.getElem_cons_succ, List.setIfInBounds_toArray, List.set_cons_zero, List.set_cons_succ]
      refine wpAnyH_ready (rs := [9]) (by kernel_rfl) (by simp) ?_
      refine (AllReadyH.cons rfl (fun K hK => ?_) AllReadyH.nil)
      go_simp
      refine (l1IntL 7 J42.cur hl M42_8 (by decide) (by decide)).mono ?_
      rintro e u43 ⟨z43, rfl, hcu43, hgu43⟩
      have J43 := J42.next hcu43 hgu43
      refine hK.out _ _ (J43.two) (fun hHeld => ?_)
      clear hK K hcu43 hgu43 J42 M42_8
      try simp only [Act.put, List.getElem_toArray, List.getElem_cons_zero, List.getElem_cons_succ, List.setIfInBounds_toArray, List.set_cons_zero, List.set_cons_succ]
      obtain ⟨f0, bF, kF⟩ := FIN.out _ z37 z42 z43 J43
      have hbx := J43.res
      have y0 := hbx.cell 0 _ rfl
      have y1 := hbx.cell 1 _ rfl
      have g0 := hbx.frozen 0
      have g1 := hbx.frozen 1
      obtain ⟨WF, hWF⟩ : ∃ WF, Hid ((u43.setCell ⟨w.heap.size, 0, none⟩ (.slice l.aG l.given.length l.cG)).setCell ⟨w.heap.size, 1, none⟩ (.slice l.aW l.waits.length l.cW) = WF) := ⟨_, rfl⟩
      rw [hWF.out] at f0 bF kF
      have HF : Hid (_) := f0
      clear hbx J43 f0 FIN
      refine wpAnyH_ready (rs := [10]) (by kernel_rfl) (by simp) ?_
      refine AllReadyH.cons rfl (fun K hK => ?_) AllReadyH.nil
      go_simp
      rw [hWF.out]
      refine hK.out _ _ (kF) (fun hHeld => ?_)
      clear hK K hWF y0 y1 g0 g1
      try simp only [Act.put, List.getElem_toArray, List.getElem_cons_zero, List.getElem_cons_succ, List.setIfInBounds_toArray, List.set_cons_zero, List.set_cons_succ]
      refine wpAnyH_take (i := 11) (v := .int .i64 z37) rfl (by kernel_rfl) (by kernel_rfl) (by kernel_rfl) (fun _ _ _ h => h) (Or.inl ⟨by rfl, ?_⟩) hHeld ?_
      · intro w' hSw
        go_simp <;> rfl
      try simp only [Act.put, List.getElem_toArray, List.getElem_cons_zero, List.getElem_cons_succ, List.setIfInBounds_toArray, List.set_cons_zero, List.set_cons_succ]
      refine wpAnyH_take (i := 12) (v := .int .i64 z42) rfl (by kernel_rfl) (by kernel_rfl) (by kernel_rfl) (fun _ _ _ h => h) (Or.inl ⟨by rfl, ?_⟩) hHeld ?_
      · intro w' hSw
        go_simp <;> rfl
      try simp only [Act.put, List.getElem_toArray, List.getElem_cons_zero, List.getElem_cons_succ, List.setIfInBounds_toArray, List.set_cons_zero, List.set_cons_succ]
      refine wpAnyH_take (i := 13) (v := .int .i64 z43) rfl (by kernel_rfl) (by kernel_rfl) (by kernel_rfl) (fun _ _ _ h => h) (Or.inl ⟨by rfl, ?_⟩) hHeld ?_
      · intro w' hSw
        go_simp <;> rfl
      try simp only [Act.put, List.getElem_toArray, List.getElem_cons_zero, List.getElem_cons_succ, List.setIfInBounds_toArray, List.set_cons_zero, List.set_cons_succ]
      refine wpAnyH_done (by kernel_rfl) ?_ _
      clear hHeld
      have q0 := bF.cell 0 _ rfl
      have q1 := bF.cell 1 _ rfl
      go_wp2_with fail
      refine bodyPost_ret (v := .tuple #[.agg #[.slice l.aG l.given.length l.cG, .slice l.aW l.waits.length l.cW], .int .i64 z37, .int .i64 z42, .int .i64 z43]) (by simp [results, Tryd.results15, go_sem, q0, q1]) rfl HF.out
    ·skip
     go_simp
     obtain ⟨u44, hu44, hq1, hbu44, hq2⟩ := boxes1 u36 [.int .i64 1, .int .i64 2, .int .i64 3, .int .i64 4, .int .i64 4, .int .i64 0, .int .i64 5] 3
     have L44 : Lit u44 C u36.heap.size [1, 2, 3, 4, 4, 0, 5] := ⟨by rw [← hu44.out]; exact readsI_lit u36 [1, 2, 3, 4, 4, 0, 5] _, J36.cur.lt⟩
     have J44 := J36.below hbu44
     try simp only [List.toArray] at hu44
     rw [hu44.out]
     have M44_5 := M36_5.below hbu44
     have M44_2 := L36.below hbu44
     refine hK.out _ _ (J44.two) (fun hHeld => ?_)
     clear hK K hu44 hbu44 hq1 hq2 J36 M36_5 L36
     try simp only [Act.put, List.getElem_toArray, List.getElem_cons_zero, List.getElem_cons_succ, List.setIfInBounds_toArray, List.set_cons_zero, List.set_cons_succ]
     refine wpAnyH_ready (rs := [3]) (by kernel_rfl) (by simp) ?_
     refine (AllReadyH.cons rfl (fun K hK => ?_) AllReadyH.nil)
     go_simp
     refine (l1IntL 8 J44.cur hl M44_2 (by decide) (by decide)).mono ?_
     rintro e u45 ⟨z45, rfl, hcu45, hgu45⟩
     have J45 := J44.next hcu45 hgu45
     have M45_5 := M44_5.next hgu45
     have M45_8 := L44.next hgu45
     refine hK.out _ _ (J45.two) (fun hHeld => ?_)
     clear hK K hcu45 hgu45 J44 M44_5 M44_2 L44
     try simp only [Act.put, List.getElem_toArray, List.getElem_cons_zero, List.getElem_cons_succ, List.setIfInBounds_toArray, List.set_cons_zero, List.set_cons_succ]
     refine wpAnyH_ready (rs := [6]) (by kernel_rfl) (by simp) ?_
     refine (AllReadyH.cons rfl (fun K hK => ?_) AllReadyH.nil)
     go_simp
     refine (l1IntL 6 J45.cur hl M45_5 (by decide) (by decide)).mono ?_
     rintro e u46 ⟨z46, rfl, hcu46, hgu46⟩
     have J46 := J45.next hcu46 hgu46
     have M46_8 := M45_8.next hgu46
     refine hK.out _ _ (J46.two) (fun hHeld => ?_)
     clear hK K hcu46 hgu46 J45 M45_5 M45_8
     try simp only [Act.put, List.getElem_toArray, List.getElem_cons_zero, List.getElem_cons_succ, List.setIfInBounds_toArray, List.set_cons_zero, List.set_cons_succ]
     refine wpAnyH_ready (rs := [9]) (by kernel_rfl) (by simp) ?_
     refine (AllReadyH.cons rfl (fun K hK => ?_) AllReadyH.nil)
     go_simp
     refine (l1IntL 7 J46.cur hl M46_8 (by decide) (by decide)).mono ?_
     rintro e u47 ⟨z47, rfl, hcu47, hgu47⟩
     have J47 := J46.next hcu47 hgu47
     refine hK.out _ _ (J47.two) (fun hHeld => ?_)
     clear hK K hcu47 hgu47 J46 M46_8
     try simp only [Act.put, List.getElem_toArray, List.getElem_cons_zero, List.getElem_cons_succ, List.setIfInBounds_toArray, List.set_cons_zero, List.set_cons_succ]
     obtain ⟨f0, bF, kF⟩ := FIN.out _ z45 z46 z47 J47
     have hbx := J47.res
     have y0 := hbx.cell 0 _ rfl
     have y1 := hbx.cell 1 _ rfl
     have g0 := hbx.frozen 0
     have g1 := hbx.frozen 1
     obtain ⟨WF, hWF⟩ : ∃ WF, Hid ((u47.setCell ⟨w.heap.size, 0, none⟩ (.slice l.aG l.given.length l.cG)).setCell ⟨w.heap.size, 1, none⟩ (.slice l.aW l.waits.length l.cW) = WF) := ⟨_, rfl⟩
     rw [hWF.out] at f0 bF kF
     have HF : Hid (_) := f0
     clear hbx J47 f0 FIN
     refine wpAnyH_ready (rs := [10]) (by kernel_rfl) (by simp) ?_
     refine AllReadyH.cons rfl (fun K hK => ?_) AllReadyH.nil
     go_simp
     rw [hWF.out]
     refine hK.out _ _ (kF) (fun hHeld => ?_)
     clear hK K hWF y0 y1 g0 g1
     try simp only [Act.put, List.getElem_toArray, List.getElem_cons_zero, List.getElem_cons_succ, List.setIfInBounds_toArray, List.set_cons_zero, List.set_cons_succ]
     refine wpAnyH_take (i := 11) (v := .int .i64 z45) rfl (by kernel_rfl) (by kernel_rfl) (by kernel_rfl) (fun _ _ _ h => h) (Or.inl ⟨by rfl, ?_⟩) hHeld ?_
     · intro w' hSw
       go_simp <;> rfl
     try simp only [Act.put, List.getElem_toArray, List.getElem_cons_zero, List.getElem_cons_succ, List.setIfInBounds_toArray, List.set_cons_zero, List.set_cons_succ]
     refine wpAnyH_take (i := 12) (v := .int .i64 z46) rfl (by kernel_rfl) (by kernel_rfl) (by kernel_rfl) (fun _ _ _ h => h) (Or.inl ⟨by rfl, ?_⟩) hHeld ?_
     · intro w' hSw
       go_simp <;> rfl
     try simp only [Act.put, List.getElem_toArray, List.getElem_cons_zero, List.getElem_cons_succ, List.setIfInBounds_toArray, List.set_cons_zero, List.set_cons_succ]
     refine wpAnyH_take (i := 13) (v := .int .i64 z47) rfl (by kernel_rfl) (by kernel_rfl) (by kernel_rfl) (fun _ _ _ h => h) (Or.inl ⟨by rfl, ?_⟩) hHeld ?_
     · intro w' hSw
       go_simp <;> rfl
     try simp only [Act.put, List.getElem_toArray, List.getElem_cons_zero, List.getElem_cons_succ, List.setIfInBounds_toArray, List.set_cons_zero, List.set_cons_succ]
     refine wpAnyH_done (by kernel_rfl) ?_ _
     clear hHeld
     have q0 := bF.cell 0 _ rfl
     have q1 := bF.cell 1 _ rfl
     go_wp2_with fail
     refine bodyPost_ret (v := .tuple #[.agg #[.slice l.aG l.given.length l.cG, .slice l.aW l.waits.length l.cW], .int .i64 z45, .int .i64 z46, .int .i64 z47]) (by simp [results, Tryd.results15, go_sem, q0, q1]) rfl HF.out
   ·skip
    go_simp
    obtain ⟨u48, hu48, hq1, hbu48, hq2⟩ := boxes1 u35 [.int .i64 1, .int .i64 2, .int .i64 3, .int .i64 4, .int .i64 4, .int .i64 0, .int .i64 5] 3
    have L48 : Lit u48 C u35.heap.size [1, 2, 3, 4, 4, 0, 5] := ⟨by rw [← hu48.out]; exact readsI_lit u35 [1, 2, 3, 4, 4, 0, 5] _, J35.cur.lt⟩
    have J48 := J35.below hbu48
    try simp only [List.toArray] at hu48
    rw [hu48.out]
    have M48_5 := L35.below hbu48
    refine hK.out _ _ (J48.two) (fun hHeld => ?_)
    clear hK K hu48 hbu48 hq1 hq2 J35 L35
    try simp only [Act.put, List.getElem_toArray, List.getElem_cons_zero, List.getElem_cons_succ, List.setIfInBounds_toArray, List.set_cons_zero, List.set_cons_succ]
    refine wpAnyH_ready (rs := [2]) (by kernel_rfl) (by simp) ?_
    refine (AllReadyH.cons rfl (fun K hK => ?_) AllReadyH.nil)
    go_simp
    obtain ⟨u49, hu49, hq1, hbu49, hq2⟩ := boxes1 u48 [.int .i64 1, .int .i64 2, .int .i64 3, .int .i64 4, .int .i64 5, .int .i64 6, .int .i64 0, .int .i64 100] 3
    have L49 : Lit u49 C u48.heap.size [1, 2, 3, 4, 5, 6, 0, 100] := ⟨by rw [← hu49.out]; exact readsI_lit u48 [1, 2, 3, 4, 5, 6, 0, 100] _, J48.cur.lt⟩
    have J49 := J48.below hbu49
    try simp only [List.toArray] at hu49
    rw [hu49.out]
    have M49_5 := M48_5.below hbu49
    have M49_8 := L48.below hbu49
    refine hK.out _ _ (J49.two) (fun hHeld => ?_)
    clear hK K hu49 hbu49 hq1 hq2 J48 M48_5 L48
    try simp only [Act.put, List.getElem_toArray, List.getElem_cons_zero, List.getElem_cons_succ, List.setIfInBounds_toArray, List.set_cons_zero, List.set_cons_succ]
    refine wpAnyH_ready (rs := [3]) (by kernel_rfl) (by simp) ?_
    refine (AllReadyH.cons rfl (fun K hK => ?_) AllReadyH.nil)
    go_simp
    refine (l1IntL 8 J49.cur hl L49 (by decide) (by decide)).mono ?_
    rintro e u50 ⟨z50, rfl, hcu50, hgu50⟩
    have J50 := J49.next hcu50 hgu50
    have M50_5 := M49_5.next hgu50
    have M50_8 := M49_8.next hgu50
    refine hK.out _ _ (J50.two) (fun hHeld => ?_)
    clear hK K hcu50 hgu50 J49 M49_5 M49_8 L49
    try simp only [Act.put, List.getElem_toArray, List.getElem_cons_zero, List.getElem_cons_succ, List.setIfInBounds_toArray, List.set_cons_zero, List.set_cons_succ]
    refine wpAnyH_ready (rs := [6]) (by kernel_rfl) (by simp) ?_
    refine (AllReadyH.cons rfl (fun K hK => ?_) AllReadyH.nil)
    go_simp
    refine (l1IntL 6 J50.cur hl M50_5 (by decide) (by decide)).mono ?_
    rintro e u51 ⟨z51, rfl, hcu51, hgu51⟩
    have J51 := J50.next hcu51 hgu51
    have M51_8 := M50_8.next hgu51
    refine hK.out _ _ (J51.two) (fun hHeld => ?_)
    clear hK K hcu51 hgu51 J50 M50_5 M50_8
    try simp only [Act.put, List.getElem_toArray, List.getElem_cons_zero, List.getElem_cons_succ, List.setIfInBounds_toArray, List.set_cons_zero, List.set_cons_succ]
    refine wpAnyH_ready (rs := [9]) (by kernel_rfl) (by simp) ?_
    refine (AllReadyH.cons rfl (fun K hK => ?_) AllReadyH.nil)
    go_simp
    refine (l1IntL 7 J51.cur hl M51_8 (by decide) (by decide)).mono ?_
    rintro e u52 ⟨z52, rfl, hcu52, hgu52⟩
    have J52 := J51.next hcu52 hgu52
    refine hK.out _ _ (J52.two) (fun hHeld => ?_)
    clear hK K hcu52 hgu52 J51 M51_8
    try simp only [Act.put, List.getElem_toArray, List.getElem_cons_zero, List.getElem_cons_succ, List.setIfInBounds_toArray, List.set_cons_zero, List.set_cons_succ]
    obtain ⟨f0, bF, kF⟩ := FIN.out _ z50 z51 z52 J52
    have hbx := J52.res
    have y0 := hbx.cell 0 _ rfl
    have y1 := hbx.cell 1 _ rfl
    have g0 := hbx.frozen 0
    have g1 := hbx.frozen 1
    obtain ⟨WF, hWF⟩ : ∃ WF, Hid ((u52.setCell ⟨w.heap.size, 0, none⟩ (.slice l.aG l.given.length l.cG)).setCell ⟨w.heap.size, 1, none⟩ (.slice l.aW l.waits.length l.cW) = WF) := ⟨_, rfl⟩
    rw [hWF.out] at f0 bF kF
    have HF : Hid (_) := f0
    clear hbx J52 f0 FIN
    refine wpAnyH_ready (rs := [10]) (by kernel_rfl) (by simp) ?_
    refine AllReadyH.cons rfl (fun K hK => ?_) AllReadyH.nil
    go_simp
    rw [hWF.out]
    refine hK.out _ _ (kF) (fun hHeld => ?_)
    clear hK K hWF y0 y1 g0 g1
    try simp only [Act.put, List.getElem_toArray, List.getElem_cons_zero, List.getElem_cons_succ, List.setIfInBounds_toArray, List.set_cons_zero, List.set_cons_succ]
    refine wpAnyH_take (i := 11) (v := .int .i64 z50) rfl (by kernel_rfl) (by kernel_rfl) (by kernel_rfl) (fun _ _ _ h => h) (Or.inl ⟨by rfl, ?_⟩) hHeld ?_
    · intro w' hSw
      go_simp <;> rfl
    try simp only [Act.put, List.getElem_toArray, List.getElem_cons_zero, List.getElem_cons_succ, List.setIfInBounds_toArray, List.set_cons_zero, List.set_cons_succ]
    refine wpAnyH_take (i := 12) (v := .int .i64 z51) rfl (by kernel_rfl) (by kernel_rfl) (by kernel_rfl) (fun _ _ _ h => h) (Or.inl ⟨by rfl, ?_⟩) hHeld ?_
    · intro w' hSw
      go_simp <;> rfl
    try simp only [Act.put, List.getElem_toArray, List.getElem_cons_zero, List.getElem_cons_succ, List.setIfInBounds_toArray, List.set_cons_zero, List.set_cons_succ]
    refine wpAnyH_take (i := 13) (v := .int .i64 z52) rfl (by kernel_rfl) (by kernel_rfl) (by kernel_rfl) (fun _ _ _ h => h) (Or.inl ⟨by rfl, ?_⟩) hHeld ?_
    · intro w' hSw
      go_simp <;> rfl
    try simp only [Act.put, List.getElem_toArray, List.getElem_cons_zero, List.getElem_cons_succ, List.setIfInBounds_toArray, List.set_cons_zero, List.set_cons_succ]
    refine wpAnyH_done (by kernel_rfl) ?_ _
    clear hHeld
    have q0 := bF.cell 0 _ rfl
    have q1 := bF.cell 1 _ rfl
    go_wp2_with fail
    refine bodyPost_ret (v := .tuple #[.agg #[.slice l.aG l.given.length l.cG, .slice l.aW l.waits.length l.cW], .int .i64 z50, .int .i64 z51, .int .i64 z52]) (by simp [results, Tryd.results15, go_sem, q0, q1]) rfl HF.out
  ·skip
   go_simp
   obtain ⟨u53, hu53, hq1, hbu53, hq2⟩ := boxes1 d0 [.int .i64 1, .int .i64 2, .int .i64 3, .int .i64 4, .int .i64 4, .int .i64 0, .int .i64 5] 3
   have L53 : Lit u53 C d0.heap.size [1, 2, 3, 4, 4, 0, 5] := ⟨by rw [← hu53.out]; exact readsI_lit d0 [1, 2, 3, 4, 4, 0, 5] _, I1.cur.lt⟩
   have J53 := I1.below hbu53
   try simp only [List.toArray] at hu53
   rw [hu53.out]
   refine hK.out _ _ (J53.two) (fun hHeld => ?_)
   clear hK K hu53 hbu53 hq1 hq2 I1 
   try simp only [Act.put, List.getElem_toArray, List.getElem_cons_zero, List.getElem_cons_succ, List.setIfInBounds_toArray, List.set_cons_zero, List.set_cons_succ]
   refine wpAnyH_ready (rs := [2, 5]) (by kernel_rfl) (by simp) ?_
   refine (AllReadyH.cons rfl (fun K hK => ?_) (AllReadyH.cons rfl (fun K hK => ?_) AllReadyH.nil))
   ·skip
    go_simp
    obtain ⟨u54, hu54, hq1, hbu54, hq2⟩ := boxes1 u53 [.int .i64 1, .int .i64 2, .int .i64 3, .int .i64 4, .int .i64 5, .int .i64 6, .int .i64 0, .int .i64 100] 3
    have L54 : Lit u54 C u53.heap.size [1, 2, 3, 4, 5, 6, 0, 100] := ⟨by rw [← hu54.out]; exact readsI_lit u53 [1, 2, 3, 4, 5, 6, 0, 100] _, J53.cur.lt⟩
    have J54 := J53.below hbu54
    try simp only [List.toArray] at hu54
    rw [hu54.out]
    have M54_8 := L53.below hbu54
    refine hK.out _ _ (J54.two) (fun hHeld => ?_)
    clear hK K hu54 hbu54 hq1 hq2 J53 L53
    try simp only [Act.put, List.getElem_toArray, List.getElem_cons_zero, List.getElem_cons_succ, List.setIfInBounds_toArray, List.set_cons_zero, List.set_cons_succ]
    refine wpAnyH_ready (rs := [3, 5]) (by kernel_rfl) (by simp) ?_
    refine (AllReadyH.cons rfl (fun K hK => ?_) (AllReadyH.cons rfl (fun K hK => ?_) AllReadyH.nil))
    ·skip
     go_simp
     refine (l1IntL 8 J54.cur hl L54 (by decide) (by decide)).mono ?_
     rintro e u55 ⟨z55, rfl, hcu55, hgu55⟩
     have J55 := J54.next hcu55 hgu55
     have M55_8 := M54_8.next hgu55
     refine hK.out _ _ (J55.two) (fun hHeld => ?_)
     clear hK K hcu55 hgu55 J54 M54_8 L54
     try simp only [Act.put, List.getElem_toArray, List.getElem_cons_zero, List.getElem_cons_succ, List.setIfInBounds_toArray, List.set_cons_zero, List.set_cons_succ]
     refine wpAnyH_ready (rs := [5]) (by kernel_rfl) (by simp) ?_
     refine (AllReadyH.cons rfl (fun K hK => ?_) AllReadyH.nil)
     go_simp
     obtain ⟨u56, hu56, hq1, hbu56, hq2⟩ := boxes1 u55 [.int .i64 0, .int .i64 1, .int .i64 2, .int .i64 2, .int .i64 (-1), .int .i64 100] 3
     have L56 : Lit u56 C u55.heap.size [0, 1, 2, 2, (-1), 100] := ⟨by rw [← hu56.out]; exact readsI_lit u55 [0, 1, 2, 2, (-1), 100] _, J55.cur.lt⟩
     have J56 := J55.below hbu56
     try simp only [List.toArray] at hu56
     rw [hu56.out]
     have M56_8 := M55_8.below hbu56
     refine hK.out _ _ (J56.two) (fun hHeld => ?_)
     clear hK K hu56 hbu56 hq1 hq2 J55 M55_8
     try simp only [Act.put, List.getElem_toArray, List.getElem_cons_zero, List.getElem_cons_succ, List.setIfInBounds_toArray, List.set_cons_zero, List.set_cons_succ]
     refine wpAnyH_ready (rs := [6]) (by kernel_rfl) (by simp) ?_
     refine (AllReadyH.cons rfl (fun K hK => ?_) AllReadyH.nil)
     go_simp
     refine (l1IntL 6 J56.cur hl L56 (by decide) (by decide)).mono ?_
     rintro e u57 ⟨z57, rfl, hcu57, hgu57⟩
     have J57 := J56.next hcu57 hgu57
     have M57_8 := M56_8.next hgu57
     refine hK.out _ _ (J57.two) (fun hHeld => ?_)
     clear hK K hcu57 hgu57 J56 M56_8 L56
     try simp only [Act.put, List.getElem_toArray, List.getElem_cons_zero, List.getElem_cons_succ, List.setIfInBounds_toArray, List.set_cons_zero, List.set_cons_succ]
     refine wpAnyH_ready (rs := [9]) (by kernel_rfl) (by simp) ?_
     refine (AllReadyH.cons rfl (fun K hK => ?_) AllReadyH.nil)
     go_simp
     refine (l1IntL 7 J57.cur hl M57_8 (by decide) (by decide)).mono ?_
     rintro e u58 ⟨z58, rfl, hcu58, hgu58⟩
     have J58 := J57.next hcu58 hgu58
     refine hK.out _ _ (J58.two) (fun hHeld => ?_)
     clear hK K hcu58 hgu58 J57 M57_8
     try simp only [Act.put, List.getElem_toArray, List.getElem_cons_zero, List.getElem_cons_succ, List.setIfInBounds_toArray, List.set_cons_zero, List.set_cons_succ]
     obtain ⟨f0, bF, kF⟩ := FIN.out _ z55 z57 z58 J58
     have hbx := J58.res
     have y0 := hbx.cell 0 _ rfl
     have y1 := hbx.cell 1 _ rfl
     have g0 := hbx.frozen 0
     have g1 := hbx.frozen 1
     obtain ⟨WF, hWF⟩ : ∃ WF, Hid ((u58.setCell ⟨w.heap.size, 0, none⟩ (.slice l.aG l.given.length l.cG)).setCell ⟨w.heap.size, 1, none⟩ (.slice l.aW l.waits.length l.cW) = WF) := ⟨_, rfl⟩
     rw [hWF.out] at f0 bF kF
     have HF : Hid (_) := f0
     clear hbx J58 f0 FIN
     refine wpAnyH_ready (rs := [10]) (by kernel_rfl) (by simp) ?_
     refine AllReadyH.cons rfl (fun K hK => ?_) AllReadyH.nil
     go_simp
     rw [hWF.out]
     refine hK.out _ _ (kF) (fun hHeld => ?_)
     clear hK K hWF y0 y1 g0 g1
     try simp only [Act.put, List.getElem_toArray, List.getElem_cons_zero, List.getElem_cons_succ, List.setIfInBounds_toArray, List.set_cons_zero, List.set_cons_succ]
     refine wpAnyH_take (i := 11) (v := .int .i64 z55) rfl (by kernel_rfl) (by kernel_rfl) (by kernel_rfl) (fun _ _ _ h => h) (Or.inl ⟨by rfl, ?_⟩) hHeld ?_
     · intro w' hSw
       go_simp <;> rfl
     try simp only [Act.put, List.getElem_toArray, List.getElem_cons_zero, List.getElem_cons_succ, List.setIfInBounds_toArray, List.set_cons_zero, List.set_cons_succ]
     refine wpAnyH_take (i := 12) (v := .int .i64 z57) rfl (by kernel_rfl) (by kernel_rfl) (by kernel_rfl) (fun _ _ _ h => h) (Or.inl ⟨by rfl, ?_⟩) hHeld ?_
     · intro w' hSw
       go_simp <;> rfl
     try simp only [Act.put, List.getElem_toArray, List.getElem_cons_zero, List.getElem_cons_succ, List.setIfInBounds_toArray, List.set_cons_zero, List.set_cons_succ]
     refine wpAnyH_take (i := 13) (v := .int .i64 z58) rfl (by kernel_rfl) (by kernel_rfl) (by kernel_rfl) (fun _ _ _ h => h) (Or.inl ⟨by rfl, ?_⟩) hHeld ?_
     · intro w' hSw
       go_simp <;> rfl
     try simp only [Act.put, List.getElem_toArray, List.getElem_cons_zero, List.getElem_cons_succ, List.setIfInBounds_toArray, List.set_cons_zero, List.set_cons_succ]
     refine wpAnyH_done (by kernel_rfl) ?_ _
     clear hHeld
     have q0 := bF.cell 0 _ rfl
     have q1 := bF.cell 1 _ rfl
     go_wp2_with fail
     refine bodyPost_ret (v := .tuple #[.agg #[.slice l.aG l.given.length l.cG, .slice l.aW l.waits.length l.cW], .int .i64 z55, .int .i64 z57, .int .i64 z58]) (by simp [results, Tryd.results15, go_sem, q0, q1]) rfl HF.out
    ·skip
     go_simp
     obtain ⟨u59, hu59, hq1, hbu59, hq2⟩ := boxes1 u54 [.int .i64 0, .int .i64 1, .int .i64 2, .int .i64 2, .int .i64 (-1), .int .i64 100] 3
     have L59 : Lit u59 C u54.heap.size [0, 1, 2, 2, (-1), 100] := ⟨by rw [← hu59.out]; exact readsI_lit u54 [0, 1, 2, 2, (-1), 100] _, J54.cur.lt⟩
     have J59 := J54.below hbu59
     try simp only [List.toArray] at hu59
     rw [hu59.out]
     have M59_8 := M54_8.below hbu59
     have M59_2 := L54.below hbu59
     refine hK.out _ _ (J59.two) (fun hHeld => ?_)
     clear hK K hu59 hbu59 hq1 hq2 J54 M54_8 L54
     try simp only [Act.put, List.getElem_toArray, List.getElem_cons_zero, List.getElem_cons_succ, List.setIfInBounds_toArray, List.set_cons_zero, List.set_cons_succ]
     refine wpAnyH_ready (rs := [3]) (by kernel_rfl) (by simp) ?_
     refine (AllReadyH.cons rfl (fun K hK => ?_) AllReadyH.nil)
     go_simp
     refine (l1IntL 8 J59.cur hl M59_2 (by decide) (by decide)).mono ?_
     rintro e u60 ⟨z60, rfl, hcu60, hgu60⟩
     have J60 := J59.next hcu60 hgu60
     have M60_8 := M59_8.next hgu60
     have M60_5 := L59.next hgu60
     refine hK.out _ _ (J60.two) (fun hHeld => ?_)
     clear hK K hcu60 hgu60 J59 M59_8 M59_2 L59
     try simp only [Act.put, List.getElem_toArray, List.getElem_cons_zero, List.getElem_cons_succ, List.setIfInBounds_toArray, List.set_cons_zero, List.set_cons_succ]
     refine wpAnyH_ready (rs := [6]) (by kernel_rfl) (by simp) ?_
     refine (AllReadyH.cons rfl (fun K hK => ?_) AllReadyH.nil)
     go_simp
     refine (l1IntL 6 J60.cur hl M60_5 (by decide) (by decide)).mono ?_
     rintro e u61 ⟨z61, rfl, hcu61, hgu61⟩
     have J61 := J60.next hcu61 hgu61
     have M61_8 := M60_8.next hgu61
     refine hK.out _ _ (J61.two) (fun hHeld => ?_)
     clear hK K hcu61 hgu61 J60 M60_8 M60_5
     try simp only [Act.put, List.getElem_toArray, List.getElem_cons_zero, List.getElem_cons_succ, List.setIfInBounds_toArray, List.set_cons_zero, List.set_cons_succ]
     refine wpAnyH_ready (rs := [9]) (by kernel_rfl) (by simp) ?_
     refine (AllReadyH.cons rfl (fun K hK => ?_) AllReadyH.nil)
     go_simp
     refine (l1IntL 7 J61.cur hl M61_8 (by decide) (by decide)).mono ?_
     rintro e u62 ⟨z62, rfl, hcu62, hgu62⟩
     have J62 := J61.next hcu62 hgu62
     refine hK.out _ _ (J62.two) (fun hHeld => ?_)
     clear hK K hcu62 hgu62 J61 M61_8
     try simp only [Act.put, List.getElem_toArray, List.getElem_cons_zero, List.getElem_cons_succ, List.setIfInBounds_toArray, List.set_cons_zero, List.set_cons_succ]
     obtain ⟨f0, bF, kF⟩ := FIN.out _ z60 z61 z62 J62
     have hbx := J62.res
     have y0 := hbx.cell 0 _ rfl
     have y1 := hbx.cell 1 _ rfl
     have g0 := hbx.frozen 0
     have g1 := hbx.frozen 1
     obtain ⟨WF, hWF⟩ : ∃ WF, Hid ((u62.setCell ⟨w.heap.size, 0, none⟩ (.slice l.aG l.given.length l.cG)).setCell ⟨w.heap.size, 1, none⟩ (.slice l.aW l.waits.length l.cW) = WF) := ⟨_, rfl⟩
     rw [hWF.out] at f0 bF kF
     have HF : Hid (_) := f0
     clear hbx J62 f0 FIN
     refine wpAnyH_ready (rs := [10]) (by kernel_rfl) (by simp) ?_
     refine AllReadyH.cons rfl (fun K hK => ?_) AllReadyH.nil
     go_simp
     rw [hWF.out]
     refine hK.out _ _ (kF) (fun hHeld => ?_)
     clear hK K hWF y0 y1 g0 g1
     try simp only [Act.put, List.getElem_toArray, List.getElem_cons_zero, List.getElem_cons_succ, List.setIfInBounds_toArray, List.set_cons_zero, List.set_cons_succ]
     refine wpAnyH_take (i := 11) (v := .int .i64 z60) rfl (by kernel_rfl) (by kernel_rfl) (by kernel_rfl) (fun _ _ _ h => h) (Or.inl ⟨by rfl, ?_⟩) hHeld ?_
     · intro w' hSw
       go_simp <;> rfl
     try simp only [Act.put, List.getElem_toArray, List.getElem_cons_zero, List.getElem_cons_succ, List.setIfInBounds_toArray, List.set_cons_zero, List.set_cons_succ]
     refine wpAnyH_take (i := 12) (v := .int .i64 z61) rfl (by kernel_rfl) (by kernel_rfl) (by kernel_rfl) (fun _ _ _ h => h) (Or.inl ⟨by rfl, ?_⟩) hHeld ?_
     · intro w' hSw
       go_simp <;> rfl
     try simp only [Act.put, List.getElem_toArray, List.getElem_cons_zero, List.getElem_cons_succ, List.setIfInBounds_toArray, List.set_cons_zero, List.set_cons_succ]
     refine wpAnyH_take (i := 13) (v := .int .i64 z62) rfl (by kernel_rfl) (by kernel_rfl) (by kernel_rfl) (fun _ _ _ h => h) (Or.inl ⟨by rfl, ?_⟩) hHeld ?_
     · intro w' hSw
       go_simp <;> rfl
     try simp only [Act.put, List.getElem_toArray, List.getElem_cons_zero, List.getElem_cons_succ, List.setIfInBounds_toArray, List.set_cons_zero, List.set_cons_succ]
     refine wpAnyH_done (by kernel_rfl) ?_ _
     clear hHeld
     have q0 := bF.cell 0 _ rfl
     have q1 := bF.cell 1 _ rfl
     go_wp2_with fail
     refine bodyPost_ret (v := .tuple #[.agg #[.slice l.aG l.given.length l.cG, .slice l.aW l.waits.length l.cW], .int .i64 z60, .int .i64 z61, .int .i64 z62]) (by simp [results, Tryd.results15, go_sem, q0, q1]) rfl HF.out
   ·skip
    go_simp
    obtain ⟨u63, hu63, hq1, hbu63, hq2⟩ := boxes1 u53 [.int .i64 0, .int .i64 1, .int .i64 2, .int .i64 2, .int .i64 (-1), .int .i64 100] 3
    have L63 : Lit u63 C u53.heap.size [0, 1, 2, 2, (-1), 100] := ⟨by rw [← hu63.out]; exact readsI_lit u53 [0, 1, 2, 2, (-1), 100] _, J53.cur.lt⟩
    have J63 := J53.below hbu63
    try simp only [List.toArray] at hu63
    rw [hu63.out]
    have M63_8 := L53.below hbu63
    refine hK.out _ _ (J63.two) (fun hHeld => ?_)
    clear hK K hu63 hbu63 hq1 hq2 J53 L53
    try simp only [Act.put, List.getElem_toArray, List.getElem_cons_zero, List.getElem_cons_succ, List.setIfInBounds_toArray, List.set_cons_zero, List.set_cons_succ]
    refine wpAnyH_ready (rs := [2]) (by kernel_rfl) (by simp) ?_
    refine (AllReadyH.cons rfl (fun K hK => ?_) AllReadyH.nil)
    go_simp
    obtain ⟨u64, hu64, hq1, hbu64, hq2⟩ := boxes1 u63 [.int .i64 1, .int .i64 2, .int .i64 3, .int .i64 4, .int .i64 5, .int .i64 6, .int .i64 0, .int .i64 100] 3
    have L64 : Lit u64 C u63.heap.size [1, 2, 3, 4, 5, 6, 0, 100] := ⟨by rw [← hu64.out]; exact readsI_lit u63 [1, 2, 3, 4, 5, 6, 0, 100] _, J63.cur.lt⟩
    have J64 := J63.below hbu64
    try simp only [List.toArray] at hu64
    rw [hu64.out]
    have M64_8 := M63_8.below hbu64
    have M64_5 := L63.below hbu64
    refine hK.out _ _ (J64.two) (fun hHeld => ?_)
    clear hK K hu64 hbu64 hq1 hq2 J63 M63_8 L63
    try simp only [Act.put, List.getElem_toArray, List.getElem_cons_zero, List.getElem_cons_succ, List.setIfInBounds_toArray, List.set_cons_zero, List.set_cons_succ]
    refine wpAnyH_ready (rs := [3]) (by kernel_rfl) (by simp) ?_
    refine (AllReadyH.cons rfl (fun K hK => ?_) AllReadyH.nil)
    go_simp
    refine (l1IntL 8 J64.cur hl L64 (by decide) (by decide)).mono ?_
    rintro e u65 ⟨z65, rfl, hcu65, hgu65⟩
    have J65 := J64.next hcu65 hgu65
    have M65_8 := M64_8.next hgu65
    have M65_5 := M64_5.next hgu65
    refine hK.out _ _ (J65.two) (fun hHeld => ?_)
    clear hK K hcu65 hgu65 J64 M64_8 M64_5 L64
    try simp only [Act.put, List.getElem_toArray, List.getElem_cons_zero, List.getElem_cons_succ, List.setIfInBounds_toArray, List.set_cons_zero, List.set_cons_succ]
    refine wpAnyH_ready (rs := [6]) (by kernel_rfl) (by simp) ?_
    refine (AllReadyH.cons rfl (fun K hK => ?_) AllReadyH.nil)
    go_simp
    refine (l1IntL 6 J65.cur hl M65_5 (by decide) (by decide)).mono ?_
    rintro e u66 ⟨z66, rfl, hcu66, hgu66⟩
    have J66 := J65.next hcu66 hgu66
    have M66_8 := M65_8.next hgu66
    refine hK.out _ _ (J66.two) (fun hHeld => ?_)
    clear hK K hcu66 hgu66 J65 M65_8 M65_5
    try simp only [Act.put, List.getElem_toArray, List.getElem_cons_zero, List.getElem_cons_succ, List.setIfInBounds_toArray, List.set_cons_zero, List.set_cons_succ]
    refine wpAnyH_ready (rs := [9]) (by kernel_rfl) (by simp) ?_
    refine (AllReadyH.cons rfl (fun K hK => ?_) AllReadyH.nil)
    go_simp
    refine (l1IntL 7 J66.cur hl M66_8 (by decide) (by decide)).mono ?_
    rintro e u67 ⟨z67, rfl, hcu67, hgu67⟩
    have J67 := J66.next hcu67 hgu67
    refine hK.out _ _ (J67.two) (fun hHeld => ?_)
    clear hK K hcu67 hgu67 J66 M66_8
    try simp only [Act.put, List.getElem_toArray, List.getElem_cons_zero, List.getElem_cons_succ, List.setIfInBounds_toArray, List.set_cons_zero, List.set_cons_succ]
    obtain ⟨f0, bF, kF⟩ := FIN.out _ z65 z66 z67 J67
    have hbx := J67.res
    have y0 := hbx.cell 0 _ rfl
    have y1 := hbx.cell 1 _ rfl
    have g0 := hbx.frozen 0
    have g1 := hbx.frozen 1
    obtain ⟨WF, hWF⟩ : ∃ WF, Hid ((u67.setCell ⟨w.heap.size, 0, none⟩ (.slice l.aG l.given.length l.cG)).setCell ⟨w.heap.size, 1, none⟩ (.slice l.aW l.waits.length l.cW) = WF) := ⟨_, rfl⟩
    rw [hWF.out] at f0 bF kF
    have HF : Hid (_) := f0
    clear hbx J67 f0 FIN
    refine wpAnyH_ready (rs := [10]) (by kernel_rfl) (by simp) ?_
    refine AllReadyH.cons rfl (fun K hK => ?_) AllReadyH.nil
    go_simp
    rw [hWF.out]
    refine hK.out _ _ (kF) (fun hHeld => ?_)
    clear hK K hWF y0 y1 g0 g1
    try simp only [Act.put, List.getElem_toArray, List.getElem_cons_zero, List.getElem_cons_succ, List.setIfInBounds_toArray, List.set_cons_zero, List.set_cons_succ]
    refine wpAnyH_take (i := 11) (v := .int .i64 z65) rfl (by kernel_rfl) (by kernel_rfl) (by kernel_rfl) (fun _ _ _ h => h) (Or.inl ⟨by rfl, ?_⟩) hHeld ?_
    · intro w' hSw
      go_simp <;> rfl
    try simp only [Act.put, List.getElem_toArray, List.getElem_cons_zero, List.getElem_cons_succ, List.setIfInBounds_toArray, List.set_cons_zero, List.set_cons_succ]
    refine wpAnyH_take (i := 12) (v := .int .i64 z66) rfl (by kernel_rfl) (by kernel_rfl) (by kernel_rfl) (fun _ _ _ h => h) (Or.inl ⟨by rfl, ?_⟩) hHeld ?_
    · intro w' hSw
      go_simp <;> rfl
    try simp only [Act.put, List.getElem_toArray, List.getElem_cons_zero, List.getElem_cons_succ, List.setIfInBounds_toArray, List.set_cons_zero, List.set_cons_succ]
    refine wpAnyH_take (i := 13) (v := .int .i64 z67) rfl (by kernel_rfl) (by kernel_rfl) (by kernel_rfl) (fun _ _ _ h => h) (Or.inl ⟨by rfl, ?_⟩) hHeld ?_
    · intro w' hSw
      go_simp <;> rfl
    try simp only [Act.put, List.getElem_toArray, List.getElem_cons_zero, List.getElem_cons_succ, List.setIfInBounds_toArray, List.set_cons_zero, List.set_cons_succ]
    refine wpAnyH_done (by kernel_rfl) ?_ _
    clear hHeld
    have q0 := bF.cell 0 _ rfl
    have q1 := bF.cell 1 _ rfl
    go_wp2_with fail
    refine bodyPost_ret (v := .tuple #[.agg #[.slice l.aG l.given.length l.cG, .slice l.aW l.waits.length l.cW], .int .i64 z65, .int .i64 z66, .int .i64 z67]) (by simp [results, Tryd.results15, go_sem, q0, q1]) rfl HF.out
end Go.Proofs.YtekljhabjkmhpaaDoor
