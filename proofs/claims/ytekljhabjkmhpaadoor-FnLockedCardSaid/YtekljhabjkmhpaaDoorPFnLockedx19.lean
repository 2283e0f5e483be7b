/- Several texts in one, in their order. -/
import Derived.Test.YtekljhabjkmhpaaDoorPFnLockedx14
import Derived.Test.YtekljhabjkmhpaaDoorPFnLockedx18
/- The walk of spec.l9Drop. -/
namespace Go.Proofs.YtekljhabjkmhpaaDoor
open Go.RowKit

/-- One that waits is looked at: what is given, who waits on, who was woken. -/
def dropStep (s : List GrantV × List GrantV × List Int) (g : GrantV) : List GrantV × List GrantV × List Int :=
  if (!s.1.any (barsB ⟨g.tx, g.res, wouldS s.1 g⟩) && !s.2.1.any (fun h => h.res == g.res)) = true then (giveV s.1 g (wouldS s.1 g), s.2.1, s.2.2 ++ [g.tx]) else (s.1, s.2.1 ++ [g], s.2.2)
def withoutL (ls : List GrantV) (tx : Int) : List GrantV := ls.filter (fun g => g.tx != tx)
def dropV (G V : List GrantV) (tx : Int) : List GrantV × List GrantV × List Int := (withoutL V tx).foldl dropStep (withoutL G tx, [], [])
theorem fold_step {α β : Type} (f : β → α → β) (s : β) (ls : List α) (z : α) (k : Nat) (h : k < ls.length) : (ls.take (k + 1)).foldl f s = f ((ls.take k).foldl f s) (ls.getD k z) := by
  rw [take_step ls z k h, List.foldl_append]; rfl
theorem giveV_len (G : List GrantV) (g : GrantV) (m : Int) : (giveV G g m).length ≤ G.length + 1 := by
  unfold giveV; split <;> simp
set_option maxHeartbeats 8000000 in
set_option maxRecDepth 100000 in
theorem l9Drop_any (lo B : Nat) (l : LocksA) (tx : Int) (w : World) (h : LkAt w lo B l) (hlo : lo ≤ w.heap.size) (hlen : l.short 400) :
    Calls Tryd.prog 50 #[.pointer (some ⟨B, 0, none⟩), .int .i64 tx] w fun e w' => ∃ l' a c, e = .returned (.slice a (dropV l.given l.waits tx).2.2.length c) ∧ Hid (l'.given = (dropV l.given l.waits tx).1 ∧ l'.waits = (dropV l.given l.waits tx).2.1) ∧ LkStep w w' lo B l l' ∧ OwnI w' w.heap.size w'.heap.size a c (dropV l.given l.waits tx).2.2 ∧ (∀ k, (Value.slice a (dropV l.given l.waits tx).2.2.length c).ownBlock = some k → k ∉ l'.blocks) := by
  have HDV : Hid (dropV l.given l.waits tx = (withoutL l.waits tx).foldl dropStep (withoutL l.given tx, [], [])) := rfl
  generalize dropV l.given l.waits tx = DV at *
  have hlG := hlen.1
  have hlV := hlen.2
  have hBw := h.box.lt
  have C1 := l9Without_any l.given l.aG l.cG tx w h.own.given.reads (by omega)
  have HC2 : Hid (∀ u a c, ReadsG u a l.waits → Calls Tryd.prog 69 #[.slice a l.waits.length c, .int .i64 tx] u fun e w' => ∃ a' c', e = .returned (.slice a' (withoutL l.waits tx).length c') ∧ OwnG w' u.heap.size w'.heap.size a' c' (withoutL l.waits tx) ∧ Below u.heap.size u w') := fun u a c hr => l9Without_any l.waits a c tx u hr (by omega)
  have hwG : (withoutL l.given tx).length ≤ l.given.length := List.length_filter_le _ _
  have hwV : (withoutL l.waits tx).length ≤ l.waits.length := List.length_filter_le _ _
  have C1' : Calls Tryd.prog 69 #[.slice l.aG l.given.length l.cG, .int .i64 tx] w fun e w' => ∃ a' c', e = .returned (.slice a' (withoutL l.given tx).length c') ∧ OwnG w' w.heap.size w'.heap.size a' c' (withoutL l.given tx) ∧ Below w.heap.size w w' := C1
  clear C1
  have c0 := h.box.cell 0 _ rfl
  generalize withoutL l.given tx = G0 at *
  generalize withoutL l.waits tx = V0 at *
  go_enter Tryd.func50, Tryd.ntmps50
  go_wp2_with fail
  refine C1'.mono ?_
  clear C1' c0
  rintro e w1 ⟨a1, c1, rfl, ho1, hb1⟩
  obtain ⟨⟨f1, f2⟩, W2, hW2, hst2⟩ := LkAt.setG (w := w) h hb1 (ho1.widen hlo (Nat.le_refl _) (Nat.le_refl _)) (World.grownBy.refl _ _) (fun k hk => .inr (ho1.lt k hk).1)
  clear ho1 hb1
  go_upto_region 2 with fail
  rw [hW2.out]
  clear hW2 f1 f2
  have x1 := hst2.now.box.cell 1 _ rfl
  have C2 := HC2.out W2 l.aW l.cW hst2.now.own.waits.reads
  clear HC2
  go_wp2_with fail
  refine C2.mono ?_
  clear C2 x1
  rintro e w3 ⟨aR, cR, rfl, hoR, hb3⟩
  have hst3 := hst2.below hb3
  have hz2 := hst2.size
  have hz3 := hb3.size
  obtain ⟨W4, hW4, b4, hb4, hs4⟩ := boxes1 w3 [] 37
  have ho4 : OwnG W4 w3.heap.size W4.heap.size (some ⟨w3.heap.size, 0, none⟩) 0 [] := by rw [← hW4.out]; exact (ownG_lit0 w3).widen (Nat.le_refl _) (by simp) (Nat.le_refl _)
  obtain ⟨⟨f1, f2⟩, W5, hW5, hst5⟩ := LkAt.setW (w := w3) hst3.now hb4 (ho4.widen (by omega) (Nat.le_refl _) (Nat.le_refl _)) (World.grownBy.refl _ _) (fun k hk => .inr (ho4.lt k hk).1)
  have hstA : LkStep w W5 lo B l ⟨G0, [], a1, c1, some ⟨w3.heap.size, 0, none⟩, 0⟩ := hst3.trans hst5
  have hoR5 : OwnG W5 W2.heap.size w3.heap.size aR cR V0 := hoR.touch hst5.touch (fun k hk hm => by
    have hk1 := hoR.lt k hk
    rcases List.mem_cons.1 hm with e | e
    · have := h.box.lt; omega
    · have := (hst2.now.own.lt e).2; omega)
  have hRW : ∀ k, (Value.slice aR V0.length cR).ownBlock = some k → k ≠ B ∧ k ∉ LocksA.blocks ⟨G0, [], a1, c1, some ⟨w3.heap.size, 0, none⟩, 0⟩ ∧ k < W5.heap.size := fun k hk => by
    have hk1 := hoR.lt k hk
    refine ⟨by have := h.box.lt; omega, fun hm => ?_, Nat.lt_of_lt_of_le hk1.2 hst5.size⟩
    rcases hst5.fresh k hm with e | e
    · have := (hst2.now.own.lt e).2; omega
    · omega
  have hz5 := hst5.size
  have HRW : Hid (_) := hRW
  have g1 := hst3.now.box.cell 1 _ rfl
  have g2 := hst3.now.box.frozen 1
  have hBl3 := hst3.now.box.lt
  have HEQ : Hid ((w3.setCell ⟨B, 1, none⟩ (.slice (some ⟨w3.heap.size, 0, none⟩) 0 0)).alloc (.cells #[] 37) = W5) := by
    rw [Hid, ← hW5.out, ← hW4.out]
    exact (World.setCell_alloc_past _ _ _ _ hBl3).symm
  clear hst3 hb3 hb4 b4 hs4 ho4 hst5 hoR hst2 hRW hW4 hW5 f1 f2
  go_upto_region 4 with fail
  rw [HEQ.out]
  clear HEQ g1 g2
  have hwl : w.heap.size ≤ W5.heap.size := hstA.size
  have HST : Hid (LkStep w W5 lo B l ⟨G0, [], a1, c1, some ⟨w3.heap.size, 0, none⟩, 0⟩) := hstA
  have HOR : Hid (OwnG W5 W2.heap.size w3.heap.size aR cR V0) := hoR5
  have HS0 : Hid (OwnI (W5.alloc (.cells #[] 3)) W5.heap.size (W5.alloc (.cells #[] 3)).heap.size (some ⟨W5.heap.size, 0, none⟩) 0 [] ∧ LkStep W5 (W5.alloc (.cells #[] 3)) lo B ⟨G0, [], a1, c1, some ⟨w3.heap.size, 0, none⟩, 0⟩ ⟨G0, [], a1, c1, some ⟨w3.heap.size, 0, none⟩, 0⟩) := ⟨(ownI_lit0 W5).widen (Nat.le_refl _) (by simp) (Nat.le_refl _), hstA.now.same ((Below.refl _ _).alloc (Nat.le_refl _) _)⟩
  have HBb : Hid (∀ l1 : LocksA, (∀ k ∈ l1.blocks, k ∈ LocksA.blocks ⟨G0, [], a1, c1, some ⟨w3.heap.size, 0, none⟩, 0⟩ ∨ W5.heap.size ≤ k) → ∀ k, (Value.slice aR V0.length cR).ownBlock = some k → k ∉ B :: l1.blocks) := fun l1 hf k hk hm => by
    obtain ⟨h1, h2, h3⟩ := HRW.out k hk
    rcases List.mem_cons.1 hm with e | e
    · exact h1 e
    · rcases hf k e with e | e
      · exact h2 e
      · omega
  clear hstA hoR5 HRW
  generalize hl0 : (⟨G0, [], a1, c1, some ⟨w3.heap.size, 0, none⟩, 0⟩ : LocksA) = l0 at *
  have HG0 : Hid (l0.given = G0 ∧ l0.waits = []) := by rw [← hl0]; exact ⟨rfl, rfl⟩
  have hloW : lo ≤ W5.heap.size := by omega
  have hBW5 : B < W5.heap.size := by omega
  clear hl0
  go_wp2_with fail
  go_loopw [6, 7] (fun o i wr => ∃ (j : Nat) (li : LocksA) (aK : Option Addr) (cK : Nat) (K : List Int), j ≤ V0.length ∧ i = .int .i64 j ∧ o = .slice aK K.length cK ∧ Hid ((li.given, li.waits, K) = (V0.take j).foldl dropStep (G0, [], [])) ∧ li.given.length ≤ 400 + j ∧ li.waits.length ≤ j ∧ K.length ≤ j ∧ LkStep W5 wr lo B l0 li ∧ OwnI wr W5.heap.size wr.heap.size aK cK K ∧ Hid (∀ k, (Value.slice aK K.length cK).ownBlock = some k → k ∉ li.blocks)) (fun _ i _ => V0.length - (intOf i).toNat)
  case atStart =>
    refine ⟨0, l0, _, _, [], Nat.zero_le _, rfl, rfl, by rw [Hid, HG0.out.1, HG0.out.2]; rfl, by rw [HG0.out.1]; omega, by rw [HG0.out.2]; simp, Nat.zero_le _, HS0.out.2, HS0.out.1, fun k hk hm => ?_⟩
    have h1 := HS0.out.1.lt k hk
    have h2 := (HST.out.now.own.lt hm).2
    omega
  case round =>
    obtain ⟨j, li, aK, cK, K, hj, rfl, rfl, hI, hgl, hvl, hkl, hst, hoK, hap⟩ := hrel
    clear HS0
    have hls := hst.size
    by_cases hlt : j < V0.length
    · obtain ⟨b, off, rfl, hcs⟩ := (HOR.out.touch hst.touch (HBb.out l0 (fun k hk => .inl hk))).reads (by intro e; rw [e] at hlt; simp at hlt)
      obtain ⟨d0, d1, d2⟩ := hcs j hlt
      have HST2 : Hid (_ = _) := fold_step dropStep (G0, [], []) V0 zeroG j hlt
      rw [← hI.out] at HST2
      clear hI hcs
      generalize V0.getD j zeroG = z at *
      obtain ⟨V1, hV1, bz, hbV1, hsV1⟩ := boxes1 wr [.int .i64 z.tx, .int .i64 z.res, .int .i64 z.mode] 37
      have hzl := bz.lt
      have HBZ : Hid (∀ u, Below V1.heap.size V1 u → Box u wr.heap.size [.int .i64 z.tx, .int .i64 z.res, .int .i64 z.mode] 37) := fun u hu => bz.below hu hzl
      have HLK : Hid (∀ u, Below V1.heap.size V1 u → LkAt u lo B li) := fun u hu => hst.now.below (hbV1.trans (hu.mono hbV1.size))
      have HW1 : Hid (∀ u, Below V1.heap.size V1 u → Below wr.heap.size wr u) := fun u hu => hbV1.trans (hu.mono hbV1.size)
      have HK : Hid (∀ u, Below V1.heap.size V1 u → (u.cell? ⟨B, 0, none⟩ = some (.slice li.aG li.given.length li.cG) ∧ u.cell? ⟨B, 1, none⟩ = some (.slice li.aW li.waits.length li.cW)) ∧ (u.cell? ⟨wr.heap.size, 0, none⟩ = some (.int .i64 z.tx) ∧ u.cell? ⟨wr.heap.size, 1, none⟩ = some (.int .i64 z.res) ∧ u.cell? ⟨wr.heap.size, 2, none⟩ = some (.int .i64 z.mode))) := fun u hu =>
        ⟨⟨(HLK.out u hu).box.cell 0 _ rfl, (HLK.out u hu).box.cell 1 _ rfl⟩, (HBZ.out u hu).cell 0 _ rfl, (HBZ.out u hu).cell 1 _ rfl, (HBZ.out u hu).cell 2 _ rfl⟩
      have HC2 : Hid (∀ u, Below V1.heap.size V1 u → Calls Tryd.prog 63 #[.agg #[.slice li.aG li.given.length li.cG, .slice li.aW li.waits.length li.cW], .agg #[.int .i64 z.tx, .int .i64 z.res, .int .i64 z.mode]] u fun e w' => e = .returned (.int .i64 (wouldS li.given z)) ∧ Below u.heap.size u w') := fun u hu => l9Would_any _ _ _ _ _ u (HLK.out u hu).own.given.reads (by omega)
      have HC3 : Hid (∀ u, Below V1.heap.size V1 u → Calls Tryd.prog 64 #[.agg #[.slice li.aG li.given.length li.cG, .slice li.aW li.waits.length li.cW], .agg #[.int .i64 z.tx, .int .i64 z.res, .int .i64 z.mode], .int .i64 (wouldS li.given z)] u fun e w' => e = .returned (.bool (!li.given.any (barsB ⟨z.tx, z.res, wouldS li.given z⟩))) ∧ Below u.heap.size u w') := fun u hu => l9Fits_any _ _ _ _ _ _ u (HLK.out u hu).own.given.reads (by omega)
      have HC4 : Hid (∀ u, Below V1.heap.size V1 u → Calls Tryd.prog 65 #[.slice li.aW li.waits.length li.cW, .int .i64 z.res] u fun e w' => e = .returned (.bool (li.waits.any (fun h => h.res == z.res))) ∧ w' = u) := fun u hu => l9ForRes_any _ _ _ _ u (HLK.out u hu).own.waits.reads (by omega)
      have HC5 : Hid (∀ u, Below V1.heap.size V1 u → Calls Tryd.prog 66 #[.pointer (some ⟨B, 0, none⟩), .agg #[.int .i64 z.tx, .int .i64 z.res, .int .i64 z.mode], .int .i64 (wouldS li.given z)] u fun e w' => (∃ v, e = .returned v) ∧ ∃ l', Hid (l'.given = giveV li.given z (wouldS li.given z) ∧ l'.waits = li.waits) ∧ LkStep u w' lo B li l') := fun u hu => l9Give_any lo B li z _ u (HLK.out u hu) (by have := (HW1.out u hu).size; omega) (by omega)
      have HDS : Hid (dropStep (li.given, li.waits, K) z = if (!li.given.any (barsB ⟨z.tx, z.res, wouldS li.given z⟩) && !li.waits.any (fun h => h.res == z.res)) = true then (giveV li.given z (wouldS li.given z), li.waits, K ++ [z.tx]) else (li.given, li.waits ++ [z], K)) := rfl
      have HGL : Hid ((giveV li.given z (wouldS li.given z)).length ≤ li.given.length + 1) := giveV_len _ _ _
      have hB0 : B < wr.heap.size := by omega
      generalize dropStep (li.given, li.waits, K) z = DS at *
      generalize wouldS li.given z = m at *
      generalize (!li.given.any (barsB ⟨z.tx, z.res, m⟩)) = ft at *
      generalize li.waits.any (fun h => h.res == z.res) = wt at *
      generalize giveV li.given z m = GV at *
      clear bz hbV1 hsV1
      go_upto_region 9 with fail
      rw [hV1.out]
      clear hV1 d0 d1 d2
      have N0 : Below V1.heap.size V1 V1 := Below.refl _ _
      have D0 : Below V1.heap.size V1 V1.drew := N0.drew
      refine wp_region_held_drew (S := fun u => (u.cell? ⟨B, 0, none⟩ = some (.slice li.aG li.given.length li.cG) ∧ u.cell? ⟨B, 1, none⟩ = some (.slice li.aW li.waits.length li.cW)) ∧ (u.cell? ⟨wr.heap.size, 0, none⟩ = some (.int .i64 z.tx) ∧ u.cell? ⟨wr.heap.size, 1, none⟩ = some (.int .i64 z.res) ∧ u.cell? ⟨wr.heap.size, 2, none⟩ = some (.int .i64 z.mode))) (by kernel_rfl) (HK.out _ D0) (fun hHeld => ?_)
      generalize V1.drew = d0 at *
      refine wpAnyH_take (i := 0) (v := .pointer (some ⟨B, 0, none⟩)) rfl (by kernel_rfl) (by kernel_rfl) (by kernel_rfl) (fun _ _ _ h => h) (Or.inl ⟨by rfl, ?_⟩) hHeld ?_
      · intro w' hSw
        go_simp <;> rfl
      try simp only [Act.put, List.getElem_toArray, List.getElem_cons_zero, List.setIfInBounds_toArray, List.set_cons_zero, List.set_cons_succ]
      refine wpAnyH_take (i := 1) (v := .pointer (some ⟨B, 0, none⟩)) rfl (by kernel_rfl) (by kernel_rfl) (by kernel_rfl) (fun _ _ _ h => h) (Or.inl ⟨by rfl, ?_⟩) hHeld ?_
      · intro w' hSw
        go_simp <;> rfl
      try simp only [Act.put, List.getElem_toArray, List.getElem_cons_zero, List.getElem_cons_succ, List.setIfInBounds_toArray, List.set_cons_zero, List.set_cons_succ]
      refine wpAnyH_take (i := 2) (v := .agg #[.slice li.aG li.given.length li.cG, .slice li.aW li.waits.length li.cW]) rfl (by kernel_rfl) (by kernel_rfl) (by kernel_rfl) (fun _ _ _ h => h) (Or.inl ⟨by rfl, ?_⟩) hHeld ?_
      · intro w' hSw
        obtain ⟨hx0, hx1⟩ := hSw.1
        go_simp <;> rfl
      try simp only [Act.put, List.getElem_toArray, List.getElem_cons_zero, List.getElem_cons_succ, List.setIfInBounds_toArray, List.set_cons_zero, List.set_cons_succ]
      refine wpAnyH_take (i := 3) (v := .agg #[.int .i64 z.tx, .int .i64 z.res, .int .i64 z.mode]) rfl (by kernel_rfl) (by kernel_rfl) (by kernel_rfl) (fun _ _ _ h => h) (Or.inl ⟨by rfl, ?_⟩) hHeld ?_
      · intro w' hSw
        obtain ⟨hx0, hx1, hx2⟩ := hSw.2
        go_simp <;> rfl
      try simp only [Act.put, List.getElem_toArray, List.getElem_cons_zero, List.getElem_cons_succ, List.setIfInBounds_toArray, List.set_cons_zero, List.set_cons_succ]
      refine wpAnyH_ready (rs := [4]) (by kernel_rfl) (by simp) ?_
      refine AllReadyH.cons rfl (fun K hK => ?_) AllReadyH.nil
      go_simp
      refine (HC2.out _ D0).mono ?_
      rintro r d1 ⟨rfl, hb1⟩
      have N1 : Below V1.heap.size V1 d1 := D0.trans (hb1.mono D0.size)
      refine hK.out _ _ (HK.out _ N1) (fun hHeld => ?_)
      clear hK K hb1
      try simp only [Act.put, List.getElem_toArray, List.getElem_cons_zero, List.getElem_cons_succ, List.setIfInBounds_toArray, List.set_cons_zero, List.set_cons_succ]
      refine wpAnyH_take (i := 5) (v := .int .i64 m) rfl (by kernel_rfl) (by kernel_rfl) (by kernel_rfl) (fun _ _ _ h => h) (Or.inl ⟨by rfl, ?_⟩) hHeld ?_
      · intro w' hSw
        go_simp <;> rfl
      try simp only [Act.put, List.getElem_toArray, List.getElem_cons_zero, List.getElem_cons_succ, List.setIfInBounds_toArray, List.set_cons_zero, List.set_cons_succ]
      refine wpAnyH_done (by kernel_rfl) ?_ _
      clear hHeld HC2
      go_upto_region 10 with fail
      cases ft with
      | false =>
        clear HC4
        have HC4 : True := trivial
        have D4 : Below V1.heap.size V1 d1.drew := N1.drew
        refine wp_region_held_drew (S := fun u => (u.cell? ⟨B, 0, none⟩ = some (.slice li.aG li.given.length li.cG) ∧ u.cell? ⟨B, 1, none⟩ = some (.slice li.aW li.waits.length li.cW)) ∧ (u.cell? ⟨wr.heap.size, 0, none⟩ = some (.int .i64 z.tx) ∧ u.cell? ⟨wr.heap.size, 1, none⟩ = some (.int .i64 z.res) ∧ u.cell? ⟨wr.heap.size, 2, none⟩ = some (.int .i64 z.mode))) (by kernel_rfl) (HK.out _ D4) (fun hHeld => ?_)
        generalize d1.drew = d4 at *
        refine wpAnyH_take (i := 0) (v := .pointer (some ⟨B, 0, none⟩)) rfl (by kernel_rfl) (by kernel_rfl) (by kernel_rfl) (fun _ _ _ h => h) (Or.inl ⟨by rfl, ?_⟩) hHeld ?_
        · intro w' hSw
          go_simp <;> rfl
        try simp only [Act.put, List.getElem_toArray, List.getElem_cons_zero, List.setIfInBounds_toArray, List.set_cons_zero, List.set_cons_succ]
        refine wpAnyH_take (i := 1) (v := .pointer (some ⟨B, 0, none⟩)) rfl (by kernel_rfl) (by kernel_rfl) (by kernel_rfl) (fun _ _ _ h => h) (Or.inl ⟨by rfl, ?_⟩) hHeld ?_
        · intro w' hSw
          go_simp <;> rfl
        try simp only [Act.put, List.getElem_toArray, List.getElem_cons_zero, List.getElem_cons_succ, List.setIfInBounds_toArray, List.set_cons_zero, List.set_cons_succ]
        refine wpAnyH_take (i := 2) (v := .agg #[.slice li.aG li.given.length li.cG, .slice li.aW li.waits.length li.cW]) rfl (by kernel_rfl) (by kernel_rfl) (by kernel_rfl) (fun _ _ _ h => h) (Or.inl ⟨by rfl, ?_⟩) hHeld ?_
        · intro w' hSw
          obtain ⟨hx0, hx1⟩ := hSw.1
          go_simp <;> rfl
        try simp only [Act.put, List.getElem_toArray, List.getElem_cons_zero, List.getElem_cons_succ, List.setIfInBounds_toArray, List.set_cons_zero, List.set_cons_succ]
        refine wpAnyH_take (i := 3) (v := .agg #[.int .i64 z.tx, .int .i64 z.res, .int .i64 z.mode]) rfl (by kernel_rfl) (by kernel_rfl) (by kernel_rfl) (fun _ _ _ h => h) (Or.inl ⟨by rfl, ?_⟩) hHeld ?_
        · intro w' hSw
          obtain ⟨hx0, hx1, hx2⟩ := hSw.2
          go_simp <;> rfl
        try simp only [Act.put, List.getElem_toArray, List.getElem_cons_zero, List.getElem_cons_succ, List.setIfInBounds_toArray, List.set_cons_zero, List.set_cons_succ]
        refine wpAnyH_take (i := 4) (v := .int .i64 m) rfl (by kernel_rfl) (by kernel_rfl) (by kernel_rfl) (fun _ _ _ h => h) (Or.inl ⟨by rfl, ?_⟩) hHeld ?_
        · intro w' hSw
          go_simp <;> rfl
        try simp only [Act.put, List.getElem_toArray, List.getElem_cons_zero, List.getElem_cons_succ, List.setIfInBounds_toArray, List.set_cons_zero, List.set_cons_succ]
        refine wpAnyH_ready (rs := [5]) (by kernel_rfl) (by simp) ?_
        refine AllReadyH.cons rfl (fun K hK => ?_) AllReadyH.nil
        go_simp
        refine (HC3.out _ D4).mono ?_
        rintro r d5 ⟨rfl, hb5⟩
        have N5 : Below V1.heap.size V1 d5 := D4.trans (hb5.mono D4.size)
        refine hK.out _ _ (HK.out _ N5) (fun hHeld => ?_)
        clear hK K hb5
        try simp only [Act.put, List.getElem_toArray, List.getElem_cons_zero, List.getElem_cons_succ, List.setIfInBounds_toArray, List.set_cons_zero, List.set_cons_succ]
        refine wpAnyH_take (i := 6) (v := .bool false) rfl (by kernel_rfl) (by kernel_rfl) (by kernel_rfl) (fun _ _ _ h => h) (Or.inl ⟨by rfl, ?_⟩) hHeld ?_
        · intro w' hSw
          go_simp <;> rfl
        try simp only [Act.put, List.getElem_toArray, List.getElem_cons_zero, List.getElem_cons_succ, List.setIfInBounds_toArray, List.set_cons_zero, List.set_cons_succ]
        refine wpAnyH_take (i := 7) (v := undef) rfl (by kernel_rfl) (by kernel_rfl) (by kernel_rfl) (fun _ _ _ h => h) (Or.inr ⟨by rfl, rfl⟩) hHeld ?_
        try simp only [Act.put, List.getElem_toArray, List.getElem_cons_zero, List.getElem_cons_succ, List.setIfInBounds_toArray, List.set_cons_zero, List.set_cons_succ]
        refine wpAnyH_take (i := 8) (v := undef) rfl (by kernel_rfl) (by kernel_rfl) (by kernel_rfl) (fun _ _ _ h => h) (Or.inr ⟨by rfl, rfl⟩) hHeld ?_
        try simp only [Act.put, List.getElem_toArray, List.getElem_cons_zero, List.getElem_cons_succ, List.setIfInBounds_toArray, List.set_cons_zero, List.set_cons_succ]
        refine wpAnyH_take (i := 9) (v := undef) rfl (by kernel_rfl) (by kernel_rfl) (by kernel_rfl) (fun _ _ _ h => h) (Or.inr ⟨by rfl, rfl⟩) hHeld ?_
        try simp only [Act.put, List.getElem_toArray, List.getElem_cons_zero, List.getElem_cons_succ, List.setIfInBounds_toArray, List.set_cons_zero, List.set_cons_succ]
        refine wpAnyH_take (i := 10) (v := undef) rfl (by kernel_rfl) (by kernel_rfl) (by kernel_rfl) (fun _ _ _ h => h) (Or.inr ⟨by rfl, rfl⟩) hHeld ?_
        try simp only [Act.put, List.getElem_toArray, List.getElem_cons_zero, List.getElem_cons_succ, List.setIfInBounds_toArray, List.set_cons_zero, List.set_cons_succ]
        refine wpAnyH_take (i := 11) (v := undef) rfl (by kernel_rfl) (by kernel_rfl) (by kernel_rfl) (fun _ _ _ h => h) (Or.inr ⟨by rfl, rfl⟩) hHeld ?_
        try simp only [Act.put, List.getElem_toArray, List.getElem_cons_zero, List.getElem_cons_succ, List.setIfInBounds_toArray, List.set_cons_zero, List.set_cons_succ]
        refine wpAnyH_take (i := 12) (v := undef) rfl (by kernel_rfl) (by kernel_rfl) (by kernel_rfl) (fun _ _ _ h => h) (Or.inr ⟨by rfl, rfl⟩) hHeld ?_
        try simp only [Act.put, List.getElem_toArray, List.getElem_cons_zero, List.getElem_cons_succ, List.setIfInBounds_toArray, List.set_cons_zero, List.set_cons_succ]
        refine wpAnyH_take (i := 13) (v := undef) rfl (by kernel_rfl) (by kernel_rfl) (by kernel_rfl) (fun _ _ _ h => h) (Or.inr ⟨by rfl, rfl⟩) hHeld ?_
        try simp only [Act.put, List.getElem_toArray, List.getElem_cons_zero, List.getElem_cons_succ, List.setIfInBounds_toArray, List.set_cons_zero, List.set_cons_succ]
        refine wpAnyH_take (i := 14) (v := undef) rfl (by kernel_rfl) (by kernel_rfl) (by kernel_rfl) (fun _ _ _ h => h) (Or.inr ⟨by rfl, rfl⟩) hHeld ?_
        try simp only [Act.put, List.getElem_toArray, List.getElem_cons_zero, List.getElem_cons_succ, List.setIfInBounds_toArray, List.set_cons_zero, List.set_cons_succ]
        refine wpAnyH_take (i := 15) (v := .bool false) rfl (by kernel_rfl) (by kernel_rfl) (by kernel_rfl) (fun _ _ _ h => h) (Or.inl ⟨by rfl, ?_⟩) hHeld ?_
        · intro w' hSw
          go_simp <;> rfl
        try simp only [Act.put, List.getElem_toArray, List.getElem_cons_zero, List.getElem_cons_succ, List.setIfInBounds_toArray, List.set_cons_zero, List.set_cons_succ]
        refine wpAnyH_done (by kernel_rfl) ?_ _
        clear hHeld HC3 HC4
        have HA : Hid (DS = (li.given, li.waits ++ [z], K)) := by rw [Hid, HDS.out]; rfl
        clear HDS HC5
        go_upto_region 13 with fail
        have hD : Below wr.heap.size wr d5.drew := (HW1.out _ N5).drew
        have D0 : Below V1.heap.size V1 d5.drew := N5.drew
        have hlo : lo ≤ wr.heap.size := by omega
        have hst0 := hst.now
        refine wp_region_late (· == 10) (S := fun u => (u.cell? ⟨B, 0, none⟩ = some (.slice li.aG li.given.length li.cG) ∧ u.cell? ⟨B, 1, none⟩ = some (.slice li.aW li.waits.length li.cW)) ∧ (u.cell? ⟨wr.heap.size, 0, none⟩ = some (.int .i64 z.tx) ∧ u.cell? ⟨wr.heap.size, 1, none⟩ = some (.int .i64 z.res) ∧ u.cell? ⟨wr.heap.size, 2, none⟩ = some (.int .i64 z.mode))) (by kernel_rfl) (HK.out _ D0) (fun hHeld => ?_)
        generalize d5.drew = e0 at *
        refine wpAnyL_take (i := 0) (v := .pointer (some ⟨B, 0, none⟩)) rfl (by kernel_rfl) (fun _ _ _ h => h) (Or.inl ⟨by rfl, ?_⟩) hHeld ?_
        · intro w' hSw
          go_simp <;> rfl
        try simp only [Act.put, List.getElem_toArray, List.getElem_cons_zero, List.setIfInBounds_toArray, List.set_cons_zero, List.set_cons_succ]
        refine wpAnyL_take (i := 1) (v := .pointer (some ⟨B, 0, none⟩)) rfl (by kernel_rfl) (fun _ _ _ h => h) (Or.inl ⟨by rfl, ?_⟩) hHeld ?_
        · intro w' hSw
          go_simp <;> rfl
        try simp only [Act.put, List.getElem_toArray, List.getElem_cons_zero, List.getElem_cons_succ, List.setIfInBounds_toArray, List.set_cons_zero, List.set_cons_succ]
        refine wpAnyL_take (i := 2) (v := .pointer (some ⟨B, 0, none⟩)) rfl (by kernel_rfl) (fun _ _ _ h => h) (Or.inl ⟨by rfl, ?_⟩) hHeld ?_
        · intro w' hSw
          go_simp <;> rfl
        try simp only [Act.put, List.getElem_toArray, List.getElem_cons_zero, List.getElem_cons_succ, List.setIfInBounds_toArray, List.set_cons_zero, List.set_cons_succ]
        refine wpAnyL_take (i := 3) (v := .pointer (some ⟨B, 1, none⟩)) rfl (by kernel_rfl) (fun _ _ _ h => h) (Or.inl ⟨by rfl, ?_⟩) hHeld ?_
        · intro w' hSw
          go_simp <;> rfl
        try simp only [Act.put, List.getElem_toArray, List.getElem_cons_zero, List.getElem_cons_succ, List.setIfInBounds_toArray, List.set_cons_zero, List.set_cons_succ]
        refine wpAnyL_take (i := 4) (v := .slice li.aW li.waits.length li.cW) rfl (by kernel_rfl) (fun _ _ _ h => h) (Or.inl ⟨by rfl, ?_⟩) hHeld ?_
        · intro w' hSw
          have hx := hSw.1.2
          go_simp <;> rfl
        try simp only [Act.put, List.getElem_toArray, List.getElem_cons_zero, List.getElem_cons_succ, List.setIfInBounds_toArray, List.set_cons_zero, List.set_cons_succ]
        refine wpAnyL_take (i := 5) (v := .agg #[.int .i64 z.tx, .int .i64 z.res, .int .i64 z.mode]) rfl (by kernel_rfl) (fun _ _ _ h => h) (Or.inl ⟨by rfl, ?_⟩) hHeld ?_
        · intro w' hSw
          obtain ⟨hx0, hx1, hx2⟩ := hSw.2
          go_simp <;> rfl
        try simp only [Act.put, List.getElem_toArray, List.getElem_cons_zero, List.getElem_cons_succ, List.setIfInBounds_toArray, List.set_cons_zero, List.set_cons_succ]
        refine wpAnyL_next 6 (by kernel_rfl) rfl (fun K hK => ?_)
        go_simp
        obtain ⟨W9, hW9, y9, hb9, hs9⟩ := boxes1 e0 [.int .i64 z.tx, .int .i64 z.res, .int .i64 z.mode] 37
        have r9 : ReadsG W9 (some ⟨e0.heap.size, 0, none⟩) [z] := by rw [← hW9.out]; exact readsG_one e0 z _
        try simp only at hW9 r9
        rw [hW9.out]
        have D9 : Below wr.heap.size wr W9 := hD.trans (hb9.mono hD.size)
        have o9 := (hst0.below D9).own.waits
        clear hs9 y9
        have D9b : Below V1.heap.size V1 W9 := D0.trans (hb9.mono D0.size)
        refine hK.out _ _ ((HK.out _ (D0.trans (hb9.mono D0.size)))) (fun hHeld => ?_)
        clear hK K hW9 hb9
        try simp only [Act.put, List.getElem_toArray, List.getElem_cons_zero, List.getElem_cons_succ, List.setIfInBounds_toArray, List.set_cons_zero, List.set_cons_succ]
        refine wpAnyL_next 7 (by kernel_rfl) rfl (fun K hK => ?_)
        refine step_append_grants rfl (.tmp 74) (.tmp 76) rfl lo W9.heap.size li.aW li.cW li.waits rfl o9 _ _ [z] rfl r9 (fun h => by cases h) (by simp only [List.length_cons, List.length_nil]; omega) (by have := D9.size; omega) ?_
        intro a10 c10 y10 w10 hy10 o10 g10 k10
        obtain ⟨⟨f1, f2⟩, W3, hW3, hstQ⟩ := LkAt.setW (w := wr) hst0 D9 o10 g10 (fun k hk => by
          rcases k10 k hk with e | e
          · exact .inl e
          · exact .inr (by have := D9.size; omega))
        have HK10 : Hid (_) := fun k (hk : k < W9.heap.size) hn => g10.block k hk hn
        clear k10 r9 o9
        have hwg : wr.heap.size ∉ li.blocks := fun hm => by have := (hst0.own.lt hm).2; omega
        have hb10 : Box w10 wr.heap.size [.int .i64 z.tx, .int .i64 z.res, .int .i64 z.mode] 37 := (HBZ.out _ D9b).block (g10.block _ (HBZ.out _ D9b).lt (fun e => hwg (mem_blocksW e.symm)))
        have hbB : Box w10 B [.slice li.aG li.given.length li.cG, .slice li.aW li.waits.length li.cW] 30 := ((hst0.below D9).box).block (g10.block _ (hst0.below D9).box.lt (fun e => hst0.off (mem_blocksW e.symm)))
        have KS : (w10.cell? ⟨B, 0, none⟩ = some (.slice li.aG li.given.length li.cG) ∧ w10.cell? ⟨B, 1, none⟩ = some (.slice li.aW li.waits.length li.cW)) ∧ (w10.cell? ⟨wr.heap.size, 0, none⟩ = some (.int .i64 z.tx) ∧ w10.cell? ⟨wr.heap.size, 1, none⟩ = some (.int .i64 z.res) ∧ w10.cell? ⟨wr.heap.size, 2, none⟩ = some (.int .i64 z.mode)) := ⟨⟨hbB.cell 0 _ rfl, f1⟩, hb10.cell 0 _ rfl, hb10.cell 1 _ rfl, hb10.cell 2 _ rfl⟩
        clear hb10 hwg hbB
        refine hK.out _ _ (KS) (fun hHeld => ?_)
        clear hK K 
        try simp only [Act.put, List.getElem_toArray, List.getElem_cons_zero, List.getElem_cons_succ, List.setIfInBounds_toArray, List.set_cons_zero, List.set_cons_succ]
        refine wpAnyL_next 8 (by kernel_rfl) rfl (fun K hK => ?_)
        go_simp
        refine hK.out _ _ (hHeld) (fun hHeld => ?_)
        clear hK K 
        try simp only [Act.put, List.getElem_toArray, List.getElem_cons_zero, List.getElem_cons_succ, List.setIfInBounds_toArray, List.set_cons_zero, List.set_cons_succ]
        refine wpAnyL_take (i := 9) (v := .pointer (some ⟨B, 1, none⟩)) rfl (by kernel_rfl) (fun _ _ _ h => h) (Or.inl ⟨by rfl, ?_⟩) hHeld ?_
        · intro w' hSw
          go_simp <;> rfl
        try simp only [Act.put, List.getElem_toArray, List.getElem_cons_zero, List.getElem_cons_succ, List.setIfInBounds_toArray, List.set_cons_zero, List.set_cons_succ]
        refine wpAnyL_last 10 (by kernel_rfl) rfl rfl (fun K hK => ?_)
        go_simp
        rw [hW3.out]
        refine hK.out _ _ ?_
        clear hK K
        refine wpAnyL_done (by kernel_rfl) ?_ _
        have e10 := hy10.out
        subst e10
        clear hHeld hW3 f1 f2 g10 o10 HK10 hy10 KS
        have HR : Hid ((li.given, li.waits ++ [z], K) = (V0.take (j + 1)).foldl dropStep (G0, [], [])) := by rw [Hid, HST2.out, HA.out]
        have hstN := hst.trans hstQ
        have hoN := hoK.touch hstQ.touch (fun k hk hm => by
          rcases List.mem_cons.1 hm with e | e
          · have := (hoK.lt k hk).1; omega
          · exact hap.out k hk e)
        have hapN : Hid (∀ k, (Value.slice aK K.length cK).ownBlock = some k → k ∉ LocksA.blocks ⟨li.given, li.waits ++ [z], li.aG, li.cG, a10, c10⟩) := fun k hk hm => by
          rcases hstQ.fresh k hm with e | e
          · exact hap.out k hk e
          · have := (hoK.lt k hk).2; omega
        have hzN := hstQ.size
        clear hstQ HK hap hoK hst HST2 HA
        go_wp2_with fail
        go_roundw
        case rel => exact ⟨j + 1, ⟨li.given, li.waits ++ [z], li.aG, li.cG, a10, c10⟩, aK, cK, K, by omega, by go_num, rfl, HR.out, by show li.given.length ≤ _; omega, by show (li.waits ++ [z]).length ≤ _; rw [List.length_append, List.length_singleton]; omega, by omega, hstN, hoN.widen (Nat.le_refl _) hzN (Nat.le_refl _), hapN.out⟩
        case measure => simp [intOf]; omega
      | true =>
        cases wt with
        | false =>
          have D4 : Below V1.heap.size V1 d1.drew := N1.drew
          refine wp_region_held_drew (S := fun u => (u.cell? ⟨B, 0, none⟩ = some (.slice li.aG li.given.length li.cG) ∧ u.cell? ⟨B, 1, none⟩ = some (.slice li.aW li.waits.length li.cW)) ∧ (u.cell? ⟨wr.heap.size, 0, none⟩ = some (.int .i64 z.tx) ∧ u.cell? ⟨wr.heap.size, 1, none⟩ = some (.int .i64 z.res) ∧ u.cell? ⟨wr.heap.size, 2, none⟩ = some (.int .i64 z.mode))) (by kernel_rfl) (HK.out _ D4) (fun hHeld => ?_)
          generalize d1.drew = d4 at *
          refine wpAnyH_take (i := 0) (v := .pointer (some ⟨B, 0, none⟩)) rfl (by kernel_rfl) (by kernel_rfl) (by kernel_rfl) (fun _ _ _ h => h) (Or.inl ⟨by rfl, ?_⟩) hHeld ?_
          · intro w' hSw
            go_simp <;> rfl
          try simp only [Act.put, List.getElem_toArray, List.getElem_cons_zero, List.setIfInBounds_toArray, List.set_cons_zero, List.set_cons_succ]
          refine wpAnyH_take (i := 1) (v := .pointer (some ⟨B, 0, none⟩)) rfl (by kernel_rfl) (by kernel_rfl) (by kernel_rfl) (fun _ _ _ h => h) (Or.inl ⟨by rfl, ?_⟩) hHeld ?_
          · intro w' hSw
            go_simp <;> rfl
          try simp only [Act.put, List.getElem_toArray, List.getElem_cons_zero, List.getElem_cons_succ, List.setIfInBounds_toArray, List.set_cons_zero, List.set_cons_succ]
          refine wpAnyH_take (i := 2) (v := .agg #[.slice li.aG li.given.length li.cG, .slice li.aW li.waits.length li.cW]) rfl (by kernel_rfl) (by kernel_rfl) (by kernel_rfl) (fun _ _ _ h => h) (Or.inl ⟨by rfl, ?_⟩) hHeld ?_
          · intro w' hSw
            obtain ⟨hx0, hx1⟩ := hSw.1
            go_simp <;> rfl
          try simp only [Act.put, List.getElem_toArray, List.getElem_cons_zero, List.getElem_cons_succ, List.setIfInBounds_toArray, List.set_cons_zero, List.set_cons_succ]
          refine wpAnyH_take (i := 3) (v := .agg #[.int .i64 z.tx, .int .i64 z.res, .int .i64 z.mode]) rfl (by kernel_rfl) (by kernel_rfl) (by kernel_rfl) (fun _ _ _ h => h) (Or.inl ⟨by rfl, ?_⟩) hHeld ?_
          · intro w' hSw
            obtain ⟨hx0, hx1, hx2⟩ := hSw.2
            go_simp <;> rfl
          try simp only [Act.put, List.getElem_toArray, List.getElem_cons_zero, List.getElem_cons_succ, List.setIfInBounds_toArray, List.set_cons_zero, List.set_cons_succ]
          refine wpAnyH_take (i := 4) (v := .int .i64 m) rfl (by kernel_rfl) (by kernel_rfl) (by kernel_rfl) (fun _ _ _ h => h) (Or.inl ⟨by rfl, ?_⟩) hHeld ?_
          · intro w' hSw
            go_simp <;> rfl
          try simp only [Act.put, List.getElem_toArray, List.getElem_cons_zero, List.getElem_cons_succ, List.setIfInBounds_toArray, List.set_cons_zero, List.set_cons_succ]
          refine wpAnyH_ready (rs := [5]) (by kernel_rfl) (by simp) ?_
          refine AllReadyH.cons rfl (fun K hK => ?_) AllReadyH.nil
          go_simp
          refine (HC3.out _ D4).mono ?_
          rintro r d5 ⟨rfl, hb5⟩
          have N5 : Below V1.heap.size V1 d5 := D4.trans (hb5.mono D4.size)
          refine hK.out _ _ (HK.out _ N5) (fun hHeld => ?_)
          clear hK K hb5
          try simp only [Act.put, List.getElem_toArray, List.getElem_cons_zero, List.getElem_cons_succ, List.setIfInBounds_toArray, List.set_cons_zero, List.set_cons_succ]
          refine wpAnyH_take (i := 6) (v := .bool true) rfl (by kernel_rfl) (by kernel_rfl) (by kernel_rfl) (fun _ _ _ h => h) (Or.inl ⟨by rfl, ?_⟩) hHeld ?_
          · intro w' hSw
            go_simp <;> rfl
          try simp only [Act.put, List.getElem_toArray, List.getElem_cons_zero, List.getElem_cons_succ, List.setIfInBounds_toArray, List.set_cons_zero, List.set_cons_succ]
          refine wpAnyH_take (i := 7) (v := .pointer (some ⟨B, 0, none⟩)) rfl (by kernel_rfl) (by kernel_rfl) (by kernel_rfl) (fun _ _ _ h => h) (Or.inl ⟨by rfl, ?_⟩) hHeld ?_
          · intro w' hSw
            go_simp <;> rfl
          try simp only [Act.put, List.getElem_toArray, List.getElem_cons_zero, List.getElem_cons_succ, List.setIfInBounds_toArray, List.set_cons_zero, List.set_cons_succ]
          refine wpAnyH_take (i := 8) (v := .pointer (some ⟨B, 0, none⟩)) rfl (by kernel_rfl) (by kernel_rfl) (by kernel_rfl) (fun _ _ _ h => h) (Or.inl ⟨by rfl, ?_⟩) hHeld ?_
          · intro w' hSw
            go_simp <;> rfl
          try simp only [Act.put, List.getElem_toArray, List.getElem_cons_zero, List.getElem_cons_succ, List.setIfInBounds_toArray, List.set_cons_zero, List.set_cons_succ]
          refine wpAnyH_take (i := 9) (v := .pointer (some ⟨B, 1, none⟩)) rfl (by kernel_rfl) (by kernel_rfl) (by kernel_rfl) (fun _ _ _ h => h) (Or.inl ⟨by rfl, ?_⟩) hHeld ?_
          · intro w' hSw
            go_simp <;> rfl
          try simp only [Act.put, List.getElem_toArray, List.getElem_cons_zero, List.getElem_cons_succ, List.setIfInBounds_toArray, List.set_cons_zero, List.set_cons_succ]
          refine wpAnyH_take (i := 10) (v := .slice li.aW li.waits.length li.cW) rfl (by kernel_rfl) (by kernel_rfl) (by kernel_rfl) (fun _ _ _ h => h) (Or.inl ⟨by rfl, ?_⟩) hHeld ?_
          · intro w' hSw
            have hx := hSw.1.2
            go_simp <;> rfl
          try simp only [Act.put, List.getElem_toArray, List.getElem_cons_zero, List.getElem_cons_succ, List.setIfInBounds_toArray, List.set_cons_zero, List.set_cons_succ]
          refine wpAnyH_take (i := 11) (v := .pointer (some ⟨wr.heap.size, 1, none⟩)) rfl (by kernel_rfl) (by kernel_rfl) (by kernel_rfl) (fun _ _ _ h => h) (Or.inl ⟨by rfl, ?_⟩) hHeld ?_
          · intro w' hSw
            go_simp <;> rfl
          try simp only [Act.put, List.getElem_toArray, List.getElem_cons_zero, List.getElem_cons_succ, List.setIfInBounds_toArray, List.set_cons_zero, List.set_cons_succ]
          refine wpAnyH_take (i := 12) (v := .int .i64 z.res) rfl (by kernel_rfl) (by kernel_rfl) (by kernel_rfl) (fun _ _ _ h => h) (Or.inl ⟨by rfl, ?_⟩) hHeld ?_
          · intro w' hSw
            have hx := hSw.2.2.1
            go_simp <;> rfl
          try simp only [Act.put, List.getElem_toArray, List.getElem_cons_zero, List.getElem_cons_succ, List.setIfInBounds_toArray, List.set_cons_zero, List.set_cons_succ]
          refine wpAnyH_ready (rs := [13]) (by kernel_rfl) (by simp) ?_
          refine AllReadyH.cons rfl (fun K hK => ?_) AllReadyH.nil
          go_simp
          refine (HC4.out _ N5).mono ?_
          rintro r q6 ⟨rfl, rfl⟩
          refine hK.out _ _ (HK.out _ N5) (fun hHeld => ?_)
          clear hK K 
          try simp only [Act.put, List.getElem_toArray, List.getElem_cons_zero, List.getElem_cons_succ, List.setIfInBounds_toArray, List.set_cons_zero, List.set_cons_succ]
          refine wpAnyH_take (i := 14) (v := .bool true) rfl (by kernel_rfl) (by kernel_rfl) (by kernel_rfl) (fun _ _ _ h => h) (Or.inl ⟨by rfl, ?_⟩) hHeld ?_
          · intro w' hSw
            go_simp <;> rfl
          try simp only [Act.put, List.getElem_toArray, List.getElem_cons_zero, List.getElem_cons_succ, List.setIfInBounds_toArray, List.set_cons_zero, List.set_cons_succ]
          refine wpAnyH_take (i := 15) (v := .bool true) rfl (by kernel_rfl) (by kernel_rfl) (by kernel_rfl) (fun _ _ _ h => h) (Or.inl ⟨by rfl, ?_⟩) hHeld ?_
          · intro w' hSw
            go_simp <;> rfl
          try simp only [Act.put, List.getElem_toArray, List.getElem_cons_zero, List.getElem_cons_succ, List.setIfInBounds_toArray, List.set_cons_zero, List.set_cons_succ]
          refine wpAnyH_done (by kernel_rfl) ?_ _
          clear hHeld HC3 HC4
          have HA : Hid (DS = (GV, li.waits, K ++ [z.tx])) := by rw [Hid, HDS.out]; rfl
          clear HDS
          obtain ⟨z0, z1, z2⟩ := (HK.out _ N5).2
          have C := HC5.out _ N5
          have nw5 := HW1.out _ N5
          clear HC5
          go_wp2_with fail
          refine C.mono ?_
          clear C z0 z1 z2
          rintro e w6 ⟨⟨v, rfl⟩, l', hl', hst6⟩
          have hstN := (hst.below nw5).trans hst6
          have hz5 := nw5.size
          have hz6 := hst6.size
          have x0 := (hst6.box (HBZ.out _ N5) (by omega) (fun hm => by have := (hst.now.own.lt hm).2; omega)).cell 0 _ rfl
          have hoQ := (hoK.below nw5).touch hst6.touch (fun k hk hm => by
            rcases List.mem_cons.1 hm with e | e
            · have := (hoK.lt k hk).1; omega
            · exact hap.out k hk e)
          have hapQ : Hid (∀ k, (Value.slice aK K.length cK).ownBlock = some k → k ∉ l'.blocks) := fun k hk hm => by
            rcases hst6.fresh k hm with e | e
            · exact hap.out k hk e
            · have := (hoK.lt k hk).2; omega
          have ho7 := (hoQ.below ((Below.refl _ _).alloc (Nat.le_refl _) (.cells #[.int .i64 z.tx] 3))).widen (Nat.le_refl _) (by simp; omega) (Nat.le_refl _)
          have HR : Hid ((GV, li.waits, K ++ [z.tx]) = (V0.take (j + 1)).foldl dropStep (G0, [], [])) := by rw [Hid, HST2.out, HA.out]
          clear HK HBZ HLK HW1 hap hoK hst hst6 HST2 HA
          go_wp2_with (at_builtin; refine append_intsF rfl _ _ rfl W5.heap.size (w6.alloc (.cells #[.int .i64 z.tx] 3)).heap.size aK cK K rfl ho7 _ _ [z.tx] rfl (readsI_one w6 z.tx _) (fun h => by cases h) (by simp; omega) (by simp; omega) ?_; intro a8 c8 y8 w8 hy8 ho8 hg8 hk8)
          go_roundw
          case rel =>
            have e8 := hy8.out
            subst e8
            have hstA := hstN.below ((Below.refl _ _).alloc (Nat.le_refl _) (.cells #[.int .i64 z.tx] 3))
            have hstF := hstA.grown hg8 (fun k hk => ⟨(hoQ.lt k hk).1, by have := (hoQ.lt k hk).1; omega, hapQ.out k hk⟩)
            refine ⟨j + 1, l', a8, c8, K ++ [z.tx], by omega, by go_num, rfl, by rw [Hid, hl'.out.1, hl'.out.2]; exact HR.out, by rw [hl'.out.1]; have := HGL.out; omega, by rw [hl'.out.2]; omega, by rw [List.length_append, List.length_singleton]; omega, hstF, ho8, fun k hk hm => ?_⟩
            rcases hk8 k hk with e | e
            · exact hapQ.out k e hm
            · have h1 := (hstN.now.own.lt hm).2
              have h2 : k = w6.heap.size + 1 := by simpa using e
              omega
          case measure => simp [intOf]; omega
        | true =>
          have D4 : Below V1.heap.size V1 d1.drew := N1.drew
          refine wp_region_held_drew (S := fun u => (u.cell? ⟨B, 0, none⟩ = some (.slice li.aG li.given.length li.cG) ∧ u.cell? ⟨B, 1, none⟩ = some (.slice li.aW li.waits.length li.cW)) ∧ (u.cell? ⟨wr.heap.size, 0, none⟩ = some (.int .i64 z.tx) ∧ u.cell? ⟨wr.heap.size, 1, none⟩ = some (.int .i64 z.res) ∧ u.cell? ⟨wr.heap.size, 2, none⟩ = some (.int .i64 z.mode))) (by kernel_rfl) (HK.out _ D4) (fun hHeld => ?_)
          generalize d1.drew = d4 at *
          refine wpAnyH_take (i := 0) (v := .pointer (some ⟨B, 0, none⟩)) rfl (by kernel_rfl) (by kernel_rfl) (by kernel_rfl) (fun _ _ _ h => h) (Or.inl ⟨by rfl, ?_⟩) hHeld ?_
          · intro w' hSw
            go_simp <;> rfl
          try simp only [Act.put, List.getElem_toArray, List.getElem_cons_zero, List.setIfInBounds_toArray, List.set_cons_zero, List.set_cons_succ]
          refine wpAnyH_take (i := 1) (v := .pointer (some ⟨B, 0, none⟩)) rfl (by kernel_rfl) (by kernel_rfl) (by kernel_rfl) (fun _ _ _ h => h) (Or.inl ⟨by rfl, ?_⟩) hHeld ?_
          · intro w' hSw
            go_simp <;> rfl
          try simp only [Act.put, List.getElem_toArray, List.getElem_cons_zero, List.getElem_cons_succ, List.setIfInBounds_toArray, List.set_cons_zero, List.set_cons_succ]
          refine wpAnyH_take (i := 2) (v := .agg #[.slice li.aG li.given.length li.cG, .slice li.aW li.waits.length li.cW]) rfl (by kernel_rfl) (by kernel_rfl) (by kernel_rfl) (fun _ _ _ h => h) (Or.inl ⟨by rfl, ?_⟩) hHeld ?_
          · intro w' hSw
            obtain ⟨hx0, hx1⟩ := hSw.1
            go_simp <;> rfl
          try simp only [Act.put, List.getElem_toArray, List.getElem_cons_zero, List.getElem_cons_succ, List.setIfInBounds_toArray, List.set_cons_zero, List.set_cons_succ]
          refine wpAnyH_take (i := 3) (v := .agg #[.int .i64 z.tx, .int .i64 z.res, .int .i64 z.mode]) rfl (by kernel_rfl) (by kernel_rfl) (by kernel_rfl) (fun _ _ _ h => h) (Or.inl ⟨by rfl, ?_⟩) hHeld ?_
          · intro w' hSw
            obtain ⟨hx0, hx1, hx2⟩ := hSw.2
            go_simp <;> rfl
          try simp only [Act.put, List.getElem_toArray, List.getElem_cons_zero, List.getElem_cons_succ, List.setIfInBounds_toArray, List.set_cons_zero, List.set_cons_succ]
          refine wpAnyH_take (i := 4) (v := .int .i64 m) rfl (by kernel_rfl) (by kernel_rfl) (by kernel_rfl) (fun _ _ _ h => h) (Or.inl ⟨by rfl, ?_⟩) hHeld ?_
          · intro w' hSw
            go_simp <;> rfl
          try simp only [Act.put, List.getElem_toArray, List.getElem_cons_zero, List.getElem_cons_succ, List.setIfInBounds_toArray, List.set_cons_zero, List.set_cons_succ]
          refine wpAnyH_ready (rs := [5]) (by kernel_rfl) (by simp) ?_
          refine AllReadyH.cons rfl (fun K hK => ?_) AllReadyH.nil
          go_simp
          refine (HC3.out _ D4).mono ?_
          rintro r d5 ⟨rfl, hb5⟩
          have N5 : Below V1.heap.size V1 d5 := D4.trans (hb5.mono D4.size)
          refine hK.out _ _ (HK.out _ N5) (fun hHeld => ?_)
          clear hK K hb5
          try simp only [Act.put, List.getElem_toArray, List.getElem_cons_zero, List.getElem_cons_succ, List.setIfInBounds_toArray, List.set_cons_zero, List.set_cons_succ]
          refine wpAnyH_take (i := 6) (v := .bool true) rfl (by kernel_rfl) (by kernel_rfl) (by kernel_rfl) (fun _ _ _ h => h) (Or.inl ⟨by rfl, ?_⟩) hHeld ?_
          · intro w' hSw
            go_simp <;> rfl
          try simp only [Act.put, List.getElem_toArray, List.getElem_cons_zero, List.getElem_cons_succ, List.setIfInBounds_toArray, List.set_cons_zero, List.set_cons_succ]
          refine wpAnyH_take (i := 7) (v := .pointer (some ⟨B, 0, none⟩)) rfl (by kernel_rfl) (by kernel_rfl) (by kernel_rfl) (fun _ _ _ h => h) (Or.inl ⟨by rfl, ?_⟩) hHeld ?_
          · intro w' hSw
            go_simp <;> rfl
          try simp only [Act.put, List.getElem_toArray, List.getElem_cons_zero, List.getElem_cons_succ, List.setIfInBounds_toArray, List.set_cons_zero, List.set_cons_succ]
          refine wpAnyH_take (i := 8) (v := .pointer (some ⟨B, 0, none⟩)) rfl (by kernel_rfl) (by kernel_rfl) (by kernel_rfl) (fun _ _ _ h => h) (Or.inl ⟨by rfl, ?_⟩) hHeld ?_
          · intro w' hSw
            go_simp <;> rfl
          try simp only [Act.put, List.getElem_toArray, List.getElem_cons_zero, List.getElem_cons_succ, List.setIfInBounds_toArray, List.set_cons_zero, List.set_cons_succ]
          refine wpAnyH_take (i := 9) (v := .pointer (some ⟨B, 1, none⟩)) rfl (by kernel_rfl) (by kernel_rfl) (by kernel_rfl) (fun _ _ _ h => h) (Or.inl ⟨by rfl, ?_⟩) hHeld ?_
          · intro w' hSw
            go_simp <;> rfl
          try simp only [Act.put, List.getElem_toArray, List.getElem_cons_zero, List.getElem_cons_succ, List.setIfInBounds_toArray, List.set_cons_zero, List.set_cons_succ]
          refine wpAnyH_take (i := 10) (v := .slice li.aW li.waits.length li.cW) rfl (by kernel_rfl) (by kernel_rfl) (by kernel_rfl) (fun _ _ _ h => h) (Or.inl ⟨by rfl, ?_⟩) hHeld ?_
          · intro w' hSw
            have hx := hSw.1.2
            go_simp <;> rfl
          try simp only [Act.put, List.getElem_toArray, List.getElem_cons_zero, List.getElem_cons_succ, List.setIfInBounds_toArray, List.set_cons_zero, List.set_cons_succ]
          refine wpAnyH_take (i := 11) (v := .pointer (some ⟨wr.heap.size, 1, none⟩)) rfl (by kernel_rfl) (by kernel_rfl) (by kernel_rfl) (fun _ _ _ h => h) (Or.inl ⟨by rfl, ?_⟩) hHeld ?_
          · intro w' hSw
            go_simp <;> rfl
          try simp only [Act.put, List.getElem_toArray, List.getElem_cons_zero, List.getElem_cons_succ, List.setIfInBounds_toArray, List.set_cons_zero, List.set_cons_succ]
          refine wpAnyH_take (i := 12) (v := .int .i64 z.res) rfl (by kernel_rfl) (by kernel_rfl) (by kernel_rfl) (fun _ _ _ h => h) (Or.inl ⟨by rfl, ?_⟩) hHeld ?_
          · intro w' hSw
            have hx := hSw.2.2.1
            go_simp <;> rfl
          try simp only [Act.put, List.getElem_toArray, List.getElem_cons_zero, List.getElem_cons_succ, List.setIfInBounds_toArray, List.set_cons_zero, List.set_cons_succ]
          refine wpAnyH_ready (rs := [13]) (by kernel_rfl) (by simp) ?_
          refine AllReadyH.cons rfl (fun K hK => ?_) AllReadyH.nil
          go_simp
          refine (HC4.out _ N5).mono ?_
          rintro r q6 ⟨rfl, rfl⟩
          refine hK.out _ _ (HK.out _ N5) (fun hHeld => ?_)
          clear hK K 
          try simp only [Act.put, List.getElem_toArray, List.getElem_cons_zero, List.getElem_cons_succ, List.setIfInBounds_toArray, List.set_cons_zero, List.set_cons_succ]
          refine wpAnyH_take (i := 14) (v := .bool false) rfl (by kernel_rfl) (by kernel_rfl) (by kernel_rfl) (fun _ _ _ h => h) (Or.inl ⟨by rfl, ?_⟩) hHeld ?_
          · intro w' hSw
            go_simp <;> rfl
          try simp only [Act.put, List.getElem_toArray, List.getElem_cons_zero, List.getElem_cons_succ, List.setIfInBounds_toArray, List.set_cons_zero, List.set_cons_succ]
          refine wpAnyH_take (i := 15) (v := .bool false) rfl (by kernel_rfl) (by kernel_rfl) (by kernel_rfl) (fun _ _ _ h => h) (Or.inl ⟨by rfl, ?_⟩) hHeld ?_
          · intro w' hSw
            go_simp <;> rfl
          try simp only [Act.put, List.getElem_toArray, List.getElem_cons_zero, List.getElem_cons_succ, List.setIfInBounds_toArray, List.set_cons_zero, List.set_cons_succ]
          refine wpAnyH_done (by kernel_rfl) ?_ _
          clear hHeld HC3 HC4
          have HA : Hid (DS = (li.given, li.waits ++ [z], K)) := by rw [Hid, HDS.out]; rfl
          clear HDS HC5
          go_upto_region 13 with fail
          have hD : Below wr.heap.size wr q6.drew := (HW1.out _ N5).drew
          have D0 : Below V1.heap.size V1 q6.drew := N5.drew
          have hlo : lo ≤ wr.heap.size := by omega
          have hst0 := hst.now
          refine wp_region_late (· == 10) (S := fun u => (u.cell? ⟨B, 0, none⟩ = some (.slice li.aG li.given.length li.cG) ∧ u.cell? ⟨B, 1, none⟩ = some (.slice li.aW li.waits.length li.cW)) ∧ (u.cell? ⟨wr.heap.size, 0, none⟩ = some (.int .i64 z.tx) ∧ u.cell? ⟨wr.heap.size, 1, none⟩ = some (.int .i64 z.res) ∧ u.cell? ⟨wr.heap.size, 2, none⟩ = some (.int .i64 z.mode))) (by kernel_rfl) (HK.out _ D0) (fun hHeld => ?_)
          generalize q6.drew = e0 at *
          refine wpAnyL_take (i := 0) (v := .pointer (some ⟨B, 0, none⟩)) rfl (by kernel_rfl) (fun _ _ _ h => h) (Or.inl ⟨by rfl, ?_⟩) hHeld ?_
          · intro w' hSw
            go_simp <;> rfl
          try simp only [Act.put, List.getElem_toArray, List.getElem_cons_zero, List.setIfInBounds_toArray, List.set_cons_zero, List.set_cons_succ]
          refine wpAnyL_take (i := 1) (v := .pointer (some ⟨B, 0, none⟩)) rfl (by kernel_rfl) (fun _ _ _ h => h) (Or.inl ⟨by rfl, ?_⟩) hHeld ?_
          · intro w' hSw
            go_simp <;> rfl
          try simp only [Act.put, List.getElem_toArray, List.getElem_cons_zero, List.getElem_cons_succ, List.setIfInBounds_toArray, List.set_cons_zero, List.set_cons_succ]
          refine wpAnyL_take (i := 2) (v := .pointer (some ⟨B, 0, none⟩)) rfl (by kernel_rfl) (fun _ _ _ h => h) (Or.inl ⟨by rfl, ?_⟩) hHeld ?_
          · intro w' hSw
            go_simp <;> rfl
          try simp only [Act.put, List.getElem_toArray, List.getElem_cons_zero, List.getElem_cons_succ, List.setIfInBounds_toArray, List.set_cons_zero, List.set_cons_succ]
          refine wpAnyL_take (i := 3) (v := .pointer (some ⟨B, 1, none⟩)) rfl (by kernel_rfl) (fun _ _ _ h => h) (Or.inl ⟨by rfl, ?_⟩) hHeld ?_
          · intro w' hSw
            go_simp <;> rfl
          try simp only [Act.put, List.getElem_toArray, List.getElem_cons_zero, List.getElem_cons_succ, List.setIfInBounds_toArray, List.set_cons_zero, List.set_cons_succ]
          refine wpAnyL_take (i := 4) (v := .slice li.aW li.waits.length li.cW) rfl (by kernel_rfl) (fun _ _ _ h => h) (Or.inl ⟨by rfl, ?_⟩) hHeld ?_
          · intro w' hSw
            have hx := hSw.1.2
            go_simp <;> rfl
          try simp only [Act.put, List.getElem_toArray, List.getElem_cons_zero, List.getElem_cons_succ, List.setIfInBounds_toArray, List.set_cons_zero, List.set_cons_succ]
          refine wpAnyL_take (i := 5) (v := .agg #[.int .i64 z.tx, .int .i64 z.res, .int .i64 z.mode]) rfl (by kernel_rfl) (fun _ _ _ h => h) (Or.inl ⟨by rfl, ?_⟩) hHeld ?_
          · intro w' hSw
            obtain ⟨hx0, hx1, hx2⟩ := hSw.2
            go_simp <;> rfl
          try simp only [Act.put, List.getElem_toArray, List.getElem_cons_zero, List.getElem_cons_succ, List.setIfInBounds_toArray, List.set_cons_zero, List.set_cons_succ]
          refine wpAnyL_next 6 (by kernel_rfl) rfl (fun K hK => ?_)
          go_simp
          obtain ⟨W9, hW9, y9, hb9, hs9⟩ := boxes1 e0 [.int .i64 z.tx, .int .i64 z.res, .int .i64 z.mode] 37
          have r9 : ReadsG W9 (some ⟨e0.heap.size, 0, none⟩) [z] := by rw [← hW9.out]; exact readsG_one e0 z _
          try simp only at hW9 r9
          rw [hW9.out]
          have D9 : Below wr.heap.size wr W9 := hD.trans (hb9.mono hD.size)
          have o9 := (hst0.below D9).own.waits
          clear hs9 y9
          have D9b : Below V1.heap.size V1 W9 := D0.trans (hb9.mono D0.size)
          refine hK.out _ _ ((HK.out _ (D0.trans (hb9.mono D0.size)))) (fun hHeld => ?_)
          clear hK K hW9 hb9
          try simp only [Act.put, List.getElem_toArray, List.getElem_cons_zero, List.getElem_cons_succ, List.setIfInBounds_toArray, List.set_cons_zero, List.set_cons_succ]
          refine wpAnyL_next 7 (by kernel_rfl) rfl (fun K hK => ?_)
          refine step_append_grants rfl (.tmp 74) (.tmp 76) rfl lo W9.heap.size li.aW li.cW li.waits rfl o9 _ _ [z] rfl r9 (fun h => by cases h) (by simp only [List.length_cons, List.length_nil]; omega) (by have := D9.size; omega) ?_
          intro a10 c10 y10 w10 hy10 o10 g10 k10
          obtain ⟨⟨f1, f2⟩, W3, hW3, hstQ⟩ := LkAt.setW (w := wr) hst0 D9 o10 g10 (fun k hk => by
            rcases k10 k hk with e | e
            · exact .inl e
            · exact .inr (by have := D9.size; omega))
          have HK10 : Hid (_) := fun k (hk : k < W9.heap.size) hn => g10.block k hk hn
          clear k10 r9 o9
          have hwg : wr.heap.size ∉ li.blocks := fun hm => by have := (hst0.own.lt hm).2; omega
          have hb10 : Box w10 wr.heap.size [.int .i64 z.tx, .int .i64 z.res, .int .i64 z.mode] 37 := (HBZ.out _ D9b).block (g10.block _ (HBZ.out _ D9b).lt (fun e => hwg (mem_blocksW e.symm)))
          have hbB : Box w10 B [.slice li.aG li.given.length li.cG, .slice li.aW li.waits.length li.cW] 30 := ((hst0.below D9).box).block (g10.block _ (hst0.below D9).box.lt (fun e => hst0.off (mem_blocksW e.symm)))
          have KS : (w10.cell? ⟨B, 0, none⟩ = some (.slice li.aG li.given.length li.cG) ∧ w10.cell? ⟨B, 1, none⟩ = some (.slice li.aW li.waits.length li.cW)) ∧ (w10.cell? ⟨wr.heap.size, 0, none⟩ = some (.int .i64 z.tx) ∧ w10.cell? ⟨wr.heap.size, 1, none⟩ = some (.int .i64 z.res) ∧ w10.cell? ⟨wr.heap.size, 2, none⟩ = some (.int .i64 z.mode)) := ⟨⟨hbB.cell 0 _ rfl, f1⟩, hb10.cell 0 _ rfl, hb10.cell 1 _ rfl, hb10.cell 2 _ rfl⟩
          clear hb10 hwg hbB
          refine hK.out _ _ (KS) (fun hHeld => ?_)
          clear hK K 
          try simp only [Act.put, List.getElem_toArray, List.getElem_cons_zero, List.getElem_cons_succ, List.setIfInBounds_toArray, List.set_cons_zero, List.set_cons_succ]
          refine wpAnyL_next 8 (by kernel_rfl) rfl (fun K hK => ?_)
          go_simp
          refine hK.out _ _ (hHeld) (fun hHeld => ?_)
          clear hK K 
          try simp only [Act.put, List.getElem_toArray, List.getElem_cons_zero, List.getElem_cons_succ, List.setIfInBounds_toArray, List.set_cons_zero, List.set_cons_succ]
          refine wpAnyL_take (i := 9) (v := .pointer (some ⟨B, 1, none⟩)) rfl (by kernel_rfl) (fun _ _ _ h => h) (Or.inl ⟨by rfl, ?_⟩) hHeld ?_
          · intro w' hSw
            go_simp <;> rfl
          try simp only [Act.put, List.getElem_toArray, List.getElem_cons_zero, List.getElem_cons_succ, List.setIfInBounds_toArray, List.set_cons_zero, List.set_cons_succ]
          refine wpAnyL_last 10 (by kernel_rfl) rfl rfl (fun K hK => ?_)
          go_simp
          rw [hW3.out]
          refine hK.out _ _ ?_
          clear hK K
          refine wpAnyL_done (by kernel_rfl) ?_ _
          have e10 := hy10.out
          subst e10
          clear hHeld hW3 f1 f2 g10 o10 HK10 hy10 KS
          have HR : Hid ((li.given, li.waits ++ [z], K) = (V0.take (j + 1)).foldl dropStep (G0, [], [])) := by rw [Hid, HST2.out, HA.out]
          have hstN := hst.trans hstQ
          have hoN := hoK.touch hstQ.touch (fun k hk hm => by
            rcases List.mem_cons.1 hm with e | e
            · have := (hoK.lt k hk).1; omega
            · exact hap.out k hk e)
          have hapN : Hid (∀ k, (Value.slice aK K.length cK).ownBlock = some k → k ∉ LocksA.blocks ⟨li.given, li.waits ++ [z], li.aG, li.cG, a10, c10⟩) := fun k hk hm => by
            rcases hstQ.fresh k hm with e | e
            · exact hap.out k hk e
            · have := (hoK.lt k hk).2; omega
          have hzN := hstQ.size
          clear hstQ HK hap hoK hst HST2 HA
          go_wp2_with fail
          go_roundw
          case rel => exact ⟨j + 1, ⟨li.given, li.waits ++ [z], li.aG, li.cG, a10, c10⟩, aK, cK, K, by omega, by go_num, rfl, HR.out, by show li.given.length ≤ _; omega, by show (li.waits ++ [z]).length ≤ _; rw [List.length_append, List.length_singleton]; omega, by omega, hstN, hoN.widen (Nat.le_refl _) hzN (Nat.le_refl _), hapN.out⟩
          case measure => simp [intOf]; omega
    · have HF : Hid ((li.given, li.waits, K) = DV) := by
        have e := hI.out
        rw [List.take_of_length_le (by omega)] at e
        rw [Hid, HDV.out]
        exact e
      have HAP : Hid (_) := hap.out
      have hst2 := HST.out.trans hst
      clear hI HDV hap hst
      go_wp2_with fail
      go_ret
      have e := HF.out
      subst e
      exact ⟨li, aK, cK, rfl, ⟨rfl, rfl⟩, hst2, hoK.widen hwl (Nat.le_refl _) (Nat.le_refl _), HAP.out⟩
end Go.Proofs.YtekljhabjkmhpaaDoor

/- Locks that are right stay right: what is given, asked and dropped. -/
namespace Go.Proofs.YtekljhabjkmhpaaDoor

structure GoodG (G : List GrantV) : Prop where
  each : ∀ g ∈ G, grantB g = true
  pair : G.Pairwise (fun a b => clashB b a = false)
structure GoodW (V : List GrantV) : Prop where
  each : ∀ g ∈ V, grantB g = true
  pair : V.Pairwise (fun a b => (a.tx == b.tx) = false)
theorem clashB_symm (a b : GrantV) : clashB a b = clashB b a := by
  unfold clashB
  rw [goesB_symm b.mode a.mode]
  have e1 : (b.res == a.res) = (a.res == b.res) := Bool.beq_comm
  have e2 : (b.tx == a.tx) = (a.tx == b.tx) := Bool.beq_comm
  rw [e1, e2]
theorem getD_get {α : Type} (ls : List α) (i : Nat) (h : i < ls.length) (z : α) : ls.getD i z = ls[i] := by simp [List.getD, h]
theorem goodG_iff (G : List GrantV) : (∀ k, k < G.length → givenAt G k = true) ↔ GoodG G := by
  constructor
  · intro h
    refine ⟨fun g hg => ?_, List.pairwise_iff_getElem.2 (fun i j hi hj hij => ?_)⟩
    · obtain ⟨k, hk, rfl⟩ := getD_of_mem zeroG hg
      have := h k hk
      simp only [givenAt, Bool.and_eq_true] at this
      exact this.1
    · have := h j hj
      simp only [givenAt, Bool.and_eq_true, Bool.not_eq_true'] at this
      have h2 := List.any_eq_false.1 this.2 G[i] (List.mem_take_iff_getElem.2 ⟨i, by omega, rfl⟩)
      rw [getD_get G j hj] at h2
      simpa using h2
  · rintro ⟨h1, h2⟩ k hk
    simp only [givenAt, Bool.and_eq_true, Bool.not_eq_true']
    refine ⟨h1 _ (mem_getD hk zeroG), List.any_eq_false.2 (fun x hx => ?_)⟩
    obtain ⟨i, hi, rfl⟩ := List.mem_take_iff_getElem.1 hx
    have := List.pairwise_iff_getElem.1 h2 i k (by omega) hk (by omega)
    rw [getD_get G k hk]
    simpa using this
theorem goodW_iff (V : List GrantV) : (∀ k, k < V.length → waitAt V k = true) ↔ GoodW V := by
  constructor
  · intro h
    refine ⟨fun g hg => ?_, List.pairwise_iff_getElem.2 (fun i j hi hj hij => ?_)⟩
    · obtain ⟨k, hk, rfl⟩ := getD_of_mem zeroG hg
      have := h k hk
      simp only [waitAt, Bool.and_eq_true] at this
      exact this.1
    · have := h j hj
      simp only [waitAt, Bool.and_eq_true, Bool.not_eq_true'] at this
      have h2 := List.any_eq_false.1 this.2 V[i] (List.mem_take_iff_getElem.2 ⟨i, by omega, rfl⟩)
      rw [getD_get V j hj] at h2
      simpa using h2
  · rintro ⟨h1, h2⟩ k hk
    simp only [waitAt, Bool.and_eq_true, Bool.not_eq_true']
    refine ⟨h1 _ (mem_getD hk zeroG), List.any_eq_false.2 (fun x hx => ?_)⟩
    obtain ⟨i, hi, rfl⟩ := List.mem_take_iff_getElem.1 hx
    have := List.pairwise_iff_getElem.1 h2 i k (by omega) hk (by omega)
    rw [getD_get V k hk]
    simpa using this
theorem good_ok {G V : List GrantV} (h1 : GoodG G) (h2 : GoodW V) (l1 : G.length ≤ 60) (l2 : V.length ≤ 60) : okLocks G V = true := okLocks_yes l1 l2 ((goodG_iff G).2 h1) ((goodW_iff V).2 h2)
theorem good_of {G V : List GrantV} (h : okLocks G V = true) : GoodG G ∧ GoodW V := by
  obtain ⟨_, _, h3, h4⟩ := okLocks_out h
  exact ⟨(goodG_iff G).1 h3, (goodW_iff V).1 h4⟩
theorem goodG_nil : GoodG [] := ⟨fun g hg => (by cases hg), List.Pairwise.nil⟩
theorem goodW_nil : GoodW [] := ⟨fun g hg => (by cases hg), List.Pairwise.nil⟩
theorem GoodG.modes {G : List GrantV} (h : GoodG G) : ModesOk G := fun g hg => (grantB_out (h.each g hg)).2.2
theorem GoodG.filter {G : List GrantV} (h : GoodG G) (p : GrantV → Bool) : GoodG (G.filter p) := ⟨fun g hg => h.each g (List.mem_filter.1 hg).1, h.pair.filter p⟩
theorem GoodW.filter {V : List GrantV} (h : GoodW V) (p : GrantV → Bool) : GoodW (V.filter p) := ⟨fun g hg => h.each g (List.mem_filter.1 hg).1, h.pair.filter p⟩

theorem would_mode {G : List GrantV} (h : GoodG G) {g : GrantV} (hg : grantB g = true) : modeB (wouldZ G g) = true := by
  unfold wouldZ
  split
  · rename_i h0
    obtain ⟨k, hk, e⟩ := placeZ_lt h0
    rw [e, Int.toNat_natCast]
    exact bothZ_mode (grantB_out hg).2.2 (h.modes _ (mem_getD hk zeroG))
  · exact (grantB_out hg).2.2
theorem grant_with {g : GrantV} (hg : grantB g = true) {m : Int} (hm : modeB m = true) : grantB ⟨g.tx, g.res, m⟩ = true := by
  simp only [grantB, Bool.and_eq_true] at hg ⊢
  exact ⟨hg.1, hg.2.1, hm⟩
/-- No other clashes with what fits. -/
theorem fits_clash {g h : GrantV} {m : Int} (hb : barsB ⟨g.tx, g.res, m⟩ h = false) (hn : ¬ (h.tx = g.tx ∧ h.res = g.res)) : clashB ⟨g.tx, g.res, m⟩ h = false := by
  unfold barsB at hb
  unfold clashB
  by_cases h1 : h.res = g.res
  · have h2 : h.tx ≠ g.tx := fun e => hn ⟨e, h1⟩
    simp [h1, h2] at hb ⊢
    rw [goesB_symm]; exact hb
  · simp [h1]
theorem give_good {G : List GrantV} (h : GoodG G) {g : GrantV} (hg : grantB g = true) {m : Int} (hm : modeB m = true) (hf : G.any (barsB ⟨g.tx, g.res, m⟩) = false) : GoodG (giveV G g m) := by
  have hb : ∀ x ∈ G, barsB ⟨g.tx, g.res, m⟩ x = false := fun x hx => by simpa using List.any_eq_false.1 hf x hx
  unfold giveV
  split
  · rename_i h0
    obtain ⟨k, hk, e⟩ := placeZ_lt h0
    rw [e, Int.toNat_natCast]
    obtain ⟨_, hat, _⟩ := placeZ_at e zeroG
    rw [getD_get G k hk] at hat
    have hkx : G[k].tx = g.tx ∧ G[k].res = g.res := by simpa [atB] using hat
    have oth : ∀ i (hi : i < G.length), i ≠ k → clashB ⟨g.tx, g.res, m⟩ G[i] = false := fun i hi hne => by
      refine fits_clash (hb _ (List.getElem_mem hi)) (fun hh => ?_)
      have hc : clashB G[k] G[i] = true := by simp [clashB, hh.1, hh.2, hkx.1, hkx.2]
      rcases Nat.lt_or_gt_of_ne hne with q | q
      · have := List.pairwise_iff_getElem.1 h.pair i k hi hk q
        rw [this] at hc; cases hc
      · have := List.pairwise_iff_getElem.1 h.pair k i hk hi q
        rw [clashB_symm, this] at hc; cases hc
    refine ⟨fun x hx => ?_, List.pairwise_iff_getElem.2 (fun i j hi hj hij => ?_)⟩
    · rcases List.mem_or_eq_of_mem_set hx with hx | rfl
      · exact h.each x hx
      · exact grant_with hg hm
    · simp only [List.length_set] at hi hj
      rw [List.getElem_set, List.getElem_set]
      by_cases q1 : k = i
      · have q2 : ¬ k = j := by omega
        rw [if_pos q1, if_neg q2, clashB_symm]
        exact oth j hj (by omega)
      · by_cases q2 : k = j
        · rw [if_neg q1, if_pos q2]
          exact oth i hi (by omega)
        · rw [if_neg q1, if_neg q2]
          exact List.pairwise_iff_getElem.1 h.pair i j hi hj hij
  · rename_i h0
    have hno : ∀ x ∈ G, ¬ (x.tx = g.tx ∧ x.res = g.res) := fun x hx hh => h0 ((placeZ_neg _ _).2 (List.any_eq_true.2 ⟨x, hx, by simp [atB, hh.1, hh.2]⟩))
    refine ⟨fun x hx => ?_, List.pairwise_append.2 ⟨h.pair, by simp, fun a ha b hb' => ?_⟩⟩
    · rcases List.mem_append.1 hx with hx | hx
      · exact h.each x hx
      · obtain rfl := List.mem_singleton.1 hx; exact grant_with hg hm
    · obtain rfl := List.mem_singleton.1 hb'
      exact fits_clash (hb a ha) (hno a ha)
theorem push_good {V : List GrantV} (h : GoodW V) {g : GrantV} (hg : grantB g = true) (hn : V.any (fun x => x.tx == g.tx) = false) : GoodW (V ++ [g]) := by
  refine ⟨fun x hx => ?_, List.pairwise_append.2 ⟨h.pair, by simp, fun a ha b hb => ?_⟩⟩
  · rcases List.mem_append.1 hx with hx | hx
    · exact h.each x hx
    · obtain rfl := List.mem_singleton.1 hx; exact hg
  · obtain rfl := List.mem_singleton.1 hb
    simpa using List.any_eq_false.1 hn a ha
theorem ask_good {G V : List GrantV} (h1 : GoodG G) (h2 : GoodW V) {g : GrantV} (hg : grantB g = true) (hn : V.any (fun x => x.tx == g.tx) = false) : GoodG (askV G V g).1 ∧ GoodW (askV G V g).2.1 ∧ (askV G V g).1.length + (askV G V g).2.1.length ≤ G.length + V.length + 1 := by
  unfold askV
  split
  · exact ⟨h1, h2, by simp⟩
  · split
    · rename_i _ hf
      simp only [Bool.and_eq_true, Bool.not_eq_true'] at hf
      have := giveV_len G g (wouldS G g)
      exact ⟨give_good h1 hg (by rw [would_same h1.modes]; exact would_mode h1 hg) hf.1, h2, by simp only; omega⟩
    · exact ⟨h1, push_good h2 hg hn, by simp; omega⟩

/-- What stands in the middle of a drop: R still waits to be looked at. -/
structure DropI (tx : Int) (n : Nat) (s : List GrantV × List GrantV × List Int) (R : List GrantV) : Prop where
  gg : GoodG s.1
  gw : GoodW (s.2.1 ++ R)
  len : s.1.length + s.2.1.length + R.length ≤ n
  none : ∀ g ∈ s.1, g.tx ≠ tx
  left : ∀ g ∈ R, g.tx ≠ tx
  wait : ∀ g ∈ s.2.1, g.tx ≠ tx
theorem dropI_step {tx : Int} {n : Nat} {s : List GrantV × List GrantV × List Int} {g : GrantV} {R : List GrantV} (h : DropI tx n s (g :: R)) : DropI tx n (dropStep s g) R ∧ (dropStep s g).2.1.length + (dropStep s g).2.2.length = s.2.1.length + s.2.2.length + 1 := by
  have hg : grantB g = true := h.gw.each g (by simp)
  have hgt := h.left g (by simp)
  have hl := h.len
  simp only [List.length_cons] at hl
  unfold dropStep
  split
  · rename_i hf
    simp only [Bool.and_eq_true, Bool.not_eq_true'] at hf
    have hsub : GoodW (s.2.1 ++ R) := ⟨fun x hx => h.gw.each x (by
      rcases List.mem_append.1 hx with q | q
      · exact List.mem_append.2 (.inl q)
      · exact List.mem_append.2 (.inr (List.mem_cons_of_mem _ q))), h.gw.pair.sublist (List.Sublist.append (List.Sublist.refl _) (List.sublist_cons_self g R))⟩
    have hgl := giveV_len s.1 g (wouldS s.1 g)
    refine ⟨⟨give_good h.gg hg (by rw [would_same h.gg.modes]; exact would_mode h.gg hg) hf.1, hsub, by simp only; omega, fun x hx => ?_, fun x hx => h.left x (List.mem_cons_of_mem _ hx), h.wait⟩, by simp; omega⟩
    simp only at hx
    unfold giveV at hx
    split at hx
    · rcases List.mem_or_eq_of_mem_set hx with q | rfl
      · exact h.none x q
      · exact hgt
    · rcases List.mem_append.1 hx with q | q
      · exact h.none x q
      · obtain rfl := List.mem_singleton.1 q; exact hgt
  · refine ⟨⟨h.gg, by simpa using h.gw, by simp; omega, h.none, fun x hx => h.left x (List.mem_cons_of_mem _ hx), fun x hx => ?_⟩, by simp; omega⟩
    simp only at hx
    rcases List.mem_append.1 hx with q | q
    · exact h.wait x q
    · obtain rfl := List.mem_singleton.1 q; exact hgt
theorem dropI_all {tx : Int} {n : Nat} : ∀ (R : List GrantV) (s : List GrantV × List GrantV × List Int), DropI tx n s R → DropI tx n (R.foldl dropStep s) [] ∧ (R.foldl dropStep s).2.1.length + (R.foldl dropStep s).2.2.length = s.2.1.length + s.2.2.length + R.length := by
  intro R
  induction R with
  | nil => intro s h; exact ⟨h, by simp⟩
  | cons g R ih =>
    intro s h
    obtain ⟨h1, h2⟩ := dropI_step h
    obtain ⟨h3, h4⟩ := ih _ h1
    simp only [List.foldl_cons, List.length_cons]
    exact ⟨h3, by omega⟩
theorem dropI_start {G V : List GrantV} (h1 : GoodG G) (h2 : GoodW V) (tx : Int) : DropI tx (G.length + V.length) (withoutL G tx, [], []) (withoutL V tx) := by
  have l1 := List.length_filter_le (fun g : GrantV => g.tx != tx) G
  have l2 := List.length_filter_le (fun g : GrantV => g.tx != tx) V
  refine ⟨h1.filter _, by simpa [withoutL] using h2.filter _, by simp only [withoutL, List.length_nil]; omega, fun g hg => ?_, fun g hg => ?_, fun g hg => by cases hg⟩
  · simpa using (List.mem_filter.1 hg).2
  · simpa using (List.mem_filter.1 hg).2
theorem drop_good {G V : List GrantV} (h1 : GoodG G) (h2 : GoodW V) (tx : Int) : GoodG (dropV G V tx).1 ∧ GoodW (dropV G V tx).2.1 ∧ (dropV G V tx).1.length + (dropV G V tx).2.1.length ≤ G.length + V.length ∧ (∀ g ∈ (dropV G V tx).1, g.tx ≠ tx) ∧ (∀ g ∈ (dropV G V tx).2.1, g.tx ≠ tx) ∧ (dropV G V tx).2.1.length + (dropV G V tx).2.2.length = (withoutL V tx).length := by
  obtain ⟨h3, h4⟩ := dropI_all _ _ (dropI_start h1 h2 tx)
  have hl := h3.len
  simp only [List.length_nil, Nat.add_zero] at hl
  refine ⟨h3.gg, by have := h3.gw; rw [List.append_nil] at this; exact this, hl, h3.none, h3.wait, ?_⟩
  simpa [dropV] using h4
end Go.Proofs.YtekljhabjkmhpaaDoor
