/- Several texts in one, in their order. -/
import Derived.Test.YtekljhabjkmhpaaDoorPFnLockedx14
import Derived.Deep.RegionHeld3
/- The walk of spec.l9Copy. -/
namespace Go.Proofs.YtekljhabjkmhpaaDoor
open Go.RowKit

/-- Two rows that the call owns, apart. -/
structure TwoG (u : World) (lo : Nat) (a : Option Addr) (c : Nat) (L : List GrantV) (b : Option Addr) (d : Nat) (M : List GrantV) : Prop where
  one : OwnG u lo u.heap.size a c L
  two : OwnG u lo u.heap.size b d M
  apart : ∀ k, (Value.slice a L.length c).ownBlock = some k → (Value.slice b M.length d).ownBlock ≠ some k
theorem TwoG.swap {u : World} {lo : Nat} {a : Option Addr} {c : Nat} {L : List GrantV} {b : Option Addr} {d : Nat} {M : List GrantV} (h : TwoG u lo a c L b d M) : TwoG u lo b d M a c L := ⟨h.two, h.one, fun k hk e => h.apart k e hk⟩
theorem OwnG.top {u : World} {lo hi : Nat} {a : Option Addr} {c : Nat} {L : List GrantV} (h : OwnG u lo hi a c L) : OwnG u lo u.heap.size a c L := h.widen (Nat.le_refl _) h.2.1 (Nat.le_refl _)
theorem two_new {u : World} {lo hi : Nat} {a : Option Addr} {c : Nat} {L : List GrantV} (h : OwnG u lo hi a c L) (hlo : lo ≤ u.heap.size) : TwoG (u.alloc (.cells #[] 37)) lo a c L (some ⟨u.heap.size, 0, none⟩) 0 [] :=
  ⟨(h.below ((Below.refl _ _).alloc (Nat.le_refl _) _)).top, ((ownG_lit0 u).widen hlo (by simp) (Nat.le_refl _)).top, fun k hk e => by
    have h1 := (h.lt k hk).2
    have h2 := h.2.1
    have h3 : u.heap.size = k := by simpa [Value.ownBlock] using e
    omega⟩
theorem TwoG.app {u u' : World} {lo : Nat} {a : Option Addr} {c : Nat} {L : List GrantV} {b : Option Addr} {d : Nat} {M : List GrantV} (h : TwoG u lo a c L b d M) {a' : Option Addr} {c' : Nat} {ys : List GrantV} (ho : OwnG u' lo u'.heap.size a' c' ys) (hg : u.grownBy u' (Value.slice a L.length c).ownBlock)
    (hk : ∀ k, (Value.slice a' ys.length c').ownBlock = some k → (Value.slice a L.length c).ownBlock = some k ∨ k = u.heap.size) : TwoG u' lo a' c' ys b d M := by
  have h2 : OwnG u' lo u.heap.size b d M := ⟨ownsRow_block h.two.1 (fun k hk' => hg.block k (h.two.1.lt k hk').2 (fun e => h.apart k e.symm hk')), hg.size, h.two.2.2⟩
  refine ⟨ho, h2.top, fun k hk' e => ?_⟩
  rcases hk k hk' with q | q
  · exact h.apart k q e
  · have := (h.two.lt k e).2; omega

set_option maxHeartbeats 4000000 in
set_option maxRecDepth 100000 in
theorem l9Copy_any (l : LocksA) (w : World) (hr : l.reads w) (hl : l.short 1000) :
    Calls Tryd.prog 41 #[.agg #[.slice l.aG l.given.length l.cG, .slice l.aW l.waits.length l.cW]] w fun e w' => ∃ a1 c1 a2 c2, e = .returned (.agg #[.slice a1 l.given.length c1, .slice a2 l.waits.length c2]) ∧ LocksA.own w' w.heap.size w'.heap.size ⟨l.given, l.waits, a1, c1, a2, c2⟩ ∧ Below w.heap.size w w' := by
  obtain ⟨G, V, aG, cG, aW, cW⟩ := l
  obtain ⟨hG, hV, hnG, hnV, _, _⟩ := hr
  obtain ⟨hlG, hlV⟩ := hl
  simp only at *
  obtain ⟨W, hW, b0, b1, hbW, hsW⟩ := boxes2 w [.slice aG G.length cG, .slice aW V.length cW] [.slice none 0 0, .slice none 0 0] 30 30
  have hs0 := b0.lt
  have hs1 := b1.lt
  have HK : Hid (∀ u, Below W.heap.size W u → u.cell? ⟨w.heap.size, 0, none⟩ = some (.slice aG G.length cG) ∧ u.cell? ⟨w.heap.size, 1, none⟩ = some (.slice aW V.length cW)) := fun u hu => ⟨(b0.below hu hs0).cell 0 _ rfl, (b0.below hu hs0).cell 1 _ rfl⟩
  have HRG : Hid (∀ u, Below W.heap.size W u → ReadsG u aG G ∧ ReadsG u aW V) := fun u hu => ⟨(hG.below hbW).below hu, (hV.below hbW).below hu⟩
  have HBR : Hid (∀ u, Below W.heap.size W u → Box u (w.heap.size + 1) [.slice none 0 0, .slice none 0 0] 30) := fun u hu => b1.below hu hs1
  have HBW : Hid (∀ u, Below W.heap.size W u → Below w.heap.size w u) := fun u hu => hbW.trans (hu.mono hbW.size)
  have hs2 : w.heap.size + 2 ≤ W.heap.size := Nat.le_of_eq hsW.symm
  have HNG : Hid (_) := hnG
  have HNV : Hid (_) := hnV
  clear b0 b1 hbW hsW hG hV hnG hnV
  have FIN : Hid (∀ (u : World) (a1 : Option Addr) (c1 : Nat) (a2 : Option Addr) (c2 : Nat), Below W.heap.size W u → TwoG u W.heap.size a1 c1 G a2 c2 V → LocksA.own ((u.setCell ⟨w.heap.size + 1, 0, none⟩ (.slice a1 G.length c1)).setCell ⟨w.heap.size + 1, 1, none⟩ (.slice a2 V.length c2)) w.heap.size ((u.setCell ⟨w.heap.size + 1, 0, none⟩ (.slice a1 G.length c1)).setCell ⟨w.heap.size + 1, 1, none⟩ (.slice a2 V.length c2)).heap.size ⟨G, V, a1, c1, a2, c2⟩ ∧ Below w.heap.size w ((u.setCell ⟨w.heap.size + 1, 0, none⟩ (.slice a1 G.length c1)).setCell ⟨w.heap.size + 1, 1, none⟩ (.slice a2 V.length c2)) ∧ Box ((u.setCell ⟨w.heap.size + 1, 0, none⟩ (.slice a1 G.length c1)).setCell ⟨w.heap.size + 1, 1, none⟩ (.slice a2 V.length c2)) (w.heap.size + 1) [.slice a1 G.length c1, .slice a2 V.length c2] 30) := fun u a1 c1 a2 c2 hu h2 => by
    have hbx := HBR.out u hu
    have hwF : Within (w.heap.size + 1) (w.heap.size + 2) u _ := (within_set u (w.heap.size + 1) 0 (.slice a1 G.length c1) (by omega)).trans (within_set _ (w.heap.size + 1) 1 (.slice a2 V.length c2) (by omega))
    have hbF := (hbx.set 0 (.slice a1 G.length c1)).set 1 (.slice a2 V.length c2)
    simp only [List.set] at hbF
    have hu0 := HBW.out u hu
    have hsu := hu.size
    exact ⟨⟨((h2.one.within hwF (.inr (by omega))).top).widen (by omega) (Nat.le_refl _) (Nat.le_refl _), ((h2.two.within hwF (.inr (by omega))).top).widen (by omega) (Nat.le_refl _) (Nat.le_refl _), h2.apart⟩, hu0.trans (hwF.below (by omega) (by omega)), hbF⟩
  go_enter Tryd.func41, Tryd.ntmps41
  go_upto_region 1 with fail
  rw [hW.out]
  clear hW
  have D0 : Below W.heap.size W W.drew := (Below.refl _ _).drew
  have hz0 : W.heap.size ≤ W.drew.heap.size := Nat.le_refl _
  refine wp_region_held_drew (S := fun u => u.cell? ⟨w.heap.size, 0, none⟩ = some (.slice aG G.length cG) ∧ u.cell? ⟨w.heap.size, 1, none⟩ = some (.slice aW V.length cW)) (by kernel_rfl) (HK.out _ D0) (fun hHeld => ?_)
  generalize W.drew = d0 at *
  refine wpAnyH_take (i := 1) (v := .pointer (some ⟨w.heap.size, 0, none⟩)) rfl (by kernel_rfl) (by kernel_rfl) (by kernel_rfl) (fun _ _ _ h => h) (Or.inl ⟨by rfl, ?_⟩) hHeld ?_
  · intro w' hSw
    go_simp <;> rfl
  try simp only [Act.put, List.getElem_toArray, List.getElem_cons_zero, List.getElem_cons_succ, List.setIfInBounds_toArray, List.set_cons_zero, List.set_cons_succ]
  refine wpAnyH_take (i := 2) (v := .slice aG G.length cG) rfl (by kernel_rfl) (by kernel_rfl) (by kernel_rfl) (fun _ _ _ h => h) (Or.inl ⟨by rfl, ?_⟩) hHeld ?_
  · intro w' hSw
    have hx := hSw.1
    go_simp <;> rfl
  try simp only [Act.put, List.getElem_toArray, List.getElem_cons_zero, List.getElem_cons_succ, List.setIfInBounds_toArray, List.set_cons_zero, List.set_cons_succ]
  refine wpAnyH_take (i := 5) (v := .pointer (some ⟨w.heap.size, 1, none⟩)) rfl (by kernel_rfl) (by kernel_rfl) (by kernel_rfl) (fun _ _ _ h => h) (Or.inl ⟨by rfl, ?_⟩) hHeld ?_
  · intro w' hSw
    go_simp <;> rfl
  try simp only [Act.put, List.getElem_toArray, List.getElem_cons_zero, List.getElem_cons_succ, List.setIfInBounds_toArray, List.set_cons_zero, List.set_cons_succ]
  refine wpAnyH_take (i := 6) (v := .slice aW V.length cW) rfl (by kernel_rfl) (by kernel_rfl) (by kernel_rfl) (fun _ _ _ h => h) (Or.inl ⟨by rfl, ?_⟩) hHeld ?_
  · intro w' hSw
    have hx := hSw.2
    go_simp <;> rfl
  try simp only [Act.put, List.getElem_toArray, List.getElem_cons_zero, List.getElem_cons_succ, List.setIfInBounds_toArray, List.set_cons_zero, List.set_cons_succ]
  have KF : Hid (∀ u, Below W.heap.size W u → ∀ {a1 c1 a2 c2} {WF : World}, ((u.setCell ⟨w.heap.size + 1, 0, none⟩ (.slice a1 G.length c1)).setCell ⟨w.heap.size + 1, 1, none⟩ (.slice a2 V.length c2) = WF) → WF.cell? ⟨w.heap.size, 0, none⟩ = some (.slice aG G.length cG) ∧ WF.cell? ⟨w.heap.size, 1, none⟩ = some (.slice aW V.length cW)) := fun u hu {a1 c1 a2 c2 WF} e => by
    rw [← e]
    have hwF : Within (w.heap.size + 1) (w.heap.size + 2) u _ := (within_set u (w.heap.size + 1) 0 (.slice a1 G.length c1) (by omega)).trans (within_set _ (w.heap.size + 1) 1 (.slice a2 V.length c2) (by omega))
    obtain ⟨k0, k1⟩ := HK.out u hu
    exact ⟨(World.cell?_of_block (a := ⟨w.heap.size, 0, none⟩) (hwF.block w.heap.size (by have := hu.size; omega) (by omega))).trans k0, (World.cell?_of_block (a := ⟨w.heap.size, 1, none⟩) (hwF.block w.heap.size (by have := hu.size; omega) (by omega))).trans k1⟩
  refine wpAnyH_ready (rs := [0, 4]) (by kernel_rfl) (by simp) ?_
  refine (AllReadyH.cons rfl (fun K hK => ?_) (AllReadyH.cons rfl (fun K hK => ?_) AllReadyH.nil))
  ·skip
   go_simp
   obtain ⟨u1, hu1, hq1, hbu1, hq2⟩ := boxes1 d0 [] 37
   clear hq1 hq2
   have D21 : Below W.heap.size W u1 := D0.trans (hbu1.mono D0.size)
   have hz1 := D0.size
   have o1 : OwnG u1 W.heap.size (d0.heap.size + 1) (some ⟨d0.heap.size, 0, none⟩) 0 [] := by rw [← hu1.out]; exact (ownG_lit0 d0).widen (by omega) (Nat.le_refl _) (by simp)
   try simp only [List.toArray] at hu1
   rw [hu1.out]
   refine hK.out _ _ (HK.out _ D21) (fun hHeld => ?_)
   clear hK K hu1
   try simp only [Act.put, List.getElem_toArray, List.getElem_cons_zero, List.getElem_cons_succ, List.setIfInBounds_toArray, List.set_cons_zero, List.set_cons_succ]
   refine wpAnyH_ready (rs := [3, 4]) (by kernel_rfl) (by simp) ?_
   refine (AllReadyH.cons rfl (fun K hK => ?_) (AllReadyH.cons rfl (fun K hK => ?_) AllReadyH.nil))
   ·skip
    refine step_append_grants rfl (.tmp 3) (.tmp 5) rfl W.heap.size _ (some ⟨d0.heap.size, 0, none⟩) 0 [] rfl o1 aG cG G rfl (HRG.out _ D21).1 HNG.out (by simp only [List.length_nil]; omega) (by have := D21.size; omega) ?_
    intro a2 c2 y2 u2 hy2 oo2 gg2 kk2
    obtain rfl : G = y2 := hy2.out.symm
    have D22 : Below W.heap.size W u2 := D21.grown gg2 (by have := D21.size; omega) (fun k hk => ((o1).lt k hk).1)
    refine hK.out _ _ (HK.out _ D22) (fun hHeld => ?_)
    clear hK K gg2 kk2 hy2
    try simp only [Act.put, List.getElem_toArray, List.getElem_cons_zero, List.getElem_cons_succ, List.setIfInBounds_toArray, List.set_cons_zero, List.set_cons_succ]
    refine wpAnyH_ready (rs := [4]) (by kernel_rfl) (by simp) ?_
    refine (AllReadyH.cons rfl (fun K hK => ?_) AllReadyH.nil)
    go_simp
    obtain ⟨u3, hu3, hq1, hbu3, hq2⟩ := boxes1 u2 [] 37
    clear hq1 hq2
    have D23 : Below W.heap.size W u3 := D22.trans (hbu3.mono D22.size)
    have hz3 := D22.size
    have t3 : TwoG u3 W.heap.size a2 c2 G (some ⟨u2.heap.size, 0, none⟩) 0 [] := by rw [← hu3.out]; exact two_new oo2 (by omega)
    try simp only [List.toArray] at hu3
    rw [hu3.out]
    refine hK.out _ _ (HK.out _ D23) (fun hHeld => ?_)
    clear hK K hu3
    try simp only [Act.put, List.getElem_toArray, List.getElem_cons_zero, List.getElem_cons_succ, List.setIfInBounds_toArray, List.set_cons_zero, List.set_cons_succ]
    refine wpAnyH_ready (rs := [7]) (by kernel_rfl) (by simp) ?_
    refine (AllReadyH.cons rfl (fun K hK => ?_) AllReadyH.nil)
    refine step_append_grants rfl (.tmp 7) (.tmp 9) rfl W.heap.size u3.heap.size (some ⟨u2.heap.size, 0, none⟩) 0 [] rfl t3.swap.one aW cW V rfl (HRG.out _ D23).2 HNV.out (by simp only [List.length_nil]; omega) (by have := D23.size; omega) ?_
    intro a4 c4 y4 u4 hy4 oo4 gg4 kk4
    obtain rfl : V = y4 := hy4.out.symm
    have D24 : Below W.heap.size W u4 := D23.grown gg4 (by have := D23.size; omega) (fun k hk => ((t3.swap.one).lt k hk).1)
    have tt4 := TwoG.app (t3.swap) oo4 gg4 kk4
    refine hK.out _ _ (HK.out _ D24) (fun hHeld => ?_)
    clear hK K gg4 kk4 hy4
    try simp only [Act.put, List.getElem_toArray, List.getElem_cons_zero, List.getElem_cons_succ, List.setIfInBounds_toArray, List.set_cons_zero, List.set_cons_succ]
    refine wpAnyH_take (i := 8) (v := .agg #[.slice a2 G.length c2, .slice a4 V.length c4]) rfl (by kernel_rfl) (by kernel_rfl) (by kernel_rfl) (fun _ _ _ h => h) (Or.inl ⟨by rfl, ?_⟩) hHeld ?_
    · intro w' hSw
      go_simp <;> rfl
    try simp only [Act.put, List.getElem_toArray, List.getElem_cons_zero, List.getElem_cons_succ, List.setIfInBounds_toArray, List.set_cons_zero, List.set_cons_succ]
    obtain ⟨f0, f1, hbF⟩ := FIN.out _ _ _ _ _ D24 tt4.swap
    have hbx := HBR.out _ D24
    have y0 := hbx.cell 0 _ rfl
    have y1 := hbx.cell 1 _ rfl
    have z0 := hbx.frozen 0
    have z1 := hbx.frozen 1
    obtain ⟨WF, hWF⟩ : ∃ WF, Hid ((u4.setCell ⟨w.heap.size + 1, 0, none⟩ (.slice a2 G.length c2)).setCell ⟨w.heap.size + 1, 1, none⟩ (.slice a4 V.length c4) = WF) := ⟨_, rfl⟩
    rw [hWF.out] at f0 f1 hbF
    refine wpAnyH_ready (rs := [9]) (by kernel_rfl) (by simp) ?_
    refine AllReadyH.cons rfl (fun K hK => ?_) AllReadyH.nil
    go_simp
    rw [hWF.out]
    refine hK.out _ _ ?_ (fun _ => ?_)
    · exact KF.out _ D24 hWF.out
    clear hK K
    refine wpAnyH_done (by kernel_rfl) ?_ _
    have q0 := hbF.cell 0 _ rfl
    have q1 := hbF.cell 1 _ rfl
    go_wp2_with fail
    refine bodyPost_ret (v := .agg #[.slice a2 G.length c2, .slice a4 V.length c4]) (by simp [results, Tryd.results41, go_sem, q0, q1]) rfl ⟨_, _, _, _, rfl, f0, f1⟩
   ·skip
    go_simp
    obtain ⟨u5, hu5, hq1, hbu5, hq2⟩ := boxes1 u1 [] 37
    clear hq1 hq2
    have D25 : Below W.heap.size W u5 := D21.trans (hbu5.mono D21.size)
    have hz5 := D21.size
    have t5 : TwoG u5 W.heap.size (some ⟨d0.heap.size, 0, none⟩) 0 [] (some ⟨u1.heap.size, 0, none⟩) 0 [] := by rw [← hu5.out]; exact two_new o1 (by omega)
    try simp only [List.toArray] at hu5
    rw [hu5.out]
    refine hK.out _ _ (HK.out _ D25) (fun hHeld => ?_)
    clear hK K hu5
    try simp only [Act.put, List.getElem_toArray, List.getElem_cons_zero, List.getElem_cons_succ, List.setIfInBounds_toArray, List.set_cons_zero, List.set_cons_succ]
    refine wpAnyH_ready (rs := [3]) (by kernel_rfl) (by simp) ?_
    refine (AllReadyH.cons rfl (fun K hK => ?_) AllReadyH.nil)
    refine step_append_grants rfl (.tmp 3) (.tmp 5) rfl W.heap.size u5.heap.size (some ⟨d0.heap.size, 0, none⟩) 0 [] rfl t5.one aG cG G rfl (HRG.out _ D25).1 HNG.out (by simp only [List.length_nil]; omega) (by have := D25.size; omega) ?_
    intro a6 c6 y6 u6 hy6 oo6 gg6 kk6
    obtain rfl : G = y6 := hy6.out.symm
    have D26 : Below W.heap.size W u6 := D25.grown gg6 (by have := D25.size; omega) (fun k hk => ((t5.one).lt k hk).1)
    have tt6 := TwoG.app (t5) oo6 gg6 kk6
    refine hK.out _ _ (HK.out _ D26) (fun hHeld => ?_)
    clear hK K gg6 kk6 hy6
    try simp only [Act.put, List.getElem_toArray, List.getElem_cons_zero, List.getElem_cons_succ, List.setIfInBounds_toArray, List.set_cons_zero, List.set_cons_succ]
    refine wpAnyH_ready (rs := [7]) (by kernel_rfl) (by simp) ?_
    refine (AllReadyH.cons rfl (fun K hK => ?_) AllReadyH.nil)
    refine step_append_grants rfl (.tmp 7) (.tmp 9) rfl W.heap.size u6.heap.size (some ⟨u1.heap.size, 0, none⟩) 0 [] rfl tt6.swap.one aW cW V rfl (HRG.out _ D26).2 HNV.out (by simp only [List.length_nil]; omega) (by have := D26.size; omega) ?_
    intro a7 c7 y7 u7 hy7 oo7 gg7 kk7
    obtain rfl : V = y7 := hy7.out.symm
    have D27 : Below W.heap.size W u7 := D26.grown gg7 (by have := D26.size; omega) (fun k hk => ((tt6.swap.one).lt k hk).1)
    have tt7 := TwoG.app (tt6.swap) oo7 gg7 kk7
    refine hK.out _ _ (HK.out _ D27) (fun hHeld => ?_)
    clear hK K gg7 kk7 hy7
    try simp only [Act.put, List.getElem_toArray, List.getElem_cons_zero, List.getElem_cons_succ, List.setIfInBounds_toArray, List.set_cons_zero, List.set_cons_succ]
    refine wpAnyH_take (i := 8) (v := .agg #[.slice a6 G.length c6, .slice a7 V.length c7]) rfl (by kernel_rfl) (by kernel_rfl) (by kernel_rfl) (fun _ _ _ h => h) (Or.inl ⟨by rfl, ?_⟩) hHeld ?_
    · intro w' hSw
      go_simp <;> rfl
    try simp only [Act.put, List.getElem_toArray, List.getElem_cons_zero, List.getElem_cons_succ, List.setIfInBounds_toArray, List.set_cons_zero, List.set_cons_succ]
    obtain ⟨f0, f1, hbF⟩ := FIN.out _ _ _ _ _ D27 tt7.swap
    have hbx := HBR.out _ D27
    have y0 := hbx.cell 0 _ rfl
    have y1 := hbx.cell 1 _ rfl
    have z0 := hbx.frozen 0
    have z1 := hbx.frozen 1
    obtain ⟨WF, hWF⟩ : ∃ WF, Hid ((u7.setCell ⟨w.heap.size + 1, 0, none⟩ (.slice a6 G.length c6)).setCell ⟨w.heap.size + 1, 1, none⟩ (.slice a7 V.length c7) = WF) := ⟨_, rfl⟩
    rw [hWF.out] at f0 f1 hbF
    refine wpAnyH_ready (rs := [9]) (by kernel_rfl) (by simp) ?_
    refine AllReadyH.cons rfl (fun K hK => ?_) AllReadyH.nil
    go_simp
    rw [hWF.out]
    refine hK.out _ _ ?_ (fun _ => ?_)
    · exact KF.out _ D27 hWF.out
    clear hK K
    refine wpAnyH_done (by kernel_rfl) ?_ _
    have q0 := hbF.cell 0 _ rfl
    have q1 := hbF.cell 1 _ rfl
    go_wp2_with fail
    refine bodyPost_ret (v := .agg #[.slice a6 G.length c6, .slice a7 V.length c7]) (by simp [results, Tryd.results41, go_sem, q0, q1]) rfl ⟨_, _, _, _, rfl, f0, f1⟩
  ·skip
   go_simp
   obtain ⟨u8, hu8, hq1, hbu8, hq2⟩ := boxes1 d0 [] 37
   clear hq1 hq2
   have D28 : Below W.heap.size W u8 := D0.trans (hbu8.mono D0.size)
   have hz8 := D0.size
   have o8 : OwnG u8 W.heap.size (d0.heap.size + 1) (some ⟨d0.heap.size, 0, none⟩) 0 [] := by rw [← hu8.out]; exact (ownG_lit0 d0).widen (by omega) (Nat.le_refl _) (by simp)
   try simp only [List.toArray] at hu8
   rw [hu8.out]
   refine hK.out _ _ (HK.out _ D28) (fun hHeld => ?_)
   clear hK K hu8
   try simp only [Act.put, List.getElem_toArray, List.getElem_cons_zero, List.getElem_cons_succ, List.setIfInBounds_toArray, List.set_cons_zero, List.set_cons_succ]
   refine wpAnyH_ready (rs := [0]) (by kernel_rfl) (by simp) ?_
   refine (AllReadyH.cons rfl (fun K hK => ?_) AllReadyH.nil)
   go_simp
   obtain ⟨u9, hu9, hq1, hbu9, hq2⟩ := boxes1 u8 [] 37
   clear hq1 hq2
   have D29 : Below W.heap.size W u9 := D28.trans (hbu9.mono D28.size)
   have hz9 := D28.size
   have t9 : TwoG u9 W.heap.size (some ⟨d0.heap.size, 0, none⟩) 0 [] (some ⟨u8.heap.size, 0, none⟩) 0 [] := by rw [← hu9.out]; exact two_new o8 (by omega)
   try simp only [List.toArray] at hu9
   rw [hu9.out]
   refine hK.out _ _ (HK.out _ D29) (fun hHeld => ?_)
   clear hK K hu9
   try simp only [Act.put, List.getElem_toArray, List.getElem_cons_zero, List.getElem_cons_succ, List.setIfInBounds_toArray, List.set_cons_zero, List.set_cons_succ]
   refine wpAnyH_ready (rs := [3]) (by kernel_rfl) (by simp) ?_
   refine (AllReadyH.cons rfl (fun K hK => ?_) AllReadyH.nil)
   refine step_append_grants rfl (.tmp 3) (.tmp 5) rfl W.heap.size u9.heap.size (some ⟨u8.heap.size, 0, none⟩) 0 [] rfl t9.swap.one aG cG G rfl (HRG.out _ D29).1 HNG.out (by simp only [List.length_nil]; omega) (by have := D29.size; omega) ?_
   intro a10 c10 y10 u10 hy10 oo10 gg10 kk10
   obtain rfl : G = y10 := hy10.out.symm
   have D30 : Below W.heap.size W u10 := D29.grown gg10 (by have := D29.size; omega) (fun k hk => ((t9.swap.one).lt k hk).1)
   have tt10 := TwoG.app (t9.swap) oo10 gg10 kk10
   refine hK.out _ _ (HK.out _ D30) (fun hHeld => ?_)
   clear hK K gg10 kk10 hy10
   try simp only [Act.put, List.getElem_toArray, List.getElem_cons_zero, List.getElem_cons_succ, List.setIfInBounds_toArray, List.set_cons_zero, List.set_cons_succ]
   refine wpAnyH_ready (rs := [7]) (by kernel_rfl) (by simp) ?_
   refine (AllReadyH.cons rfl (fun K hK => ?_) AllReadyH.nil)
   refine step_append_grants rfl (.tmp 7) (.tmp 9) rfl W.heap.size u10.heap.size (some ⟨d0.heap.size, 0, none⟩) 0 [] rfl tt10.swap.one aW cW V rfl (HRG.out _ D30).2 HNV.out (by simp only [List.length_nil]; omega) (by have := D30.size; omega) ?_
   intro a11 c11 y11 u11 hy11 oo11 gg11 kk11
   obtain rfl : V = y11 := hy11.out.symm
   have D31 : Below W.heap.size W u11 := D30.grown gg11 (by have := D30.size; omega) (fun k hk => ((tt10.swap.one).lt k hk).1)
   have tt11 := TwoG.app (tt10.swap) oo11 gg11 kk11
   refine hK.out _ _ (HK.out _ D31) (fun hHeld => ?_)
   clear hK K gg11 kk11 hy11
   try simp only [Act.put, List.getElem_toArray, List.getElem_cons_zero, List.getElem_cons_succ, List.setIfInBounds_toArray, List.set_cons_zero, List.set_cons_succ]
   refine wpAnyH_take (i := 8) (v := .agg #[.slice a10 G.length c10, .slice a11 V.length c11]) rfl (by kernel_rfl) (by kernel_rfl) (by kernel_rfl) (fun _ _ _ h => h) (Or.inl ⟨by rfl, ?_⟩) hHeld ?_
   · intro w' hSw
     go_simp <;> rfl
   try simp only [Act.put, List.getElem_toArray, List.getElem_cons_zero, List.getElem_cons_succ, List.setIfInBounds_toArray, List.set_cons_zero, List.set_cons_succ]
   obtain ⟨f0, f1, hbF⟩ := FIN.out _ _ _ _ _ D31 tt11.swap
   have hbx := HBR.out _ D31
   have y0 := hbx.cell 0 _ rfl
   have y1 := hbx.cell 1 _ rfl
   have z0 := hbx.frozen 0
   have z1 := hbx.frozen 1
   obtain ⟨WF, hWF⟩ : ∃ WF, Hid ((u11.setCell ⟨w.heap.size + 1, 0, none⟩ (.slice a10 G.length c10)).setCell ⟨w.heap.size + 1, 1, none⟩ (.slice a11 V.length c11) = WF) := ⟨_, rfl⟩
   rw [hWF.out] at f0 f1 hbF
   refine wpAnyH_ready (rs := [9]) (by kernel_rfl) (by simp) ?_
   refine AllReadyH.cons rfl (fun K hK => ?_) AllReadyH.nil
   go_simp
   rw [hWF.out]
   refine hK.out _ _ ?_ (fun _ => ?_)
   · exact KF.out _ D31 hWF.out
   clear hK K
   refine wpAnyH_done (by kernel_rfl) ?_ _
   have q0 := hbF.cell 0 _ rfl
   have q1 := hbF.cell 1 _ rfl
   go_wp2_with fail
   refine bodyPost_ret (v := .agg #[.slice a10 G.length c10, .slice a11 V.length c11]) (by simp [results, Tryd.results41, go_sem, q0, q1]) rfl ⟨_, _, _, _, rfl, f0, f1⟩
end Go.Proofs.YtekljhabjkmhpaaDoor

/- The walk of impl.copyLocks. -/
namespace Go.Proofs.YtekljhabjkmhpaaDoor
open Go.RowKit

set_option maxHeartbeats 4000000 in
set_option maxRecDepth 100000 in
theorem copyLocks_any (l : LocksA) (w : World) (hr : l.reads w) (hl : l.short 1000) :
    Calls Tryd.prog 37 #[.agg #[.slice l.aG l.given.length l.cG, .slice l.aW l.waits.length l.cW]] w fun e w' => ∃ a1 c1 a2 c2, e = .returned (.agg #[.slice a1 l.given.length c1, .slice a2 l.waits.length c2]) ∧ LocksA.own w' w.heap.size w'.heap.size ⟨l.given, l.waits, a1, c1, a2, c2⟩ ∧ Below w.heap.size w w' := by
  obtain ⟨G, V, aG, cG, aW, cW⟩ := l
  obtain ⟨hG, hV, hnG, hnV, _, _⟩ := hr
  obtain ⟨hlG, hlV⟩ := hl
  simp only at *
  obtain ⟨W, hW, b0, b1, hbW, hsW⟩ := boxes2 w [.slice aG G.length cG, .slice aW V.length cW] [.slice none 0 0, .slice none 0 0] 30 30
  have hs0 := b0.lt
  have hs1 := b1.lt
  have HK : Hid (∀ u, Below W.heap.size W u → u.cell? ⟨w.heap.size, 0, none⟩ = some (.slice aG G.length cG) ∧ u.cell? ⟨w.heap.size, 1, none⟩ = some (.slice aW V.length cW)) := fun u hu => ⟨(b0.below hu hs0).cell 0 _ rfl, (b0.below hu hs0).cell 1 _ rfl⟩
  have HRG : Hid (∀ u, Below W.heap.size W u → ReadsG u aG G ∧ ReadsG u aW V) := fun u hu => ⟨(hG.below hbW).below hu, (hV.below hbW).below hu⟩
  have HBR : Hid (∀ u, Below W.heap.size W u → Box u (w.heap.size + 1) [.slice none 0 0, .slice none 0 0] 30) := fun u hu => b1.below hu hs1
  have HBW : Hid (∀ u, Below W.heap.size W u → Below w.heap.size w u) := fun u hu => hbW.trans (hu.mono hbW.size)
  have hs2 : w.heap.size + 2 ≤ W.heap.size := Nat.le_of_eq hsW.symm
  have HNG : Hid (_) := hnG
  have HNV : Hid (_) := hnV
  clear b0 b1 hbW hsW hG hV hnG hnV
  have FIN : Hid (∀ (u : World) (a1 : Option Addr) (c1 : Nat) (a2 : Option Addr) (c2 : Nat), Below W.heap.size W u → TwoG u W.heap.size a1 c1 G a2 c2 V → LocksA.own ((u.setCell ⟨w.heap.size + 1, 0, none⟩ (.slice a1 G.length c1)).setCell ⟨w.heap.size + 1, 1, none⟩ (.slice a2 V.length c2)) w.heap.size ((u.setCell ⟨w.heap.size + 1, 0, none⟩ (.slice a1 G.length c1)).setCell ⟨w.heap.size + 1, 1, none⟩ (.slice a2 V.length c2)).heap.size ⟨G, V, a1, c1, a2, c2⟩ ∧ Below w.heap.size w ((u.setCell ⟨w.heap.size + 1, 0, none⟩ (.slice a1 G.length c1)).setCell ⟨w.heap.size + 1, 1, none⟩ (.slice a2 V.length c2)) ∧ Box ((u.setCell ⟨w.heap.size + 1, 0, none⟩ (.slice a1 G.length c1)).setCell ⟨w.heap.size + 1, 1, none⟩ (.slice a2 V.length c2)) (w.heap.size + 1) [.slice a1 G.length c1, .slice a2 V.length c2] 30) := fun u a1 c1 a2 c2 hu h2 => by
    have hbx := HBR.out u hu
    have hwF : Within (w.heap.size + 1) (w.heap.size + 2) u _ := (within_set u (w.heap.size + 1) 0 (.slice a1 G.length c1) (by omega)).trans (within_set _ (w.heap.size + 1) 1 (.slice a2 V.length c2) (by omega))
    have hbF := (hbx.set 0 (.slice a1 G.length c1)).set 1 (.slice a2 V.length c2)
    simp only [List.set] at hbF
    have hu0 := HBW.out u hu
    have hsu := hu.size
    exact ⟨⟨((h2.one.within hwF (.inr (by omega))).top).widen (by omega) (Nat.le_refl _) (Nat.le_refl _), ((h2.two.within hwF (.inr (by omega))).top).widen (by omega) (Nat.le_refl _) (Nat.le_refl _), h2.apart⟩, hu0.trans (hwF.below (by omega) (by omega)), hbF⟩
  go_enter Tryd.func37, Tryd.ntmps37
  go_upto_region 1 with fail
  rw [hW.out]
  clear hW
  have D0 : Below W.heap.size W W.drew := (Below.refl _ _).drew
  have hz0 : W.heap.size ≤ W.drew.heap.size := Nat.le_refl _
  refine wp_region_held_drew (S := fun u => u.cell? ⟨w.heap.size, 0, none⟩ = some (.slice aG G.length cG) ∧ u.cell? ⟨w.heap.size, 1, none⟩ = some (.slice aW V.length cW)) (by kernel_rfl) (HK.out _ D0) (fun hHeld => ?_)
  generalize W.drew = d0 at *
  refine wpAnyH_take (i := 0) (v := .pointer (some ⟨w.heap.size, 0, none⟩)) rfl (by kernel_rfl) (by kernel_rfl) (by kernel_rfl) (fun _ _ _ h => h) (Or.inl ⟨by rfl, ?_⟩) hHeld ?_
  · intro w' hSw
    go_simp <;> rfl
  try simp only [Act.put, List.getElem_toArray, List.getElem_cons_zero, List.setIfInBounds_toArray, List.set_cons_zero, List.set_cons_succ]
  refine wpAnyH_take (i := 1) (v := .slice aG G.length cG) rfl (by kernel_rfl) (by kernel_rfl) (by kernel_rfl) (fun _ _ _ h => h) (Or.inl ⟨by rfl, ?_⟩) hHeld ?_
  · intro w' hSw
    have hx := hSw.1
    go_simp <;> rfl
  try simp only [Act.put, List.getElem_toArray, List.getElem_cons_zero, List.getElem_cons_succ, List.setIfInBounds_toArray, List.set_cons_zero, List.set_cons_succ]
  refine wpAnyH_take (i := 3) (v := .pointer (some ⟨w.heap.size, 1, none⟩)) rfl (by kernel_rfl) (by kernel_rfl) (by kernel_rfl) (fun _ _ _ h => h) (Or.inl ⟨by rfl, ?_⟩) hHeld ?_
  · intro w' hSw
    go_simp <;> rfl
  try simp only [Act.put, List.getElem_toArray, List.getElem_cons_zero, List.getElem_cons_succ, List.setIfInBounds_toArray, List.set_cons_zero, List.set_cons_succ]
  refine wpAnyH_take (i := 4) (v := .slice aW V.length cW) rfl (by kernel_rfl) (by kernel_rfl) (by kernel_rfl) (fun _ _ _ h => h) (Or.inl ⟨by rfl, ?_⟩) hHeld ?_
  · intro w' hSw
    have hx := hSw.2
    go_simp <;> rfl
  try simp only [Act.put, List.getElem_toArray, List.getElem_cons_zero, List.getElem_cons_succ, List.setIfInBounds_toArray, List.set_cons_zero, List.set_cons_succ]
  have KF : Hid (∀ u, Below W.heap.size W u → ∀ {a1 c1 a2 c2} {WF : World}, ((u.setCell ⟨w.heap.size + 1, 0, none⟩ (.slice a1 G.length c1)).setCell ⟨w.heap.size + 1, 1, none⟩ (.slice a2 V.length c2) = WF) → WF.cell? ⟨w.heap.size, 0, none⟩ = some (.slice aG G.length cG) ∧ WF.cell? ⟨w.heap.size, 1, none⟩ = some (.slice aW V.length cW)) := fun u hu {a1 c1 a2 c2 WF} e => by
    rw [← e]
    have hwF : Within (w.heap.size + 1) (w.heap.size + 2) u _ := (within_set u (w.heap.size + 1) 0 (.slice a1 G.length c1) (by omega)).trans (within_set _ (w.heap.size + 1) 1 (.slice a2 V.length c2) (by omega))
    obtain ⟨k0, k1⟩ := HK.out u hu
    exact ⟨(World.cell?_of_block (a := ⟨w.heap.size, 0, none⟩) (hwF.block w.heap.size (by have := hu.size; omega) (by omega))).trans k0, (World.cell?_of_block (a := ⟨w.heap.size, 1, none⟩) (hwF.block w.heap.size (by have := hu.size; omega) (by omega))).trans k1⟩
  have t0 : TwoG d0 W.heap.size none 0 [] none 0 [] := ⟨ownG_nil _ _ _ (Nat.le_refl _), ownG_nil _ _ _ (Nat.le_refl _), fun k hk => by cases hk⟩
  refine wpAnyH_ready (rs := [2]) (by kernel_rfl) (by simp) ?_
  refine (AllReadyH.cons rfl (fun K hK => ?_) AllReadyH.nil)
  refine step_append_grants rfl (.const (.slice none 0 0)) (.tmp 4) rfl W.heap.size d0.heap.size none 0 [] rfl t0.one aG cG G rfl (HRG.out _ D0).1 HNG.out (by simp only [List.length_nil]; omega) (by have := D0.size; omega) ?_
  intro a1 c1 y1 u1 hy1 oo1 gg1 kk1
  obtain rfl : G = y1 := hy1.out.symm
  have D1 : Below W.heap.size W u1 := D0.grown gg1 (by have := D0.size; omega) (fun k hk => (t0.one.lt k hk).1)
  have t1 := (TwoG.app t0 oo1 gg1 kk1).swap
  refine hK.out _ _ (HK.out _ D1) (fun hHeld => ?_)
  clear hK K gg1 kk1 hy1
  try simp only [Act.put, List.getElem_toArray, List.getElem_cons_zero, List.getElem_cons_succ, List.setIfInBounds_toArray, List.set_cons_zero, List.set_cons_succ]
  refine wpAnyH_ready (rs := [5]) (by kernel_rfl) (by simp) ?_
  refine (AllReadyH.cons rfl (fun K hK => ?_) AllReadyH.nil)
  refine step_append_grants rfl (.const (.slice none 0 0)) (.tmp 7) rfl W.heap.size u1.heap.size none 0 [] rfl t1.one aW cW V rfl (HRG.out _ D1).2 HNV.out (by simp only [List.length_nil]; omega) (by have := D1.size; omega) ?_
  intro a2 c2 y2 u2 hy2 oo2 gg2 kk2
  obtain rfl : V = y2 := hy2.out.symm
  have D2 : Below W.heap.size W u2 := D1.grown gg2 (by have := D1.size; omega) (fun k hk => (t1.one.lt k hk).1)
  have t2 := (TwoG.app t1 oo2 gg2 kk2).swap
  refine hK.out _ _ (HK.out _ D2) (fun hHeld => ?_)
  clear hK K gg2 kk2 hy2
  try simp only [Act.put, List.getElem_toArray, List.getElem_cons_zero, List.getElem_cons_succ, List.setIfInBounds_toArray, List.set_cons_zero, List.set_cons_succ]
  refine wpAnyH_take (i := 6) (v := .agg #[.slice a1 G.length c1, .slice a2 V.length c2]) rfl (by kernel_rfl) (by kernel_rfl) (by kernel_rfl) (fun _ _ _ h => h) (Or.inl ⟨by rfl, ?_⟩) hHeld ?_
  · intro w' hSw
    go_simp <;> rfl
  try simp only [Act.put, List.getElem_toArray, List.getElem_cons_zero, List.getElem_cons_succ, List.setIfInBounds_toArray, List.set_cons_zero, List.set_cons_succ]
  obtain ⟨f0, f1, hbF⟩ := FIN.out _ _ _ _ _ D2 t2
  have hbx := HBR.out _ D2
  have y0 := hbx.cell 0 _ rfl
  have y1 := hbx.cell 1 _ rfl
  have z0 := hbx.frozen 0
  have z1 := hbx.frozen 1
  obtain ⟨WF, hWF⟩ : ∃ WF, Hid ((u2.setCell ⟨w.heap.size + 1, 0, none⟩ (.slice a1 G.length c1)).setCell ⟨w.heap.size + 1, 1, none⟩ (.slice a2 V.length c2) = WF) := ⟨_, rfl⟩
  rw [hWF.out] at f0 f1 hbF
  refine wpAnyH_ready (rs := [7]) (by kernel_rfl) (by simp) ?_
  refine AllReadyH.cons rfl (fun K hK => ?_) AllReadyH.nil
  go_simp
  rw [hWF.out]
  refine hK.out _ _ ?_ (fun _ => ?_)
  · exact KF.out _ D2 hWF.out
  clear hK K
  refine wpAnyH_done (by kernel_rfl) ?_ _
  have q0 := hbF.cell 0 _ rfl
  have q1 := hbF.cell 1 _ rfl
  go_wp2_with fail
  refine bodyPost_ret (v := .agg #[.slice a1 G.length c1, .slice a2 V.length c2]) (by simp [results, Tryd.results37, go_sem, q0, q1]) rfl ⟨_, _, _, _, rfl, f0, f1⟩
end Go.Proofs.YtekljhabjkmhpaaDoor
