/- Several texts in one, in their order. -/
import Derived.Test.YtekljhabjkmhpaaDoorPFnLockedx14
/- The walks of (*impl.Locks).give and wake. -/
namespace Go.Proofs.YtekljhabjkmhpaaDoor
open Go.RowKit

theorem giveV_at {G : List GrantV} {g : GrantV} {k : Nat} (h : placeZ (atB g.tx g.res) G = k) : giveV G g g.mode = G.set k g := by
  unfold giveV
  rw [h, if_pos (by omega), Int.toNat_natCast]
theorem giveV_new {G : List GrantV} {g : GrantV} (h : ¬ 0 ≤ placeZ (atB g.tx g.res) G) : giveV G g g.mode = G ++ [g] := by
  unfold giveV
  rw [if_neg h]

/-- What give leaves: whether there was room, and what is given. -/
def GiveAns (lo B : Nat) (l : LocksA) (GV : List GrantV) (full : Prop) (w : World) (e : Ending) (w' : World) : Prop := ∃ (r : Bool) (l' : LocksA), e = .returned (.bool r) ∧ (r = true → l'.given = GV) ∧ (r = false → l'.given = l.given) ∧ (r = false ↔ full) ∧ l'.waits = l.waits ∧ LkStep w w' lo B l l'
set_option maxHeartbeats 4000000 in
set_option maxRecDepth 100000 in
theorem give_any (lo B : Nat) (l : LocksA) (g : GrantV) (w : World) (h : LkAt w lo B l) (hlo : lo ≤ w.heap.size) (hlen : l.given.length ≤ 1000) :
    Calls Tryd.prog 61 #[.pointer (some ⟨B, 0, none⟩), .agg #[.int .i64 g.tx, .int .i64 g.res, .int .i64 g.mode], .int .i64 (placeZ (atB g.tx g.res) l.given)] w fun e w' => GiveAns lo B l (giveV l.given g g.mode) (¬ 0 ≤ placeZ (atB g.tx g.res) l.given ∧ l.given.length = 60) w e w' := by
  obtain ⟨W, hW, b1, hbW, hsW⟩ := boxes1 w [.int .i64 g.tx, .int .i64 g.res, .int .i64 g.mode] 37
  have hs1 := b1.lt
  have hBw := h.box.lt
  have HK : Hid (∀ u, Below W.heap.size W u → u.cell? ⟨B, 0, none⟩ = some (.slice l.aG l.given.length l.cG) ∧ (u.cell? ⟨w.heap.size, 0, none⟩ = some (.int .i64 g.tx) ∧ u.cell? ⟨w.heap.size, 1, none⟩ = some (.int .i64 g.res) ∧ u.cell? ⟨w.heap.size, 2, none⟩ = some (.int .i64 g.mode))) := fun u hu => ⟨(h.below (hbW.trans (hu.mono hbW.size))).box.cell 0 _ rfl, (b1.below hu hs1).cell 0 _ rfl, (b1.below hu hs1).cell 1 _ rfl, (b1.below hu hs1).cell 2 _ rfl⟩
  have HBW : Hid (∀ u, Below W.heap.size W u → Below w.heap.size w u) := fun u hu => hbW.trans (hu.mono hbW.size)
  have HBX : Hid (∀ u, Below W.heap.size W u → Box u w.heap.size [.int .i64 g.tx, .int .i64 g.res, .int .i64 g.mode] 37) := fun u hu => b1.below hu hs1
  have HLK : Hid (LkAt w lo B l) := h
  have HP : Hid (0 ≤ placeZ (atB g.tx g.res) l.given → ∃ k : Nat, k < l.given.length ∧ placeZ (atB g.tx g.res) l.given = k) := placeZ_lt
  have HGA : Hid (∀ k : Nat, placeZ (atB g.tx g.res) l.given = k → giveV l.given g g.mode = l.given.set k g) := fun k e => giveV_at e
  have HGN : Hid (¬ 0 ≤ placeZ (atB g.tx g.res) l.given → giveV l.given g g.mode = l.given ++ [g]) := giveV_new
  have hl1 : w.heap.size < W.heap.size := hs1
  have N0 : Below W.heap.size W W := Below.refl _ _
  clear b1 hbW hsW h
  obtain ⟨FL, HFL⟩ : ∃ FL : Prop, Hid ((¬ 0 ≤ placeZ (atB g.tx g.res) l.given ∧ l.given.length = 60) = FL) := ⟨_, rfl⟩
  rw [HFL.out]
  generalize placeZ (atB g.tx g.res) l.given = pl at *
  generalize giveV l.given g g.mode = GV at *
  go_enter Tryd.func61, Tryd.ntmps61
  by_cases hp : 0 ≤ pl
  · obtain ⟨k, hk, rfl⟩ := HP.out hp
    obtain ⟨gb, hgb⟩ : ∃ gb, l.aG = some ⟨gb, 0, none⟩ := by
      rcases HLK.out.own.given.1.2 with ⟨_, h0⟩ | ⟨gb, cap', cur, hv, _⟩
      · omega
      · simp only [Value.slice.injEq] at hv; exact ⟨gb, hv.1⟩
    have HGB : Hid (l.aG = some ⟨gb, 0, none⟩) := hgb
    have HKK : Hid (∀ u, Below W.heap.size W u → u.cell? ⟨B, 0, none⟩ = some (.slice (some ⟨gb, 0, none⟩) l.given.length l.cG) ∧ (u.cell? ⟨w.heap.size, 0, none⟩ = some (.int .i64 g.tx) ∧ u.cell? ⟨w.heap.size, 1, none⟩ = some (.int .i64 g.res) ∧ u.cell? ⟨w.heap.size, 2, none⟩ = some (.int .i64 g.mode))) := fun u hu => by rw [← HGB.out]; exact HK.out u hu
    have HGV : Hid (GV = l.given.set k g) := HGA.out k rfl
    have hkI : (k : Int) < (l.given.length : Int) := by omega
    clear HGA HGN HP hgb HK
    go_upto_region 3 with fail
    rw [hW.out]
    clear hW
    have D0 : Below W.heap.size W W.drew := N0.drew
    have HD : Hid (Below w.heap.size w W.drew) := HBW.out _ D0
    refine wp_region_late (· == 7) (S := fun u => u.cell? ⟨B, 0, none⟩ = some (.slice (some ⟨gb, 0, none⟩) l.given.length l.cG) ∧ (u.cell? ⟨w.heap.size, 0, none⟩ = some (.int .i64 g.tx) ∧ u.cell? ⟨w.heap.size, 1, none⟩ = some (.int .i64 g.res) ∧ u.cell? ⟨w.heap.size, 2, none⟩ = some (.int .i64 g.mode))) (by kernel_rfl) (HKK.out _ D0) (fun hHeld => ?_)
    generalize W.drew = d0 at *
    refine wpAnyL_take (i := 0) (v := .pointer (some ⟨B, 0, none⟩)) rfl (by kernel_rfl) (fun _ _ _ h => h) (Or.inl ⟨by rfl, ?_⟩) hHeld ?_
    · intro w' hSw
      go_simp <;> rfl
    try simp only [Act.put, List.getElem_toArray, List.getElem_cons_zero, List.setIfInBounds_toArray, List.set_cons_zero, List.set_cons_succ]
    refine wpAnyL_take (i := 1) (v := .pointer (some ⟨B, 0, none⟩)) rfl (by kernel_rfl) (fun _ _ _ h => h) (Or.inl ⟨by rfl, ?_⟩) hHeld ?_
    · intro w' hSw
      go_simp <;> rfl
    try simp only [Act.put, List.getElem_toArray, List.getElem_cons_zero, List.getElem_cons_succ, List.setIfInBounds_toArray, List.set_cons_zero, List.set_cons_succ]
    refine wpAnyL_take (i := 2) (v := .pointer (some ⟨B, 0, none⟩)) rfl (by kernel_rfl) (fun _ _ _ h => h) (Or.inl ⟨by rfl, ?_⟩) hHeld ?_
    · intro w' hSw
      go_simp <;> rfl
    try simp only [Act.put, List.getElem_toArray, List.getElem_cons_zero, List.getElem_cons_succ, List.setIfInBounds_toArray, List.set_cons_zero, List.set_cons_succ]
    refine wpAnyL_take (i := 3) (v := .slice (some ⟨gb, 0, none⟩) l.given.length l.cG) rfl (by kernel_rfl) (fun _ _ _ h => h) (Or.inl ⟨by rfl, ?_⟩) hHeld ?_
    · intro w' hSw
      have hx := hSw.1
      go_simp <;> rfl
    try simp only [Act.put, List.getElem_toArray, List.getElem_cons_zero, List.getElem_cons_succ, List.setIfInBounds_toArray, List.set_cons_zero, List.set_cons_succ]
    refine wpAnyL_take (i := 4) (v := .int .i64 (k : Int)) rfl (by kernel_rfl) (fun _ _ _ h => h) (Or.inl ⟨by rfl, ?_⟩) hHeld ?_
    · intro w' hSw
      go_simp <;> rfl
    try simp only [Act.put, List.getElem_toArray, List.getElem_cons_zero, List.getElem_cons_succ, List.setIfInBounds_toArray, List.set_cons_zero, List.set_cons_succ]
    refine wpAnyL_take (i := 5) (v := .agg #[.int .i64 g.tx, .int .i64 g.res, .int .i64 g.mode]) rfl (by kernel_rfl) (fun _ _ _ h => h) (Or.inl ⟨by rfl, ?_⟩) hHeld ?_
    · intro w' hSw
      obtain ⟨hx0, hx1, hx2⟩ := hSw.2
      go_simp <;> rfl
    try simp only [Act.put, List.getElem_toArray, List.getElem_cons_zero, List.getElem_cons_succ, List.setIfInBounds_toArray, List.set_cons_zero, List.set_cons_succ]
    refine wpAnyL_take (i := 6) (v := .pointer (some ⟨gb, k * 3, none⟩)) rfl (by kernel_rfl) (fun _ _ _ h => h) (Or.inl ⟨by rfl, ?_⟩) hHeld ?_
    · intro w' hSw
      go_simp <;> rfl
    try simp only [Act.put, List.getElem_toArray, List.getElem_cons_zero, List.getElem_cons_succ, List.setIfInBounds_toArray, List.set_cons_zero, List.set_cons_succ]
    have hL := HLK.out.below HD.out
    have hro := hL.own.given.1
    rw [HGB.out] at hro
    obtain ⟨x0, x1, x2, hfz⟩ := row_grant hro rfl k hk
    have f0 := hfz (k * 3)
    have f1 := hfz (k * 3 + 1)
    have f2 := hfz (k * 3 + 2)
    obtain ⟨W2, hW2, ho2, hg2⟩ := row_storeG hro rfl k hk g
    have HF0 : LkStep w W2 lo B l ⟨l.given.set k g, l.waits, l.aG, l.cG, l.aW, l.cW⟩ := (HLK.out.same HD.out).trans (hL.putG (by simp) (by rw [HGB.out]; exact ho2) (by rw [HGB.out]; exact hg2))
    have HF : Hid (GiveAns lo B l GV FL w (.returned (.bool true)) W2) := ⟨true, ⟨l.given.set k g, l.waits, l.aG, l.cG, l.aW, l.cW⟩, rfl, fun _ => HGV.out.symm, fun h => (by cases h), ⟨fun h => (by cases h), fun h => by rw [← HFL.out] at h; exact absurd hp h.1⟩, rfl, HF0⟩
    clear hL hro ho2 hg2 hfz HF0
    refine wpAnyL_last 7 (by kernel_rfl) rfl rfl (fun K hK => ?_)
    go_simp
    rw [hW2.out]
    refine hK.out _ _ ?_
    clear hK K
    refine wpAnyL_done (by kernel_rfl) ?_ _
    clear hHeld hW2 f0 f1 f2 x0 x1 x2 HKK hp
    go_wp2_with fail
    go_ret
    exact HF.out
  · have HGV : Hid (GV = l.given ++ [g]) := HGN.out hp
    have c0 := (HK.out _ N0).1
    clear HGA HGN HP
    by_cases h60 : l.given.length = 60
    · have h6b : ((l.given.length : Int) == 60) = true := by simp [h60]
      have HF : Hid (GiveAns lo B l GV FL w (.returned (.bool false)) W) := ⟨false, l, rfl, fun h => (by cases h), fun _ => rfl, ⟨fun _ => by rw [← HFL.out]; exact ⟨hp, h60⟩, fun _ => rfl⟩, rfl, HLK.out.same (HBW.out _ N0)⟩
      clear h60
      go_upto_region 4 with fail
      rw [hW.out]
      go_wp2_with fail
      go_ret
      exact HF.out
    · have h6b : ((l.given.length : Int) == 60) = false := beq_eq_false_iff_ne.2 (by omega)
      have HR0 : Hid (¬ l.given.length = 60) := h60
      clear h60
      go_upto_region 4 with fail
      rw [hW.out]
      clear hW
      go_upto_region 1 with fail
      clear c0
      have hD : Below w.heap.size w W.drew := (HBW.out _ N0).drew
      have D0 : Below W.heap.size W W.drew := N0.drew
      refine wp_region_late (· == 10) (S := fun u => u.cell? ⟨B, 0, none⟩ = some (.slice l.aG l.given.length l.cG) ∧ (u.cell? ⟨w.heap.size, 0, none⟩ = some (.int .i64 g.tx) ∧ u.cell? ⟨w.heap.size, 1, none⟩ = some (.int .i64 g.res) ∧ u.cell? ⟨w.heap.size, 2, none⟩ = some (.int .i64 g.mode))) (by kernel_rfl) (HK.out _ D0) (fun hHeld => ?_)
      generalize W.drew = d0 at *
      refine wpAnyL_take (i := 0) (v := .pointer (some ⟨B, 0, none⟩)) rfl (by kernel_rfl) (fun _ _ _ h => h) (Or.inl ⟨by rfl, ?_⟩) hHeld ?_
      · intro w' hSw
        go_simp <;> rfl
      try simp only [Act.put, List.getElem_toArray, List.getElem_cons_zero, List.setIfInBounds_toArray, List.set_cons_zero, List.set_cons_succ]
      refine wpAnyL_take (i := 1) (v := .pointer (some ⟨B, 0, none⟩)) rfl (by kernel_rfl) (fun _ _ _ h => h) (Or.inl ⟨by rfl, ?_⟩) hHeld ?_
      · intro w' hSw
        go_simp <;> rfl
      try simp only [Act.put, List.getElem_toArray, List.getElem_cons_zero, List.getElem_cons_succ, List.setIfInBounds_toArray, List.set_cons_zero, List.set_cons_succ]
      refine wpAnyL_take (i := 2) (v := .pointer (some ⟨B, 0, none⟩)) rfl (by kernel_rfl) (fun _ _ _ h => h) (Or.inl ⟨by rfl, ?_⟩) hHeld ?_
      · intro w' hSw
        go_simp <;> rfl
      try simp only [Act.put, List.getElem_toArray, List.getElem_cons_zero, List.getElem_cons_succ, List.setIfInBounds_toArray, List.set_cons_zero, List.set_cons_succ]
      refine wpAnyL_take (i := 3) (v := .pointer (some ⟨B, 0, none⟩)) rfl (by kernel_rfl) (fun _ _ _ h => h) (Or.inl ⟨by rfl, ?_⟩) hHeld ?_
      · intro w' hSw
        go_simp <;> rfl
      try simp only [Act.put, List.getElem_toArray, List.getElem_cons_zero, List.getElem_cons_succ, List.setIfInBounds_toArray, List.set_cons_zero, List.set_cons_succ]
      refine wpAnyL_take (i := 4) (v := .slice l.aG l.given.length l.cG) rfl (by kernel_rfl) (fun _ _ _ h => h) (Or.inl ⟨by rfl, ?_⟩) hHeld ?_
      · intro w' hSw
        have hx := hSw.1
        go_simp <;> rfl
      try simp only [Act.put, List.getElem_toArray, List.getElem_cons_zero, List.getElem_cons_succ, List.setIfInBounds_toArray, List.set_cons_zero, List.set_cons_succ]
      refine wpAnyL_take (i := 5) (v := .agg #[.int .i64 g.tx, .int .i64 g.res, .int .i64 g.mode]) rfl (by kernel_rfl) (fun _ _ _ h => h) (Or.inl ⟨by rfl, ?_⟩) hHeld ?_
      · intro w' hSw
        obtain ⟨hx0, hx1, hx2⟩ := hSw.2
        go_simp <;> rfl
      try simp only [Act.put, List.getElem_toArray, List.getElem_cons_zero, List.getElem_cons_succ, List.setIfInBounds_toArray, List.set_cons_zero, List.set_cons_succ]
      refine wpAnyL_next 6 (by kernel_rfl) rfl (fun K hK => ?_)
      go_simp
      obtain ⟨W9, hW9, y9, hb9, hs9⟩ := boxes1 d0 [.int .i64 g.tx, .int .i64 g.res, .int .i64 g.mode] 37
      have r9 : ReadsG W9 (some ⟨d0.heap.size, 0, none⟩) [g] := by rw [← hW9.out]; exact readsG_one d0 g _
      try simp only at hW9 r9
      rw [hW9.out]
      have D9 : Below w.heap.size w W9 := hD.trans (hb9.mono hD.size)
      have o9 := (HLK.out.below D9).own.given
      clear hs9 y9
      have D9b : Below W.heap.size W W9 := D0.trans (hb9.mono D0.size)
      refine hK.out _ _ ((HK.out _ (D0.trans (hb9.mono D0.size)))) (fun hHeld => ?_)
      clear hK K hW9 hb9
      try simp only [Act.put, List.getElem_toArray, List.getElem_cons_zero, List.getElem_cons_succ, List.setIfInBounds_toArray, List.set_cons_zero, List.set_cons_succ]
      refine wpAnyL_next 7 (by kernel_rfl) rfl (fun K hK => ?_)
      refine step_append_grants rfl (.tmp 11) (.tmp 13) rfl lo W9.heap.size l.aG l.cG l.given rfl o9 _ _ [g] rfl r9 (fun h => by cases h) (by simp only [List.length_cons, List.length_nil]; omega) (by have := D9.size; omega) ?_
      intro a10 c10 y10 w10 hy10 o10 g10 k10
      obtain ⟨⟨f1, f2⟩, W3, hW3, hst⟩ := LkAt.setG (w := w) HLK.out D9 o10 g10 (fun k hk => by
        rcases k10 k hk with e | e
        · exact .inl e
        · exact .inr (by have := D9.size; omega))
      have HK10 : Hid (_) := fun k (hk : k < W9.heap.size) hn => g10.block k hk hn
      clear k10 r9 o9
      have hwg : w.heap.size ∉ l.blocks := fun hm => by have := (HLK.out.own.lt hm).2; omega
      have hb10 : Box w10 w.heap.size [.int .i64 g.tx, .int .i64 g.res, .int .i64 g.mode] 37 := (HBX.out _ D9b).block (g10.block _ (HBX.out _ D9b).lt (fun e => hwg (mem_blocksG e.symm)))
      have KS : w10.cell? ⟨B, 0, none⟩ = some (.slice l.aG l.given.length l.cG) ∧ (w10.cell? ⟨w.heap.size, 0, none⟩ = some (.int .i64 g.tx) ∧ w10.cell? ⟨w.heap.size, 1, none⟩ = some (.int .i64 g.res) ∧ w10.cell? ⟨w.heap.size, 2, none⟩ = some (.int .i64 g.mode)) := ⟨f1, hb10.cell 0 _ rfl, hb10.cell 1 _ rfl, hb10.cell 2 _ rfl⟩
      clear hb10 hwg
      refine hK.out _ _ (KS) (fun hHeld => ?_)
      clear hK K 
      try simp only [Act.put, List.getElem_toArray, List.getElem_cons_zero, List.getElem_cons_succ, List.setIfInBounds_toArray, List.set_cons_zero, List.set_cons_succ]
      refine wpAnyL_next 8 (by kernel_rfl) rfl (fun K hK => ?_)
      go_simp
      refine hK.out _ _ (hHeld) (fun hHeld => ?_)
      clear hK K 
      try simp only [Act.put, List.getElem_toArray, List.getElem_cons_zero, List.getElem_cons_succ, List.setIfInBounds_toArray, List.set_cons_zero, List.set_cons_succ]
      refine wpAnyL_take (i := 9) (v := .pointer (some ⟨B, 0, none⟩)) rfl (by kernel_rfl) (fun _ _ _ h => h) (Or.inl ⟨by rfl, ?_⟩) hHeld ?_
      · intro w' hSw
        go_simp <;> rfl
      try simp only [Act.put, List.getElem_toArray, List.getElem_cons_zero, List.getElem_cons_succ, List.setIfInBounds_toArray, List.set_cons_zero, List.set_cons_succ]
      refine wpAnyL_last 10 (by kernel_rfl) rfl rfl (fun K hK => ?_)
      go_simp
      rw [hW3.out]
      refine hK.out _ _ ?_
      clear hK K
      refine wpAnyL_done (by kernel_rfl) ?_ _
      have e10 := hy10.out
      subst e10
      clear hHeld hW3 f1 f2 g10 o10 HK10 hy10 KS
      have HF : Hid (GiveAns lo B l GV FL w (.returned (.bool true)) W3) := ⟨true, ⟨l.given ++ [g], l.waits, a10, c10, l.aW, l.cW⟩, rfl, fun _ => HGV.out.symm, fun h => (by cases h), ⟨fun h => (by cases h), fun h => by rw [← HFL.out] at h; exact absurd h.2 HR0.out⟩, rfl, hst⟩
      clear hst HK
      go_wp2_with fail
      go_ret
      exact HF.out

end Go.Proofs.YtekljhabjkmhpaaDoor
