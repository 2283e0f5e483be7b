/- Several texts in one, in their order. -/
import Derived.Test.YtekljhabjkmhpaaDoorPFnDroppedx12
import Derived.Deep.QuietTactic
/- The walks of (*impl.Locks).give and wake. -/
namespace Go.Proofs.YtekljhabjkmhpaaDoor
open Go.RowKit

theorem giveV_at {G : List GrantV} {g : GrantV} {k : Nat} (h : placeZ (atB g.tx g.res) G = k) : giveV G g g.mode = G.set k g := by
  unfold giveV
  rw [h, if_pos (by omega), Int.toNat_natCast]
theorem giveV_new {G : List GrantV} {g : GrantV} (h : ¬ 0 ≤ placeZ (atB g.tx g.res) G) : giveV G g g.mode = G ++ [g] := by
  unfold giveV
  rw [if_neg h]

/-- What give leaves: whether there was room, and what is given. -/
def GiveAns (lo B : Nat) (l : LocksA) (GV : List GrantV) (full : Prop) (w : World) (e : Ending) (w' : World) : Prop := ∃ (r : Bool) (l' : LocksA), e = .returned (.bool r) ∧ (r = true → l'.given = GV) ∧ (r = false → l'.given = l.given) ∧ (r = false ↔ full) ∧ l'.waits = l.waits ∧ LkStep w w' lo B l l'
/-- What wake leaves. -/
def WakeAns (lo B : Nat) (l : LocksA) (GV : List GrantV) (c : Bool) (w : World) (e : Ending) (w' : World) : Prop := ∃ (r : Bool) (l' : LocksA), e = .returned (.bool r) ∧ (l.given.length < 60 → r = c) ∧ (r = true → l'.given = GV) ∧ (r = false → l'.given = l.given) ∧ l'.waits = l.waits ∧ LkStep w w' lo B l l'

set_option maxHeartbeats 4000000 in
set_option maxRecDepth 100000 in
theorem give_any (lo B : Nat) (l : LocksA) (g : GrantV) (w : World) (h : LkAt w lo B l) (hlo : lo ≤ w.heap.size) (hlen : l.given.length ≤ 1000) :
    Calls Tryd.prog 61 #[.pointer (some ⟨B, 0, none⟩), .agg #[.int .i64 g.tx, .int .i64 g.res, .int .i64 g.mode], .int .i64 (placeZ (atB g.tx g.res) l.given)] w fun e w' => GiveAns lo B l (giveV l.given g g.mode) (¬ 0 ≤ placeZ (atB g.tx g.res) l.given ∧ l.given.length = 60) w e w' := by
  obtain ⟨W, hW, b1, hbW, hsW⟩ := boxes1 w [.int .i64 g.tx, .int .i64 g.res, .int .i64 g.mode] 37
  have hs1 := b1.lt
  have hBw := h.box.lt
  have HK : Hid (∀ u, Below W.heap.size W u → u.cell? ⟨B, 0, none⟩ = some (.slice l.aG l.given.length l.cG) ∧ (u.cell? ⟨w.heap.size, 0, none⟩ = some (.int .i64 g.tx) ∧ u.cell? ⟨w.heap.size, 1, none⟩ = some (.int .i64 g.res) ∧ u.cell? ⟨w.heap.size, 2, none⟩ = some (.int .i64 g.mode))) := fun u hu => ⟨(h.below (hbW.trans (hu.mono hbW.size))).box.cell 0 _ rfl, (b1.below hu hs1).cell 0 _ rfl, (b1.below hu hs1).cell 1 _ rfl, (b1.below hu hs1).cell 2 _ rfl⟩
  have HBW : Hid (∀ u, Below W.heap.size W u → Below w.heap.size w u) := fun u hu => hbW.trans (hu.mono hbW.size)
  have HBX : Hid (∀ u, Below W.heap.size W u → Box u w.heap.size [.int .i64 g.tx, .int .i64 g.res, .int .i64 g.mode] 37) := fun u hu => b1.below hu hs1
  have HLK : Hid (LkAt w lo B l) := h
  have HP : Hid (0 ≤ placeZ (atB g.tx g.res) l.given → ∃ k : Nat, k < l.given.length ∧ placeZ (atB g.tx g.res) l.given = k) := placeZ_lt
  have HGA : Hid (∀ k : Nat, placeZ (atB g.tx g.res) l.given = k → giveV l.given g g.mode = l.given.set k g) := fun k e => giveV_at e
  have HGN : Hid (¬ 0 ≤ placeZ (atB g.tx g.res) l.given → giveV l.given g g.mode = l.given ++ [g]) := giveV_new
  have hl1 : w.heap.size < W.heap.size := hs1
  have N0 : Below W.heap.size W W := Below.refl _ _
  clear b1 hbW hsW h
  obtain ⟨FL, HFL⟩ : ∃ FL : Prop, Hid ((¬ 0 ≤ placeZ (atB g.tx g.res) l.given ∧ l.given.length = 60) = FL) := ⟨_, rfl⟩
  rw [HFL.out]
  generalize placeZ (atB g.tx g.res) l.given = pl at *
  generalize giveV l.given g g.mode = GV at *
  go_enter Tryd.func61, Tryd.ntmps61
  by_cases hp : 0 ≤ pl
  · obtain ⟨k, hk, rfl⟩ := HP.out hp
    obtain ⟨gb, hgb⟩ : ∃ gb, l.aG = some ⟨gb, 0, none⟩ := by
      rcases HLK.out.own.given.1.2 with ⟨_, h0⟩ | ⟨gb, cap', cur, hv, _⟩
      · omega
      · simp only [Value.slice.injEq] at hv; exact ⟨gb, hv.1⟩
    have HGB : Hid (l.aG = some ⟨gb, 0, none⟩) := hgb
    have HKK : Hid (∀ u, Below W.heap.size W u → u.cell? ⟨B, 0, none⟩ = some (.slice (some ⟨gb, 0, none⟩) l.given.length l.cG) ∧ (u.cell? ⟨w.heap.size, 0, none⟩ = some (.int .i64 g.tx) ∧ u.cell? ⟨w.heap.size, 1, none⟩ = some (.int .i64 g.res) ∧ u.cell? ⟨w.heap.size, 2, none⟩ = some (.int .i64 g.mode))) := fun u hu => by rw [← HGB.out]; exact HK.out u hu
    have HGV : Hid (GV = l.given.set k g) := HGA.out k rfl
    have hkI : (k : Int) < (l.given.length : Int) := by omega
    clear HGA HGN HP hgb HK
    go_upto_region 3 with fail
    rw [hW.out]
    clear hW
    have D0 : Below W.heap.size W W.drew := N0.drew
    have HD : Hid (Below w.heap.size w W.drew) := HBW.out _ D0
    refine wp_region_late (· == 7) (S := fun u => u.cell? ⟨B, 0, none⟩ = some (.slice (some ⟨gb, 0, none⟩) l.given.length l.cG) ∧ (u.cell? ⟨w.heap.size, 0, none⟩ = some (.int .i64 g.tx) ∧ u.cell? ⟨w.heap.size, 1, none⟩ = some (.int .i64 g.res) ∧ u.cell? ⟨w.heap.size, 2, none⟩ = some (.int .i64 g.mode))) (by kernel_rfl) (HKK.out _ D0) (fun hHeld => ?_)
    generalize W.drew = d0 at *
    refine wpAnyL_take (i := 0) (v := .pointer (some ⟨B, 0, none⟩)) rfl (by kernel_rfl) (fun _ _ _ h => h) (Or.inl ⟨by rfl, ?_⟩) hHeld ?_
    · intro w' hSw
      go_simp <;> rfl
    try simp only [Act.put, List.getElem_toArray, List.getElem_cons_zero, List.setIfInBounds_toArray, List.set_cons_zero, List.set_cons_succ]
    refine wpAnyL_take (i := 1) (v := .pointer (some ⟨B, 0, none⟩)) rfl (by kernel_rfl) (fun _ _ _ h => h) (Or.inl ⟨by rfl, ?_⟩) hHeld ?_
    · intro w' hSw
      go_simp <;> rfl
    try simp only [Act.put, List.getElem_toArray, List.getElem_cons_zero, List.getElem_cons_succ, List.setIfInBounds_toArray, List.set_cons_zero, List.set_cons_succ]
    refine wpAnyL_take (i := 2) (v := .pointer (some ⟨B, 0, none⟩)) rfl (by kernel_rfl) (fun _ _ _ h => h) (Or.inl ⟨by rfl, ?_⟩) hHeld ?_
    · intro w' hSw
      go_simp <;> rfl
    try simp only [Act.put, List.getElem_toArray, List.getElem_cons_zero, List.getElem_cons_succ, List.setIfInBounds_toArray, List.set_cons_zero, List.set_cons_succ]
    refine wpAnyL_take (i := 3) (v := .slice (some ⟨gb, 0, none⟩) l.given.length l.cG) rfl (by kernel_rfl) (fun _ _ _ h => h) (Or.inl ⟨by rfl, ?_⟩) hHeld ?_
    · intro w' hSw
      have hx := hSw.1
      go_simp <;> rfl
    try simp only [Act.put, List.getElem_toArray, List.getElem_cons_zero, List.getElem_cons_succ, List.setIfInBounds_toArray, List.set_cons_zero, List.set_cons_succ]
    refine wpAnyL_take (i := 4) (v := .int .i64 (k : Int)) rfl (by kernel_rfl) (fun _ _ _ h => h) (Or.inl ⟨by rfl, ?_⟩) hHeld ?_
    · intro w' hSw
      go_simp <;> rfl
    try simp only [Act.put, List.getElem_toArray, List.getElem_cons_zero, List.getElem_cons_succ, List.setIfInBounds_toArray, List.set_cons_zero, List.set_cons_succ]
    refine wpAnyL_take (i := 5) (v := .agg #[.int .i64 g.tx, .int .i64 g.res, .int .i64 g.mode]) rfl (by kernel_rfl) (fun _ _ _ h => h) (Or.inl ⟨by rfl, ?_⟩) hHeld ?_
    · intro w' hSw
      obtain ⟨hx0, hx1, hx2⟩ := hSw.2
      go_simp <;> rfl
    try simp only [Act.put, List.getElem_toArray, List.getElem_cons_zero, List.getElem_cons_succ, List.setIfInBounds_toArray, List.set_cons_zero, List.set_cons_succ]
    refine wpAnyL_take (i := 6) (v := .pointer (some ⟨gb, k * 3, none⟩)) rfl (by kernel_rfl) (fun _ _ _ h => h) (Or.inl ⟨by rfl, ?_⟩) hHeld ?_
    · intro w' hSw
      go_simp <;> rfl
    try simp only [Act.put, List.getElem_toArray, List.getElem_cons_zero, List.getElem_cons_succ, List.setIfInBounds_toArray, List.set_cons_zero, List.set_cons_succ]
    have hL := HLK.out.below HD.out
    have hro := hL.own.given.1
    rw [HGB.out] at hro
    obtain ⟨x0, x1, x2, hfz⟩ := row_grant hro rfl k hk
    have f0 := hfz (k * 3)
    have f1 := hfz (k * 3 + 1)
    have f2 := hfz (k * 3 + 2)
    obtain ⟨W2, hW2, ho2, hg2⟩ := row_storeG hro rfl k hk g
    have HF0 : LkStep w W2 lo B l ⟨l.given.set k g, l.waits, l.aG, l.cG, l.aW, l.cW⟩ := (HLK.out.same HD.out).trans (hL.putG (by simp) (by rw [HGB.out]; exact ho2) (by rw [HGB.out]; exact hg2))
    have HF : Hid (GiveAns lo B l GV FL w (.returned (.bool true)) W2) := ⟨true, ⟨l.given.set k g, l.waits, l.aG, l.cG, l.aW, l.cW⟩, rfl, fun _ => HGV.out.symm, fun h => (by cases h), ⟨fun h => (by cases h), fun h => by rw [← HFL.out] at h; exact absurd hp h.1⟩, rfl, HF0⟩
    clear hL hro ho2 hg2 hfz HF0
    refine wpAnyL_last 7 (by kernel_rfl) rfl rfl (fun K hK => ?_)
    go_simp
    rw [hW2.out]
    refine hK.out _ _ ?_
    clear hK K
    refine wpAnyL_done (by kernel_rfl) ?_ _
    clear hHeld hW2 f0 f1 f2 x0 x1 x2 HKK hp
    go_wp2_with fail
    go_ret
    exact HF.out
  · have HGV : Hid (GV = l.given ++ [g]) := HGN.out hp
    have c0 := (HK.out _ N0).1
    clear HGA HGN HP
    by_cases h60 : l.given.length = 60
    · have h6b : ((l.given.length : Int) == 60) = true := by simp [h60]
      have HF : Hid (GiveAns lo B l GV FL w (.returned (.bool false)) W) := ⟨false, l, rfl, fun h => (by cases h), fun _ => rfl, ⟨fun _ => by rw [← HFL.out]; exact ⟨hp, h60⟩, fun _ => rfl⟩, rfl, HLK.out.same (HBW.out _ N0)⟩
      clear h60
      go_upto_region 4 with fail
      rw [hW.out]
      go_wp2_with fail
      go_ret
      exact HF.out
    · have h6b : ((l.given.length : Int) == 60) = false := beq_eq_false_iff_ne.2 (by omega)
      have HR0 : Hid (¬ l.given.length = 60) := h60
      clear h60
      go_upto_region 4 with fail
      rw [hW.out]
      clear hW
      go_upto_region 1 with fail
      clear c0
      have hD : Below w.heap.size w W.drew := (HBW.out _ N0).drew
      have D0 : Below W.heap.size W W.drew := N0.drew
      refine wp_region_late (· == 10) (S := fun u => u.cell? ⟨B, 0, none⟩ = some (.slice l.aG l.given.length l.cG) ∧ (u.cell? ⟨w.heap.size, 0, none⟩ = some (.int .i64 g.tx) ∧ u.cell? ⟨w.heap.size, 1, none⟩ = some (.int .i64 g.res) ∧ u.cell? ⟨w.heap.size, 2, none⟩ = some (.int .i64 g.mode))) (by kernel_rfl) (HK.out _ D0) (fun hHeld => ?_)
      generalize W.drew = d0 at *
      refine wpAnyL_take (i := 0) (v := .pointer (some ⟨B, 0, none⟩)) rfl (by kernel_rfl) (fun _ _ _ h => h) (Or.inl ⟨by rfl, ?_⟩) hHeld ?_
      · intro w' hSw
        go_simp <;> rfl
      try simp only [Act.put, List.getElem_toArray, List.getElem_cons_zero, List.setIfInBounds_toArray, List.set_cons_zero, List.set_cons_succ]
      refine wpAnyL_take (i := 1) (v := .pointer (some ⟨B, 0, none⟩)) rfl (by kernel_rfl) (fun _ _ _ h => h) (Or.inl ⟨by rfl, ?_⟩) hHeld ?_
      · intro w' hSw
        go_simp <;> rfl
      try simp only [Act.put, List.getElem_toArray, List.getElem_cons_zero, List.getElem_cons_succ, List.setIfInBounds_toArray, List.set_cons_zero, List.set_cons_succ]
      refine wpAnyL_take (i := 2) (v := .pointer (some ⟨B, 0, none⟩)) rfl (by kernel_rfl) (fun _ _ _ h => h) (Or.inl ⟨by rfl, ?_⟩) hHeld ?_
      · intro w' hSw
        go_simp <;> rfl
      try simp only [Act.put, List.getElem_toArray, List.getElem_cons_zero, List.getElem_cons_succ, List.setIfInBounds_toArray, List.set_cons_zero, List.set_cons_succ]
      refine wpAnyL_take (i := 3) (v := .pointer (some ⟨B, 0, none⟩)) rfl (by kernel_rfl) (fun _ _ _ h => h) (Or.inl ⟨by rfl, ?_⟩) hHeld ?_
      · intro w' hSw
        go_simp <;> rfl
      try simp only [Act.put, List.getElem_toArray, List.getElem_cons_zero, List.getElem_cons_succ, List.setIfInBounds_toArray, List.set_cons_zero, List.set_cons_succ]
      refine wpAnyL_take (i := 4) (v := .slice l.aG l.given.length l.cG) rfl (by kernel_rfl) (fun _ _ _ h => h) (Or.inl ⟨by rfl, ?_⟩) hHeld ?_
      · intro w' hSw
        have hx := hSw.1
        go_simp <;> rfl
      try simp only [Act.put, List.getElem_toArray, List.getElem_cons_zero, List.getElem_cons_succ, List.setIfInBounds_toArray, List.set_cons_zero, List.set_cons_succ]
      refine wpAnyL_take (i := 5) (v := .agg #[.int .i64 g.tx, .int .i64 g.res, .int .i64 g.mode]) rfl (by kernel_rfl) (fun _ _ _ h => h) (Or.inl ⟨by rfl, ?_⟩) hHeld ?_
      · intro w' hSw
        obtain ⟨hx0, hx1, hx2⟩ := hSw.2
        go_simp <;> rfl
      try simp only [Act.put, List.getElem_toArray, List.getElem_cons_zero, List.getElem_cons_succ, List.setIfInBounds_toArray, List.set_cons_zero, List.set_cons_succ]
      refine wpAnyL_next 6 (by kernel_rfl) rfl (fun K hK => ?_)
      go_simp
      obtain ⟨W9, hW9, y9, hb9, hs9⟩ := boxes1 d0 [.int .i64 g.tx, .int .i64 g.res, .int .i64 g.mode] 37
      have r9 : ReadsG W9 (some ⟨d0.heap.size, 0, none⟩) [g] := by rw [← hW9.out]; exact readsG_one d0 g _
      try simp only at hW9 r9
      rw [hW9.out]
      have D9 : Below w.heap.size w W9 := hD.trans (hb9.mono hD.size)
      have o9 := (HLK.out.below D9).own.given
      clear hs9 y9
      have D9b : Below W.heap.size W W9 := D0.trans (hb9.mono D0.size)
      refine hK.out _ _ ((HK.out _ (D0.trans (hb9.mono D0.size)))) (fun hHeld => ?_)
      clear hK K hW9 hb9
      try simp only [Act.put, List.getElem_toArray, List.getElem_cons_zero, List.getElem_cons_succ, List.setIfInBounds_toArray, List.set_cons_zero, List.set_cons_succ]
      refine wpAnyL_next 7 (by kernel_rfl) rfl (fun K hK => ?_)
      refine step_append_grants rfl (.tmp 11) (.tmp 13) rfl lo W9.heap.size l.aG l.cG l.given rfl o9 _ _ [g] rfl r9 (fun h => by cases h) (by simp only [List.length_cons, List.length_nil]; omega) (by have := D9.size; omega) ?_
      intro a10 c10 y10 w10 hy10 o10 g10 k10
      obtain ⟨⟨f1, f2⟩, W3, hW3, hst⟩ := LkAt.setG (w := w) HLK.out D9 o10 g10 (fun k hk => by
        rcases k10 k hk with e | e
        · exact .inl e
        · exact .inr (by have := D9.size; omega))
      have HK10 : Hid (_) := fun k (hk : k < W9.heap.size) hn => g10.block k hk hn
      clear k10 r9 o9
      have hwg : w.heap.size ∉ l.blocks := fun hm => by have := (HLK.out.own.lt hm).2; omega
      have hb10 : Box w10 w.heap.size [.int .i64 g.tx, .int .i64 g.res, .int .i64 g.mode] 37 := (HBX.out _ D9b).block (g10.block _ (HBX.out _ D9b).lt (fun e => hwg (mem_blocksG e.symm)))
      have KS : w10.cell? ⟨B, 0, none⟩ = some (.slice l.aG l.given.length l.cG) ∧ (w10.cell? ⟨w.heap.size, 0, none⟩ = some (.int .i64 g.tx) ∧ w10.cell? ⟨w.heap.size, 1, none⟩ = some (.int .i64 g.res) ∧ w10.cell? ⟨w.heap.size, 2, none⟩ = some (.int .i64 g.mode)) := ⟨f1, hb10.cell 0 _ rfl, hb10.cell 1 _ rfl, hb10.cell 2 _ rfl⟩
      clear hb10 hwg
      refine hK.out _ _ (KS) (fun hHeld => ?_)
      clear hK K 
      try simp only [Act.put, List.getElem_toArray, List.getElem_cons_zero, List.getElem_cons_succ, List.setIfInBounds_toArray, List.set_cons_zero, List.set_cons_succ]
      refine wpAnyL_next 8 (by kernel_rfl) rfl (fun K hK => ?_)
      go_simp
      refine hK.out _ _ (hHeld) (fun hHeld => ?_)
      clear hK K 
      try simp only [Act.put, List.getElem_toArray, List.getElem_cons_zero, List.getElem_cons_succ, List.setIfInBounds_toArray, List.set_cons_zero, List.set_cons_succ]
      refine wpAnyL_take (i := 9) (v := .pointer (some ⟨B, 0, none⟩)) rfl (by kernel_rfl) (fun _ _ _ h => h) (Or.inl ⟨by rfl, ?_⟩) hHeld ?_
      · intro w' hSw
        go_simp <;> rfl
      try simp only [Act.put, List.getElem_toArray, List.getElem_cons_zero, List.getElem_cons_succ, List.setIfInBounds_toArray, List.set_cons_zero, List.set_cons_succ]
      refine wpAnyL_last 10 (by kernel_rfl) rfl rfl (fun K hK => ?_)
      go_simp
      rw [hW3.out]
      refine hK.out _ _ ?_
      clear hK K
      refine wpAnyL_done (by kernel_rfl) ?_ _
      have e10 := hy10.out
      subst e10
      clear hHeld hW3 f1 f2 g10 o10 HK10 hy10 KS
      have HF : Hid (GiveAns lo B l GV FL w (.returned (.bool true)) W3) := ⟨true, ⟨l.given ++ [g], l.waits, a10, c10, l.aW, l.cW⟩, rfl, fun _ => HGV.out.symm, fun h => (by cases h), ⟨fun h => (by cases h), fun h => by rw [← HFL.out] at h; exact absurd h.2 HR0.out⟩, rfl, hst⟩
      clear hst HK
      go_wp2_with fail
      go_ret
      exact HF.out

set_option maxHeartbeats 8000000 in
set_option maxRecDepth 100000 in
theorem wake_any (lo B : Nat) (l : LocksA) (g : GrantV) (w : World) (hTG : TabGo w) (hTB : TabBoth w) (h : LkAt w lo B l) (hlo : lo ≤ w.heap.size) (hlen : l.short 1000) :
    Calls Tryd.prog 49 #[.pointer (some ⟨B, 0, none⟩), .agg #[.int .i64 g.tx, .int .i64 g.res, .int .i64 g.mode]] w fun e w' => WakeAns lo B l (giveV l.given g (wouldZ l.given g)) (!l.waits.any (fun h => h.res == g.res) && !l.given.any (barsB ⟨g.tx, g.res, wouldZ l.given g⟩)) w e w' := by
  obtain ⟨W, hW, b1, hbW, hsW⟩ := boxes1 w [.int .i64 g.tx, .int .i64 g.res, .int .i64 g.mode] 37
  have hs1 := b1.lt
  have hBw := h.box.lt
  have hL0 := h.below hbW
  have C := wouldHave_any B l.given l.aG l.cG g W (hTB.keep hbW) (hL0.box.cell 0 _ rfl) hL0.own.given.reads (by have := hlen.1; omega)
  have z0 := b1.cell 0 _ rfl
  have z1 := b1.cell 1 _ rfl
  have z2 := b1.cell 2 _ rfl
  obtain ⟨m, HM⟩ : ∃ m, Hid (wouldZ l.given g = m) := ⟨_, rfl⟩
  obtain ⟨ft, HFT⟩ : ∃ ft, Hid ((!l.given.any (barsB ⟨g.tx, g.res, m⟩)) = ft) := ⟨_, rfl⟩
  obtain ⟨wt, HWT⟩ : ∃ wt, Hid (l.waits.any (fun h => h.res == g.res) = wt) := ⟨_, rfl⟩
  obtain ⟨GV, HGV⟩ : ∃ GV, Hid (giveV l.given g m = GV) := ⟨_, rfl⟩
  rw [HM.out] at C ⊢
  rw [HFT.out, HWT.out, HGV.out]
  go_enter Tryd.func49, Tryd.ntmps49
  go_upto_region 1 with fail
  rw [hW.out]
  clear hW
  go_wp2_with fail
  refine C.mono ?_
  clear C z0 z1 z2
  rintro e w1 ⟨rfl, hb1⟩
  obtain ⟨V1, hV1, b2, hbV1, hsV1⟩ := boxes1 w1 [.int .i64 g.tx, .int .i64 g.res, .int .i64 m] 37
  have hs2 := b2.lt
  have D1 : Below W.heap.size W V1 := hb1.trans (hbV1.mono hb1.size)
  have b1V := b1.below D1 hs1
  have hsb := b1V.lt
  have HBW : Hid (∀ u, Below V1.heap.size V1 u → Below w.heap.size w u) := fun u hu => (hbW.trans (D1.mono hbW.size)).trans (hu.mono (by have := hbW.size; have := D1.size; omega))
  have HLK : Hid (∀ u, Below V1.heap.size V1 u → LkAt u lo B l) := fun u hu => h.below (HBW.out u hu)
  have HL0 : Hid (LkAt w lo B l) := h
  have HK : Hid (∀ u, Below V1.heap.size V1 u → (u.cell? ⟨B, 0, none⟩ = some (.slice l.aG l.given.length l.cG) ∧ u.cell? ⟨B, 1, none⟩ = some (.slice l.aW l.waits.length l.cW)) ∧ u.cell? ⟨w.heap.size, 1, none⟩ = some (.int .i64 g.res) ∧ (u.cell? ⟨w1.heap.size, 0, none⟩ = some (.int .i64 g.tx) ∧ u.cell? ⟨w1.heap.size, 1, none⟩ = some (.int .i64 g.res) ∧ u.cell? ⟨w1.heap.size, 2, none⟩ = some (.int .i64 (wouldZ l.given g)))) := fun u hu =>
    ⟨⟨(HLK.out u hu).box.cell 0 _ rfl, (HLK.out u hu).box.cell 1 _ rfl⟩, (b1V.below hu hsb).cell 1 _ rfl, (b2.below hu hs2).cell 0 _ rfl, (b2.below hu hs2).cell 1 _ rfl, by rw [HM.out]; exact (b2.below hu hs2).cell 2 _ rfl⟩
  have HC1 : Hid (∀ u, Below V1.heap.size V1 u → Calls Tryd.prog 60 #[.slice l.aW l.waits.length l.cW, .int .i64 g.res] u fun e w' => e = .returned (.bool (l.waits.any (fun h => h.res == g.res))) ∧ Below u.heap.size u w') := fun u hu => isWanted_any _ _ _ _ u (HLK.out u hu).own.waits.reads (by have := hlen.2; omega)
  have HC2 : Hid (∀ u, Below V1.heap.size V1 u → Calls Tryd.prog 46 #[.slice l.aG l.given.length l.cG, .agg #[.int .i64 g.tx, .int .i64 g.res, .int .i64 (wouldZ l.given g)]] u fun e w' => e = .returned (.bool (!l.given.any (barsB ⟨g.tx, g.res, wouldZ l.given g⟩))) ∧ Below u.heap.size u w') := fun u hu => goesWith_any l.aG l.cG l.given ⟨g.tx, g.res, wouldZ l.given g⟩ u (hTG.keep (HBW.out u hu)) (HLK.out u hu).own.given.reads (by have := hlen.1; omega)
  have HC3 : Hid (∀ u, Below V1.heap.size V1 u → Calls Tryd.prog 61 #[.pointer (some ⟨B, 0, none⟩), .agg #[.int .i64 g.tx, .int .i64 g.res, .int .i64 (wouldZ l.given g)], .int .i64 (placeZ (atB g.tx g.res) l.given)] u fun e w' => GiveAns lo B l (giveV l.given g (wouldZ l.given g)) (¬ 0 ≤ placeZ (atB g.tx g.res) l.given ∧ l.given.length = 60) u e w') := fun u hu => give_any lo B l ⟨g.tx, g.res, wouldZ l.given g⟩ u (HLK.out u hu) (by have := (HBW.out u hu).size; omega) hlen.1
  have HBl : Hid (w.heap.size ∉ l.blocks ∧ w1.heap.size ∉ l.blocks ∧ w.heap.size ≠ B ∧ w1.heap.size ≠ B) := by
    have h1 := hb1.size
    have h2 := hbW.size
    refine ⟨fun hm => ?_, fun hm => ?_, by omega, by omega⟩
    · have := (h.own.lt hm).2; omega
    · have := (h.own.lt hm).2; omega
  have HB2 : Hid (∀ u, Below V1.heap.size V1 u → Box u w.heap.size [.int .i64 g.tx, .int .i64 g.res, .int .i64 g.mode] 37 ∧ Box u w1.heap.size [.int .i64 g.tx, .int .i64 g.res, .int .i64 (wouldZ l.given g)] 37) := fun u hu => ⟨b1V.below hu hsb, by rw [HM.out]; exact b2.below hu hs2⟩
  clear b1 b2 b1V hbW hsW hb1 hbV1 hsV1 hL0 h D1
  rw [HM.out] at HC2 HC3 HK HB2
  rw [HFT.out] at HC2
  rw [HWT.out] at HC1
  rw [HGV.out] at HC3
  clear HM HFT HWT HGV
  generalize placeZ (atB g.tx g.res) l.given = pl at *
  go_upto_region 2 with fail
  rw [hV1.out]
  clear hV1
  have D0 : Below V1.heap.size V1 V1.drew := (Below.refl _ _).drew
  cases wt with
  | true =>
    refine wp_region_held_drew (S := fun u => u.cell? ⟨w.heap.size, 1, none⟩ = some (.int .i64 g.res) ∧ (u.cell? ⟨w1.heap.size, 0, none⟩ = some (.int .i64 g.tx) ∧ u.cell? ⟨w1.heap.size, 1, none⟩ = some (.int .i64 g.res) ∧ u.cell? ⟨w1.heap.size, 2, none⟩ = some (.int .i64 m))) (by kernel_rfl) (HK.out _ D0).2 (fun hHeld => ?_)
    generalize V1.drew = d0 at *
    refine wpAnyH_take (i := 0) (v := .pointer (some ⟨B, 0, none⟩)) rfl (by kernel_rfl) (by kernel_rfl) (by kernel_rfl) (fun _ _ _ h => h) (Or.inl ⟨by rfl, ?_⟩) hHeld ?_
    · intro w' hSw
      go_simp <;> rfl
    try simp only [Act.put, List.getElem_toArray, List.getElem_cons_zero, List.setIfInBounds_toArray, List.set_cons_zero, List.set_cons_succ]
    refine wpAnyH_take (i := 1) (v := .pointer (some ⟨B, 0, none⟩)) rfl (by kernel_rfl) (by kernel_rfl) (by kernel_rfl) (fun _ _ _ h => h) (Or.inl ⟨by rfl, ?_⟩) hHeld ?_
    · intro w' hSw
      go_simp <;> rfl
    try simp only [Act.put, List.getElem_toArray, List.getElem_cons_zero, List.getElem_cons_succ, List.setIfInBounds_toArray, List.set_cons_zero, List.set_cons_succ]
    refine wpAnyH_take (i := 2) (v := .pointer (some ⟨B, 1, none⟩)) rfl (by kernel_rfl) (by kernel_rfl) (by kernel_rfl) (fun _ _ _ h => h) (Or.inl ⟨by rfl, ?_⟩) hHeld ?_
    · intro w' hSw
      go_simp <;> rfl
    try simp only [Act.put, List.getElem_toArray, List.getElem_cons_zero, List.getElem_cons_succ, List.setIfInBounds_toArray, List.set_cons_zero, List.set_cons_succ]
    refine wpAnyH_take (i := 4) (v := .pointer (some ⟨w.heap.size, 1, none⟩)) rfl (by kernel_rfl) (by kernel_rfl) (by kernel_rfl) (fun _ _ _ h => h) (Or.inl ⟨by rfl, ?_⟩) hHeld ?_
    · intro w' hSw
      go_simp <;> rfl
    try simp only [Act.put, List.getElem_toArray, List.getElem_cons_zero, List.getElem_cons_succ, List.setIfInBounds_toArray, List.set_cons_zero, List.set_cons_succ]
    refine wpAnyH_take (i := 5) (v := .int .i64 g.res) rfl (by kernel_rfl) (by kernel_rfl) (by kernel_rfl) (fun _ _ _ h => h) (Or.inl ⟨by rfl, ?_⟩) hHeld ?_
    · intro w' hSw
      have hx := hSw.1
      go_simp <;> rfl
    try simp only [Act.put, List.getElem_toArray, List.getElem_cons_zero, List.getElem_cons_succ, List.setIfInBounds_toArray, List.set_cons_zero, List.set_cons_succ]
    refine wpAnyH_ready (rs := [3]) (by kernel_rfl) (by simp) ?_
    refine AllReadyH.cons rfl (fun K hK => ?_) AllReadyH.nil
    have hx := (HK.out _ D0).1.2
    go_simp
    refine hK.out _ _ ((HK.out _ D0).2) (fun hHeld => ?_)
    clear hK K hx
    try simp only [Act.put, List.getElem_toArray, List.getElem_cons_zero, List.getElem_cons_succ, List.setIfInBounds_toArray, List.set_cons_zero, List.set_cons_succ]
    refine wpAnyH_ready (rs := [6]) (by kernel_rfl) (by simp) ?_
    refine AllReadyH.cons rfl (fun K hK => ?_) AllReadyH.nil
    go_simp
    refine (HC1.out _ D0).mono ?_
    rintro r d1 ⟨rfl, hbd1⟩
    have N1 : Below V1.heap.size V1 d1 := D0.trans (hbd1.mono D0.size)
    refine hK.out _ _ ((HK.out _ N1).2) (fun hHeld => ?_)
    clear hK K hbd1
    try simp only [Act.put, List.getElem_toArray, List.getElem_cons_zero, List.getElem_cons_succ, List.setIfInBounds_toArray, List.set_cons_zero, List.set_cons_succ]
    refine wpAnyH_take (i := 7) (v := .bool false) rfl (by kernel_rfl) (by kernel_rfl) (by kernel_rfl) (fun _ _ _ h => h) (Or.inl ⟨by rfl, ?_⟩) hHeld ?_
    · intro w' hSw
      go_simp <;> rfl
    try simp only [Act.put, List.getElem_toArray, List.getElem_cons_zero, List.getElem_cons_succ, List.setIfInBounds_toArray, List.set_cons_zero, List.set_cons_succ]
    refine wpAnyH_take (i := 8) (v := .bool false) rfl (by kernel_rfl) (by kernel_rfl) (by kernel_rfl) (fun _ _ _ h => h) (Or.inl ⟨by rfl, ?_⟩) hHeld ?_
    · intro w' hSw
      go_simp <;> rfl
    try simp only [Act.put, List.getElem_toArray, List.getElem_cons_zero, List.getElem_cons_succ, List.setIfInBounds_toArray, List.set_cons_zero, List.set_cons_succ]
    refine wpAnyH_take (i := 9) (v := undef) rfl (by kernel_rfl) (by kernel_rfl) (by kernel_rfl) (fun _ _ _ h => h) (Or.inr ⟨by rfl, rfl⟩) hHeld ?_
    try simp only [Act.put, List.getElem_toArray, List.getElem_cons_zero, List.getElem_cons_succ, List.setIfInBounds_toArray, List.set_cons_zero, List.set_cons_succ]
    refine wpAnyH_take (i := 10) (v := undef) rfl (by kernel_rfl) (by kernel_rfl) (by kernel_rfl) (fun _ _ _ h => h) (Or.inr ⟨by rfl, rfl⟩) hHeld ?_
    try simp only [Act.put, List.getElem_toArray, List.getElem_cons_zero, List.getElem_cons_succ, List.setIfInBounds_toArray, List.set_cons_zero, List.set_cons_succ]
    refine wpAnyH_take (i := 11) (v := undef) rfl (by kernel_rfl) (by kernel_rfl) (by kernel_rfl) (fun _ _ _ h => h) (Or.inr ⟨by rfl, rfl⟩) hHeld ?_
    try simp only [Act.put, List.getElem_toArray, List.getElem_cons_zero, List.getElem_cons_succ, List.setIfInBounds_toArray, List.set_cons_zero, List.set_cons_succ]
    refine wpAnyH_take (i := 13) (v := undef) rfl (by kernel_rfl) (by kernel_rfl) (by kernel_rfl) (fun _ _ _ h => h) (Or.inr ⟨by rfl, rfl⟩) hHeld ?_
    try simp only [Act.put, List.getElem_toArray, List.getElem_cons_zero, List.getElem_cons_succ, List.setIfInBounds_toArray, List.set_cons_zero, List.set_cons_succ]
    refine wpAnyH_take (i := 12) (v := undef) rfl (by kernel_rfl) (by kernel_rfl) (by kernel_rfl) (fun _ _ _ h => h) (Or.inr ⟨by rfl, rfl⟩) hHeld ?_
    try simp only [Act.put, List.getElem_toArray, List.getElem_cons_zero, List.getElem_cons_succ, List.setIfInBounds_toArray, List.set_cons_zero, List.set_cons_succ]
    refine wpAnyH_take (i := 14) (v := undef) rfl (by kernel_rfl) (by kernel_rfl) (by kernel_rfl) (fun _ _ _ h => h) (Or.inr ⟨by rfl, rfl⟩) hHeld ?_
    try simp only [Act.put, List.getElem_toArray, List.getElem_cons_zero, List.getElem_cons_succ, List.setIfInBounds_toArray, List.set_cons_zero, List.set_cons_succ]
    refine wpAnyH_take (i := 15) (v := .bool false) rfl (by kernel_rfl) (by kernel_rfl) (by kernel_rfl) (fun _ _ _ h => h) (Or.inl ⟨by rfl, ?_⟩) hHeld ?_
    · intro w' hSw
      go_simp <;> rfl
    try simp only [Act.put, List.getElem_toArray, List.getElem_cons_zero, List.getElem_cons_succ, List.setIfInBounds_toArray, List.set_cons_zero, List.set_cons_succ]
    refine wpAnyH_take (i := 16) (v := .bool false) rfl (by kernel_rfl) (by kernel_rfl) (by kernel_rfl) (fun _ _ _ h => h) (Or.inl ⟨by rfl, ?_⟩) hHeld ?_
    · intro w' hSw
      go_simp <;> rfl
    try simp only [Act.put, List.getElem_toArray, List.getElem_cons_zero, List.getElem_cons_succ, List.setIfInBounds_toArray, List.set_cons_zero, List.set_cons_succ]
    refine wpAnyH_take (i := 17) (v := undef) rfl (by kernel_rfl) (by kernel_rfl) (by kernel_rfl) (fun _ _ _ h => h) (Or.inr ⟨by rfl, rfl⟩) hHeld ?_
    try simp only [Act.put, List.getElem_toArray, List.getElem_cons_zero, List.getElem_cons_succ, List.setIfInBounds_toArray, List.set_cons_zero, List.set_cons_succ]
    refine wpAnyH_take (i := 18) (v := undef) rfl (by kernel_rfl) (by kernel_rfl) (by kernel_rfl) (fun _ _ _ h => h) (Or.inr ⟨by rfl, rfl⟩) hHeld ?_
    try simp only [Act.put, List.getElem_toArray, List.getElem_cons_zero, List.getElem_cons_succ, List.setIfInBounds_toArray, List.set_cons_zero, List.set_cons_succ]
    refine wpAnyH_take (i := 19) (v := undef) rfl (by kernel_rfl) (by kernel_rfl) (by kernel_rfl) (fun _ _ _ h => h) (Or.inr ⟨by rfl, rfl⟩) hHeld ?_
    try simp only [Act.put, List.getElem_toArray, List.getElem_cons_zero, List.getElem_cons_succ, List.setIfInBounds_toArray, List.set_cons_zero, List.set_cons_succ]
    refine wpAnyH_take (i := 20) (v := undef) rfl (by kernel_rfl) (by kernel_rfl) (by kernel_rfl) (fun _ _ _ h => h) (Or.inr ⟨by rfl, rfl⟩) hHeld ?_
    try simp only [Act.put, List.getElem_toArray, List.getElem_cons_zero, List.getElem_cons_succ, List.setIfInBounds_toArray, List.set_cons_zero, List.set_cons_succ]
    refine wpAnyH_take (i := 21) (v := .bool false) rfl (by kernel_rfl) (by kernel_rfl) (by kernel_rfl) (fun _ _ _ h => h) (Or.inl ⟨by rfl, ?_⟩) hHeld ?_
    · intro w' hSw
      go_simp <;> rfl
    try simp only [Act.put, List.getElem_toArray, List.getElem_cons_zero, List.getElem_cons_succ, List.setIfInBounds_toArray, List.set_cons_zero, List.set_cons_succ]
    refine wpAnyH_take (i := 22) (v := .bool false) rfl (by kernel_rfl) (by kernel_rfl) (by kernel_rfl) (fun _ _ _ h => h) (Or.inl ⟨by rfl, ?_⟩) hHeld ?_
    · intro w' hSw
      go_simp <;> rfl
    try simp only [Act.put, List.getElem_toArray, List.getElem_cons_zero, List.getElem_cons_succ, List.setIfInBounds_toArray, List.set_cons_zero, List.set_cons_succ]
    refine wpAnyH_done (by kernel_rfl) ?_ _
    clear hHeld
    have HF : Hid (WakeAns lo B l GV (!true && ft) w (.returned (.bool false)) d1) := ⟨false, l, rfl, fun _ => rfl, fun h => (by cases h), fun _ => rfl, rfl, HL0.out.same (HBW.out _ N1)⟩
    clear HK HC1 HC2 HC3
    go_wp2_with fail
    go_ret
    exact HF.out
  | false =>
    cases ft with
    | false =>
      refine wp_region_held_drew (S := fun u => u.cell? ⟨w.heap.size, 1, none⟩ = some (.int .i64 g.res) ∧ (u.cell? ⟨w1.heap.size, 0, none⟩ = some (.int .i64 g.tx) ∧ u.cell? ⟨w1.heap.size, 1, none⟩ = some (.int .i64 g.res) ∧ u.cell? ⟨w1.heap.size, 2, none⟩ = some (.int .i64 m))) (by kernel_rfl) (HK.out _ D0).2 (fun hHeld => ?_)
      generalize V1.drew = d0 at *
      refine wpAnyH_take (i := 0) (v := .pointer (some ⟨B, 0, none⟩)) rfl (by kernel_rfl) (by kernel_rfl) (by kernel_rfl) (fun _ _ _ h => h) (Or.inl ⟨by rfl, ?_⟩) hHeld ?_
      · intro w' hSw
        go_simp <;> rfl
      try simp only [Act.put, List.getElem_toArray, List.getElem_cons_zero, List.setIfInBounds_toArray, List.set_cons_zero, List.set_cons_succ]
      refine wpAnyH_take (i := 1) (v := .pointer (some ⟨B, 0, none⟩)) rfl (by kernel_rfl) (by kernel_rfl) (by kernel_rfl) (fun _ _ _ h => h) (Or.inl ⟨by rfl, ?_⟩) hHeld ?_
      · intro w' hSw
        go_simp <;> rfl
      try simp only [Act.put, List.getElem_toArray, List.getElem_cons_zero, List.getElem_cons_succ, List.setIfInBounds_toArray, List.set_cons_zero, List.set_cons_succ]
      refine wpAnyH_take (i := 2) (v := .pointer (some ⟨B, 1, none⟩)) rfl (by kernel_rfl) (by kernel_rfl) (by kernel_rfl) (fun _ _ _ h => h) (Or.inl ⟨by rfl, ?_⟩) hHeld ?_
      · intro w' hSw
        go_simp <;> rfl
      try simp only [Act.put, List.getElem_toArray, List.getElem_cons_zero, List.getElem_cons_succ, List.setIfInBounds_toArray, List.set_cons_zero, List.set_cons_succ]
      refine wpAnyH_take (i := 4) (v := .pointer (some ⟨w.heap.size, 1, none⟩)) rfl (by kernel_rfl) (by kernel_rfl) (by kernel_rfl) (fun _ _ _ h => h) (Or.inl ⟨by rfl, ?_⟩) hHeld ?_
      · intro w' hSw
        go_simp <;> rfl
      try simp only [Act.put, List.getElem_toArray, List.getElem_cons_zero, List.getElem_cons_succ, List.setIfInBounds_toArray, List.set_cons_zero, List.set_cons_succ]
      refine wpAnyH_take (i := 5) (v := .int .i64 g.res) rfl (by kernel_rfl) (by kernel_rfl) (by kernel_rfl) (fun _ _ _ h => h) (Or.inl ⟨by rfl, ?_⟩) hHeld ?_
      · intro w' hSw
        have hx := hSw.1
        go_simp <;> rfl
      try simp only [Act.put, List.getElem_toArray, List.getElem_cons_zero, List.getElem_cons_succ, List.setIfInBounds_toArray, List.set_cons_zero, List.set_cons_succ]
      refine wpAnyH_ready (rs := [3]) (by kernel_rfl) (by simp) ?_
      refine AllReadyH.cons rfl (fun K hK => ?_) AllReadyH.nil
      have hx := (HK.out _ D0).1.2
      go_simp
      refine hK.out _ _ ((HK.out _ D0).2) (fun hHeld => ?_)
      clear hK K hx
      try simp only [Act.put, List.getElem_toArray, List.getElem_cons_zero, List.getElem_cons_succ, List.setIfInBounds_toArray, List.set_cons_zero, List.set_cons_succ]
      refine wpAnyH_ready (rs := [6]) (by kernel_rfl) (by simp) ?_
      refine AllReadyH.cons rfl (fun K hK => ?_) AllReadyH.nil
      go_simp
      refine (HC1.out _ D0).mono ?_
      rintro r d1 ⟨rfl, hbd1⟩
      have N1 : Below V1.heap.size V1 d1 := D0.trans (hbd1.mono D0.size)
      refine hK.out _ _ ((HK.out _ N1).2) (fun hHeld => ?_)
      clear hK K hbd1
      try simp only [Act.put, List.getElem_toArray, List.getElem_cons_zero, List.getElem_cons_succ, List.setIfInBounds_toArray, List.set_cons_zero, List.set_cons_succ]
      refine wpAnyH_take (i := 7) (v := .bool true) rfl (by kernel_rfl) (by kernel_rfl) (by kernel_rfl) (fun _ _ _ h => h) (Or.inl ⟨by rfl, ?_⟩) hHeld ?_
      · intro w' hSw
        go_simp <;> rfl
      try simp only [Act.put, List.getElem_toArray, List.getElem_cons_zero, List.getElem_cons_succ, List.setIfInBounds_toArray, List.set_cons_zero, List.set_cons_succ]
      refine wpAnyH_take (i := 8) (v := .bool true) rfl (by kernel_rfl) (by kernel_rfl) (by kernel_rfl) (fun _ _ _ h => h) (Or.inl ⟨by rfl, ?_⟩) hHeld ?_
      · intro w' hSw
        go_simp <;> rfl
      try simp only [Act.put, List.getElem_toArray, List.getElem_cons_zero, List.getElem_cons_succ, List.setIfInBounds_toArray, List.set_cons_zero, List.set_cons_succ]
      refine wpAnyH_take (i := 9) (v := .pointer (some ⟨B, 0, none⟩)) rfl (by kernel_rfl) (by kernel_rfl) (by kernel_rfl) (fun _ _ _ h => h) (Or.inl ⟨by rfl, ?_⟩) hHeld ?_
      · intro w' hSw
        go_simp <;> rfl
      try simp only [Act.put, List.getElem_toArray, List.getElem_cons_zero, List.getElem_cons_succ, List.setIfInBounds_toArray, List.set_cons_zero, List.set_cons_succ]
      refine wpAnyH_take (i := 10) (v := .pointer (some ⟨B, 0, none⟩)) rfl (by kernel_rfl) (by kernel_rfl) (by kernel_rfl) (fun _ _ _ h => h) (Or.inl ⟨by rfl, ?_⟩) hHeld ?_
      · intro w' hSw
        go_simp <;> rfl
      try simp only [Act.put, List.getElem_toArray, List.getElem_cons_zero, List.getElem_cons_succ, List.setIfInBounds_toArray, List.set_cons_zero, List.set_cons_succ]
      refine wpAnyH_take (i := 11) (v := .pointer (some ⟨B, 0, none⟩)) rfl (by kernel_rfl) (by kernel_rfl) (by kernel_rfl) (fun _ _ _ h => h) (Or.inl ⟨by rfl, ?_⟩) hHeld ?_
      · intro w' hSw
        go_simp <;> rfl
      try simp only [Act.put, List.getElem_toArray, List.getElem_cons_zero, List.getElem_cons_succ, List.setIfInBounds_toArray, List.set_cons_zero, List.set_cons_succ]
      refine wpAnyH_take (i := 13) (v := .agg #[.int .i64 g.tx, .int .i64 g.res, .int .i64 m]) rfl (by kernel_rfl) (by kernel_rfl) (by kernel_rfl) (fun _ _ _ h => h) (Or.inl ⟨by rfl, ?_⟩) hHeld ?_
      · intro w' hSw
        obtain ⟨hx0, hx1, hx2⟩ := hSw.2
        go_simp <;> rfl
      try simp only [Act.put, List.getElem_toArray, List.getElem_cons_zero, List.getElem_cons_succ, List.setIfInBounds_toArray, List.set_cons_zero, List.set_cons_succ]
      refine wpAnyH_ready (rs := [12]) (by kernel_rfl) (by simp) ?_
      refine AllReadyH.cons rfl (fun K hK => ?_) AllReadyH.nil
      have hx := (HK.out _ N1).1.1
      go_simp
      refine hK.out _ _ ((HK.out _ N1).2) (fun hHeld => ?_)
      clear hK K hx
      try simp only [Act.put, List.getElem_toArray, List.getElem_cons_zero, List.getElem_cons_succ, List.setIfInBounds_toArray, List.set_cons_zero, List.set_cons_succ]
      refine wpAnyH_ready (rs := [14]) (by kernel_rfl) (by simp) ?_
      refine AllReadyH.cons rfl (fun K hK => ?_) AllReadyH.nil
      go_simp
      refine (HC2.out _ N1).mono ?_
      rintro r d2 ⟨rfl, hbd2⟩
      have N2 : Below V1.heap.size V1 d2 := N1.trans (hbd2.mono N1.size)
      refine hK.out _ _ ((HK.out _ N2).2) (fun hHeld => ?_)
      clear hK K hbd2
      try simp only [Act.put, List.getElem_toArray, List.getElem_cons_zero, List.getElem_cons_succ, List.setIfInBounds_toArray, List.set_cons_zero, List.set_cons_succ]
      refine wpAnyH_take (i := 15) (v := .bool false) rfl (by kernel_rfl) (by kernel_rfl) (by kernel_rfl) (fun _ _ _ h => h) (Or.inl ⟨by rfl, ?_⟩) hHeld ?_
      · intro w' hSw
        go_simp <;> rfl
      try simp only [Act.put, List.getElem_toArray, List.getElem_cons_zero, List.getElem_cons_succ, List.setIfInBounds_toArray, List.set_cons_zero, List.set_cons_succ]
      refine wpAnyH_take (i := 16) (v := .bool false) rfl (by kernel_rfl) (by kernel_rfl) (by kernel_rfl) (fun _ _ _ h => h) (Or.inl ⟨by rfl, ?_⟩) hHeld ?_
      · intro w' hSw
        go_simp <;> rfl
      try simp only [Act.put, List.getElem_toArray, List.getElem_cons_zero, List.getElem_cons_succ, List.setIfInBounds_toArray, List.set_cons_zero, List.set_cons_succ]
      refine wpAnyH_take (i := 17) (v := undef) rfl (by kernel_rfl) (by kernel_rfl) (by kernel_rfl) (fun _ _ _ h => h) (Or.inr ⟨by rfl, rfl⟩) hHeld ?_
      try simp only [Act.put, List.getElem_toArray, List.getElem_cons_zero, List.getElem_cons_succ, List.setIfInBounds_toArray, List.set_cons_zero, List.set_cons_succ]
      refine wpAnyH_take (i := 18) (v := undef) rfl (by kernel_rfl) (by kernel_rfl) (by kernel_rfl) (fun _ _ _ h => h) (Or.inr ⟨by rfl, rfl⟩) hHeld ?_
      try simp only [Act.put, List.getElem_toArray, List.getElem_cons_zero, List.getElem_cons_succ, List.setIfInBounds_toArray, List.set_cons_zero, List.set_cons_succ]
      refine wpAnyH_take (i := 19) (v := undef) rfl (by kernel_rfl) (by kernel_rfl) (by kernel_rfl) (fun _ _ _ h => h) (Or.inr ⟨by rfl, rfl⟩) hHeld ?_
      try simp only [Act.put, List.getElem_toArray, List.getElem_cons_zero, List.getElem_cons_succ, List.setIfInBounds_toArray, List.set_cons_zero, List.set_cons_succ]
      refine wpAnyH_take (i := 20) (v := undef) rfl (by kernel_rfl) (by kernel_rfl) (by kernel_rfl) (fun _ _ _ h => h) (Or.inr ⟨by rfl, rfl⟩) hHeld ?_
      try simp only [Act.put, List.getElem_toArray, List.getElem_cons_zero, List.getElem_cons_succ, List.setIfInBounds_toArray, List.set_cons_zero, List.set_cons_succ]
      refine wpAnyH_take (i := 21) (v := .bool false) rfl (by kernel_rfl) (by kernel_rfl) (by kernel_rfl) (fun _ _ _ h => h) (Or.inl ⟨by rfl, ?_⟩) hHeld ?_
      · intro w' hSw
        go_simp <;> rfl
      try simp only [Act.put, List.getElem_toArray, List.getElem_cons_zero, List.getElem_cons_succ, List.setIfInBounds_toArray, List.set_cons_zero, List.set_cons_succ]
      refine wpAnyH_take (i := 22) (v := .bool false) rfl (by kernel_rfl) (by kernel_rfl) (by kernel_rfl) (fun _ _ _ h => h) (Or.inl ⟨by rfl, ?_⟩) hHeld ?_
      · intro w' hSw
        go_simp <;> rfl
      try simp only [Act.put, List.getElem_toArray, List.getElem_cons_zero, List.getElem_cons_succ, List.setIfInBounds_toArray, List.set_cons_zero, List.set_cons_succ]
      refine wpAnyH_done (by kernel_rfl) ?_ _
      clear hHeld
      have HF : Hid (WakeAns lo B l GV (!false && false) w (.returned (.bool false)) d2) := ⟨false, l, rfl, fun _ => rfl, fun h => (by cases h), fun _ => rfl, rfl, HL0.out.same (HBW.out _ N2)⟩
      clear HK HC1 HC2 HC3
      go_wp2_with fail
      go_ret
      exact HF.out
    | true =>
      refine wp_region_held_drew (S := fun u => u.cell? ⟨w.heap.size, 1, none⟩ = some (.int .i64 g.res) ∧ (u.cell? ⟨w1.heap.size, 0, none⟩ = some (.int .i64 g.tx) ∧ u.cell? ⟨w1.heap.size, 1, none⟩ = some (.int .i64 g.res) ∧ u.cell? ⟨w1.heap.size, 2, none⟩ = some (.int .i64 m))) (by kernel_rfl) (HK.out _ D0).2 (fun hHeld => ?_)
      generalize V1.drew = d0 at *
      refine wpAnyH_take (i := 0) (v := .pointer (some ⟨B, 0, none⟩)) rfl (by kernel_rfl) (by kernel_rfl) (by kernel_rfl) (fun _ _ _ h => h) (Or.inl ⟨by rfl, ?_⟩) hHeld ?_
      · intro w' hSw
        go_simp <;> rfl
      try simp only [Act.put, List.getElem_toArray, List.getElem_cons_zero, List.setIfInBounds_toArray, List.set_cons_zero, List.set_cons_succ]
      refine wpAnyH_take (i := 1) (v := .pointer (some ⟨B, 0, none⟩)) rfl (by kernel_rfl) (by kernel_rfl) (by kernel_rfl) (fun _ _ _ h => h) (Or.inl ⟨by rfl, ?_⟩) hHeld ?_
      · intro w' hSw
        go_simp <;> rfl
      try simp only [Act.put, List.getElem_toArray, List.getElem_cons_zero, List.getElem_cons_succ, List.setIfInBounds_toArray, List.set_cons_zero, List.set_cons_succ]
      refine wpAnyH_take (i := 2) (v := .pointer (some ⟨B, 1, none⟩)) rfl (by kernel_rfl) (by kernel_rfl) (by kernel_rfl) (fun _ _ _ h => h) (Or.inl ⟨by rfl, ?_⟩) hHeld ?_
      · intro w' hSw
        go_simp <;> rfl
      try simp only [Act.put, List.getElem_toArray, List.getElem_cons_zero, List.getElem_cons_succ, List.setIfInBounds_toArray, List.set_cons_zero, List.set_cons_succ]
      refine wpAnyH_take (i := 4) (v := .pointer (some ⟨w.heap.size, 1, none⟩)) rfl (by kernel_rfl) (by kernel_rfl) (by kernel_rfl) (fun _ _ _ h => h) (Or.inl ⟨by rfl, ?_⟩) hHeld ?_
      · intro w' hSw
        go_simp <;> rfl
      try simp only [Act.put, List.getElem_toArray, List.getElem_cons_zero, List.getElem_cons_succ, List.setIfInBounds_toArray, List.set_cons_zero, List.set_cons_succ]
      refine wpAnyH_take (i := 5) (v := .int .i64 g.res) rfl (by kernel_rfl) (by kernel_rfl) (by kernel_rfl) (fun _ _ _ h => h) (Or.inl ⟨by rfl, ?_⟩) hHeld ?_
      · intro w' hSw
        have hx := hSw.1
        go_simp <;> rfl
      try simp only [Act.put, List.getElem_toArray, List.getElem_cons_zero, List.getElem_cons_succ, List.setIfInBounds_toArray, List.set_cons_zero, List.set_cons_succ]
      refine wpAnyH_ready (rs := [3]) (by kernel_rfl) (by simp) ?_
      refine AllReadyH.cons rfl (fun K hK => ?_) AllReadyH.nil
      have hx := (HK.out _ D0).1.2
      go_simp
      refine hK.out _ _ ((HK.out _ D0).2) (fun hHeld => ?_)
      clear hK K hx
      try simp only [Act.put, List.getElem_toArray, List.getElem_cons_zero, List.getElem_cons_succ, List.setIfInBounds_toArray, List.set_cons_zero, List.set_cons_succ]
      refine wpAnyH_ready (rs := [6]) (by kernel_rfl) (by simp) ?_
      refine AllReadyH.cons rfl (fun K hK => ?_) AllReadyH.nil
      go_simp
      refine (HC1.out _ D0).mono ?_
      rintro r d1 ⟨rfl, hbd1⟩
      have N1 : Below V1.heap.size V1 d1 := D0.trans (hbd1.mono D0.size)
      refine hK.out _ _ ((HK.out _ N1).2) (fun hHeld => ?_)
      clear hK K hbd1
      try simp only [Act.put, List.getElem_toArray, List.getElem_cons_zero, List.getElem_cons_succ, List.setIfInBounds_toArray, List.set_cons_zero, List.set_cons_succ]
      refine wpAnyH_take (i := 7) (v := .bool true) rfl (by kernel_rfl) (by kernel_rfl) (by kernel_rfl) (fun _ _ _ h => h) (Or.inl ⟨by rfl, ?_⟩) hHeld ?_
      · intro w' hSw
        go_simp <;> rfl
      try simp only [Act.put, List.getElem_toArray, List.getElem_cons_zero, List.getElem_cons_succ, List.setIfInBounds_toArray, List.set_cons_zero, List.set_cons_succ]
      refine wpAnyH_take (i := 8) (v := .bool true) rfl (by kernel_rfl) (by kernel_rfl) (by kernel_rfl) (fun _ _ _ h => h) (Or.inl ⟨by rfl, ?_⟩) hHeld ?_
      · intro w' hSw
        go_simp <;> rfl
      try simp only [Act.put, List.getElem_toArray, List.getElem_cons_zero, List.getElem_cons_succ, List.setIfInBounds_toArray, List.set_cons_zero, List.set_cons_succ]
      refine wpAnyH_take (i := 9) (v := .pointer (some ⟨B, 0, none⟩)) rfl (by kernel_rfl) (by kernel_rfl) (by kernel_rfl) (fun _ _ _ h => h) (Or.inl ⟨by rfl, ?_⟩) hHeld ?_
      · intro w' hSw
        go_simp <;> rfl
      try simp only [Act.put, List.getElem_toArray, List.getElem_cons_zero, List.getElem_cons_succ, List.setIfInBounds_toArray, List.set_cons_zero, List.set_cons_succ]
      refine wpAnyH_take (i := 10) (v := .pointer (some ⟨B, 0, none⟩)) rfl (by kernel_rfl) (by kernel_rfl) (by kernel_rfl) (fun _ _ _ h => h) (Or.inl ⟨by rfl, ?_⟩) hHeld ?_
      · intro w' hSw
        go_simp <;> rfl
      try simp only [Act.put, List.getElem_toArray, List.getElem_cons_zero, List.getElem_cons_succ, List.setIfInBounds_toArray, List.set_cons_zero, List.set_cons_succ]
      refine wpAnyH_take (i := 11) (v := .pointer (some ⟨B, 0, none⟩)) rfl (by kernel_rfl) (by kernel_rfl) (by kernel_rfl) (fun _ _ _ h => h) (Or.inl ⟨by rfl, ?_⟩) hHeld ?_
      · intro w' hSw
        go_simp <;> rfl
      try simp only [Act.put, List.getElem_toArray, List.getElem_cons_zero, List.getElem_cons_succ, List.setIfInBounds_toArray, List.set_cons_zero, List.set_cons_succ]
      refine wpAnyH_take (i := 13) (v := .agg #[.int .i64 g.tx, .int .i64 g.res, .int .i64 m]) rfl (by kernel_rfl) (by kernel_rfl) (by kernel_rfl) (fun _ _ _ h => h) (Or.inl ⟨by rfl, ?_⟩) hHeld ?_
      · intro w' hSw
        obtain ⟨hx0, hx1, hx2⟩ := hSw.2
        go_simp <;> rfl
      try simp only [Act.put, List.getElem_toArray, List.getElem_cons_zero, List.getElem_cons_succ, List.setIfInBounds_toArray, List.set_cons_zero, List.set_cons_succ]
      refine wpAnyH_ready (rs := [12]) (by kernel_rfl) (by simp) ?_
      refine AllReadyH.cons rfl (fun K hK => ?_) AllReadyH.nil
      have hx := (HK.out _ N1).1.1
      go_simp
      refine hK.out _ _ ((HK.out _ N1).2) (fun hHeld => ?_)
      clear hK K hx
      try simp only [Act.put, List.getElem_toArray, List.getElem_cons_zero, List.getElem_cons_succ, List.setIfInBounds_toArray, List.set_cons_zero, List.set_cons_succ]
      refine wpAnyH_ready (rs := [14]) (by kernel_rfl) (by simp) ?_
      refine AllReadyH.cons rfl (fun K hK => ?_) AllReadyH.nil
      go_simp
      refine (HC2.out _ N1).mono ?_
      rintro r d2 ⟨rfl, hbd2⟩
      have N2 : Below V1.heap.size V1 d2 := N1.trans (hbd2.mono N1.size)
      refine hK.out _ _ ((HK.out _ N2).2) (fun hHeld => ?_)
      clear hK K hbd2
      try simp only [Act.put, List.getElem_toArray, List.getElem_cons_zero, List.getElem_cons_succ, List.setIfInBounds_toArray, List.set_cons_zero, List.set_cons_succ]
      refine wpAnyH_take (i := 15) (v := .bool true) rfl (by kernel_rfl) (by kernel_rfl) (by kernel_rfl) (fun _ _ _ h => h) (Or.inl ⟨by rfl, ?_⟩) hHeld ?_
      · intro w' hSw
        go_simp <;> rfl
      try simp only [Act.put, List.getElem_toArray, List.getElem_cons_zero, List.getElem_cons_succ, List.setIfInBounds_toArray, List.set_cons_zero, List.set_cons_succ]
      refine wpAnyH_take (i := 16) (v := .bool true) rfl (by kernel_rfl) (by kernel_rfl) (by kernel_rfl) (fun _ _ _ h => h) (Or.inl ⟨by rfl, ?_⟩) hHeld ?_
      · intro w' hSw
        go_simp <;> rfl
      try simp only [Act.put, List.getElem_toArray, List.getElem_cons_zero, List.getElem_cons_succ, List.setIfInBounds_toArray, List.set_cons_zero, List.set_cons_succ]
      refine wpAnyH_take (i := 17) (v := .pointer (some ⟨B, 0, none⟩)) rfl (by kernel_rfl) (by kernel_rfl) (by kernel_rfl) (fun _ _ _ h => h) (Or.inl ⟨by rfl, ?_⟩) hHeld ?_
      · intro w' hSw
        go_simp <;> rfl
      try simp only [Act.put, List.getElem_toArray, List.getElem_cons_zero, List.getElem_cons_succ, List.setIfInBounds_toArray, List.set_cons_zero, List.set_cons_succ]
      refine wpAnyH_take (i := 18) (v := .agg #[.int .i64 g.tx, .int .i64 g.res, .int .i64 m]) rfl (by kernel_rfl) (by kernel_rfl) (by kernel_rfl) (fun _ _ _ h => h) (Or.inl ⟨by rfl, ?_⟩) hHeld ?_
      · intro w' hSw
        obtain ⟨hx0, hx1, hx2⟩ := hSw.2
        go_simp <;> rfl
      try simp only [Act.put, List.getElem_toArray, List.getElem_cons_zero, List.getElem_cons_succ, List.setIfInBounds_toArray, List.set_cons_zero, List.set_cons_succ]
      refine wpAnyH_take (i := 19) (v := .int .i64 pl) rfl (by kernel_rfl) (by kernel_rfl) (by kernel_rfl) (fun _ _ _ h => h) (Or.inl ⟨by rfl, ?_⟩) hHeld ?_
      · intro w' hSw
        go_simp <;> rfl
      try simp only [Act.put, List.getElem_toArray, List.getElem_cons_zero, List.getElem_cons_succ, List.setIfInBounds_toArray, List.set_cons_zero, List.set_cons_succ]
      refine wpAnyH_ready (rs := [20]) (by kernel_rfl) (by simp) ?_
      refine AllReadyH.cons rfl (fun K hK => ?_) AllReadyH.nil
      go_simp
      refine (HC3.out _ N2).mono ?_
      rintro e d3 ⟨r, l', rfl, hl1, hl2, hl3, hl4, hst⟩
      have hb1 := hst.box (HB2.out _ N2).1 HBl.out.2.2.1 HBl.out.1
      have hb2 := hst.box (HB2.out _ N2).2 HBl.out.2.2.2 HBl.out.2.1
      refine hK.out _ _ (⟨hb1.cell 1 _ rfl, hb2.cell 0 _ rfl, hb2.cell 1 _ rfl, hb2.cell 2 _ rfl⟩) (fun hHeld => ?_)
      clear hK K hb1 hb2
      try simp only [Act.put, List.getElem_toArray, List.getElem_cons_zero, List.getElem_cons_succ, List.setIfInBounds_toArray, List.set_cons_zero, List.set_cons_succ]
      refine wpAnyH_take (i := 21) (v := .bool r) rfl (by kernel_rfl) (by kernel_rfl) (by kernel_rfl) (fun _ _ _ h => h) (Or.inl ⟨by rfl, ?_⟩) hHeld ?_
      · intro w' hSw
        go_simp <;> rfl
      try simp only [Act.put, List.getElem_toArray, List.getElem_cons_zero, List.getElem_cons_succ, List.setIfInBounds_toArray, List.set_cons_zero, List.set_cons_succ]
      refine wpAnyH_take (i := 22) (v := .bool r) rfl (by kernel_rfl) (by kernel_rfl) (by kernel_rfl) (fun _ _ _ h => h) (Or.inl ⟨by rfl, ?_⟩) hHeld ?_
      · intro w' hSw
        go_simp <;> rfl
      try simp only [Act.put, List.getElem_toArray, List.getElem_cons_zero, List.getElem_cons_succ, List.setIfInBounds_toArray, List.set_cons_zero, List.set_cons_succ]
      refine wpAnyH_done (by kernel_rfl) ?_ _
      clear hHeld
      have HF : Hid (WakeAns lo B l GV (!false && true) w (.returned (.bool r)) d3) := ⟨r, l', rfl, fun h6 => by
        cases r
        · have := (hl3.1 rfl).2; omega
        · rfl, hl1, hl2, hl4, (HL0.out.same (HBW.out _ N2)).trans hst⟩
      clear HK HC1 HC2 HC3 hl1 hl2 hl3 hl4 hst
      go_wp2_with fail
      go_ret
      exact HF.out
end Go.Proofs.YtekljhabjkmhpaaDoor

/- The walks of impl.without and laws.sameInts. -/
namespace Go.Proofs.YtekljhabjkmhpaaDoor
open Go.RowKit

set_option maxHeartbeats 2000000 in
set_option maxRecDepth 100000 in
theorem without_any (ls : List GrantV) (a : Option Addr) (c : Nat) (tx : Int) (w : World) (hr : ReadsG w a ls) (hl : ls.length ≤ 1000) :
    Calls Tryd.prog 48 #[.slice a ls.length c, .int .i64 tx] w fun e w' => ∃ a' c', e = .returned (.slice a' (ls.filter (fun g => g.tx != tx)).length c') ∧ OwnG w' w.heap.size w'.heap.size a' c' (ls.filter (fun g => g.tx != tx)) ∧ Below w.heap.size w w' := by
  have HCG : Hid (∀ u, Below w.heap.size w u → ∀ k, k < ls.length → ∃ b off, a = some ⟨b, off, none⟩ ∧ u.cell? ⟨b, off + k * 3, none⟩ = some (.int .i64 (ls.getD k zeroG).tx) ∧ u.cell? ⟨b, off + k * 3 + 1, none⟩ = some (.int .i64 (ls.getD k zeroG).res) ∧ u.cell? ⟨b, off + k * 3 + 2, none⟩ = some (.int .i64 (ls.getD k zeroG).mode)) := fun u h k hk => by
    obtain ⟨b, off, ha, hc⟩ := (hr.below h) (by intro e; rw [e] at hk; simp at hk)
    exact ⟨b, off, ha, hc k hk⟩
  clear hr
  go_enter Tryd.func48, Tryd.ntmps48
  go_wp2_with fail
  go_loopw [5, 10] (fun o i wr => ∃ (j : Nat) (a' : Option Addr) (c' : Nat) (L : List GrantV), j ≤ ls.length ∧ i = .int .i64 j ∧ o = .slice a' L.length c' ∧ Hid (L = (ls.take j).filter (fun g => g.tx != tx)) ∧ L.length ≤ j ∧ OwnG wr w.heap.size wr.heap.size a' c' L ∧ Below w.heap.size w wr) (fun _ i _ => ls.length - (intOf i).toNat)
  case atStart => exact ⟨0, none, 0, [], Nat.zero_le _, rfl, rfl, rfl, Nat.zero_le _, ownG_nil _ _ _ (Nat.le_refl _), Below.refl _ _⟩
  case round =>
    obtain ⟨j, a', c', L, hj, rfl, rfl, hL, hLj, ho, hbl⟩ := hrel
    have hls := hbl.size
    by_cases hlt : j < ls.length
    · obtain ⟨b, off, rfl, d0, d1, d2⟩ := HCG.out wr hbl j hlt
      have HST : Hid (_ = _) := filter_stepG (fun g : GrantV => g.tx != tx) ls j hlt
      clear HCG
      generalize ls.getD j zeroG = z at *
      obtain ⟨V1, hV1, bz, hbV1, hsV1⟩ := boxes1 wr [.int .i64 z.tx, .int .i64 z.res, .int .i64 z.mode] 37
      have hB1 : Below w.heap.size w V1 := hbl.trans (hbV1.mono hbl.size)
      have ho1 := (ho.below hbV1).widen (Nat.le_refl _) hbV1.size (Nat.le_refl _)
      obtain ⟨e0, e1, e2, _⟩ := bz.three
      have hl1 := hB1.size
      clear hsV1 hbV1 bz
      by_cases q : z.tx = tx
      · have HR : Hid (L = (ls.take (j + 1)).filter (fun g => g.tx != tx)) := by rw [Hid, HST.out, if_neg (by simp [q])]; exact hL.out
        have qb : (z.tx != tx) = false := by simp [q]
        have HS : Hid (_ ∧ _) := ⟨ho1, hB1⟩
        clear hL HST q ho1 hB1
        go_wp2_with fail
        rw [hV1.out]
        go_roundw
        case rel => exact ⟨j + 1, a', c', L, by omega, by go_num, rfl, HR.out, by omega, HS.out.1, HS.out.2⟩
        case measure => simp [intOf]; omega
      · have HR : Hid (L ++ [z] = (ls.take (j + 1)).filter (fun g => g.tx != tx)) := by rw [Hid, HST.out, if_pos (by simp [q]), ← hL.out]
        have qb : (z.tx != tx) = true := by simp [q]
        clear hL HST q
        have ho2 := ho1.below ((Below.refl _ _).alloc (Nat.le_refl _) (.cells #[.int .i64 z.tx, .int .i64 z.res, .int .i64 z.mode] 37))
        go_upto_region 6 with fail
        rw [hV1.out]
        clear hV1
        go_wp2_with (at_builtin; refine append_grants rfl _ _ rfl w.heap.size V1.heap.size a' c' L rfl ho2 _ _ [z] rfl (readsG_one V1 z _) (fun h => by cases h) (by simp; omega) (by simp; omega) ?_; intro a3 c3 y3 w3 hy3 ho3 hg3)
        go_roundw
        case rel => exact ⟨j + 1, a3, c3, y3, by omega, by go_num, rfl, by rw [Hid, hy3.out]; exact HR.out, by rw [hy3.out]; simp; omega, ho3, below_append hB1 hg3 (fun k hk => (ho1.lt k hk).1) hl1⟩
        case measure => simp [intOf]; omega
    · have HR : Hid (L = ls.filter (fun g => g.tx != tx)) := by
        have e := hL.out
        rw [List.take_of_length_le (by omega)] at e
        exact e
      clear hL HCG
      go_wp2_with fail
      go_ret
      have e := HR.out
      subst e
      exact ⟨a', c', rfl, ho, hbl⟩

set_option maxHeartbeats 1000000 in
set_option maxRecDepth 100000 in
theorem sameIntsK_same (a b : Option Addr) (ca cb : Nat) (ns : List Int) (w : World) (ha : ReadsI w a ns) (hb : ReadsI w b ns) (hl : ns.length ≤ 1000) :
    Calls Tryd.prog 23 #[.slice a ns.length ca, .slice b ns.length cb] w fun e w' => e = .returned (.bool true) ∧ Below w.heap.size w w' := by
  have HC : Hid (∀ k, k < ns.length → (∃ b1 o1, a = some ⟨b1, o1, none⟩ ∧ w.cell? ⟨b1, o1 + k, none⟩ = some (.int .i64 (ns.getD k 0))) ∧ ∃ b2 o2, b = some ⟨b2, o2, none⟩ ∧ w.cell? ⟨b2, o2 + k, none⟩ = some (.int .i64 (ns.getD k 0))) := fun k hk => by
    obtain ⟨b1, o1, h1, c1⟩ := ha (by intro e; rw [e] at hk; simp at hk)
    obtain ⟨b2, o2, h2, c2⟩ := hb (by intro e; rw [e] at hk; simp at hk)
    exact ⟨⟨b1, o1, h1, c1 k hk⟩, b2, o2, h2, c2 k hk⟩
  clear ha hb
  go_enter Tryd.func23, Tryd.ntmps23
  go_wp2_with fail
  go_loopw [5] (fun i wr => ∃ k : Nat, k ≤ ns.length ∧ i = .int .i64 k ∧ Below w.heap.size w wr) (fun i _ => ns.length - (intOf i).toNat)
  case atStart => exact ⟨0, Nat.zero_le _, rfl, Below.refl _ _⟩
  case round =>
    obtain ⟨k, hk, rfl, hbl⟩ := hrel
    by_cases hlt : k < ns.length
    · obtain ⟨⟨b1, o1, rfl, c1⟩, b2, o2, rfl, c2⟩ := HC.out k hlt
      have d1 := (hbl.cell (block_lt c1)).trans c1
      have d2 := (hbl.cell (block_lt c2)).trans c2
      clear c1 c2 HC
      generalize ns.getD k 0 = z at *
      have HS : Hid (Below _ _ _) := hbl
      clear hbl
      go_wp2_with fail
      go_quiet (fail)
      go_wp2_with fail
      go_roundw
      case rel => exact ⟨k + 1, by omega, by go_num, below_drewN HS.out _⟩
      case measure => simp [intOf]; omega
    · go_wp2_with fail
      go_ret
      exact ⟨rfl, hbl⟩
end Go.Proofs.YtekljhabjkmhpaaDoor
