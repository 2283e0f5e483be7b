/- Several texts in one, in their order. -/
import Derived.Test.YtekljhabjkmhpaaDoorPFnLockedx14
import Derived.Test.YtekljhabjkmhpaaDoorPFnLockedx12
/- The walk of spec.l9Ask. -/
namespace Go.Proofs.YtekljhabjkmhpaaDoor
open Go.RowKit

/-- What an ask makes of what is given and of who waits, and its answer. -/
def askV (G V : List GrantV) (g : GrantV) : List GrantV × List GrantV × Int :=
  if wouldS G g = hasZ G g.tx g.res then (G, V, 0)
  else if (!G.any (barsB ⟨g.tx, g.res, wouldS G g⟩) && ((hasZ G g.tx g.res != 0) || !V.any (fun h => h.res == g.res))) = true then (giveV G g (wouldS G g), V, 0)
  else (G, V ++ [g], 1)

set_option maxHeartbeats 8000000 in
set_option maxRecDepth 100000 in
theorem l9Ask_any (lo B : Nat) (l : LocksA) (g : GrantV) (w : World) (h : LkAt w lo B l) (hlo : lo ≤ w.heap.size) (hlen : l.short 1000) :
    Calls Tryd.prog 44 #[.pointer (some ⟨B, 0, none⟩), .agg #[.int .i64 g.tx, .int .i64 g.res, .int .i64 g.mode]] w fun e w' => ∃ l', e = .returned (.int .i64 (askV l.given l.waits g).2.2) ∧ Hid (l'.given = (askV l.given l.waits g).1 ∧ l'.waits = (askV l.given l.waits g).2.1) ∧ LkStep w w' lo B l l' := by
  obtain ⟨W, hW, b1, hbW, hsW⟩ := boxes1 w [.int .i64 g.tx, .int .i64 g.res, .int .i64 g.mode] 37
  have hs1 := b1.lt
  have hBw := h.box.lt
  have hlG := hlen.1
  have hlV := hlen.2
  have HK : Hid (∀ u, Below W.heap.size W u → (u.cell? ⟨B, 0, none⟩ = some (.slice l.aG l.given.length l.cG) ∧ u.cell? ⟨B, 1, none⟩ = some (.slice l.aW l.waits.length l.cW)) ∧ (u.cell? ⟨w.heap.size, 0, none⟩ = some (.int .i64 g.tx) ∧ u.cell? ⟨w.heap.size, 1, none⟩ = some (.int .i64 g.res) ∧ u.cell? ⟨w.heap.size, 2, none⟩ = some (.int .i64 g.mode))) := fun u hu =>
    ⟨⟨(h.below (hbW.trans (hu.mono hbW.size))).box.cell 0 _ rfl, (h.below (hbW.trans (hu.mono hbW.size))).box.cell 1 _ rfl⟩, (b1.below hu hs1).cell 0 _ rfl, (b1.below hu hs1).cell 1 _ rfl, (b1.below hu hs1).cell 2 _ rfl⟩
  have HBW : Hid (∀ u, Below W.heap.size W u → Below w.heap.size w u) := fun u hu => hbW.trans (hu.mono hbW.size)
  have HBX : Hid (∀ u, Below W.heap.size W u → Box u w.heap.size [.int .i64 g.tx, .int .i64 g.res, .int .i64 g.mode] 37) := fun u hu => b1.below hu hs1
  have HLK : Hid (∀ u, Below W.heap.size W u → LkAt u lo B l) := fun u hu => h.below (hbW.trans (hu.mono hbW.size))
  have HL0 : Hid (LkAt w lo B l) := h
  have HC1 : Hid (∀ u, Below W.heap.size W u → Calls Tryd.prog 62 #[.agg #[.slice l.aG l.given.length l.cG, .slice l.aW l.waits.length l.cW], .int .i64 g.tx, .int .i64 g.res] u fun e w' => e = .returned (.int .i64 (hasZ l.given g.tx g.res)) ∧ Below u.heap.size u w') := fun u hu => l9Has_any _ _ _ _ _ _ u (HLK.out u hu).own.given.reads (by omega)
  have HC2 : Hid (∀ u, Below W.heap.size W u → Calls Tryd.prog 63 #[.agg #[.slice l.aG l.given.length l.cG, .slice l.aW l.waits.length l.cW], .agg #[.int .i64 g.tx, .int .i64 g.res, .int .i64 g.mode]] u fun e w' => e = .returned (.int .i64 (wouldS l.given g)) ∧ Below u.heap.size u w') := fun u hu => l9Would_any _ _ _ _ _ u (HLK.out u hu).own.given.reads (by omega)
  have HC3 : Hid (∀ u, Below W.heap.size W u → Calls Tryd.prog 64 #[.agg #[.slice l.aG l.given.length l.cG, .slice l.aW l.waits.length l.cW], .agg #[.int .i64 g.tx, .int .i64 g.res, .int .i64 g.mode], .int .i64 (wouldS l.given g)] u fun e w' => e = .returned (.bool (!l.given.any (barsB ⟨g.tx, g.res, wouldS l.given g⟩))) ∧ Below u.heap.size u w') := fun u hu => l9Fits_any _ _ _ _ _ _ u (HLK.out u hu).own.given.reads (by omega)
  have HC4 : Hid (∀ u, Below W.heap.size W u → Calls Tryd.prog 65 #[.slice l.aW l.waits.length l.cW, .int .i64 g.res] u fun e w' => e = .returned (.bool (l.waits.any (fun h => h.res == g.res))) ∧ w' = u) := fun u hu => l9ForRes_any _ _ _ _ u (HLK.out u hu).own.waits.reads (by omega)
  have HC5 : Hid (∀ u, Below W.heap.size W u → Calls Tryd.prog 66 #[.pointer (some ⟨B, 0, none⟩), .agg #[.int .i64 g.tx, .int .i64 g.res, .int .i64 g.mode], .int .i64 (wouldS l.given g)] u fun e w' => (∃ v, e = .returned v) ∧ ∃ l', Hid (l'.given = giveV l.given g (wouldS l.given g) ∧ l'.waits = l.waits) ∧ LkStep u w' lo B l l') := fun u hu => l9Give_any lo B l g _ u (HLK.out u hu) (by have := (HBW.out u hu).size; omega) hlen.1
  have HV : Hid (askV l.given l.waits g = if wouldS l.given g = hasZ l.given g.tx g.res then (l.given, l.waits, 0) else if (!l.given.any (barsB ⟨g.tx, g.res, wouldS l.given g⟩) && ((hasZ l.given g.tx g.res != 0) || !l.waits.any (fun h => h.res == g.res))) = true then (giveV l.given g (wouldS l.given g), l.waits, 0) else (l.given, l.waits ++ [g], 1)) := rfl
  have hl1 : w.heap.size < W.heap.size := hs1
  clear b1 hbW hsW h
  generalize askV l.given l.waits g = A at *
  generalize wouldS l.given g = m at *
  generalize hasZ l.given g.tx g.res = hs at *
  generalize (!l.given.any (barsB ⟨g.tx, g.res, m⟩)) = ft at *
  generalize l.waits.any (fun h => h.res == g.res) = wt at *
  generalize giveV l.given g m = GV at *
  go_enter Tryd.func44, Tryd.ntmps44
  go_upto_region 1 with fail
  rw [hW.out]
  clear hW
  have N0 : Below W.heap.size W W := Below.refl _ _
  have D0 : Below W.heap.size W W.drew := N0.drew
  refine wp_region_held_drew (S := fun u => (u.cell? ⟨B, 0, none⟩ = some (.slice l.aG l.given.length l.cG) ∧ u.cell? ⟨B, 1, none⟩ = some (.slice l.aW l.waits.length l.cW)) ∧ (u.cell? ⟨w.heap.size, 0, none⟩ = some (.int .i64 g.tx) ∧ u.cell? ⟨w.heap.size, 1, none⟩ = some (.int .i64 g.res) ∧ u.cell? ⟨w.heap.size, 2, none⟩ = some (.int .i64 g.mode))) (by kernel_rfl) (HK.out _ D0) (fun hHeld => ?_)
  generalize W.drew = d0 at *
  refine wpAnyH_take (i := 0) (v := .pointer (some ⟨B, 0, none⟩)) rfl (by kernel_rfl) (by kernel_rfl) (by kernel_rfl) (fun _ _ _ h => h) (Or.inl ⟨by rfl, ?_⟩) hHeld ?_
  · intro w' hSw
    go_simp <;> rfl
  try simp only [Act.put, List.getElem_toArray, List.getElem_cons_zero, List.setIfInBounds_toArray, List.set_cons_zero, List.set_cons_succ]
  refine wpAnyH_take (i := 1) (v := .pointer (some ⟨B, 0, none⟩)) rfl (by kernel_rfl) (by kernel_rfl) (by kernel_rfl) (fun _ _ _ h => h) (Or.inl ⟨by rfl, ?_⟩) hHeld ?_
  · intro w' hSw
    go_simp <;> rfl
  try simp only [Act.put, List.getElem_toArray, List.getElem_cons_zero, List.getElem_cons_succ, List.setIfInBounds_toArray, List.set_cons_zero, List.set_cons_succ]
  refine wpAnyH_take (i := 2) (v := .agg #[.slice l.aG l.given.length l.cG, .slice l.aW l.waits.length l.cW]) rfl (by kernel_rfl) (by kernel_rfl) (by kernel_rfl) (fun _ _ _ h => h) (Or.inl ⟨by rfl, ?_⟩) hHeld ?_
  · intro w' hSw
    obtain ⟨hx0, hx1⟩ := hSw.1
    go_simp <;> rfl
  try simp only [Act.put, List.getElem_toArray, List.getElem_cons_zero, List.getElem_cons_succ, List.setIfInBounds_toArray, List.set_cons_zero, List.set_cons_succ]
  refine wpAnyH_take (i := 3) (v := .pointer (some ⟨w.heap.size, 0, none⟩)) rfl (by kernel_rfl) (by kernel_rfl) (by kernel_rfl) (fun _ _ _ h => h) (Or.inl ⟨by rfl, ?_⟩) hHeld ?_
  · intro w' hSw
    go_simp <;> rfl
  try simp only [Act.put, List.getElem_toArray, List.getElem_cons_zero, List.getElem_cons_succ, List.setIfInBounds_toArray, List.set_cons_zero, List.set_cons_succ]
  refine wpAnyH_take (i := 4) (v := .int .i64 g.tx) rfl (by kernel_rfl) (by kernel_rfl) (by kernel_rfl) (fun _ _ _ h => h) (Or.inl ⟨by rfl, ?_⟩) hHeld ?_
  · intro w' hSw
    have hx := hSw.2.1
    go_simp <;> rfl
  try simp only [Act.put, List.getElem_toArray, List.getElem_cons_zero, List.getElem_cons_succ, List.setIfInBounds_toArray, List.set_cons_zero, List.set_cons_succ]
  refine wpAnyH_take (i := 5) (v := .pointer (some ⟨w.heap.size, 1, none⟩)) rfl (by kernel_rfl) (by kernel_rfl) (by kernel_rfl) (fun _ _ _ h => h) (Or.inl ⟨by rfl, ?_⟩) hHeld ?_
  · intro w' hSw
    go_simp <;> rfl
  try simp only [Act.put, List.getElem_toArray, List.getElem_cons_zero, List.getElem_cons_succ, List.setIfInBounds_toArray, List.set_cons_zero, List.set_cons_succ]
  refine wpAnyH_take (i := 6) (v := .int .i64 g.res) rfl (by kernel_rfl) (by kernel_rfl) (by kernel_rfl) (fun _ _ _ h => h) (Or.inl ⟨by rfl, ?_⟩) hHeld ?_
  · intro w' hSw
    have hx := hSw.2.2.1
    go_simp <;> rfl
  try simp only [Act.put, List.getElem_toArray, List.getElem_cons_zero, List.getElem_cons_succ, List.setIfInBounds_toArray, List.set_cons_zero, List.set_cons_succ]
  refine wpAnyH_ready (rs := [7]) (by kernel_rfl) (by simp) ?_
  refine AllReadyH.cons rfl (fun K hK => ?_) AllReadyH.nil
  go_simp
  refine (HC1.out _ D0).mono ?_
  rintro r d1 ⟨rfl, hb1⟩
  have N1 : Below W.heap.size W d1 := D0.trans (hb1.mono D0.size)
  refine hK.out _ _ (HK.out _ N1) (fun hHeld => ?_)
  clear hK K hb1
  try simp only [Act.put, List.getElem_toArray, List.getElem_cons_zero, List.getElem_cons_succ, List.setIfInBounds_toArray, List.set_cons_zero, List.set_cons_succ]
  refine wpAnyH_take (i := 8) (v := .int .i64 hs) rfl (by kernel_rfl) (by kernel_rfl) (by kernel_rfl) (fun _ _ _ h => h) (Or.inl ⟨by rfl, ?_⟩) hHeld ?_
  · intro w' hSw
    go_simp <;> rfl
  try simp only [Act.put, List.getElem_toArray, List.getElem_cons_zero, List.getElem_cons_succ, List.setIfInBounds_toArray, List.set_cons_zero, List.set_cons_succ]
  refine wpAnyH_done (by kernel_rfl) ?_ _
  clear hHeld HC1
  go_upto_region 2 with fail
  have D2 : Below W.heap.size W d1.drew := N1.drew
  refine wp_region_held_drew (S := fun u => (u.cell? ⟨B, 0, none⟩ = some (.slice l.aG l.given.length l.cG) ∧ u.cell? ⟨B, 1, none⟩ = some (.slice l.aW l.waits.length l.cW)) ∧ (u.cell? ⟨w.heap.size, 0, none⟩ = some (.int .i64 g.tx) ∧ u.cell? ⟨w.heap.size, 1, none⟩ = some (.int .i64 g.res) ∧ u.cell? ⟨w.heap.size, 2, none⟩ = some (.int .i64 g.mode))) (by kernel_rfl) (HK.out _ D2) (fun hHeld => ?_)
  generalize d1.drew = d2 at *
  refine wpAnyH_take (i := 0) (v := .pointer (some ⟨B, 0, none⟩)) rfl (by kernel_rfl) (by kernel_rfl) (by kernel_rfl) (fun _ _ _ h => h) (Or.inl ⟨by rfl, ?_⟩) hHeld ?_
  · intro w' hSw
    go_simp <;> rfl
  try simp only [Act.put, List.getElem_toArray, List.getElem_cons_zero, List.setIfInBounds_toArray, List.set_cons_zero, List.set_cons_succ]
  refine wpAnyH_take (i := 1) (v := .pointer (some ⟨B, 0, none⟩)) rfl (by kernel_rfl) (by kernel_rfl) (by kernel_rfl) (fun _ _ _ h => h) (Or.inl ⟨by rfl, ?_⟩) hHeld ?_
  · intro w' hSw
    go_simp <;> rfl
  try simp only [Act.put, List.getElem_toArray, List.getElem_cons_zero, List.getElem_cons_succ, List.setIfInBounds_toArray, List.set_cons_zero, List.set_cons_succ]
  refine wpAnyH_take (i := 2) (v := .agg #[.slice l.aG l.given.length l.cG, .slice l.aW l.waits.length l.cW]) rfl (by kernel_rfl) (by kernel_rfl) (by kernel_rfl) (fun _ _ _ h => h) (Or.inl ⟨by rfl, ?_⟩) hHeld ?_
  · intro w' hSw
    obtain ⟨hx0, hx1⟩ := hSw.1
    go_simp <;> rfl
  try simp only [Act.put, List.getElem_toArray, List.getElem_cons_zero, List.getElem_cons_succ, List.setIfInBounds_toArray, List.set_cons_zero, List.set_cons_succ]
  refine wpAnyH_take (i := 3) (v := .agg #[.int .i64 g.tx, .int .i64 g.res, .int .i64 g.mode]) rfl (by kernel_rfl) (by kernel_rfl) (by kernel_rfl) (fun _ _ _ h => h) (Or.inl ⟨by rfl, ?_⟩) hHeld ?_
  · intro w' hSw
    obtain ⟨hx0, hx1, hx2⟩ := hSw.2
    go_simp <;> rfl
  try simp only [Act.put, List.getElem_toArray, List.getElem_cons_zero, List.getElem_cons_succ, List.setIfInBounds_toArray, List.set_cons_zero, List.set_cons_succ]
  refine wpAnyH_ready (rs := [4]) (by kernel_rfl) (by simp) ?_
  refine AllReadyH.cons rfl (fun K hK => ?_) AllReadyH.nil
  go_simp
  refine (HC2.out _ D2).mono ?_
  rintro r d3 ⟨rfl, hb3⟩
  have N3 : Below W.heap.size W d3 := D2.trans (hb3.mono D2.size)
  refine hK.out _ _ (HK.out _ N3) (fun hHeld => ?_)
  clear hK K hb3
  try simp only [Act.put, List.getElem_toArray, List.getElem_cons_zero, List.getElem_cons_succ, List.setIfInBounds_toArray, List.set_cons_zero, List.set_cons_succ]
  refine wpAnyH_take (i := 5) (v := .int .i64 m) rfl (by kernel_rfl) (by kernel_rfl) (by kernel_rfl) (fun _ _ _ h => h) (Or.inl ⟨by rfl, ?_⟩) hHeld ?_
  · intro w' hSw
    go_simp <;> rfl
  try simp only [Act.put, List.getElem_toArray, List.getElem_cons_zero, List.getElem_cons_succ, List.setIfInBounds_toArray, List.set_cons_zero, List.set_cons_succ]
  refine wpAnyH_done (by kernel_rfl) ?_ _
  clear hHeld HC2
  by_cases hmh : m = hs
  · have HA : Hid (A = (l.given, l.waits, 0)) := by rw [Hid, HV.out, if_pos hmh]
    have HF : Hid (LkStep w d3 lo B l l) := HL0.out.same (HBW.out _ N3)
    have hmb : (m == hs) = true := by simp [hmh]
    clear hmh HV
    go_wp2_with fail
    go_ret
    exact ⟨l, ret_int (by rw [HA.out]), ⟨by rw [HA.out], by rw [HA.out]⟩, HF.out⟩
  have hmb : (m == hs) = false := by simp [hmh]
  have HV2 : Hid (A = if (ft && ((hs != 0) || !wt)) = true then (GV, l.waits, 0) else (l.given, l.waits ++ [g], 1)) := by rw [Hid, HV.out, if_neg hmh]
  clear hmh HV
  go_upto_region 5 with fail
  have y3 := HK.out _ N3
  cases ft with
  | false =>
    clear HC4
    have HC4 : True := trivial
    have D4 : Below W.heap.size W d3.drew := N3.drew
    refine wp_region_held_drew (S := fun u => (u.cell? ⟨B, 0, none⟩ = some (.slice l.aG l.given.length l.cG) ∧ u.cell? ⟨B, 1, none⟩ = some (.slice l.aW l.waits.length l.cW)) ∧ (u.cell? ⟨w.heap.size, 0, none⟩ = some (.int .i64 g.tx) ∧ u.cell? ⟨w.heap.size, 1, none⟩ = some (.int .i64 g.res) ∧ u.cell? ⟨w.heap.size, 2, none⟩ = some (.int .i64 g.mode))) (by kernel_rfl) (HK.out _ D4) (fun hHeld => ?_)
    generalize d3.drew = d4 at *
    refine wpAnyH_take (i := 0) (v := .pointer (some ⟨B, 0, none⟩)) rfl (by kernel_rfl) (by kernel_rfl) (by kernel_rfl) (fun _ _ _ h => h) (Or.inl ⟨by rfl, ?_⟩) hHeld ?_
    · intro w' hSw
      go_simp <;> rfl
    try simp only [Act.put, List.getElem_toArray, List.getElem_cons_zero, List.setIfInBounds_toArray, List.set_cons_zero, List.set_cons_succ]
    refine wpAnyH_take (i := 1) (v := .pointer (some ⟨B, 0, none⟩)) rfl (by kernel_rfl) (by kernel_rfl) (by kernel_rfl) (fun _ _ _ h => h) (Or.inl ⟨by rfl, ?_⟩) hHeld ?_
    · intro w' hSw
      go_simp <;> rfl
    try simp only [Act.put, List.getElem_toArray, List.getElem_cons_zero, List.getElem_cons_succ, List.setIfInBounds_toArray, List.set_cons_zero, List.set_cons_succ]
    refine wpAnyH_take (i := 2) (v := .agg #[.slice l.aG l.given.length l.cG, .slice l.aW l.waits.length l.cW]) rfl (by kernel_rfl) (by kernel_rfl) (by kernel_rfl) (fun _ _ _ h => h) (Or.inl ⟨by rfl, ?_⟩) hHeld ?_
    · intro w' hSw
      obtain ⟨hx0, hx1⟩ := hSw.1
      go_simp <;> rfl
    try simp only [Act.put, List.getElem_toArray, List.getElem_cons_zero, List.getElem_cons_succ, List.setIfInBounds_toArray, List.set_cons_zero, List.set_cons_succ]
    refine wpAnyH_take (i := 3) (v := .agg #[.int .i64 g.tx, .int .i64 g.res, .int .i64 g.mode]) rfl (by kernel_rfl) (by kernel_rfl) (by kernel_rfl) (fun _ _ _ h => h) (Or.inl ⟨by rfl, ?_⟩) hHeld ?_
    · intro w' hSw
      obtain ⟨hx0, hx1, hx2⟩ := hSw.2
      go_simp <;> rfl
    try simp only [Act.put, List.getElem_toArray, List.getElem_cons_zero, List.getElem_cons_succ, List.setIfInBounds_toArray, List.set_cons_zero, List.set_cons_succ]
    refine wpAnyH_take (i := 4) (v := .int .i64 m) rfl (by kernel_rfl) (by kernel_rfl) (by kernel_rfl) (fun _ _ _ h => h) (Or.inl ⟨by rfl, ?_⟩) hHeld ?_
    · intro w' hSw
      go_simp <;> rfl
    try simp only [Act.put, List.getElem_toArray, List.getElem_cons_zero, List.getElem_cons_succ, List.setIfInBounds_toArray, List.set_cons_zero, List.set_cons_succ]
    refine wpAnyH_ready (rs := [5]) (by kernel_rfl) (by simp) ?_
    refine AllReadyH.cons rfl (fun K hK => ?_) AllReadyH.nil
    go_simp
    refine (HC3.out _ D4).mono ?_
    rintro r d5 ⟨rfl, hb5⟩
    have N5 : Below W.heap.size W d5 := D4.trans (hb5.mono D4.size)
    refine hK.out _ _ (HK.out _ N5) (fun hHeld => ?_)
    clear hK K hb5
    try simp only [Act.put, List.getElem_toArray, List.getElem_cons_zero, List.getElem_cons_succ, List.setIfInBounds_toArray, List.set_cons_zero, List.set_cons_succ]
    refine wpAnyH_take (i := 6) (v := .bool false) rfl (by kernel_rfl) (by kernel_rfl) (by kernel_rfl) (fun _ _ _ h => h) (Or.inl ⟨by rfl, ?_⟩) hHeld ?_
    · intro w' hSw
      go_simp <;> rfl
    try simp only [Act.put, List.getElem_toArray, List.getElem_cons_zero, List.getElem_cons_succ, List.setIfInBounds_toArray, List.set_cons_zero, List.set_cons_succ]
    refine wpAnyH_take (i := 7) (v := undef) rfl (by kernel_rfl) (by kernel_rfl) (by kernel_rfl) (fun _ _ _ h => h) (Or.inr ⟨by rfl, rfl⟩) hHeld ?_
    try simp only [Act.put, List.getElem_toArray, List.getElem_cons_zero, List.getElem_cons_succ, List.setIfInBounds_toArray, List.set_cons_zero, List.set_cons_succ]
    refine wpAnyH_take (i := 8) (v := undef) rfl (by kernel_rfl) (by kernel_rfl) (by kernel_rfl) (fun _ _ _ h => h) (Or.inr ⟨by rfl, rfl⟩) hHeld ?_
    try simp only [Act.put, List.getElem_toArray, List.getElem_cons_zero, List.getElem_cons_succ, List.setIfInBounds_toArray, List.set_cons_zero, List.set_cons_succ]
    refine wpAnyH_take (i := 9) (v := undef) rfl (by kernel_rfl) (by kernel_rfl) (by kernel_rfl) (fun _ _ _ h => h) (Or.inr ⟨by rfl, rfl⟩) hHeld ?_
    try simp only [Act.put, List.getElem_toArray, List.getElem_cons_zero, List.getElem_cons_succ, List.setIfInBounds_toArray, List.set_cons_zero, List.set_cons_succ]
    refine wpAnyH_take (i := 10) (v := undef) rfl (by kernel_rfl) (by kernel_rfl) (by kernel_rfl) (fun _ _ _ h => h) (Or.inr ⟨by rfl, rfl⟩) hHeld ?_
    try simp only [Act.put, List.getElem_toArray, List.getElem_cons_zero, List.getElem_cons_succ, List.setIfInBounds_toArray, List.set_cons_zero, List.set_cons_succ]
    refine wpAnyH_take (i := 11) (v := undef) rfl (by kernel_rfl) (by kernel_rfl) (by kernel_rfl) (fun _ _ _ h => h) (Or.inr ⟨by rfl, rfl⟩) hHeld ?_
    try simp only [Act.put, List.getElem_toArray, List.getElem_cons_zero, List.getElem_cons_succ, List.setIfInBounds_toArray, List.set_cons_zero, List.set_cons_succ]
    refine wpAnyH_take (i := 12) (v := undef) rfl (by kernel_rfl) (by kernel_rfl) (by kernel_rfl) (fun _ _ _ h => h) (Or.inr ⟨by rfl, rfl⟩) hHeld ?_
    try simp only [Act.put, List.getElem_toArray, List.getElem_cons_zero, List.getElem_cons_succ, List.setIfInBounds_toArray, List.set_cons_zero, List.set_cons_succ]
    refine wpAnyH_take (i := 13) (v := undef) rfl (by kernel_rfl) (by kernel_rfl) (by kernel_rfl) (fun _ _ _ h => h) (Or.inr ⟨by rfl, rfl⟩) hHeld ?_
    try simp only [Act.put, List.getElem_toArray, List.getElem_cons_zero, List.getElem_cons_succ, List.setIfInBounds_toArray, List.set_cons_zero, List.set_cons_succ]
    refine wpAnyH_take (i := 14) (v := undef) rfl (by kernel_rfl) (by kernel_rfl) (by kernel_rfl) (fun _ _ _ h => h) (Or.inr ⟨by rfl, rfl⟩) hHeld ?_
    try simp only [Act.put, List.getElem_toArray, List.getElem_cons_zero, List.getElem_cons_succ, List.setIfInBounds_toArray, List.set_cons_zero, List.set_cons_succ]
    refine wpAnyH_take (i := 15) (v := undef) rfl (by kernel_rfl) (by kernel_rfl) (by kernel_rfl) (fun _ _ _ h => h) (Or.inr ⟨by rfl, rfl⟩) hHeld ?_
    try simp only [Act.put, List.getElem_toArray, List.getElem_cons_zero, List.getElem_cons_succ, List.setIfInBounds_toArray, List.set_cons_zero, List.set_cons_succ]
    refine wpAnyH_take (i := 16) (v := undef) rfl (by kernel_rfl) (by kernel_rfl) (by kernel_rfl) (fun _ _ _ h => h) (Or.inr ⟨by rfl, rfl⟩) hHeld ?_
    try simp only [Act.put, List.getElem_toArray, List.getElem_cons_zero, List.getElem_cons_succ, List.setIfInBounds_toArray, List.set_cons_zero, List.set_cons_succ]
    refine wpAnyH_take (i := 17) (v := undef) rfl (by kernel_rfl) (by kernel_rfl) (by kernel_rfl) (fun _ _ _ h => h) (Or.inr ⟨by rfl, rfl⟩) hHeld ?_
    try simp only [Act.put, List.getElem_toArray, List.getElem_cons_zero, List.getElem_cons_succ, List.setIfInBounds_toArray, List.set_cons_zero, List.set_cons_succ]
    refine wpAnyH_take (i := 18) (v := undef) rfl (by kernel_rfl) (by kernel_rfl) (by kernel_rfl) (fun _ _ _ h => h) (Or.inr ⟨by rfl, rfl⟩) hHeld ?_
    try simp only [Act.put, List.getElem_toArray, List.getElem_cons_zero, List.getElem_cons_succ, List.setIfInBounds_toArray, List.set_cons_zero, List.set_cons_succ]
    refine wpAnyH_take (i := 19) (v := .bool false) rfl (by kernel_rfl) (by kernel_rfl) (by kernel_rfl) (fun _ _ _ h => h) (Or.inl ⟨by rfl, ?_⟩) hHeld ?_
    · intro w' hSw
      go_simp <;> rfl
    try simp only [Act.put, List.getElem_toArray, List.getElem_cons_zero, List.getElem_cons_succ, List.setIfInBounds_toArray, List.set_cons_zero, List.set_cons_succ]
    refine wpAnyH_done (by kernel_rfl) ?_ _
    clear hHeld HC3 HC4 y3
    have HA : Hid (A = (l.given, l.waits ++ [g], 1)) := by rw [Hid, HV2.out]; rfl
    clear HV2 HC5
    go_upto_region 8 with fail
    have hD : Below w.heap.size w d5.drew := (HBW.out _ N5).drew
    have D0 : Below W.heap.size W d5.drew := N5.drew
    refine wp_region_late (· == 10) (S := fun u => (u.cell? ⟨B, 0, none⟩ = some (.slice l.aG l.given.length l.cG) ∧ u.cell? ⟨B, 1, none⟩ = some (.slice l.aW l.waits.length l.cW)) ∧ (u.cell? ⟨w.heap.size, 0, none⟩ = some (.int .i64 g.tx) ∧ u.cell? ⟨w.heap.size, 1, none⟩ = some (.int .i64 g.res) ∧ u.cell? ⟨w.heap.size, 2, none⟩ = some (.int .i64 g.mode))) (by kernel_rfl) (HK.out _ D0) (fun hHeld => ?_)
    generalize d5.drew = e0 at *
    refine wpAnyL_take (i := 0) (v := .pointer (some ⟨B, 0, none⟩)) rfl (by kernel_rfl) (fun _ _ _ h => h) (Or.inl ⟨by rfl, ?_⟩) hHeld ?_
    · intro w' hSw
      go_simp <;> rfl
    try simp only [Act.put, List.getElem_toArray, List.getElem_cons_zero, List.setIfInBounds_toArray, List.set_cons_zero, List.set_cons_succ]
    refine wpAnyL_take (i := 1) (v := .pointer (some ⟨B, 0, none⟩)) rfl (by kernel_rfl) (fun _ _ _ h => h) (Or.inl ⟨by rfl, ?_⟩) hHeld ?_
    · intro w' hSw
      go_simp <;> rfl
    try simp only [Act.put, List.getElem_toArray, List.getElem_cons_zero, List.getElem_cons_succ, List.setIfInBounds_toArray, List.set_cons_zero, List.set_cons_succ]
    refine wpAnyL_take (i := 2) (v := .pointer (some ⟨B, 0, none⟩)) rfl (by kernel_rfl) (fun _ _ _ h => h) (Or.inl ⟨by rfl, ?_⟩) hHeld ?_
    · intro w' hSw
      go_simp <;> rfl
    try simp only [Act.put, List.getElem_toArray, List.getElem_cons_zero, List.getElem_cons_succ, List.setIfInBounds_toArray, List.set_cons_zero, List.set_cons_succ]
    refine wpAnyL_take (i := 3) (v := .pointer (some ⟨B, 1, none⟩)) rfl (by kernel_rfl) (fun _ _ _ h => h) (Or.inl ⟨by rfl, ?_⟩) hHeld ?_
    · intro w' hSw
      go_simp <;> rfl
    try simp only [Act.put, List.getElem_toArray, List.getElem_cons_zero, List.getElem_cons_succ, List.setIfInBounds_toArray, List.set_cons_zero, List.set_cons_succ]
    refine wpAnyL_take (i := 4) (v := .slice l.aW l.waits.length l.cW) rfl (by kernel_rfl) (fun _ _ _ h => h) (Or.inl ⟨by rfl, ?_⟩) hHeld ?_
    · intro w' hSw
      have hx := hSw.1.2
      go_simp <;> rfl
    try simp only [Act.put, List.getElem_toArray, List.getElem_cons_zero, List.getElem_cons_succ, List.setIfInBounds_toArray, List.set_cons_zero, List.set_cons_succ]
    refine wpAnyL_take (i := 5) (v := .agg #[.int .i64 g.tx, .int .i64 g.res, .int .i64 g.mode]) rfl (by kernel_rfl) (fun _ _ _ h => h) (Or.inl ⟨by rfl, ?_⟩) hHeld ?_
    · intro w' hSw
      obtain ⟨hx0, hx1, hx2⟩ := hSw.2
      go_simp <;> rfl
    try simp only [Act.put, List.getElem_toArray, List.getElem_cons_zero, List.getElem_cons_succ, List.setIfInBounds_toArray, List.set_cons_zero, List.set_cons_succ]
    refine wpAnyL_next 6 (by kernel_rfl) rfl (fun K hK => ?_)
    go_simp
    obtain ⟨W9, hW9, y9, hb9, hs9⟩ := boxes1 e0 [.int .i64 g.tx, .int .i64 g.res, .int .i64 g.mode] 37
    have r9 : ReadsG W9 (some ⟨e0.heap.size, 0, none⟩) [g] := by rw [← hW9.out]; exact readsG_one e0 g _
    try simp only at hW9 r9
    rw [hW9.out]
    have D9 : Below w.heap.size w W9 := hD.trans (hb9.mono hD.size)
    have o9 := (HL0.out.below D9).own.waits
    clear hs9 y9
    have D9b : Below W.heap.size W W9 := D0.trans (hb9.mono D0.size)
    refine hK.out _ _ ((HK.out _ (D0.trans (hb9.mono D0.size)))) (fun hHeld => ?_)
    clear hK K hW9 hb9
    try simp only [Act.put, List.getElem_toArray, List.getElem_cons_zero, List.getElem_cons_succ, List.setIfInBounds_toArray, List.set_cons_zero, List.set_cons_succ]
    refine wpAnyL_next 7 (by kernel_rfl) rfl (fun K hK => ?_)
    refine step_append_grants rfl (.tmp 51) (.tmp 53) rfl lo W9.heap.size l.aW l.cW l.waits rfl o9 _ _ [g] rfl r9 (fun h => by cases h) (by simp only [List.length_cons, List.length_nil]; omega) (by have := D9.size; omega) ?_
    intro a10 c10 y10 w10 hy10 o10 g10 k10
    obtain ⟨⟨f1, f2⟩, W3, hW3, hst⟩ := LkAt.setW (w := w) HL0.out D9 o10 g10 (fun k hk => by
      rcases k10 k hk with e | e
      · exact .inl e
      · exact .inr (by have := D9.size; omega))
    have HK10 : Hid (_) := fun k (hk : k < W9.heap.size) hn => g10.block k hk hn
    clear k10 r9 o9
    have hwg : w.heap.size ∉ l.blocks := fun hm => by have := (HL0.out.own.lt hm).2; omega
    have hb10 : Box w10 w.heap.size [.int .i64 g.tx, .int .i64 g.res, .int .i64 g.mode] 37 := (HBX.out _ D9b).block (g10.block _ (HBX.out _ D9b).lt (fun e => hwg (mem_blocksW e.symm)))
    have hbB : Box w10 B [.slice l.aG l.given.length l.cG, .slice l.aW l.waits.length l.cW] 30 := ((HL0.out.below D9).box).block (g10.block _ (HL0.out.below D9).box.lt (fun e => HL0.out.off (mem_blocksW e.symm)))
    have KS : (w10.cell? ⟨B, 0, none⟩ = some (.slice l.aG l.given.length l.cG) ∧ w10.cell? ⟨B, 1, none⟩ = some (.slice l.aW l.waits.length l.cW)) ∧ (w10.cell? ⟨w.heap.size, 0, none⟩ = some (.int .i64 g.tx) ∧ w10.cell? ⟨w.heap.size, 1, none⟩ = some (.int .i64 g.res) ∧ w10.cell? ⟨w.heap.size, 2, none⟩ = some (.int .i64 g.mode)) := ⟨⟨hbB.cell 0 _ rfl, f1⟩, hb10.cell 0 _ rfl, hb10.cell 1 _ rfl, hb10.cell 2 _ rfl⟩
    clear hb10 hwg hbB
    refine hK.out _ _ (KS) (fun hHeld => ?_)
    clear hK K 
    try simp only [Act.put, List.getElem_toArray, List.getElem_cons_zero, List.getElem_cons_succ, List.setIfInBounds_toArray, List.set_cons_zero, List.set_cons_succ]
    refine wpAnyL_next 8 (by kernel_rfl) rfl (fun K hK => ?_)
    go_simp
    refine hK.out _ _ (hHeld) (fun hHeld => ?_)
    clear hK K 
    try simp only [Act.put, List.getElem_toArray, List.getElem_cons_zero, List.getElem_cons_succ, List.setIfInBounds_toArray, List.set_cons_zero, List.set_cons_succ]
    refine wpAnyL_take (i := 9) (v := .pointer (some ⟨B, 1, none⟩)) rfl (by kernel_rfl) (fun _ _ _ h => h) (Or.inl ⟨by rfl, ?_⟩) hHeld ?_
    · intro w' hSw
      go_simp <;> rfl
    try simp only [Act.put, List.getElem_toArray, List.getElem_cons_zero, List.getElem_cons_succ, List.setIfInBounds_toArray, List.set_cons_zero, List.set_cons_succ]
    refine wpAnyL_last 10 (by kernel_rfl) rfl rfl (fun K hK => ?_)
    go_simp
    rw [hW3.out]
    refine hK.out _ _ ?_
    clear hK K
    refine wpAnyL_done (by kernel_rfl) ?_ _
    have e10 := hy10.out
    subst e10
    clear hHeld hW3 f1 f2 g10 o10 HK10 hy10 KS
    have HF : Hid (LkStep w W3 lo B l ⟨l.given, l.waits ++ [g], l.aG, l.cG, a10, c10⟩) := hst
    clear hst HK
    go_wp2_with fail
    go_ret
    exact ⟨⟨l.given, l.waits ++ [g], l.aG, l.cG, a10, c10⟩, ret_int (by rw [HA.out]), ⟨by rw [HA.out], by rw [HA.out]⟩, HF.out⟩
  | true =>
    by_cases hh0 : hs = 0
    · have hhs : (hs != 0) = false := by simp [hh0]
      clear hh0
      rw [hhs] at HV2
      cases wt with
      | false =>
        have D4 : Below W.heap.size W d3.drew := N3.drew
        refine wp_region_held_drew (S := fun u => (u.cell? ⟨B, 0, none⟩ = some (.slice l.aG l.given.length l.cG) ∧ u.cell? ⟨B, 1, none⟩ = some (.slice l.aW l.waits.length l.cW)) ∧ (u.cell? ⟨w.heap.size, 0, none⟩ = some (.int .i64 g.tx) ∧ u.cell? ⟨w.heap.size, 1, none⟩ = some (.int .i64 g.res) ∧ u.cell? ⟨w.heap.size, 2, none⟩ = some (.int .i64 g.mode))) (by kernel_rfl) (HK.out _ D4) (fun hHeld => ?_)
        generalize d3.drew = d4 at *
        refine wpAnyH_take (i := 0) (v := .pointer (some ⟨B, 0, none⟩)) rfl (by kernel_rfl) (by kernel_rfl) (by kernel_rfl) (fun _ _ _ h => h) (Or.inl ⟨by rfl, ?_⟩) hHeld ?_
        · intro w' hSw
          go_simp <;> rfl
        try simp only [Act.put, List.getElem_toArray, List.getElem_cons_zero, List.setIfInBounds_toArray, List.set_cons_zero, List.set_cons_succ]
        refine wpAnyH_take (i := 1) (v := .pointer (some ⟨B, 0, none⟩)) rfl (by kernel_rfl) (by kernel_rfl) (by kernel_rfl) (fun _ _ _ h => h) (Or.inl ⟨by rfl, ?_⟩) hHeld ?_
        · intro w' hSw
          go_simp <;> rfl
        try simp only [Act.put, List.getElem_toArray, List.getElem_cons_zero, List.getElem_cons_succ, List.setIfInBounds_toArray, List.set_cons_zero, List.set_cons_succ]
        refine wpAnyH_take (i := 2) (v := .agg #[.slice l.aG l.given.length l.cG, .slice l.aW l.waits.length l.cW]) rfl (by kernel_rfl) (by kernel_rfl) (by kernel_rfl) (fun _ _ _ h => h) (Or.inl ⟨by rfl, ?_⟩) hHeld ?_
        · intro w' hSw
          obtain ⟨hx0, hx1⟩ := hSw.1
          go_simp <;> rfl
        try simp only [Act.put, List.getElem_toArray, List.getElem_cons_zero, List.getElem_cons_succ, List.setIfInBounds_toArray, List.set_cons_zero, List.set_cons_succ]
        refine wpAnyH_take (i := 3) (v := .agg #[.int .i64 g.tx, .int .i64 g.res, .int .i64 g.mode]) rfl (by kernel_rfl) (by kernel_rfl) (by kernel_rfl) (fun _ _ _ h => h) (Or.inl ⟨by rfl, ?_⟩) hHeld ?_
        · intro w' hSw
          obtain ⟨hx0, hx1, hx2⟩ := hSw.2
          go_simp <;> rfl
        try simp only [Act.put, List.getElem_toArray, List.getElem_cons_zero, List.getElem_cons_succ, List.setIfInBounds_toArray, List.set_cons_zero, List.set_cons_succ]
        refine wpAnyH_take (i := 4) (v := .int .i64 m) rfl (by kernel_rfl) (by kernel_rfl) (by kernel_rfl) (fun _ _ _ h => h) (Or.inl ⟨by rfl, ?_⟩) hHeld ?_
        · intro w' hSw
          go_simp <;> rfl
        try simp only [Act.put, List.getElem_toArray, List.getElem_cons_zero, List.getElem_cons_succ, List.setIfInBounds_toArray, List.set_cons_zero, List.set_cons_succ]
        refine wpAnyH_ready (rs := [5]) (by kernel_rfl) (by simp) ?_
        refine AllReadyH.cons rfl (fun K hK => ?_) AllReadyH.nil
        go_simp
        refine (HC3.out _ D4).mono ?_
        rintro r d5 ⟨rfl, hb5⟩
        have N5 : Below W.heap.size W d5 := D4.trans (hb5.mono D4.size)
        refine hK.out _ _ (HK.out _ N5) (fun hHeld => ?_)
        clear hK K hb5
        try simp only [Act.put, List.getElem_toArray, List.getElem_cons_zero, List.getElem_cons_succ, List.setIfInBounds_toArray, List.set_cons_zero, List.set_cons_succ]
        refine wpAnyH_take (i := 6) (v := .bool true) rfl (by kernel_rfl) (by kernel_rfl) (by kernel_rfl) (fun _ _ _ h => h) (Or.inl ⟨by rfl, ?_⟩) hHeld ?_
        · intro w' hSw
          go_simp <;> rfl
        try simp only [Act.put, List.getElem_toArray, List.getElem_cons_zero, List.getElem_cons_succ, List.setIfInBounds_toArray, List.set_cons_zero, List.set_cons_succ]
        refine wpAnyH_take (i := 7) (v := .int .i64 hs) rfl (by kernel_rfl) (by kernel_rfl) (by kernel_rfl) (fun _ _ _ h => h) (Or.inl ⟨by rfl, ?_⟩) hHeld ?_
        · intro w' hSw
          go_simp <;> rfl
        try simp only [Act.put, List.getElem_toArray, List.getElem_cons_zero, List.getElem_cons_succ, List.setIfInBounds_toArray, List.set_cons_zero, List.set_cons_succ]
        refine wpAnyH_take (i := 8) (v := .bool false) rfl (by kernel_rfl) (by kernel_rfl) (by kernel_rfl) (fun _ _ _ h => h) (Or.inl ⟨by rfl, ?_⟩) hHeld ?_
        · intro w' hSw
          have hx := hhs
          go_simp <;> rfl
        try simp only [Act.put, List.getElem_toArray, List.getElem_cons_zero, List.getElem_cons_succ, List.setIfInBounds_toArray, List.set_cons_zero, List.set_cons_succ]
        refine wpAnyH_take (i := 9) (v := .bool false) rfl (by kernel_rfl) (by kernel_rfl) (by kernel_rfl) (fun _ _ _ h => h) (Or.inl ⟨by rfl, ?_⟩) hHeld ?_
        · intro w' hSw
          go_simp <;> rfl
        try simp only [Act.put, List.getElem_toArray, List.getElem_cons_zero, List.getElem_cons_succ, List.setIfInBounds_toArray, List.set_cons_zero, List.set_cons_succ]
        refine wpAnyH_take (i := 10) (v := .pointer (some ⟨B, 0, none⟩)) rfl (by kernel_rfl) (by kernel_rfl) (by kernel_rfl) (fun _ _ _ h => h) (Or.inl ⟨by rfl, ?_⟩) hHeld ?_
        · intro w' hSw
          go_simp <;> rfl
        try simp only [Act.put, List.getElem_toArray, List.getElem_cons_zero, List.getElem_cons_succ, List.setIfInBounds_toArray, List.set_cons_zero, List.set_cons_succ]
        refine wpAnyH_take (i := 11) (v := .pointer (some ⟨B, 0, none⟩)) rfl (by kernel_rfl) (by kernel_rfl) (by kernel_rfl) (fun _ _ _ h => h) (Or.inl ⟨by rfl, ?_⟩) hHeld ?_
        · intro w' hSw
          go_simp <;> rfl
        try simp only [Act.put, List.getElem_toArray, List.getElem_cons_zero, List.getElem_cons_succ, List.setIfInBounds_toArray, List.set_cons_zero, List.set_cons_succ]
        refine wpAnyH_take (i := 12) (v := .pointer (some ⟨B, 1, none⟩)) rfl (by kernel_rfl) (by kernel_rfl) (by kernel_rfl) (fun _ _ _ h => h) (Or.inl ⟨by rfl, ?_⟩) hHeld ?_
        · intro w' hSw
          go_simp <;> rfl
        try simp only [Act.put, List.getElem_toArray, List.getElem_cons_zero, List.getElem_cons_succ, List.setIfInBounds_toArray, List.set_cons_zero, List.set_cons_succ]
        refine wpAnyH_take (i := 13) (v := .slice l.aW l.waits.length l.cW) rfl (by kernel_rfl) (by kernel_rfl) (by kernel_rfl) (fun _ _ _ h => h) (Or.inl ⟨by rfl, ?_⟩) hHeld ?_
        · intro w' hSw
          have hx := hSw.1.2
          go_simp <;> rfl
        try simp only [Act.put, List.getElem_toArray, List.getElem_cons_zero, List.getElem_cons_succ, List.setIfInBounds_toArray, List.set_cons_zero, List.set_cons_succ]
        refine wpAnyH_take (i := 14) (v := .pointer (some ⟨w.heap.size, 1, none⟩)) rfl (by kernel_rfl) (by kernel_rfl) (by kernel_rfl) (fun _ _ _ h => h) (Or.inl ⟨by rfl, ?_⟩) hHeld ?_
        · intro w' hSw
          go_simp <;> rfl
        try simp only [Act.put, List.getElem_toArray, List.getElem_cons_zero, List.getElem_cons_succ, List.setIfInBounds_toArray, List.set_cons_zero, List.set_cons_succ]
        refine wpAnyH_take (i := 15) (v := .int .i64 g.res) rfl (by kernel_rfl) (by kernel_rfl) (by kernel_rfl) (fun _ _ _ h => h) (Or.inl ⟨by rfl, ?_⟩) hHeld ?_
        · intro w' hSw
          have hx := hSw.2.2.1
          go_simp <;> rfl
        try simp only [Act.put, List.getElem_toArray, List.getElem_cons_zero, List.getElem_cons_succ, List.setIfInBounds_toArray, List.set_cons_zero, List.set_cons_succ]
        refine wpAnyH_ready (rs := [16]) (by kernel_rfl) (by simp) ?_
        refine AllReadyH.cons rfl (fun K hK => ?_) AllReadyH.nil
        go_simp
        refine (HC4.out _ N5).mono ?_
        rintro r q6 ⟨rfl, rfl⟩
        refine hK.out _ _ (HK.out _ N5) (fun hHeld => ?_)
        clear hK K 
        try simp only [Act.put, List.getElem_toArray, List.getElem_cons_zero, List.getElem_cons_succ, List.setIfInBounds_toArray, List.set_cons_zero, List.set_cons_succ]
        refine wpAnyH_take (i := 17) (v := .bool true) rfl (by kernel_rfl) (by kernel_rfl) (by kernel_rfl) (fun _ _ _ h => h) (Or.inl ⟨by rfl, ?_⟩) hHeld ?_
        · intro w' hSw
          go_simp <;> rfl
        try simp only [Act.put, List.getElem_toArray, List.getElem_cons_zero, List.getElem_cons_succ, List.setIfInBounds_toArray, List.set_cons_zero, List.set_cons_succ]
        refine wpAnyH_take (i := 18) (v := .bool true) rfl (by kernel_rfl) (by kernel_rfl) (by kernel_rfl) (fun _ _ _ h => h) (Or.inl ⟨by rfl, ?_⟩) hHeld ?_
        · intro w' hSw
          go_simp <;> rfl
        try simp only [Act.put, List.getElem_toArray, List.getElem_cons_zero, List.getElem_cons_succ, List.setIfInBounds_toArray, List.set_cons_zero, List.set_cons_succ]
        refine wpAnyH_take (i := 19) (v := .bool true) rfl (by kernel_rfl) (by kernel_rfl) (by kernel_rfl) (fun _ _ _ h => h) (Or.inl ⟨by rfl, ?_⟩) hHeld ?_
        · intro w' hSw
          go_simp <;> rfl
        try simp only [Act.put, List.getElem_toArray, List.getElem_cons_zero, List.getElem_cons_succ, List.setIfInBounds_toArray, List.set_cons_zero, List.set_cons_succ]
        refine wpAnyH_done (by kernel_rfl) ?_ _
        clear hHeld HC3 HC4 y3
        have HA : Hid (A = (GV, l.waits, 0)) := by rw [Hid, HV2.out]; rfl
        clear HV2
        obtain ⟨z0, z1, z2⟩ := (HK.out _ N5).2
        have C := HC5.out _ N5
        have nw5 := HBW.out _ N5
        go_wp2_with fail
        refine C.mono ?_
        clear C
        rintro e w6 ⟨⟨v, rfl⟩, l', hl', hst⟩
        have HF : Hid (LkStep w w6 lo B l l') := (HL0.out.same nw5).trans hst
        go_wp2_with fail
        go_ret
        exact ⟨l', ret_int (by rw [HA.out]), ⟨by rw [HA.out]; exact hl'.out.1, by rw [HA.out]; exact hl'.out.2⟩, HF.out⟩
      | true =>
        have D4 : Below W.heap.size W d3.drew := N3.drew
        refine wp_region_held_drew (S := fun u => (u.cell? ⟨B, 0, none⟩ = some (.slice l.aG l.given.length l.cG) ∧ u.cell? ⟨B, 1, none⟩ = some (.slice l.aW l.waits.length l.cW)) ∧ (u.cell? ⟨w.heap.size, 0, none⟩ = some (.int .i64 g.tx) ∧ u.cell? ⟨w.heap.size, 1, none⟩ = some (.int .i64 g.res) ∧ u.cell? ⟨w.heap.size, 2, none⟩ = some (.int .i64 g.mode))) (by kernel_rfl) (HK.out _ D4) (fun hHeld => ?_)
        generalize d3.drew = d4 at *
        refine wpAnyH_take (i := 0) (v := .pointer (some ⟨B, 0, none⟩)) rfl (by kernel_rfl) (by kernel_rfl) (by kernel_rfl) (fun _ _ _ h => h) (Or.inl ⟨by rfl, ?_⟩) hHeld ?_
        · intro w' hSw
          go_simp <;> rfl
        try simp only [Act.put, List.getElem_toArray, List.getElem_cons_zero, List.setIfInBounds_toArray, List.set_cons_zero, List.set_cons_succ]
        refine wpAnyH_take (i := 1) (v := .pointer (some ⟨B, 0, none⟩)) rfl (by kernel_rfl) (by kernel_rfl) (by kernel_rfl) (fun _ _ _ h => h) (Or.inl ⟨by rfl, ?_⟩) hHeld ?_
        · intro w' hSw
          go_simp <;> rfl
        try simp only [Act.put, List.getElem_toArray, List.getElem_cons_zero, List.getElem_cons_succ, List.setIfInBounds_toArray, List.set_cons_zero, List.set_cons_succ]
        refine wpAnyH_take (i := 2) (v := .agg #[.slice l.aG l.given.length l.cG, .slice l.aW l.waits.length l.cW]) rfl (by kernel_rfl) (by kernel_rfl) (by kernel_rfl) (fun _ _ _ h => h) (Or.inl ⟨by rfl, ?_⟩) hHeld ?_
        · intro w' hSw
          obtain ⟨hx0, hx1⟩ := hSw.1
          go_simp <;> rfl
        try simp only [Act.put, List.getElem_toArray, List.getElem_cons_zero, List.getElem_cons_succ, List.setIfInBounds_toArray, List.set_cons_zero, List.set_cons_succ]
        refine wpAnyH_take (i := 3) (v := .agg #[.int .i64 g.tx, .int .i64 g.res, .int .i64 g.mode]) rfl (by kernel_rfl) (by kernel_rfl) (by kernel_rfl) (fun _ _ _ h => h) (Or.inl ⟨by rfl, ?_⟩) hHeld ?_
        · intro w' hSw
          obtain ⟨hx0, hx1, hx2⟩ := hSw.2
          go_simp <;> rfl
        try simp only [Act.put, List.getElem_toArray, List.getElem_cons_zero, List.getElem_cons_succ, List.setIfInBounds_toArray, List.set_cons_zero, List.set_cons_succ]
        refine wpAnyH_take (i := 4) (v := .int .i64 m) rfl (by kernel_rfl) (by kernel_rfl) (by kernel_rfl) (fun _ _ _ h => h) (Or.inl ⟨by rfl, ?_⟩) hHeld ?_
        · intro w' hSw
          go_simp <;> rfl
        try simp only [Act.put, List.getElem_toArray, List.getElem_cons_zero, List.getElem_cons_succ, List.setIfInBounds_toArray, List.set_cons_zero, List.set_cons_succ]
        refine wpAnyH_ready (rs := [5]) (by kernel_rfl) (by simp) ?_
        refine AllReadyH.cons rfl (fun K hK => ?_) AllReadyH.nil
        go_simp
        refine (HC3.out _ D4).mono ?_
        rintro r d5 ⟨rfl, hb5⟩
        have N5 : Below W.heap.size W d5 := D4.trans (hb5.mono D4.size)
        refine hK.out _ _ (HK.out _ N5) (fun hHeld => ?_)
        clear hK K hb5
        try simp only [Act.put, List.getElem_toArray, List.getElem_cons_zero, List.getElem_cons_succ, List.setIfInBounds_toArray, List.set_cons_zero, List.set_cons_succ]
        refine wpAnyH_take (i := 6) (v := .bool true) rfl (by kernel_rfl) (by kernel_rfl) (by kernel_rfl) (fun _ _ _ h => h) (Or.inl ⟨by rfl, ?_⟩) hHeld ?_
        · intro w' hSw
          go_simp <;> rfl
        try simp only [Act.put, List.getElem_toArray, List.getElem_cons_zero, List.getElem_cons_succ, List.setIfInBounds_toArray, List.set_cons_zero, List.set_cons_succ]
        refine wpAnyH_take (i := 7) (v := .int .i64 hs) rfl (by kernel_rfl) (by kernel_rfl) (by kernel_rfl) (fun _ _ _ h => h) (Or.inl ⟨by rfl, ?_⟩) hHeld ?_
        · intro w' hSw
          go_simp <;> rfl
        try simp only [Act.put, List.getElem_toArray, List.getElem_cons_zero, List.getElem_cons_succ, List.setIfInBounds_toArray, List.set_cons_zero, List.set_cons_succ]
        refine wpAnyH_take (i := 8) (v := .bool false) rfl (by kernel_rfl) (by kernel_rfl) (by kernel_rfl) (fun _ _ _ h => h) (Or.inl ⟨by rfl, ?_⟩) hHeld ?_
        · intro w' hSw
          have hx := hhs
          go_simp <;> rfl
        try simp only [Act.put, List.getElem_toArray, List.getElem_cons_zero, List.getElem_cons_succ, List.setIfInBounds_toArray, List.set_cons_zero, List.set_cons_succ]
        refine wpAnyH_take (i := 9) (v := .bool false) rfl (by kernel_rfl) (by kernel_rfl) (by kernel_rfl) (fun _ _ _ h => h) (Or.inl ⟨by rfl, ?_⟩) hHeld ?_
        · intro w' hSw
          go_simp <;> rfl
        try simp only [Act.put, List.getElem_toArray, List.getElem_cons_zero, List.getElem_cons_succ, List.setIfInBounds_toArray, List.set_cons_zero, List.set_cons_succ]
        refine wpAnyH_take (i := 10) (v := .pointer (some ⟨B, 0, none⟩)) rfl (by kernel_rfl) (by kernel_rfl) (by kernel_rfl) (fun _ _ _ h => h) (Or.inl ⟨by rfl, ?_⟩) hHeld ?_
        · intro w' hSw
          go_simp <;> rfl
        try simp only [Act.put, List.getElem_toArray, List.getElem_cons_zero, List.getElem_cons_succ, List.setIfInBounds_toArray, List.set_cons_zero, List.set_cons_succ]
        refine wpAnyH_take (i := 11) (v := .pointer (some ⟨B, 0, none⟩)) rfl (by kernel_rfl) (by kernel_rfl) (by kernel_rfl) (fun _ _ _ h => h) (Or.inl ⟨by rfl, ?_⟩) hHeld ?_
        · intro w' hSw
          go_simp <;> rfl
        try simp only [Act.put, List.getElem_toArray, List.getElem_cons_zero, List.getElem_cons_succ, List.setIfInBounds_toArray, List.set_cons_zero, List.set_cons_succ]
        refine wpAnyH_take (i := 12) (v := .pointer (some ⟨B, 1, none⟩)) rfl (by kernel_rfl) (by kernel_rfl) (by kernel_rfl) (fun _ _ _ h => h) (Or.inl ⟨by rfl, ?_⟩) hHeld ?_
        · intro w' hSw
          go_simp <;> rfl
        try simp only [Act.put, List.getElem_toArray, List.getElem_cons_zero, List.getElem_cons_succ, List.setIfInBounds_toArray, List.set_cons_zero, List.set_cons_succ]
        refine wpAnyH_take (i := 13) (v := .slice l.aW l.waits.length l.cW) rfl (by kernel_rfl) (by kernel_rfl) (by kernel_rfl) (fun _ _ _ h => h) (Or.inl ⟨by rfl, ?_⟩) hHeld ?_
        · intro w' hSw
          have hx := hSw.1.2
          go_simp <;> rfl
        try simp only [Act.put, List.getElem_toArray, List.getElem_cons_zero, List.getElem_cons_succ, List.setIfInBounds_toArray, List.set_cons_zero, List.set_cons_succ]
        refine wpAnyH_take (i := 14) (v := .pointer (some ⟨w.heap.size, 1, none⟩)) rfl (by kernel_rfl) (by kernel_rfl) (by kernel_rfl) (fun _ _ _ h => h) (Or.inl ⟨by rfl, ?_⟩) hHeld ?_
        · intro w' hSw
          go_simp <;> rfl
        try simp only [Act.put, List.getElem_toArray, List.getElem_cons_zero, List.getElem_cons_succ, List.setIfInBounds_toArray, List.set_cons_zero, List.set_cons_succ]
        refine wpAnyH_take (i := 15) (v := .int .i64 g.res) rfl (by kernel_rfl) (by kernel_rfl) (by kernel_rfl) (fun _ _ _ h => h) (Or.inl ⟨by rfl, ?_⟩) hHeld ?_
        · intro w' hSw
          have hx := hSw.2.2.1
          go_simp <;> rfl
        try simp only [Act.put, List.getElem_toArray, List.getElem_cons_zero, List.getElem_cons_succ, List.setIfInBounds_toArray, List.set_cons_zero, List.set_cons_succ]
        refine wpAnyH_ready (rs := [16]) (by kernel_rfl) (by simp) ?_
        refine AllReadyH.cons rfl (fun K hK => ?_) AllReadyH.nil
        go_simp
        refine (HC4.out _ N5).mono ?_
        rintro r q6 ⟨rfl, rfl⟩
        refine hK.out _ _ (HK.out _ N5) (fun hHeld => ?_)
        clear hK K 
        try simp only [Act.put, List.getElem_toArray, List.getElem_cons_zero, List.getElem_cons_succ, List.setIfInBounds_toArray, List.set_cons_zero, List.set_cons_succ]
        refine wpAnyH_take (i := 17) (v := .bool false) rfl (by kernel_rfl) (by kernel_rfl) (by kernel_rfl) (fun _ _ _ h => h) (Or.inl ⟨by rfl, ?_⟩) hHeld ?_
        · intro w' hSw
          go_simp <;> rfl
        try simp only [Act.put, List.getElem_toArray, List.getElem_cons_zero, List.getElem_cons_succ, List.setIfInBounds_toArray, List.set_cons_zero, List.set_cons_succ]
        refine wpAnyH_take (i := 18) (v := .bool false) rfl (by kernel_rfl) (by kernel_rfl) (by kernel_rfl) (fun _ _ _ h => h) (Or.inl ⟨by rfl, ?_⟩) hHeld ?_
        · intro w' hSw
          go_simp <;> rfl
        try simp only [Act.put, List.getElem_toArray, List.getElem_cons_zero, List.getElem_cons_succ, List.setIfInBounds_toArray, List.set_cons_zero, List.set_cons_succ]
        refine wpAnyH_take (i := 19) (v := .bool false) rfl (by kernel_rfl) (by kernel_rfl) (by kernel_rfl) (fun _ _ _ h => h) (Or.inl ⟨by rfl, ?_⟩) hHeld ?_
        · intro w' hSw
          go_simp <;> rfl
        try simp only [Act.put, List.getElem_toArray, List.getElem_cons_zero, List.getElem_cons_succ, List.setIfInBounds_toArray, List.set_cons_zero, List.set_cons_succ]
        refine wpAnyH_done (by kernel_rfl) ?_ _
        clear hHeld HC3 HC4 y3
        have HA : Hid (A = (l.given, l.waits ++ [g], 1)) := by rw [Hid, HV2.out]; rfl
        clear HV2 HC5
        go_upto_region 8 with fail
        have hD : Below w.heap.size w q6.drew := (HBW.out _ N5).drew
        have D0 : Below W.heap.size W q6.drew := N5.drew
        refine wp_region_late (· == 10) (S := fun u => (u.cell? ⟨B, 0, none⟩ = some (.slice l.aG l.given.length l.cG) ∧ u.cell? ⟨B, 1, none⟩ = some (.slice l.aW l.waits.length l.cW)) ∧ (u.cell? ⟨w.heap.size, 0, none⟩ = some (.int .i64 g.tx) ∧ u.cell? ⟨w.heap.size, 1, none⟩ = some (.int .i64 g.res) ∧ u.cell? ⟨w.heap.size, 2, none⟩ = some (.int .i64 g.mode))) (by kernel_rfl) (HK.out _ D0) (fun hHeld => ?_)
        generalize q6.drew = e0 at *
        refine wpAnyL_take (i := 0) (v := .pointer (some ⟨B, 0, none⟩)) rfl (by kernel_rfl) (fun _ _ _ h => h) (Or.inl ⟨by rfl, ?_⟩) hHeld ?_
        · intro w' hSw
          go_simp <;> rfl
        try simp only [Act.put, List.getElem_toArray, List.getElem_cons_zero, List.setIfInBounds_toArray, List.set_cons_zero, List.set_cons_succ]
        refine wpAnyL_take (i := 1) (v := .pointer (some ⟨B, 0, none⟩)) rfl (by kernel_rfl) (fun _ _ _ h => h) (Or.inl ⟨by rfl, ?_⟩) hHeld ?_
        · intro w' hSw
          go_simp <;> rfl
        try simp only [Act.put, List.getElem_toArray, List.getElem_cons_zero, List.getElem_cons_succ, List.setIfInBounds_toArray, List.set_cons_zero, List.set_cons_succ]
        refine wpAnyL_take (i := 2) (v := .pointer (some ⟨B, 0, none⟩)) rfl (by kernel_rfl) (fun _ _ _ h => h) (Or.inl ⟨by rfl, ?_⟩) hHeld ?_
        · intro w' hSw
          go_simp <;> rfl
        try simp only [Act.put, List.getElem_toArray, List.getElem_cons_zero, List.getElem_cons_succ, List.setIfInBounds_toArray, List.set_cons_zero, List.set_cons_succ]
        refine wpAnyL_take (i := 3) (v := .pointer (some ⟨B, 1, none⟩)) rfl (by kernel_rfl) (fun _ _ _ h => h) (Or.inl ⟨by rfl, ?_⟩) hHeld ?_
        · intro w' hSw
          go_simp <;> rfl
        try simp only [Act.put, List.getElem_toArray, List.getElem_cons_zero, List.getElem_cons_succ, List.setIfInBounds_toArray, List.set_cons_zero, List.set_cons_succ]
        refine wpAnyL_take (i := 4) (v := .slice l.aW l.waits.length l.cW) rfl (by kernel_rfl) (fun _ _ _ h => h) (Or.inl ⟨by rfl, ?_⟩) hHeld ?_
        · intro w' hSw
          have hx := hSw.1.2
          go_simp <;> rfl
        try simp only [Act.put, List.getElem_toArray, List.getElem_cons_zero, List.getElem_cons_succ, List.setIfInBounds_toArray, List.set_cons_zero, List.set_cons_succ]
        refine wpAnyL_take (i := 5) (v := .agg #[.int .i64 g.tx, .int .i64 g.res, .int .i64 g.mode]) rfl (by kernel_rfl) (fun _ _ _ h => h) (Or.inl ⟨by rfl, ?_⟩) hHeld ?_
        · intro w' hSw
          obtain ⟨hx0, hx1, hx2⟩ := hSw.2
          go_simp <;> rfl
        try simp only [Act.put, List.getElem_toArray, List.getElem_cons_zero, List.getElem_cons_succ, List.setIfInBounds_toArray, List.set_cons_zero, List.set_cons_succ]
        refine wpAnyL_next 6 (by kernel_rfl) rfl (fun K hK => ?_)
        go_simp
        obtain ⟨W9, hW9, y9, hb9, hs9⟩ := boxes1 e0 [.int .i64 g.tx, .int .i64 g.res, .int .i64 g.mode] 37
        have r9 : ReadsG W9 (some ⟨e0.heap.size, 0, none⟩) [g] := by rw [← hW9.out]; exact readsG_one e0 g _
        try simp only at hW9 r9
        rw [hW9.out]
        have D9 : Below w.heap.size w W9 := hD.trans (hb9.mono hD.size)
        have o9 := (HL0.out.below D9).own.waits
        clear hs9 y9
        have D9b : Below W.heap.size W W9 := D0.trans (hb9.mono D0.size)
        refine hK.out _ _ ((HK.out _ (D0.trans (hb9.mono D0.size)))) (fun hHeld => ?_)
        clear hK K hW9 hb9
        try simp only [Act.put, List.getElem_toArray, List.getElem_cons_zero, List.getElem_cons_succ, List.setIfInBounds_toArray, List.set_cons_zero, List.set_cons_succ]
        refine wpAnyL_next 7 (by kernel_rfl) rfl (fun K hK => ?_)
        refine step_append_grants rfl (.tmp 51) (.tmp 53) rfl lo W9.heap.size l.aW l.cW l.waits rfl o9 _ _ [g] rfl r9 (fun h => by cases h) (by simp only [List.length_cons, List.length_nil]; omega) (by have := D9.size; omega) ?_
        intro a10 c10 y10 w10 hy10 o10 g10 k10
        obtain ⟨⟨f1, f2⟩, W3, hW3, hst⟩ := LkAt.setW (w := w) HL0.out D9 o10 g10 (fun k hk => by
          rcases k10 k hk with e | e
          · exact .inl e
          · exact .inr (by have := D9.size; omega))
        have HK10 : Hid (_) := fun k (hk : k < W9.heap.size) hn => g10.block k hk hn
        clear k10 r9 o9
        have hwg : w.heap.size ∉ l.blocks := fun hm => by have := (HL0.out.own.lt hm).2; omega
        have hb10 : Box w10 w.heap.size [.int .i64 g.tx, .int .i64 g.res, .int .i64 g.mode] 37 := (HBX.out _ D9b).block (g10.block _ (HBX.out _ D9b).lt (fun e => hwg (mem_blocksW e.symm)))
        have hbB : Box w10 B [.slice l.aG l.given.length l.cG, .slice l.aW l.waits.length l.cW] 30 := ((HL0.out.below D9).box).block (g10.block _ (HL0.out.below D9).box.lt (fun e => HL0.out.off (mem_blocksW e.symm)))
        have KS : (w10.cell? ⟨B, 0, none⟩ = some (.slice l.aG l.given.length l.cG) ∧ w10.cell? ⟨B, 1, none⟩ = some (.slice l.aW l.waits.length l.cW)) ∧ (w10.cell? ⟨w.heap.size, 0, none⟩ = some (.int .i64 g.tx) ∧ w10.cell? ⟨w.heap.size, 1, none⟩ = some (.int .i64 g.res) ∧ w10.cell? ⟨w.heap.size, 2, none⟩ = some (.int .i64 g.mode)) := ⟨⟨hbB.cell 0 _ rfl, f1⟩, hb10.cell 0 _ rfl, hb10.cell 1 _ rfl, hb10.cell 2 _ rfl⟩
        clear hb10 hwg hbB
        refine hK.out _ _ (KS) (fun hHeld => ?_)
        clear hK K 
        try simp only [Act.put, List.getElem_toArray, List.getElem_cons_zero, List.getElem_cons_succ, List.setIfInBounds_toArray, List.set_cons_zero, List.set_cons_succ]
        refine wpAnyL_next 8 (by kernel_rfl) rfl (fun K hK => ?_)
        go_simp
        refine hK.out _ _ (hHeld) (fun hHeld => ?_)
        clear hK K 
        try simp only [Act.put, List.getElem_toArray, List.getElem_cons_zero, List.getElem_cons_succ, List.setIfInBounds_toArray, List.set_cons_zero, List.set_cons_succ]
        refine wpAnyL_take (i := 9) (v := .pointer (some ⟨B, 1, none⟩)) rfl (by kernel_rfl) (fun _ _ _ h => h) (Or.inl ⟨by rfl, ?_⟩) hHeld ?_
        · intro w' hSw
          go_simp <;> rfl
        try simp only [Act.put, List.getElem_toArray, List.getElem_cons_zero, List.getElem_cons_succ, List.setIfInBounds_toArray, List.set_cons_zero, List.set_cons_succ]
        refine wpAnyL_last 10 (by kernel_rfl) rfl rfl (fun K hK => ?_)
        go_simp
        rw [hW3.out]
        refine hK.out _ _ ?_
        clear hK K
        refine wpAnyL_done (by kernel_rfl) ?_ _
        have e10 := hy10.out
        subst e10
        clear hHeld hW3 f1 f2 g10 o10 HK10 hy10 KS
        have HF : Hid (LkStep w W3 lo B l ⟨l.given, l.waits ++ [g], l.aG, l.cG, a10, c10⟩) := hst
        clear hst HK
        go_wp2_with fail
        go_ret
        exact ⟨⟨l.given, l.waits ++ [g], l.aG, l.cG, a10, c10⟩, ret_int (by rw [HA.out]), ⟨by rw [HA.out], by rw [HA.out]⟩, HF.out⟩
    · have hhs : (hs != 0) = true := by simp [hh0]
      clear hh0
      rw [hhs] at HV2
      have D4 : Below W.heap.size W d3.drew := N3.drew
      refine wp_region_held_drew (S := fun u => (u.cell? ⟨B, 0, none⟩ = some (.slice l.aG l.given.length l.cG) ∧ u.cell? ⟨B, 1, none⟩ = some (.slice l.aW l.waits.length l.cW)) ∧ (u.cell? ⟨w.heap.size, 0, none⟩ = some (.int .i64 g.tx) ∧ u.cell? ⟨w.heap.size, 1, none⟩ = some (.int .i64 g.res) ∧ u.cell? ⟨w.heap.size, 2, none⟩ = some (.int .i64 g.mode))) (by kernel_rfl) (HK.out _ D4) (fun hHeld => ?_)
      generalize d3.drew = d4 at *
      refine wpAnyH_take (i := 0) (v := .pointer (some ⟨B, 0, none⟩)) rfl (by kernel_rfl) (by kernel_rfl) (by kernel_rfl) (fun _ _ _ h => h) (Or.inl ⟨by rfl, ?_⟩) hHeld ?_
      · intro w' hSw
        go_simp <;> rfl
      try simp only [Act.put, List.getElem_toArray, List.getElem_cons_zero, List.setIfInBounds_toArray, List.set_cons_zero, List.set_cons_succ]
      refine wpAnyH_take (i := 1) (v := .pointer (some ⟨B, 0, none⟩)) rfl (by kernel_rfl) (by kernel_rfl) (by kernel_rfl) (fun _ _ _ h => h) (Or.inl ⟨by rfl, ?_⟩) hHeld ?_
      · intro w' hSw
        go_simp <;> rfl
      try simp only [Act.put, List.getElem_toArray, List.getElem_cons_zero, List.getElem_cons_succ, List.setIfInBounds_toArray, List.set_cons_zero, List.set_cons_succ]
      refine wpAnyH_take (i := 2) (v := .agg #[.slice l.aG l.given.length l.cG, .slice l.aW l.waits.length l.cW]) rfl (by kernel_rfl) (by kernel_rfl) (by kernel_rfl) (fun _ _ _ h => h) (Or.inl ⟨by rfl, ?_⟩) hHeld ?_
      · intro w' hSw
        obtain ⟨hx0, hx1⟩ := hSw.1
        go_simp <;> rfl
      try simp only [Act.put, List.getElem_toArray, List.getElem_cons_zero, List.getElem_cons_succ, List.setIfInBounds_toArray, List.set_cons_zero, List.set_cons_succ]
      refine wpAnyH_take (i := 3) (v := .agg #[.int .i64 g.tx, .int .i64 g.res, .int .i64 g.mode]) rfl (by kernel_rfl) (by kernel_rfl) (by kernel_rfl) (fun _ _ _ h => h) (Or.inl ⟨by rfl, ?_⟩) hHeld ?_
      · intro w' hSw
        obtain ⟨hx0, hx1, hx2⟩ := hSw.2
        go_simp <;> rfl
      try simp only [Act.put, List.getElem_toArray, List.getElem_cons_zero, List.getElem_cons_succ, List.setIfInBounds_toArray, List.set_cons_zero, List.set_cons_succ]
      refine wpAnyH_take (i := 4) (v := .int .i64 m) rfl (by kernel_rfl) (by kernel_rfl) (by kernel_rfl) (fun _ _ _ h => h) (Or.inl ⟨by rfl, ?_⟩) hHeld ?_
      · intro w' hSw
        go_simp <;> rfl
      try simp only [Act.put, List.getElem_toArray, List.getElem_cons_zero, List.getElem_cons_succ, List.setIfInBounds_toArray, List.set_cons_zero, List.set_cons_succ]
      refine wpAnyH_ready (rs := [5]) (by kernel_rfl) (by simp) ?_
      refine AllReadyH.cons rfl (fun K hK => ?_) AllReadyH.nil
      go_simp
      refine (HC3.out _ D4).mono ?_
      rintro r d5 ⟨rfl, hb5⟩
      have N5 : Below W.heap.size W d5 := D4.trans (hb5.mono D4.size)
      refine hK.out _ _ (HK.out _ N5) (fun hHeld => ?_)
      clear hK K hb5
      try simp only [Act.put, List.getElem_toArray, List.getElem_cons_zero, List.getElem_cons_succ, List.setIfInBounds_toArray, List.set_cons_zero, List.set_cons_succ]
      refine wpAnyH_take (i := 6) (v := .bool true) rfl (by kernel_rfl) (by kernel_rfl) (by kernel_rfl) (fun _ _ _ h => h) (Or.inl ⟨by rfl, ?_⟩) hHeld ?_
      · intro w' hSw
        go_simp <;> rfl
      try simp only [Act.put, List.getElem_toArray, List.getElem_cons_zero, List.getElem_cons_succ, List.setIfInBounds_toArray, List.set_cons_zero, List.set_cons_succ]
      refine wpAnyH_take (i := 7) (v := .int .i64 hs) rfl (by kernel_rfl) (by kernel_rfl) (by kernel_rfl) (fun _ _ _ h => h) (Or.inl ⟨by rfl, ?_⟩) hHeld ?_
      · intro w' hSw
        go_simp <;> rfl
      try simp only [Act.put, List.getElem_toArray, List.getElem_cons_zero, List.getElem_cons_succ, List.setIfInBounds_toArray, List.set_cons_zero, List.set_cons_succ]
      refine wpAnyH_take (i := 8) (v := .bool true) rfl (by kernel_rfl) (by kernel_rfl) (by kernel_rfl) (fun _ _ _ h => h) (Or.inl ⟨by rfl, ?_⟩) hHeld ?_
      · intro w' hSw
        have hx := hhs
        go_simp <;> rfl
      try simp only [Act.put, List.getElem_toArray, List.getElem_cons_zero, List.getElem_cons_succ, List.setIfInBounds_toArray, List.set_cons_zero, List.set_cons_succ]
      refine wpAnyH_take (i := 9) (v := .bool true) rfl (by kernel_rfl) (by kernel_rfl) (by kernel_rfl) (fun _ _ _ h => h) (Or.inl ⟨by rfl, ?_⟩) hHeld ?_
      · intro w' hSw
        go_simp <;> rfl
      try simp only [Act.put, List.getElem_toArray, List.getElem_cons_zero, List.getElem_cons_succ, List.setIfInBounds_toArray, List.set_cons_zero, List.set_cons_succ]
      refine wpAnyH_take (i := 10) (v := undef) rfl (by kernel_rfl) (by kernel_rfl) (by kernel_rfl) (fun _ _ _ h => h) (Or.inr ⟨by rfl, rfl⟩) hHeld ?_
      try simp only [Act.put, List.getElem_toArray, List.getElem_cons_zero, List.getElem_cons_succ, List.setIfInBounds_toArray, List.set_cons_zero, List.set_cons_succ]
      refine wpAnyH_take (i := 11) (v := undef) rfl (by kernel_rfl) (by kernel_rfl) (by kernel_rfl) (fun _ _ _ h => h) (Or.inr ⟨by rfl, rfl⟩) hHeld ?_
      try simp only [Act.put, List.getElem_toArray, List.getElem_cons_zero, List.getElem_cons_succ, List.setIfInBounds_toArray, List.set_cons_zero, List.set_cons_succ]
      refine wpAnyH_take (i := 12) (v := undef) rfl (by kernel_rfl) (by kernel_rfl) (by kernel_rfl) (fun _ _ _ h => h) (Or.inr ⟨by rfl, rfl⟩) hHeld ?_
      try simp only [Act.put, List.getElem_toArray, List.getElem_cons_zero, List.getElem_cons_succ, List.setIfInBounds_toArray, List.set_cons_zero, List.set_cons_succ]
      refine wpAnyH_take (i := 13) (v := undef) rfl (by kernel_rfl) (by kernel_rfl) (by kernel_rfl) (fun _ _ _ h => h) (Or.inr ⟨by rfl, rfl⟩) hHeld ?_
      try simp only [Act.put, List.getElem_toArray, List.getElem_cons_zero, List.getElem_cons_succ, List.setIfInBounds_toArray, List.set_cons_zero, List.set_cons_succ]
      refine wpAnyH_take (i := 14) (v := undef) rfl (by kernel_rfl) (by kernel_rfl) (by kernel_rfl) (fun _ _ _ h => h) (Or.inr ⟨by rfl, rfl⟩) hHeld ?_
      try simp only [Act.put, List.getElem_toArray, List.getElem_cons_zero, List.getElem_cons_succ, List.setIfInBounds_toArray, List.set_cons_zero, List.set_cons_succ]
      refine wpAnyH_take (i := 15) (v := undef) rfl (by kernel_rfl) (by kernel_rfl) (by kernel_rfl) (fun _ _ _ h => h) (Or.inr ⟨by rfl, rfl⟩) hHeld ?_
      try simp only [Act.put, List.getElem_toArray, List.getElem_cons_zero, List.getElem_cons_succ, List.setIfInBounds_toArray, List.set_cons_zero, List.set_cons_succ]
      refine wpAnyH_take (i := 16) (v := undef) rfl (by kernel_rfl) (by kernel_rfl) (by kernel_rfl) (fun _ _ _ h => h) (Or.inr ⟨by rfl, rfl⟩) hHeld ?_
      try simp only [Act.put, List.getElem_toArray, List.getElem_cons_zero, List.getElem_cons_succ, List.setIfInBounds_toArray, List.set_cons_zero, List.set_cons_succ]
      refine wpAnyH_take (i := 17) (v := undef) rfl (by kernel_rfl) (by kernel_rfl) (by kernel_rfl) (fun _ _ _ h => h) (Or.inr ⟨by rfl, rfl⟩) hHeld ?_
      try simp only [Act.put, List.getElem_toArray, List.getElem_cons_zero, List.getElem_cons_succ, List.setIfInBounds_toArray, List.set_cons_zero, List.set_cons_succ]
      refine wpAnyH_take (i := 18) (v := .bool true) rfl (by kernel_rfl) (by kernel_rfl) (by kernel_rfl) (fun _ _ _ h => h) (Or.inl ⟨by rfl, ?_⟩) hHeld ?_
      · intro w' hSw
        go_simp <;> rfl
      try simp only [Act.put, List.getElem_toArray, List.getElem_cons_zero, List.getElem_cons_succ, List.setIfInBounds_toArray, List.set_cons_zero, List.set_cons_succ]
      refine wpAnyH_take (i := 19) (v := .bool true) rfl (by kernel_rfl) (by kernel_rfl) (by kernel_rfl) (fun _ _ _ h => h) (Or.inl ⟨by rfl, ?_⟩) hHeld ?_
      · intro w' hSw
        go_simp <;> rfl
      try simp only [Act.put, List.getElem_toArray, List.getElem_cons_zero, List.getElem_cons_succ, List.setIfInBounds_toArray, List.set_cons_zero, List.set_cons_succ]
      refine wpAnyH_done (by kernel_rfl) ?_ _
      clear hHeld HC3 HC4 y3
      have HA : Hid (A = (GV, l.waits, 0)) := by rw [Hid, HV2.out]; rfl
      clear HV2
      obtain ⟨z0, z1, z2⟩ := (HK.out _ N5).2
      have C := HC5.out _ N5
      have nw5 := HBW.out _ N5
      go_wp2_with fail
      refine C.mono ?_
      clear C
      rintro e w6 ⟨⟨v, rfl⟩, l', hl', hst⟩
      have HF : Hid (LkStep w w6 lo B l l') := (HL0.out.same nw5).trans hst
      go_wp2_with fail
      go_ret
      exact ⟨l', ret_int (by rw [HA.out]), ⟨by rw [HA.out]; exact hl'.out.1, by rw [HA.out]; exact hl'.out.2⟩, HF.out⟩
end Go.Proofs.YtekljhabjkmhpaaDoor

/- The walk of spec.l9Back. -/
namespace Go.Proofs.YtekljhabjkmhpaaDoor
open Go.RowKit

theorem append_intsF {w : World} {ops : Array Oper} {rest : List Oper} {o : Oper} {act : Act} {Q : Exit → Act → World → Prop} (hgd : o.guard = none) (s x : Operand)
    (ho : o.op = .call { callee := .builtin .append, args := #[s, x], argTypes := #[40, 40] })
    (lo hi : Nat) (a : Option Addr) (c : Nat) (xs : List Int) (hs : act.eval s = .slice a xs.length c) (hown : OwnI w lo hi a c xs)
    (sa : Option Addr) (sc : Nat) (zs : List Int) (hx : act.eval x = .slice sa zs.length sc) (hr : ReadsI w sa zs) (hc : sa = none → sc = 0)
    (hb : xs.length + zs.length ≤ 1099511627776) (hlo : lo ≤ w.heap.size)
    (h : ∀ a' c' ys w', Hid (ys = xs ++ zs) → OwnI w' lo w'.heap.size a' c' ys → w.grownBy w' (Value.slice a xs.length c).ownBlock → (∀ k, (Value.slice a' ys.length c').ownBlock = some k → (Value.slice a xs.length c).ownBlock = some k ∨ k = w.heap.size) → wpList Tryd.prog ops Q rest (act.put o.dst (.slice a' ys.length c')) w') :
    wpList Tryd.prog ops Q (o :: rest) act w := by
  obtain ⟨a', c', ys, w', hrun, h1, h2, h3, h4⟩ := run_append_ints (w := w) o.type lo hi a c xs hown sa sc zs hr hc hb hlo
  refine wpList_plain hgd fun K hK => ?_
  unfold Oper.wp execOp
  simp only [ho, resolve, invoke, builtin, Sem.run_bind, Sem.run_pure, Result.andThen_ok, List.map_toArray, List.map_cons, List.map_nil, hs, hx, hrun]
  exact hK _ _ (h a' c' ys w' h1 h2 h3 h4)
end Go.Proofs.YtekljhabjkmhpaaDoor
