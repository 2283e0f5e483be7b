/- Several texts in one, in their order. -/
import Derived.Test.YtekljhabjkmhpaaDoorPFnLockedx15
/- The walk of (*impl.Locks).ask. -/
namespace Go.Proofs.YtekljhabjkmhpaaDoor
open Go.RowKit

/-- What the program's ask makes, where no list is full. -/
def askI (G V : List GrantV) (g : GrantV) : List GrantV × List GrantV × Int :=
  if (decide (0 ≤ placeZ (atB g.tx g.res) G) && ((G.getD (placeZ (atB g.tx g.res) G).toNat zeroG).mode == wouldZ G g)) = true then (G, V, 0)
  else if (!G.any (barsB ⟨g.tx, g.res, wouldZ G g⟩) && (decide (0 ≤ placeZ (atB g.tx g.res) G) || !V.any (fun h => h.res == g.res))) = true then (giveV G g (wouldZ G g), V, 0)
  else (G, V ++ [g], 1)
def AskAns (lo B : Nat) (l : LocksA) (A : List GrantV × List GrantV × Int) (w : World) (e : Ending) (w' : World) : Prop := ∃ l' : LocksA, e = .returned (.int .i64 A.2.2) ∧ l'.given = A.1 ∧ l'.waits = A.2.1 ∧ LkStep w w' lo B l l'

set_option maxHeartbeats 8000000 in
set_option maxRecDepth 100000 in
theorem implAsk1_any (lo B : Nat) (l : LocksA) (g : GrantV) (w : World) (hTG : TabGo w) (hTB : TabBoth w) (h : LkAt w lo B l) (hlo : lo ≤ w.heap.size) (hlen : l.given.length < 60 ∧ l.waits.length < 60) :
    Calls Tryd.prog 40 #[.pointer (some ⟨B, 0, none⟩), .agg #[.int .i64 g.tx, .int .i64 g.res, .int .i64 g.mode]] w fun e w' => AskAns lo B l (askI l.given l.waits g) w e w' := by
  obtain ⟨W, hW, b1, hbW, hsW⟩ := boxes1 w [.int .i64 g.tx, .int .i64 g.res, .int .i64 g.mode] 37
  have hs1 := b1.lt
  have hBw := h.box.lt
  have hL0 := h.below hbW
  have C := wouldHave_any B l.given l.aG l.cG g W (hTB.keep hbW) (hL0.box.cell 0 _ rfl) hL0.own.given.reads (by omega)
  have z0 := b1.cell 0 _ rfl
  have z1 := b1.cell 1 _ rfl
  have z2 := b1.cell 2 _ rfl
  have HV : Hid (askI l.given l.waits g = if (decide (0 ≤ placeZ (atB g.tx g.res) l.given) && ((l.given.getD (placeZ (atB g.tx g.res) l.given).toNat zeroG).mode == wouldZ l.given g)) = true then (l.given, l.waits, 0) else if (!l.given.any (barsB ⟨g.tx, g.res, wouldZ l.given g⟩) && (decide (0 ≤ placeZ (atB g.tx g.res) l.given) || !l.waits.any (fun h => h.res == g.res))) = true then (giveV l.given g (wouldZ l.given g), l.waits, 0) else (l.given, l.waits ++ [g], 1)) := rfl
  obtain ⟨A, HAA⟩ : ∃ A, Hid (askI l.given l.waits g = A) := ⟨_, rfl⟩
  obtain ⟨m, HM⟩ : ∃ m, Hid (wouldZ l.given g = m) := ⟨_, rfl⟩
  rw [HAA.out, HM.out] at HV
  rw [HAA.out]
  rw [HM.out] at C
  clear HAA
  go_enter Tryd.func40, Tryd.ntmps40
  go_upto_region 1 with fail
  rw [hW.out]
  clear hW
  go_wp2_with fail
  refine C.mono ?_
  clear C z0 z1 z2
  rintro e w1 ⟨rfl, hb1⟩
  obtain ⟨V1, hV1, b2, hbV1, hsV1⟩ := boxes1 w1 [.int .i64 g.tx, .int .i64 g.res, .int .i64 m] 37
  have hs2 := b2.lt
  have D1 : Below W.heap.size W V1 := hb1.trans (hbV1.mono hb1.size)
  have b1V := b1.below D1 hs1
  have hsb := b1V.lt
  have HBW : Hid (∀ u, Below V1.heap.size V1 u → Below w.heap.size w u) := fun u hu => (hbW.trans (D1.mono hbW.size)).trans (hu.mono (by have := hbW.size; have := D1.size; omega))
  have HLK : Hid (∀ u, Below V1.heap.size V1 u → LkAt u lo B l) := fun u hu => h.below (HBW.out u hu)
  have HL0 : Hid (LkAt w lo B l) := h
  have HK : Hid (∀ u, Below V1.heap.size V1 u → (u.cell? ⟨B, 0, none⟩ = some (.slice l.aG l.given.length l.cG) ∧ u.cell? ⟨B, 1, none⟩ = some (.slice l.aW l.waits.length l.cW)) ∧ (u.cell? ⟨w.heap.size, 0, none⟩ = some (.int .i64 g.tx) ∧ u.cell? ⟨w.heap.size, 1, none⟩ = some (.int .i64 g.res) ∧ u.cell? ⟨w.heap.size, 2, none⟩ = some (.int .i64 g.mode)) ∧ (u.cell? ⟨w1.heap.size, 0, none⟩ = some (.int .i64 g.tx) ∧ u.cell? ⟨w1.heap.size, 1, none⟩ = some (.int .i64 g.res) ∧ u.cell? ⟨w1.heap.size, 2, none⟩ = some (.int .i64 m))) := fun u hu =>
    ⟨⟨(HLK.out u hu).box.cell 0 _ rfl, (HLK.out u hu).box.cell 1 _ rfl⟩, ⟨(b1V.below hu hsb).cell 0 _ rfl, (b1V.below hu hsb).cell 1 _ rfl, (b1V.below hu hsb).cell 2 _ rfl⟩, (b2.below hu hs2).cell 0 _ rfl, (b2.below hu hs2).cell 1 _ rfl, (b2.below hu hs2).cell 2 _ rfl⟩
  have HB2 : Hid (∀ u, Below V1.heap.size V1 u → Box u w.heap.size [.int .i64 g.tx, .int .i64 g.res, .int .i64 g.mode] 37 ∧ Box u w1.heap.size [.int .i64 g.tx, .int .i64 g.res, .int .i64 m] 37) := fun u hu => ⟨b1V.below hu hsb, b2.below hu hs2⟩
  have HC1 : Hid (∀ u, Below V1.heap.size V1 u → Calls Tryd.prog 60 #[.slice l.aW l.waits.length l.cW, .int .i64 g.res] u fun e w' => e = .returned (.bool (l.waits.any (fun h => h.res == g.res))) ∧ Below u.heap.size u w') := fun u hu => isWanted_any _ _ _ _ u (HLK.out u hu).own.waits.reads (by omega)
  have HC2 : Hid (∀ u, Below V1.heap.size V1 u → Calls Tryd.prog 46 #[.slice l.aG l.given.length l.cG, .agg #[.int .i64 g.tx, .int .i64 g.res, .int .i64 m]] u fun e w' => e = .returned (.bool (!l.given.any (barsB ⟨g.tx, g.res, m⟩))) ∧ Below u.heap.size u w') := fun u hu => goesWith_any l.aG l.cG l.given ⟨g.tx, g.res, m⟩ u (hTG.keep (HBW.out u hu)) (HLK.out u hu).own.given.reads (by omega)
  have HC3 : Hid (∀ u, Below V1.heap.size V1 u → Calls Tryd.prog 61 #[.pointer (some ⟨B, 0, none⟩), .agg #[.int .i64 g.tx, .int .i64 g.res, .int .i64 m], .int .i64 (placeZ (atB g.tx g.res) l.given)] u fun e w' => GiveAns lo B l (giveV l.given g m) (¬ 0 ≤ placeZ (atB g.tx g.res) l.given ∧ l.given.length = 60) u e w') := fun u hu => give_any lo B l ⟨g.tx, g.res, m⟩ u (HLK.out u hu) (by have := (HBW.out u hu).size; omega) (by omega)
  have HBl : Hid (w.heap.size ∉ l.blocks ∧ w1.heap.size ∉ l.blocks ∧ w.heap.size ≠ B ∧ w1.heap.size ≠ B) := by
    have h1 := hb1.size
    have h2 := hbW.size
    refine ⟨fun hm => ?_, fun hm => ?_, by omega, by omega⟩
    · have := (h.own.lt hm).2; omega
    · have := (h.own.lt hm).2; omega
  have HRW : Hid (0 ≤ placeZ (atB g.tx g.res) l.given → ∃ (k : Nat) (gb : Nat), placeZ (atB g.tx g.res) l.given = k ∧ k < l.given.length ∧ l.aG = some ⟨gb, 0, none⟩ ∧ ∀ u, Below V1.heap.size V1 u → u.cell? ⟨gb, k * 3, none⟩ = some (.int .i64 g.tx) ∧ u.cell? ⟨gb, k * 3 + 1, none⟩ = some (.int .i64 g.res) ∧ u.cell? ⟨gb, k * 3 + 2, none⟩ = some (.int .i64 (l.given.getD k zeroG).mode)) := fun hp => by
    obtain ⟨k, hk, e⟩ := placeZ_lt hp
    obtain ⟨_, hat, _⟩ := placeZ_at e zeroG
    have hxy : (l.given.getD k zeroG).tx = g.tx ∧ (l.given.getD k zeroG).res = g.res := by simpa [atB] using hat
    rcases h.own.given.1.2 with ⟨_, h0⟩ | ⟨gb, cap', cur, hv, _⟩
    · omega
    · simp only [Value.slice.injEq] at hv
      refine ⟨k, gb, e, hk, hv.1, fun u hu => ?_⟩
      have hr := (HLK.out u hu).own.given.1
      rw [hv.1] at hr
      obtain ⟨k0, k1, k2, _⟩ := row_grant hr rfl k hk
      rw [hxy.1] at k0
      rw [hxy.2] at k1
      exact ⟨k0, k1, k2⟩
  have HNE : Hid (¬ l.given.length = 60) := by rw [Hid]; omega
  have hwl : (l.waits.length : Int) < 60 := by omega
  clear b1 b2 b1V hbW hsW hb1 hbV1 hsV1 hL0 h D1 HM
  generalize (!l.given.any (barsB ⟨g.tx, g.res, m⟩)) = ft at *
  generalize l.waits.any (fun h => h.res == g.res) = wt at *
  generalize giveV l.given g m = GV at *
  go_upto_region 2 with fail
  rw [hV1.out]
  clear hV1
  have N0 : Below V1.heap.size V1 V1 := Below.refl _ _
  by_cases hp : 0 ≤ placeZ (atB g.tx g.res) l.given
  · obtain ⟨k, gb, hk, hkl, hgb, hrow⟩ := HRW.out hp
    have HGB : Hid (l.aG = some ⟨gb, 0, none⟩) := hgb
    have hpk : (0 : Int) ≤ (k : Int) := by omega
    have hkI : (k : Int) < (l.given.length : Int) := by omega
    have HKG : Hid (∀ u, Below V1.heap.size V1 u → (u.cell? ⟨B, 0, none⟩ = some (.slice (some ⟨gb, 0, none⟩) l.given.length l.cG) ∧ u.cell? ⟨B, 1, none⟩ = some (.slice l.aW l.waits.length l.cW)) ∧ (u.cell? ⟨w.heap.size, 0, none⟩ = some (.int .i64 g.tx) ∧ u.cell? ⟨w.heap.size, 1, none⟩ = some (.int .i64 g.res) ∧ u.cell? ⟨w.heap.size, 2, none⟩ = some (.int .i64 g.mode)) ∧ (u.cell? ⟨w1.heap.size, 0, none⟩ = some (.int .i64 g.tx) ∧ u.cell? ⟨w1.heap.size, 1, none⟩ = some (.int .i64 g.res) ∧ u.cell? ⟨w1.heap.size, 2, none⟩ = some (.int .i64 m))) := fun u hu => by rw [← HGB.out]; exact HK.out u hu
    rw [hk, decide_eq_true hpk, Int.toNat_natCast] at HV
    rw [hk] at HC3 ⊢
    obtain ⟨om, HOM⟩ : ∃ om, Hid ((l.given.getD k zeroG).mode = om) := ⟨_, rfl⟩
    rw [HOM.out] at HV hrow
    have HRR : Hid (_) := hrow
    clear HOM hrow hgb HRW hp hk
    by_cases hom' : om = m
    · have hom : (om == m) = true := by simp [hom']
      have HA : Hid (A = (l.given, l.waits, 0)) := by rw [Hid, HV.out, if_pos (by rw [hom]; rfl)]
      clear HV hom' HC1 HC2 HC3
      have D0 : Below V1.heap.size V1 V1.drew := N0.drew
      refine wp_region_held_drew (S := fun u => ((u.cell? ⟨B, 0, none⟩ = some (.slice (some ⟨gb, 0, none⟩) l.given.length l.cG) ∧ u.cell? ⟨B, 1, none⟩ = some (.slice l.aW l.waits.length l.cW)) ∧ (u.cell? ⟨w.heap.size, 0, none⟩ = some (.int .i64 g.tx) ∧ u.cell? ⟨w.heap.size, 1, none⟩ = some (.int .i64 g.res) ∧ u.cell? ⟨w.heap.size, 2, none⟩ = some (.int .i64 g.mode)) ∧ (u.cell? ⟨w1.heap.size, 0, none⟩ = some (.int .i64 g.tx) ∧ u.cell? ⟨w1.heap.size, 1, none⟩ = some (.int .i64 g.res) ∧ u.cell? ⟨w1.heap.size, 2, none⟩ = some (.int .i64 m))) ∧ (u.cell? ⟨gb, k * 3, none⟩ = some (.int .i64 g.tx) ∧ u.cell? ⟨gb, k * 3 + 1, none⟩ = some (.int .i64 g.res) ∧ u.cell? ⟨gb, k * 3 + 2, none⟩ = some (.int .i64 om))) (by kernel_rfl) ⟨HKG.out _ D0, HRR.out _ D0⟩ (fun hHeld => ?_)
      generalize V1.drew = d0 at *
      refine wpAnyH_take (i := 0) (v := .int .i64 (k : Int)) rfl (by kernel_rfl) (by kernel_rfl) (by kernel_rfl) (fun _ _ _ h => h) (Or.inl ⟨by rfl, ?_⟩) hHeld ?_
      · intro w' hSw
        go_simp <;> rfl
      try simp only [Act.put, List.getElem_toArray, List.getElem_cons_zero, List.setIfInBounds_toArray, List.set_cons_zero, List.set_cons_succ]
      refine wpAnyH_take (i := 1) (v := .bool true) rfl (by kernel_rfl) (by kernel_rfl) (by kernel_rfl) (fun _ _ _ h => h) (Or.inl ⟨by rfl, ?_⟩) hHeld ?_
      · intro w' hSw
        have hx := hpk
        go_simp <;> rfl
      try simp only [Act.put, List.getElem_toArray, List.getElem_cons_zero, List.getElem_cons_succ, List.setIfInBounds_toArray, List.set_cons_zero, List.set_cons_succ]
      refine wpAnyH_take (i := 2) (v := .bool true) rfl (by kernel_rfl) (by kernel_rfl) (by kernel_rfl) (fun _ _ _ h => h) (Or.inl ⟨by rfl, ?_⟩) hHeld ?_
      · intro w' hSw
        go_simp <;> rfl
      try simp only [Act.put, List.getElem_toArray, List.getElem_cons_zero, List.getElem_cons_succ, List.setIfInBounds_toArray, List.set_cons_zero, List.set_cons_succ]
      refine wpAnyH_take (i := 3) (v := .pointer (some ⟨B, 0, none⟩)) rfl (by kernel_rfl) (by kernel_rfl) (by kernel_rfl) (fun _ _ _ h => h) (Or.inl ⟨by rfl, ?_⟩) hHeld ?_
      · intro w' hSw
        go_simp <;> rfl
      try simp only [Act.put, List.getElem_toArray, List.getElem_cons_zero, List.getElem_cons_succ, List.setIfInBounds_toArray, List.set_cons_zero, List.set_cons_succ]
      refine wpAnyH_take (i := 4) (v := .pointer (some ⟨B, 0, none⟩)) rfl (by kernel_rfl) (by kernel_rfl) (by kernel_rfl) (fun _ _ _ h => h) (Or.inl ⟨by rfl, ?_⟩) hHeld ?_
      · intro w' hSw
        go_simp <;> rfl
      try simp only [Act.put, List.getElem_toArray, List.getElem_cons_zero, List.getElem_cons_succ, List.setIfInBounds_toArray, List.set_cons_zero, List.set_cons_succ]
      refine wpAnyH_take (i := 5) (v := .pointer (some ⟨B, 0, none⟩)) rfl (by kernel_rfl) (by kernel_rfl) (by kernel_rfl) (fun _ _ _ h => h) (Or.inl ⟨by rfl, ?_⟩) hHeld ?_
      · intro w' hSw
        go_simp <;> rfl
      try simp only [Act.put, List.getElem_toArray, List.getElem_cons_zero, List.getElem_cons_succ, List.setIfInBounds_toArray, List.set_cons_zero, List.set_cons_succ]
      refine wpAnyH_take (i := 6) (v := .slice (some ⟨gb, 0, none⟩) l.given.length l.cG) rfl (by kernel_rfl) (by kernel_rfl) (by kernel_rfl) (fun _ _ _ h => h) (Or.inl ⟨by rfl, ?_⟩) hHeld ?_
      · intro w' hSw
        have hx := hSw.1.1.1
        go_simp <;> rfl
      try simp only [Act.put, List.getElem_toArray, List.getElem_cons_zero, List.getElem_cons_succ, List.setIfInBounds_toArray, List.set_cons_zero, List.set_cons_succ]
      refine wpAnyH_take (i := 7) (v := .int .i64 (k : Int)) rfl (by kernel_rfl) (by kernel_rfl) (by kernel_rfl) (fun _ _ _ h => h) (Or.inl ⟨by rfl, ?_⟩) hHeld ?_
      · intro w' hSw
        go_simp <;> rfl
      try simp only [Act.put, List.getElem_toArray, List.getElem_cons_zero, List.getElem_cons_succ, List.setIfInBounds_toArray, List.set_cons_zero, List.set_cons_succ]
      refine wpAnyH_take (i := 8) (v := .pointer (some ⟨gb, k * 3, none⟩)) rfl (by kernel_rfl) (by kernel_rfl) (by kernel_rfl) (fun _ _ _ h => h) (Or.inl ⟨by rfl, ?_⟩) hHeld ?_
      · intro w' hSw
        go_simp <;> rfl
      try simp only [Act.put, List.getElem_toArray, List.getElem_cons_zero, List.getElem_cons_succ, List.setIfInBounds_toArray, List.set_cons_zero, List.set_cons_succ]
      refine wpAnyH_take (i := 9) (v := .agg #[.int .i64 g.tx, .int .i64 g.res, .int .i64 om]) rfl (by kernel_rfl) (by kernel_rfl) (by kernel_rfl) (fun _ _ _ h => h) (Or.inl ⟨by rfl, ?_⟩) hHeld ?_
      · intro w' hSw
        obtain ⟨hx0, hx1, hx2⟩ := hSw.2
        go_simp <;> rfl
      try simp only [Act.put, List.getElem_toArray, List.getElem_cons_zero, List.getElem_cons_succ, List.setIfInBounds_toArray, List.set_cons_zero, List.set_cons_succ]
      refine wpAnyH_take (i := 10) (v := .agg #[.int .i64 g.tx, .int .i64 g.res, .int .i64 m]) rfl (by kernel_rfl) (by kernel_rfl) (by kernel_rfl) (fun _ _ _ h => h) (Or.inl ⟨by rfl, ?_⟩) hHeld ?_
      · intro w' hSw
        obtain ⟨hx0, hx1, hx2⟩ := hSw.1.2.2
        go_simp <;> rfl
      try simp only [Act.put, List.getElem_toArray, List.getElem_cons_zero, List.getElem_cons_succ, List.setIfInBounds_toArray, List.set_cons_zero, List.set_cons_succ]
      refine wpAnyH_take (i := 11) (v := .bool true) rfl (by kernel_rfl) (by kernel_rfl) (by kernel_rfl) (fun _ _ _ h => h) (Or.inl ⟨by rfl, ?_⟩) hHeld ?_
      · intro w' hSw
        have hx := hom
        go_simp <;> rfl
      try simp only [Act.put, List.getElem_toArray, List.getElem_cons_zero, List.getElem_cons_succ, List.setIfInBounds_toArray, List.set_cons_zero, List.set_cons_succ]
      refine wpAnyH_take (i := 12) (v := .bool true) rfl (by kernel_rfl) (by kernel_rfl) (by kernel_rfl) (fun _ _ _ h => h) (Or.inl ⟨by rfl, ?_⟩) hHeld ?_
      · intro w' hSw
        go_simp <;> rfl
      try simp only [Act.put, List.getElem_toArray, List.getElem_cons_zero, List.getElem_cons_succ, List.setIfInBounds_toArray, List.set_cons_zero, List.set_cons_succ]
      refine wpAnyH_take (i := 13) (v := .bool true) rfl (by kernel_rfl) (by kernel_rfl) (by kernel_rfl) (fun _ _ _ h => h) (Or.inl ⟨by rfl, ?_⟩) hHeld ?_
      · intro w' hSw
        go_simp <;> rfl
      try simp only [Act.put, List.getElem_toArray, List.getElem_cons_zero, List.getElem_cons_succ, List.setIfInBounds_toArray, List.set_cons_zero, List.set_cons_succ]
      refine wpAnyH_done (by kernel_rfl) ?_ _
      clear hHeld
      have HF : Hid (AskAns lo B l A w (.returned (.int .i64 0)) d0) := ⟨l, by rw [HA.out], by rw [HA.out], by rw [HA.out], HL0.out.same (HBW.out _ D0)⟩
      go_wp2_with fail
      go_ret
      exact HF.out
    · have hom : (om == m) = false := by simp [hom']
      have HV2 : Hid (A = if (ft && (true || !wt)) = true then (GV, l.waits, 0) else (l.given, l.waits ++ [g], 1)) := by rw [Hid, HV.out, if_neg (by rw [hom]; decide)]
      clear HV
      have D0 : Below V1.heap.size V1 V1.drew := N0.drew
      refine wp_region_held_drew (S := fun u => ((u.cell? ⟨B, 0, none⟩ = some (.slice (some ⟨gb, 0, none⟩) l.given.length l.cG) ∧ u.cell? ⟨B, 1, none⟩ = some (.slice l.aW l.waits.length l.cW)) ∧ (u.cell? ⟨w.heap.size, 0, none⟩ = some (.int .i64 g.tx) ∧ u.cell? ⟨w.heap.size, 1, none⟩ = some (.int .i64 g.res) ∧ u.cell? ⟨w.heap.size, 2, none⟩ = some (.int .i64 g.mode)) ∧ (u.cell? ⟨w1.heap.size, 0, none⟩ = some (.int .i64 g.tx) ∧ u.cell? ⟨w1.heap.size, 1, none⟩ = some (.int .i64 g.res) ∧ u.cell? ⟨w1.heap.size, 2, none⟩ = some (.int .i64 m))) ∧ (u.cell? ⟨gb, k * 3, none⟩ = some (.int .i64 g.tx) ∧ u.cell? ⟨gb, k * 3 + 1, none⟩ = some (.int .i64 g.res) ∧ u.cell? ⟨gb, k * 3 + 2, none⟩ = some (.int .i64 om))) (by kernel_rfl) ⟨HKG.out _ D0, HRR.out _ D0⟩ (fun hHeld => ?_)
      generalize V1.drew = d0 at *
      refine wpAnyH_take (i := 0) (v := .int .i64 (k : Int)) rfl (by kernel_rfl) (by kernel_rfl) (by kernel_rfl) (fun _ _ _ h => h) (Or.inl ⟨by rfl, ?_⟩) hHeld ?_
      · intro w' hSw
        go_simp <;> rfl
      try simp only [Act.put, List.getElem_toArray, List.getElem_cons_zero, List.setIfInBounds_toArray, List.set_cons_zero, List.set_cons_succ]
      refine wpAnyH_take (i := 1) (v := .bool true) rfl (by kernel_rfl) (by kernel_rfl) (by kernel_rfl) (fun _ _ _ h => h) (Or.inl ⟨by rfl, ?_⟩) hHeld ?_
      · intro w' hSw
        have hx := hpk
        go_simp <;> rfl
      try simp only [Act.put, List.getElem_toArray, List.getElem_cons_zero, List.getElem_cons_succ, List.setIfInBounds_toArray, List.set_cons_zero, List.set_cons_succ]
      refine wpAnyH_take (i := 2) (v := .bool true) rfl (by kernel_rfl) (by kernel_rfl) (by kernel_rfl) (fun _ _ _ h => h) (Or.inl ⟨by rfl, ?_⟩) hHeld ?_
      · intro w' hSw
        go_simp <;> rfl
      try simp only [Act.put, List.getElem_toArray, List.getElem_cons_zero, List.getElem_cons_succ, List.setIfInBounds_toArray, List.set_cons_zero, List.set_cons_succ]
      refine wpAnyH_take (i := 3) (v := .pointer (some ⟨B, 0, none⟩)) rfl (by kernel_rfl) (by kernel_rfl) (by kernel_rfl) (fun _ _ _ h => h) (Or.inl ⟨by rfl, ?_⟩) hHeld ?_
      · intro w' hSw
        go_simp <;> rfl
      try simp only [Act.put, List.getElem_toArray, List.getElem_cons_zero, List.getElem_cons_succ, List.setIfInBounds_toArray, List.set_cons_zero, List.set_cons_succ]
      refine wpAnyH_take (i := 4) (v := .pointer (some ⟨B, 0, none⟩)) rfl (by kernel_rfl) (by kernel_rfl) (by kernel_rfl) (fun _ _ _ h => h) (Or.inl ⟨by rfl, ?_⟩) hHeld ?_
      · intro w' hSw
        go_simp <;> rfl
      try simp only [Act.put, List.getElem_toArray, List.getElem_cons_zero, List.getElem_cons_succ, List.setIfInBounds_toArray, List.set_cons_zero, List.set_cons_succ]
      refine wpAnyH_take (i := 5) (v := .pointer (some ⟨B, 0, none⟩)) rfl (by kernel_rfl) (by kernel_rfl) (by kernel_rfl) (fun _ _ _ h => h) (Or.inl ⟨by rfl, ?_⟩) hHeld ?_
      · intro w' hSw
        go_simp <;> rfl
      try simp only [Act.put, List.getElem_toArray, List.getElem_cons_zero, List.getElem_cons_succ, List.setIfInBounds_toArray, List.set_cons_zero, List.set_cons_succ]
      refine wpAnyH_take (i := 6) (v := .slice (some ⟨gb, 0, none⟩) l.given.length l.cG) rfl (by kernel_rfl) (by kernel_rfl) (by kernel_rfl) (fun _ _ _ h => h) (Or.inl ⟨by rfl, ?_⟩) hHeld ?_
      · intro w' hSw
        have hx := hSw.1.1.1
        go_simp <;> rfl
      try simp only [Act.put, List.getElem_toArray, List.getElem_cons_zero, List.getElem_cons_succ, List.setIfInBounds_toArray, List.set_cons_zero, List.set_cons_succ]
      refine wpAnyH_take (i := 7) (v := .int .i64 (k : Int)) rfl (by kernel_rfl) (by kernel_rfl) (by kernel_rfl) (fun _ _ _ h => h) (Or.inl ⟨by rfl, ?_⟩) hHeld ?_
      · intro w' hSw
        go_simp <;> rfl
      try simp only [Act.put, List.getElem_toArray, List.getElem_cons_zero, List.getElem_cons_succ, List.setIfInBounds_toArray, List.set_cons_zero, List.set_cons_succ]
      refine wpAnyH_take (i := 8) (v := .pointer (some ⟨gb, k * 3, none⟩)) rfl (by kernel_rfl) (by kernel_rfl) (by kernel_rfl) (fun _ _ _ h => h) (Or.inl ⟨by rfl, ?_⟩) hHeld ?_
      · intro w' hSw
        go_simp <;> rfl
      try simp only [Act.put, List.getElem_toArray, List.getElem_cons_zero, List.getElem_cons_succ, List.setIfInBounds_toArray, List.set_cons_zero, List.set_cons_succ]
      refine wpAnyH_take (i := 9) (v := .agg #[.int .i64 g.tx, .int .i64 g.res, .int .i64 om]) rfl (by kernel_rfl) (by kernel_rfl) (by kernel_rfl) (fun _ _ _ h => h) (Or.inl ⟨by rfl, ?_⟩) hHeld ?_
      · intro w' hSw
        obtain ⟨hx0, hx1, hx2⟩ := hSw.2
        go_simp <;> rfl
      try simp only [Act.put, List.getElem_toArray, List.getElem_cons_zero, List.getElem_cons_succ, List.setIfInBounds_toArray, List.set_cons_zero, List.set_cons_succ]
      refine wpAnyH_take (i := 10) (v := .agg #[.int .i64 g.tx, .int .i64 g.res, .int .i64 m]) rfl (by kernel_rfl) (by kernel_rfl) (by kernel_rfl) (fun _ _ _ h => h) (Or.inl ⟨by rfl, ?_⟩) hHeld ?_
      · intro w' hSw
        obtain ⟨hx0, hx1, hx2⟩ := hSw.1.2.2
        go_simp <;> rfl
      try simp only [Act.put, List.getElem_toArray, List.getElem_cons_zero, List.getElem_cons_succ, List.setIfInBounds_toArray, List.set_cons_zero, List.set_cons_succ]
      refine wpAnyH_take (i := 11) (v := .bool false) rfl (by kernel_rfl) (by kernel_rfl) (by kernel_rfl) (fun _ _ _ h => h) (Or.inl ⟨by rfl, ?_⟩) hHeld ?_
      · intro w' hSw
        have hx := hom
        go_simp <;> rfl
      try simp only [Act.put, List.getElem_toArray, List.getElem_cons_zero, List.getElem_cons_succ, List.setIfInBounds_toArray, List.set_cons_zero, List.set_cons_succ]
      refine wpAnyH_take (i := 12) (v := .bool false) rfl (by kernel_rfl) (by kernel_rfl) (by kernel_rfl) (fun _ _ _ h => h) (Or.inl ⟨by rfl, ?_⟩) hHeld ?_
      · intro w' hSw
        go_simp <;> rfl
      try simp only [Act.put, List.getElem_toArray, List.getElem_cons_zero, List.getElem_cons_succ, List.setIfInBounds_toArray, List.set_cons_zero, List.set_cons_succ]
      refine wpAnyH_take (i := 13) (v := .bool false) rfl (by kernel_rfl) (by kernel_rfl) (by kernel_rfl) (fun _ _ _ h => h) (Or.inl ⟨by rfl, ?_⟩) hHeld ?_
      · intro w' hSw
        go_simp <;> rfl
      try simp only [Act.put, List.getElem_toArray, List.getElem_cons_zero, List.getElem_cons_succ, List.setIfInBounds_toArray, List.set_cons_zero, List.set_cons_succ]
      refine wpAnyH_done (by kernel_rfl) ?_ _
      clear hHeld
      cases ft with
      | false =>
        go_upto_region 4 with fail
        have D2 : Below V1.heap.size V1 d0.drew := D0.drew
        refine wp_region_held_drew (S := fun u => (u.cell? ⟨B, 0, none⟩ = some (.slice l.aG l.given.length l.cG) ∧ u.cell? ⟨B, 1, none⟩ = some (.slice l.aW l.waits.length l.cW)) ∧ (u.cell? ⟨w.heap.size, 0, none⟩ = some (.int .i64 g.tx) ∧ u.cell? ⟨w.heap.size, 1, none⟩ = some (.int .i64 g.res) ∧ u.cell? ⟨w.heap.size, 2, none⟩ = some (.int .i64 g.mode)) ∧ (u.cell? ⟨w1.heap.size, 0, none⟩ = some (.int .i64 g.tx) ∧ u.cell? ⟨w1.heap.size, 1, none⟩ = some (.int .i64 g.res) ∧ u.cell? ⟨w1.heap.size, 2, none⟩ = some (.int .i64 m))) (by kernel_rfl) (HK.out _ D2) (fun hHeld => ?_)
        generalize d0.drew = d2 at *
        refine wpAnyH_take (i := 0) (v := .pointer (some ⟨B, 0, none⟩)) rfl (by kernel_rfl) (by kernel_rfl) (by kernel_rfl) (fun _ _ _ h => h) (Or.inl ⟨by rfl, ?_⟩) hHeld ?_
        · intro w' hSw
          go_simp <;> rfl
        try simp only [Act.put, List.getElem_toArray, List.getElem_cons_zero, List.setIfInBounds_toArray, List.set_cons_zero, List.set_cons_succ]
        refine wpAnyH_take (i := 1) (v := .pointer (some ⟨B, 0, none⟩)) rfl (by kernel_rfl) (by kernel_rfl) (by kernel_rfl) (fun _ _ _ h => h) (Or.inl ⟨by rfl, ?_⟩) hHeld ?_
        · intro w' hSw
          go_simp <;> rfl
        try simp only [Act.put, List.getElem_toArray, List.getElem_cons_zero, List.getElem_cons_succ, List.setIfInBounds_toArray, List.set_cons_zero, List.set_cons_succ]
        refine wpAnyH_take (i := 2) (v := .pointer (some ⟨B, 0, none⟩)) rfl (by kernel_rfl) (by kernel_rfl) (by kernel_rfl) (fun _ _ _ h => h) (Or.inl ⟨by rfl, ?_⟩) hHeld ?_
        · intro w' hSw
          go_simp <;> rfl
        try simp only [Act.put, List.getElem_toArray, List.getElem_cons_zero, List.getElem_cons_succ, List.setIfInBounds_toArray, List.set_cons_zero, List.set_cons_succ]
        refine wpAnyH_take (i := 3) (v := .slice l.aG l.given.length l.cG) rfl (by kernel_rfl) (by kernel_rfl) (by kernel_rfl) (fun _ _ _ h => h) (Or.inl ⟨by rfl, ?_⟩) hHeld ?_
        · intro w' hSw
          have hx := hSw.1.1
          go_simp <;> rfl
        try simp only [Act.put, List.getElem_toArray, List.getElem_cons_zero, List.getElem_cons_succ, List.setIfInBounds_toArray, List.set_cons_zero, List.set_cons_succ]
        refine wpAnyH_take (i := 4) (v := .agg #[.int .i64 g.tx, .int .i64 g.res, .int .i64 m]) rfl (by kernel_rfl) (by kernel_rfl) (by kernel_rfl) (fun _ _ _ h => h) (Or.inl ⟨by rfl, ?_⟩) hHeld ?_
        · intro w' hSw
          obtain ⟨hx0, hx1, hx2⟩ := hSw.2.2
          go_simp <;> rfl
        try simp only [Act.put, List.getElem_toArray, List.getElem_cons_zero, List.getElem_cons_succ, List.setIfInBounds_toArray, List.set_cons_zero, List.set_cons_succ]
        refine wpAnyH_ready (rs := [5]) (by kernel_rfl) (by simp) ?_
        refine AllReadyH.cons rfl (fun K hK => ?_) AllReadyH.nil
        go_simp
        refine (HC2.out _ D2).mono ?_
        rintro r d3 ⟨rfl, hbd3⟩
        have N3 : Below V1.heap.size V1 d3 := D2.trans (hbd3.mono D2.size)
        refine hK.out _ _ (HK.out _ N3) (fun hHeld => ?_)
        clear hK K hbd3
        try simp only [Act.put, List.getElem_toArray, List.getElem_cons_zero, List.getElem_cons_succ, List.setIfInBounds_toArray, List.set_cons_zero, List.set_cons_succ]
        refine wpAnyH_take (i := 6) (v := .bool false) rfl (by kernel_rfl) (by kernel_rfl) (by kernel_rfl) (fun _ _ _ h => h) (Or.inl ⟨by rfl, ?_⟩) hHeld ?_
        · intro w' hSw
          go_simp <;> rfl
        try simp only [Act.put, List.getElem_toArray, List.getElem_cons_zero, List.getElem_cons_succ, List.setIfInBounds_toArray, List.set_cons_zero, List.set_cons_succ]
        refine wpAnyH_take (i := 7) (v := undef) rfl (by kernel_rfl) (by kernel_rfl) (by kernel_rfl) (fun _ _ _ h => h) (Or.inr ⟨by rfl, rfl⟩) hHeld ?_
        try simp only [Act.put, List.getElem_toArray, List.getElem_cons_zero, List.getElem_cons_succ, List.setIfInBounds_toArray, List.set_cons_zero, List.set_cons_succ]
        refine wpAnyH_take (i := 8) (v := undef) rfl (by kernel_rfl) (by kernel_rfl) (by kernel_rfl) (fun _ _ _ h => h) (Or.inr ⟨by rfl, rfl⟩) hHeld ?_
        try simp only [Act.put, List.getElem_toArray, List.getElem_cons_zero, List.getElem_cons_succ, List.setIfInBounds_toArray, List.set_cons_zero, List.set_cons_succ]
        refine wpAnyH_take (i := 9) (v := undef) rfl (by kernel_rfl) (by kernel_rfl) (by kernel_rfl) (fun _ _ _ h => h) (Or.inr ⟨by rfl, rfl⟩) hHeld ?_
        try simp only [Act.put, List.getElem_toArray, List.getElem_cons_zero, List.getElem_cons_succ, List.setIfInBounds_toArray, List.set_cons_zero, List.set_cons_succ]
        refine wpAnyH_take (i := 10) (v := undef) rfl (by kernel_rfl) (by kernel_rfl) (by kernel_rfl) (fun _ _ _ h => h) (Or.inr ⟨by rfl, rfl⟩) hHeld ?_
        try simp only [Act.put, List.getElem_toArray, List.getElem_cons_zero, List.getElem_cons_succ, List.setIfInBounds_toArray, List.set_cons_zero, List.set_cons_succ]
        refine wpAnyH_take (i := 11) (v := undef) rfl (by kernel_rfl) (by kernel_rfl) (by kernel_rfl) (fun _ _ _ h => h) (Or.inr ⟨by rfl, rfl⟩) hHeld ?_
        try simp only [Act.put, List.getElem_toArray, List.getElem_cons_zero, List.getElem_cons_succ, List.setIfInBounds_toArray, List.set_cons_zero, List.set_cons_succ]
        refine wpAnyH_take (i := 12) (v := undef) rfl (by kernel_rfl) (by kernel_rfl) (by kernel_rfl) (fun _ _ _ h => h) (Or.inr ⟨by rfl, rfl⟩) hHeld ?_
        try simp only [Act.put, List.getElem_toArray, List.getElem_cons_zero, List.getElem_cons_succ, List.setIfInBounds_toArray, List.set_cons_zero, List.set_cons_succ]
        refine wpAnyH_take (i := 13) (v := undef) rfl (by kernel_rfl) (by kernel_rfl) (by kernel_rfl) (fun _ _ _ h => h) (Or.inr ⟨by rfl, rfl⟩) hHeld ?_
        try simp only [Act.put, List.getElem_toArray, List.getElem_cons_zero, List.getElem_cons_succ, List.setIfInBounds_toArray, List.set_cons_zero, List.set_cons_succ]
        refine wpAnyH_take (i := 14) (v := undef) rfl (by kernel_rfl) (by kernel_rfl) (by kernel_rfl) (fun _ _ _ h => h) (Or.inr ⟨by rfl, rfl⟩) hHeld ?_
        try simp only [Act.put, List.getElem_toArray, List.getElem_cons_zero, List.getElem_cons_succ, List.setIfInBounds_toArray, List.set_cons_zero, List.set_cons_succ]
        refine wpAnyH_take (i := 15) (v := undef) rfl (by kernel_rfl) (by kernel_rfl) (by kernel_rfl) (fun _ _ _ h => h) (Or.inr ⟨by rfl, rfl⟩) hHeld ?_
        try simp only [Act.put, List.getElem_toArray, List.getElem_cons_zero, List.getElem_cons_succ, List.setIfInBounds_toArray, List.set_cons_zero, List.set_cons_succ]
        refine wpAnyH_take (i := 16) (v := undef) rfl (by kernel_rfl) (by kernel_rfl) (by kernel_rfl) (fun _ _ _ h => h) (Or.inr ⟨by rfl, rfl⟩) hHeld ?_
        try simp only [Act.put, List.getElem_toArray, List.getElem_cons_zero, List.getElem_cons_succ, List.setIfInBounds_toArray, List.set_cons_zero, List.set_cons_succ]
        refine wpAnyH_take (i := 17) (v := undef) rfl (by kernel_rfl) (by kernel_rfl) (by kernel_rfl) (fun _ _ _ h => h) (Or.inr ⟨by rfl, rfl⟩) hHeld ?_
        try simp only [Act.put, List.getElem_toArray, List.getElem_cons_zero, List.getElem_cons_succ, List.setIfInBounds_toArray, List.set_cons_zero, List.set_cons_succ]
        refine wpAnyH_take (i := 18) (v := undef) rfl (by kernel_rfl) (by kernel_rfl) (by kernel_rfl) (fun _ _ _ h => h) (Or.inr ⟨by rfl, rfl⟩) hHeld ?_
        try simp only [Act.put, List.getElem_toArray, List.getElem_cons_zero, List.getElem_cons_succ, List.setIfInBounds_toArray, List.set_cons_zero, List.set_cons_succ]
        refine wpAnyH_take (i := 19) (v := .bool false) rfl (by kernel_rfl) (by kernel_rfl) (by kernel_rfl) (fun _ _ _ h => h) (Or.inl ⟨by rfl, ?_⟩) hHeld ?_
        · intro w' hSw
          go_simp <;> rfl
        try simp only [Act.put, List.getElem_toArray, List.getElem_cons_zero, List.getElem_cons_succ, List.setIfInBounds_toArray, List.set_cons_zero, List.set_cons_succ]
        refine wpAnyH_take (i := 20) (v := .bool false) rfl (by kernel_rfl) (by kernel_rfl) (by kernel_rfl) (fun _ _ _ h => h) (Or.inl ⟨by rfl, ?_⟩) hHeld ?_
        · intro w' hSw
          go_simp <;> rfl
        try simp only [Act.put, List.getElem_toArray, List.getElem_cons_zero, List.getElem_cons_succ, List.setIfInBounds_toArray, List.set_cons_zero, List.set_cons_succ]
        refine wpAnyH_done (by kernel_rfl) ?_ _
        clear hHeld HC1 HC2
        have HA : Hid (A = (l.given, l.waits ++ [g], 1)) := by rw [Hid, HV2.out]; rfl
        clear HV2 HC3
        have y1 := (HK.out _ N3).1.2
        have hw6 : ((l.waits.length : Int) == 60) = false := beq_eq_false_iff_ne.2 (by omega)
        go_upto_region 10 with fail
        clear y1
        have hD : Below w.heap.size w d3.drew := (HBW.out _ N3).drew
        have D5 : Below V1.heap.size V1 d3.drew := N3.drew
        refine wp_region_late (· == 10) (S := fun u => (u.cell? ⟨B, 0, none⟩ = some (.slice l.aG l.given.length l.cG) ∧ u.cell? ⟨B, 1, none⟩ = some (.slice l.aW l.waits.length l.cW)) ∧ (u.cell? ⟨w.heap.size, 0, none⟩ = some (.int .i64 g.tx) ∧ u.cell? ⟨w.heap.size, 1, none⟩ = some (.int .i64 g.res) ∧ u.cell? ⟨w.heap.size, 2, none⟩ = some (.int .i64 g.mode)) ∧ (u.cell? ⟨w1.heap.size, 0, none⟩ = some (.int .i64 g.tx) ∧ u.cell? ⟨w1.heap.size, 1, none⟩ = some (.int .i64 g.res) ∧ u.cell? ⟨w1.heap.size, 2, none⟩ = some (.int .i64 m))) (by kernel_rfl) (HK.out _ D5) (fun hHeld => ?_)
        generalize d3.drew = e0 at *
        refine wpAnyL_take (i := 0) (v := .pointer (some ⟨B, 0, none⟩)) rfl (by kernel_rfl) (fun _ _ _ h => h) (Or.inl ⟨by rfl, ?_⟩) hHeld ?_
        · intro w' hSw
          go_simp <;> rfl
        try simp only [Act.put, List.getElem_toArray, List.getElem_cons_zero, List.setIfInBounds_toArray, List.set_cons_zero, List.set_cons_succ]
        refine wpAnyL_take (i := 1) (v := .pointer (some ⟨B, 0, none⟩)) rfl (by kernel_rfl) (fun _ _ _ h => h) (Or.inl ⟨by rfl, ?_⟩) hHeld ?_
        · intro w' hSw
          go_simp <;> rfl
        try simp only [Act.put, List.getElem_toArray, List.getElem_cons_zero, List.getElem_cons_succ, List.setIfInBounds_toArray, List.set_cons_zero, List.set_cons_succ]
        refine wpAnyL_take (i := 2) (v := .pointer (some ⟨B, 0, none⟩)) rfl (by kernel_rfl) (fun _ _ _ h => h) (Or.inl ⟨by rfl, ?_⟩) hHeld ?_
        · intro w' hSw
          go_simp <;> rfl
        try simp only [Act.put, List.getElem_toArray, List.getElem_cons_zero, List.getElem_cons_succ, List.setIfInBounds_toArray, List.set_cons_zero, List.set_cons_succ]
        refine wpAnyL_take (i := 3) (v := .pointer (some ⟨B, 1, none⟩)) rfl (by kernel_rfl) (fun _ _ _ h => h) (Or.inl ⟨by rfl, ?_⟩) hHeld ?_
        · intro w' hSw
          go_simp <;> rfl
        try simp only [Act.put, List.getElem_toArray, List.getElem_cons_zero, List.getElem_cons_succ, List.setIfInBounds_toArray, List.set_cons_zero, List.set_cons_succ]
        refine wpAnyL_take (i := 4) (v := .slice l.aW l.waits.length l.cW) rfl (by kernel_rfl) (fun _ _ _ h => h) (Or.inl ⟨by rfl, ?_⟩) hHeld ?_
        · intro w' hSw
          have hx := hSw.1.2
          go_simp <;> rfl
        try simp only [Act.put, List.getElem_toArray, List.getElem_cons_zero, List.getElem_cons_succ, List.setIfInBounds_toArray, List.set_cons_zero, List.set_cons_succ]
        refine wpAnyL_take (i := 5) (v := .agg #[.int .i64 g.tx, .int .i64 g.res, .int .i64 g.mode]) rfl (by kernel_rfl) (fun _ _ _ h => h) (Or.inl ⟨by rfl, ?_⟩) hHeld ?_
        · intro w' hSw
          obtain ⟨hx0, hx1, hx2⟩ := hSw.2.1
          go_simp <;> rfl
        try simp only [Act.put, List.getElem_toArray, List.getElem_cons_zero, List.getElem_cons_succ, List.setIfInBounds_toArray, List.set_cons_zero, List.set_cons_succ]
        refine wpAnyL_next 6 (by kernel_rfl) rfl (fun K hK => ?_)
        go_simp
        obtain ⟨W9, hW9, y9, hb9, hs9⟩ := boxes1 e0 [.int .i64 g.tx, .int .i64 g.res, .int .i64 g.mode] 37
        have r9 : ReadsG W9 (some ⟨e0.heap.size, 0, none⟩) [g] := by rw [← hW9.out]; exact readsG_one e0 g _
        try simp only at hW9 r9
        rw [hW9.out]
        have D9 : Below w.heap.size w W9 := hD.trans (hb9.mono hD.size)
        have o9 := (HL0.out.below D9).own.waits
        clear hs9 y9
        have D9b : Below V1.heap.size V1 W9 := D5.trans (hb9.mono D5.size)
        refine hK.out _ _ ((HK.out _ (D5.trans (hb9.mono D5.size)))) (fun hHeld => ?_)
        clear hK K hW9 hb9
        try simp only [Act.put, List.getElem_toArray, List.getElem_cons_zero, List.getElem_cons_succ, List.setIfInBounds_toArray, List.set_cons_zero, List.set_cons_succ]
        refine wpAnyL_next 7 (by kernel_rfl) rfl (fun K hK => ?_)
        refine step_append_grants rfl (.tmp 64) (.tmp 66) rfl lo W9.heap.size l.aW l.cW l.waits rfl o9 _ _ [g] rfl r9 (fun h => by cases h) (by simp only [List.length_cons, List.length_nil]; omega) (by have := D9.size; omega) ?_
        intro a10 c10 y10 w10 hy10 o10 g10 k10
        obtain ⟨⟨f1, f2⟩, W3, hW3, hst⟩ := LkAt.setW (w := w) HL0.out D9 o10 g10 (fun k hk => by
          rcases k10 k hk with e | e
          · exact .inl e
          · exact .inr (by have := D9.size; omega))
        have HK10 : Hid (_) := fun k (hk : k < W9.heap.size) hn => g10.block k hk hn
        clear k10 r9 o9
        have hb10 := (HB2.out _ D9b).1.block (g10.block _ (HB2.out _ D9b).1.lt (fun e => HBl.out.1 (mem_blocksW e.symm)))
        have hb11 := (HB2.out _ D9b).2.block (g10.block _ (HB2.out _ D9b).2.lt (fun e => HBl.out.2.1 (mem_blocksW e.symm)))
        have hbB : Box w10 B [.slice l.aG l.given.length l.cG, .slice l.aW l.waits.length l.cW] 30 := ((HL0.out.below D9).box).block (g10.block _ (HL0.out.below D9).box.lt (fun e => HL0.out.off (mem_blocksW e.symm)))
        have KS : ((w10.cell? ⟨B, 0, none⟩ = some (.slice l.aG l.given.length l.cG) ∧ w10.cell? ⟨B, 1, none⟩ = some (.slice l.aW l.waits.length l.cW)) ∧ (w10.cell? ⟨w.heap.size, 0, none⟩ = some (.int .i64 g.tx) ∧ w10.cell? ⟨w.heap.size, 1, none⟩ = some (.int .i64 g.res) ∧ w10.cell? ⟨w.heap.size, 2, none⟩ = some (.int .i64 g.mode)) ∧ (w10.cell? ⟨w1.heap.size, 0, none⟩ = some (.int .i64 g.tx) ∧ w10.cell? ⟨w1.heap.size, 1, none⟩ = some (.int .i64 g.res) ∧ w10.cell? ⟨w1.heap.size, 2, none⟩ = some (.int .i64 m))) := ⟨⟨hbB.cell 0 _ rfl, f1⟩, ⟨hb10.cell 0 _ rfl, hb10.cell 1 _ rfl, hb10.cell 2 _ rfl⟩, hb11.cell 0 _ rfl, hb11.cell 1 _ rfl, hb11.cell 2 _ rfl⟩
        clear hb10 hb11 hbB
        refine hK.out _ _ (KS) (fun hHeld => ?_)
        clear hK K 
        try simp only [Act.put, List.getElem_toArray, List.getElem_cons_zero, List.getElem_cons_succ, List.setIfInBounds_toArray, List.set_cons_zero, List.set_cons_succ]
        refine wpAnyL_next 8 (by kernel_rfl) rfl (fun K hK => ?_)
        go_simp
        refine hK.out _ _ (hHeld) (fun hHeld => ?_)
        clear hK K 
        try simp only [Act.put, List.getElem_toArray, List.getElem_cons_zero, List.getElem_cons_succ, List.setIfInBounds_toArray, List.set_cons_zero, List.set_cons_succ]
        refine wpAnyL_take (i := 9) (v := .pointer (some ⟨B, 1, none⟩)) rfl (by kernel_rfl) (fun _ _ _ h => h) (Or.inl ⟨by rfl, ?_⟩) hHeld ?_
        · intro w' hSw
          go_simp <;> rfl
        try simp only [Act.put, List.getElem_toArray, List.getElem_cons_zero, List.getElem_cons_succ, List.setIfInBounds_toArray, List.set_cons_zero, List.set_cons_succ]
        refine wpAnyL_last 10 (by kernel_rfl) rfl rfl (fun K hK => ?_)
        go_simp
        rw [hW3.out]
        refine hK.out _ _ ?_
        clear hK K
        refine wpAnyL_done (by kernel_rfl) ?_ _
        have e10 := hy10.out
        subst e10
        clear hHeld hW3 f1 f2 g10 o10 HK10 hy10 KS
        have HF : Hid (AskAns lo B l A w (.returned (.int .i64 1)) W3) := ⟨⟨l.given, l.waits ++ [g], l.aG, l.cG, a10, c10⟩, by rw [HA.out], by rw [HA.out], by rw [HA.out], hst⟩
        clear hst HK
        go_wp2_with fail
        go_ret
        exact HF.out
      | true =>
        go_upto_region 4 with fail
        have D2 : Below V1.heap.size V1 d0.drew := D0.drew
        refine wp_region_held_drew (S := fun u => (u.cell? ⟨B, 0, none⟩ = some (.slice l.aG l.given.length l.cG) ∧ u.cell? ⟨B, 1, none⟩ = some (.slice l.aW l.waits.length l.cW)) ∧ (u.cell? ⟨w.heap.size, 0, none⟩ = some (.int .i64 g.tx) ∧ u.cell? ⟨w.heap.size, 1, none⟩ = some (.int .i64 g.res) ∧ u.cell? ⟨w.heap.size, 2, none⟩ = some (.int .i64 g.mode)) ∧ (u.cell? ⟨w1.heap.size, 0, none⟩ = some (.int .i64 g.tx) ∧ u.cell? ⟨w1.heap.size, 1, none⟩ = some (.int .i64 g.res) ∧ u.cell? ⟨w1.heap.size, 2, none⟩ = some (.int .i64 m))) (by kernel_rfl) (HK.out _ D2) (fun hHeld => ?_)
        generalize d0.drew = d2 at *
        refine wpAnyH_take (i := 0) (v := .pointer (some ⟨B, 0, none⟩)) rfl (by kernel_rfl) (by kernel_rfl) (by kernel_rfl) (fun _ _ _ h => h) (Or.inl ⟨by rfl, ?_⟩) hHeld ?_
        · intro w' hSw
          go_simp <;> rfl
        try simp only [Act.put, List.getElem_toArray, List.getElem_cons_zero, List.setIfInBounds_toArray, List.set_cons_zero, List.set_cons_succ]
        refine wpAnyH_take (i := 1) (v := .pointer (some ⟨B, 0, none⟩)) rfl (by kernel_rfl) (by kernel_rfl) (by kernel_rfl) (fun _ _ _ h => h) (Or.inl ⟨by rfl, ?_⟩) hHeld ?_
        · intro w' hSw
          go_simp <;> rfl
        try simp only [Act.put, List.getElem_toArray, List.getElem_cons_zero, List.getElem_cons_succ, List.setIfInBounds_toArray, List.set_cons_zero, List.set_cons_succ]
        refine wpAnyH_take (i := 2) (v := .pointer (some ⟨B, 0, none⟩)) rfl (by kernel_rfl) (by kernel_rfl) (by kernel_rfl) (fun _ _ _ h => h) (Or.inl ⟨by rfl, ?_⟩) hHeld ?_
        · intro w' hSw
          go_simp <;> rfl
        try simp only [Act.put, List.getElem_toArray, List.getElem_cons_zero, List.getElem_cons_succ, List.setIfInBounds_toArray, List.set_cons_zero, List.set_cons_succ]
        refine wpAnyH_take (i := 3) (v := .slice l.aG l.given.length l.cG) rfl (by kernel_rfl) (by kernel_rfl) (by kernel_rfl) (fun _ _ _ h => h) (Or.inl ⟨by rfl, ?_⟩) hHeld ?_
        · intro w' hSw
          have hx := hSw.1.1
          go_simp <;> rfl
        try simp only [Act.put, List.getElem_toArray, List.getElem_cons_zero, List.getElem_cons_succ, List.setIfInBounds_toArray, List.set_cons_zero, List.set_cons_succ]
        refine wpAnyH_take (i := 4) (v := .agg #[.int .i64 g.tx, .int .i64 g.res, .int .i64 m]) rfl (by kernel_rfl) (by kernel_rfl) (by kernel_rfl) (fun _ _ _ h => h) (Or.inl ⟨by rfl, ?_⟩) hHeld ?_
        · intro w' hSw
          obtain ⟨hx0, hx1, hx2⟩ := hSw.2.2
          go_simp <;> rfl
        try simp only [Act.put, List.getElem_toArray, List.getElem_cons_zero, List.getElem_cons_succ, List.setIfInBounds_toArray, List.set_cons_zero, List.set_cons_succ]
        refine wpAnyH_ready (rs := [5]) (by kernel_rfl) (by simp) ?_
        refine AllReadyH.cons rfl (fun K hK => ?_) AllReadyH.nil
        go_simp
        refine (HC2.out _ D2).mono ?_
        rintro r d3 ⟨rfl, hbd3⟩
        have N3 : Below V1.heap.size V1 d3 := D2.trans (hbd3.mono D2.size)
        refine hK.out _ _ (HK.out _ N3) (fun hHeld => ?_)
        clear hK K hbd3
        try simp only [Act.put, List.getElem_toArray, List.getElem_cons_zero, List.getElem_cons_succ, List.setIfInBounds_toArray, List.set_cons_zero, List.set_cons_succ]
        refine wpAnyH_take (i := 6) (v := .bool true) rfl (by kernel_rfl) (by kernel_rfl) (by kernel_rfl) (fun _ _ _ h => h) (Or.inl ⟨by rfl, ?_⟩) hHeld ?_
        · intro w' hSw
          go_simp <;> rfl
        try simp only [Act.put, List.getElem_toArray, List.getElem_cons_zero, List.getElem_cons_succ, List.setIfInBounds_toArray, List.set_cons_zero, List.set_cons_succ]
        refine wpAnyH_take (i := 7) (v := .int .i64 (k : Int)) rfl (by kernel_rfl) (by kernel_rfl) (by kernel_rfl) (fun _ _ _ h => h) (Or.inl ⟨by rfl, ?_⟩) hHeld ?_
        · intro w' hSw
          go_simp <;> rfl
        try simp only [Act.put, List.getElem_toArray, List.getElem_cons_zero, List.getElem_cons_succ, List.setIfInBounds_toArray, List.set_cons_zero, List.set_cons_succ]
        refine wpAnyH_take (i := 8) (v := .bool true) rfl (by kernel_rfl) (by kernel_rfl) (by kernel_rfl) (fun _ _ _ h => h) (Or.inl ⟨by rfl, ?_⟩) hHeld ?_
        · intro w' hSw
          have hx := hpk
          go_simp <;> rfl
        try simp only [Act.put, List.getElem_toArray, List.getElem_cons_zero, List.getElem_cons_succ, List.setIfInBounds_toArray, List.set_cons_zero, List.set_cons_succ]
        refine wpAnyH_take (i := 9) (v := .bool true) rfl (by kernel_rfl) (by kernel_rfl) (by kernel_rfl) (fun _ _ _ h => h) (Or.inl ⟨by rfl, ?_⟩) hHeld ?_
        · intro w' hSw
          go_simp <;> rfl
        try simp only [Act.put, List.getElem_toArray, List.getElem_cons_zero, List.getElem_cons_succ, List.setIfInBounds_toArray, List.set_cons_zero, List.set_cons_succ]
        refine wpAnyH_take (i := 10) (v := undef) rfl (by kernel_rfl) (by kernel_rfl) (by kernel_rfl) (fun _ _ _ h => h) (Or.inr ⟨by rfl, rfl⟩) hHeld ?_
        try simp only [Act.put, List.getElem_toArray, List.getElem_cons_zero, List.getElem_cons_succ, List.setIfInBounds_toArray, List.set_cons_zero, List.set_cons_succ]
        refine wpAnyH_take (i := 11) (v := undef) rfl (by kernel_rfl) (by kernel_rfl) (by kernel_rfl) (fun _ _ _ h => h) (Or.inr ⟨by rfl, rfl⟩) hHeld ?_
        try simp only [Act.put, List.getElem_toArray, List.getElem_cons_zero, List.getElem_cons_succ, List.setIfInBounds_toArray, List.set_cons_zero, List.set_cons_succ]
        refine wpAnyH_take (i := 12) (v := undef) rfl (by kernel_rfl) (by kernel_rfl) (by kernel_rfl) (fun _ _ _ h => h) (Or.inr ⟨by rfl, rfl⟩) hHeld ?_
        try simp only [Act.put, List.getElem_toArray, List.getElem_cons_zero, List.getElem_cons_succ, List.setIfInBounds_toArray, List.set_cons_zero, List.set_cons_succ]
        refine wpAnyH_take (i := 13) (v := undef) rfl (by kernel_rfl) (by kernel_rfl) (by kernel_rfl) (fun _ _ _ h => h) (Or.inr ⟨by rfl, rfl⟩) hHeld ?_
        try simp only [Act.put, List.getElem_toArray, List.getElem_cons_zero, List.getElem_cons_succ, List.setIfInBounds_toArray, List.set_cons_zero, List.set_cons_succ]
        refine wpAnyH_take (i := 14) (v := undef) rfl (by kernel_rfl) (by kernel_rfl) (by kernel_rfl) (fun _ _ _ h => h) (Or.inr ⟨by rfl, rfl⟩) hHeld ?_
        try simp only [Act.put, List.getElem_toArray, List.getElem_cons_zero, List.getElem_cons_succ, List.setIfInBounds_toArray, List.set_cons_zero, List.set_cons_succ]
        refine wpAnyH_take (i := 15) (v := undef) rfl (by kernel_rfl) (by kernel_rfl) (by kernel_rfl) (fun _ _ _ h => h) (Or.inr ⟨by rfl, rfl⟩) hHeld ?_
        try simp only [Act.put, List.getElem_toArray, List.getElem_cons_zero, List.getElem_cons_succ, List.setIfInBounds_toArray, List.set_cons_zero, List.set_cons_succ]
        refine wpAnyH_take (i := 16) (v := undef) rfl (by kernel_rfl) (by kernel_rfl) (by kernel_rfl) (fun _ _ _ h => h) (Or.inr ⟨by rfl, rfl⟩) hHeld ?_
        try simp only [Act.put, List.getElem_toArray, List.getElem_cons_zero, List.getElem_cons_succ, List.setIfInBounds_toArray, List.set_cons_zero, List.set_cons_succ]
        refine wpAnyH_take (i := 17) (v := undef) rfl (by kernel_rfl) (by kernel_rfl) (by kernel_rfl) (fun _ _ _ h => h) (Or.inr ⟨by rfl, rfl⟩) hHeld ?_
        try simp only [Act.put, List.getElem_toArray, List.getElem_cons_zero, List.getElem_cons_succ, List.setIfInBounds_toArray, List.set_cons_zero, List.set_cons_succ]
        refine wpAnyH_take (i := 18) (v := .bool true) rfl (by kernel_rfl) (by kernel_rfl) (by kernel_rfl) (fun _ _ _ h => h) (Or.inl ⟨by rfl, ?_⟩) hHeld ?_
        · intro w' hSw
          go_simp <;> rfl
        try simp only [Act.put, List.getElem_toArray, List.getElem_cons_zero, List.getElem_cons_succ, List.setIfInBounds_toArray, List.set_cons_zero, List.set_cons_succ]
        refine wpAnyH_take (i := 19) (v := .bool true) rfl (by kernel_rfl) (by kernel_rfl) (by kernel_rfl) (fun _ _ _ h => h) (Or.inl ⟨by rfl, ?_⟩) hHeld ?_
        · intro w' hSw
          go_simp <;> rfl
        try simp only [Act.put, List.getElem_toArray, List.getElem_cons_zero, List.getElem_cons_succ, List.setIfInBounds_toArray, List.set_cons_zero, List.set_cons_succ]
        refine wpAnyH_take (i := 20) (v := .bool true) rfl (by kernel_rfl) (by kernel_rfl) (by kernel_rfl) (fun _ _ _ h => h) (Or.inl ⟨by rfl, ?_⟩) hHeld ?_
        · intro w' hSw
          go_simp <;> rfl
        try simp only [Act.put, List.getElem_toArray, List.getElem_cons_zero, List.getElem_cons_succ, List.setIfInBounds_toArray, List.set_cons_zero, List.set_cons_succ]
        refine wpAnyH_done (by kernel_rfl) ?_ _
        clear hHeld HC1 HC2
        have HA : Hid (A = (GV, l.waits, 0)) := by rw [Hid, HV2.out]; rfl
        clear HV2
        obtain ⟨z0, z1, z2⟩ := (HK.out _ N3).2.2
        have C := HC3.out _ N3
        have nw := HBW.out _ N3
        clear HC3
        go_wp2_with fail
        refine C.mono ?_
        clear C
        rintro e w6 ⟨r, l', rfl, hl1, hl2, hl3, hl4, hst⟩
        have hrt : r = true := by
          cases r
          · exact absurd (hl3.1 rfl).2 HNE.out
          · rfl
        subst hrt
        have HF : Hid (AskAns lo B l A w (.returned (.int .i64 0)) w6) := ⟨l', by rw [HA.out], by rw [HA.out]; exact hl1 rfl, by rw [HA.out]; exact hl4, (HL0.out.same nw).trans hst⟩
        clear hl1 hl2 hl3 hl4 hst z0 z1 z2
        go_wp2_with fail
        go_ret
        exact HF.out
  · have hpn : ¬ 0 ≤ placeZ (atB g.tx g.res) l.given := hp
    rw [decide_eq_false hp] at HV
    have HV2 : Hid (A = if (ft && (false || !wt)) = true then (GV, l.waits, 0) else (l.given, l.waits ++ [g], 1)) := by rw [Hid, HV.out, if_neg (by simp)]
    clear HV HRW hp
    generalize placeZ (atB g.tx g.res) l.given = pl at *
    have D0 : Below V1.heap.size V1 V1.drew := N0.drew
    refine wp_region_held_drew (S := fun u => (u.cell? ⟨B, 0, none⟩ = some (.slice l.aG l.given.length l.cG) ∧ u.cell? ⟨B, 1, none⟩ = some (.slice l.aW l.waits.length l.cW)) ∧ (u.cell? ⟨w.heap.size, 0, none⟩ = some (.int .i64 g.tx) ∧ u.cell? ⟨w.heap.size, 1, none⟩ = some (.int .i64 g.res) ∧ u.cell? ⟨w.heap.size, 2, none⟩ = some (.int .i64 g.mode)) ∧ (u.cell? ⟨w1.heap.size, 0, none⟩ = some (.int .i64 g.tx) ∧ u.cell? ⟨w1.heap.size, 1, none⟩ = some (.int .i64 g.res) ∧ u.cell? ⟨w1.heap.size, 2, none⟩ = some (.int .i64 m))) (by kernel_rfl) (HK.out _ D0) (fun hHeld => ?_)
    generalize V1.drew = d0 at *
    refine wpAnyH_take (i := 0) (v := .int .i64 pl) rfl (by kernel_rfl) (by kernel_rfl) (by kernel_rfl) (fun _ _ _ h => h) (Or.inl ⟨by rfl, ?_⟩) hHeld ?_
    · intro w' hSw
      go_simp <;> rfl
    try simp only [Act.put, List.getElem_toArray, List.getElem_cons_zero, List.setIfInBounds_toArray, List.set_cons_zero, List.set_cons_succ]
    refine wpAnyH_take (i := 1) (v := .bool false) rfl (by kernel_rfl) (by kernel_rfl) (by kernel_rfl) (fun _ _ _ h => h) (Or.inl ⟨by rfl, ?_⟩) hHeld ?_
    · intro w' hSw
      have hx := hpn
      go_simp <;> rfl
    try simp only [Act.put, List.getElem_toArray, List.getElem_cons_zero, List.getElem_cons_succ, List.setIfInBounds_toArray, List.set_cons_zero, List.set_cons_succ]
    refine wpAnyH_take (i := 2) (v := .bool false) rfl (by kernel_rfl) (by kernel_rfl) (by kernel_rfl) (fun _ _ _ h => h) (Or.inl ⟨by rfl, ?_⟩) hHeld ?_
    · intro w' hSw
      go_simp <;> rfl
    try simp only [Act.put, List.getElem_toArray, List.getElem_cons_zero, List.getElem_cons_succ, List.setIfInBounds_toArray, List.set_cons_zero, List.set_cons_succ]
    refine wpAnyH_take (i := 3) (v := undef) rfl (by kernel_rfl) (by kernel_rfl) (by kernel_rfl) (fun _ _ _ h => h) (Or.inr ⟨by rfl, rfl⟩) hHeld ?_
    try simp only [Act.put, List.getElem_toArray, List.getElem_cons_zero, List.getElem_cons_succ, List.setIfInBounds_toArray, List.set_cons_zero, List.set_cons_succ]
    refine wpAnyH_take (i := 4) (v := undef) rfl (by kernel_rfl) (by kernel_rfl) (by kernel_rfl) (fun _ _ _ h => h) (Or.inr ⟨by rfl, rfl⟩) hHeld ?_
    try simp only [Act.put, List.getElem_toArray, List.getElem_cons_zero, List.getElem_cons_succ, List.setIfInBounds_toArray, List.set_cons_zero, List.set_cons_succ]
    refine wpAnyH_take (i := 5) (v := undef) rfl (by kernel_rfl) (by kernel_rfl) (by kernel_rfl) (fun _ _ _ h => h) (Or.inr ⟨by rfl, rfl⟩) hHeld ?_
    try simp only [Act.put, List.getElem_toArray, List.getElem_cons_zero, List.getElem_cons_succ, List.setIfInBounds_toArray, List.set_cons_zero, List.set_cons_succ]
    refine wpAnyH_take (i := 6) (v := undef) rfl (by kernel_rfl) (by kernel_rfl) (by kernel_rfl) (fun _ _ _ h => h) (Or.inr ⟨by rfl, rfl⟩) hHeld ?_
    try simp only [Act.put, List.getElem_toArray, List.getElem_cons_zero, List.getElem_cons_succ, List.setIfInBounds_toArray, List.set_cons_zero, List.set_cons_succ]
    refine wpAnyH_take (i := 7) (v := undef) rfl (by kernel_rfl) (by kernel_rfl) (by kernel_rfl) (fun _ _ _ h => h) (Or.inr ⟨by rfl, rfl⟩) hHeld ?_
    try simp only [Act.put, List.getElem_toArray, List.getElem_cons_zero, List.getElem_cons_succ, List.setIfInBounds_toArray, List.set_cons_zero, List.set_cons_succ]
    refine wpAnyH_take (i := 8) (v := undef) rfl (by kernel_rfl) (by kernel_rfl) (by kernel_rfl) (fun _ _ _ h => h) (Or.inr ⟨by rfl, rfl⟩) hHeld ?_
    try simp only [Act.put, List.getElem_toArray, List.getElem_cons_zero, List.getElem_cons_succ, List.setIfInBounds_toArray, List.set_cons_zero, List.set_cons_succ]
    refine wpAnyH_take (i := 9) (v := undef) rfl (by kernel_rfl) (by kernel_rfl) (by kernel_rfl) (fun _ _ _ h => h) (Or.inr ⟨by rfl, rfl⟩) hHeld ?_
    try simp only [Act.put, List.getElem_toArray, List.getElem_cons_zero, List.getElem_cons_succ, List.setIfInBounds_toArray, List.set_cons_zero, List.set_cons_succ]
    refine wpAnyH_take (i := 10) (v := undef) rfl (by kernel_rfl) (by kernel_rfl) (by kernel_rfl) (fun _ _ _ h => h) (Or.inr ⟨by rfl, rfl⟩) hHeld ?_
    try simp only [Act.put, List.getElem_toArray, List.getElem_cons_zero, List.getElem_cons_succ, List.setIfInBounds_toArray, List.set_cons_zero, List.set_cons_succ]
    refine wpAnyH_take (i := 11) (v := undef) rfl (by kernel_rfl) (by kernel_rfl) (by kernel_rfl) (fun _ _ _ h => h) (Or.inr ⟨by rfl, rfl⟩) hHeld ?_
    try simp only [Act.put, List.getElem_toArray, List.getElem_cons_zero, List.getElem_cons_succ, List.setIfInBounds_toArray, List.set_cons_zero, List.set_cons_succ]
    refine wpAnyH_take (i := 12) (v := .bool false) rfl (by kernel_rfl) (by kernel_rfl) (by kernel_rfl) (fun _ _ _ h => h) (Or.inl ⟨by rfl, ?_⟩) hHeld ?_
    · intro w' hSw
      go_simp <;> rfl
    try simp only [Act.put, List.getElem_toArray, List.getElem_cons_zero, List.getElem_cons_succ, List.setIfInBounds_toArray, List.set_cons_zero, List.set_cons_succ]
    refine wpAnyH_take (i := 13) (v := .bool false) rfl (by kernel_rfl) (by kernel_rfl) (by kernel_rfl) (fun _ _ _ h => h) (Or.inl ⟨by rfl, ?_⟩) hHeld ?_
    · intro w' hSw
      go_simp <;> rfl
    try simp only [Act.put, List.getElem_toArray, List.getElem_cons_zero, List.getElem_cons_succ, List.setIfInBounds_toArray, List.set_cons_zero, List.set_cons_succ]
    refine wpAnyH_done (by kernel_rfl) ?_ _
    clear hHeld
    cases ft with
    | false =>
      go_upto_region 4 with fail
      have D2 : Below V1.heap.size V1 d0.drew := D0.drew
      refine wp_region_held_drew (S := fun u => (u.cell? ⟨B, 0, none⟩ = some (.slice l.aG l.given.length l.cG) ∧ u.cell? ⟨B, 1, none⟩ = some (.slice l.aW l.waits.length l.cW)) ∧ (u.cell? ⟨w.heap.size, 0, none⟩ = some (.int .i64 g.tx) ∧ u.cell? ⟨w.heap.size, 1, none⟩ = some (.int .i64 g.res) ∧ u.cell? ⟨w.heap.size, 2, none⟩ = some (.int .i64 g.mode)) ∧ (u.cell? ⟨w1.heap.size, 0, none⟩ = some (.int .i64 g.tx) ∧ u.cell? ⟨w1.heap.size, 1, none⟩ = some (.int .i64 g.res) ∧ u.cell? ⟨w1.heap.size, 2, none⟩ = some (.int .i64 m))) (by kernel_rfl) (HK.out _ D2) (fun hHeld => ?_)
      generalize d0.drew = d2 at *
      refine wpAnyH_take (i := 0) (v := .pointer (some ⟨B, 0, none⟩)) rfl (by kernel_rfl) (by kernel_rfl) (by kernel_rfl) (fun _ _ _ h => h) (Or.inl ⟨by rfl, ?_⟩) hHeld ?_
      · intro w' hSw
        go_simp <;> rfl
      try simp only [Act.put, List.getElem_toArray, List.getElem_cons_zero, List.setIfInBounds_toArray, List.set_cons_zero, List.set_cons_succ]
      refine wpAnyH_take (i := 1) (v := .pointer (some ⟨B, 0, none⟩)) rfl (by kernel_rfl) (by kernel_rfl) (by kernel_rfl) (fun _ _ _ h => h) (Or.inl ⟨by rfl, ?_⟩) hHeld ?_
      · intro w' hSw
        go_simp <;> rfl
      try simp only [Act.put, List.getElem_toArray, List.getElem_cons_zero, List.getElem_cons_succ, List.setIfInBounds_toArray, List.set_cons_zero, List.set_cons_succ]
      refine wpAnyH_take (i := 2) (v := .pointer (some ⟨B, 0, none⟩)) rfl (by kernel_rfl) (by kernel_rfl) (by kernel_rfl) (fun _ _ _ h => h) (Or.inl ⟨by rfl, ?_⟩) hHeld ?_
      · intro w' hSw
        go_simp <;> rfl
      try simp only [Act.put, List.getElem_toArray, List.getElem_cons_zero, List.getElem_cons_succ, List.setIfInBounds_toArray, List.set_cons_zero, List.set_cons_succ]
      refine wpAnyH_take (i := 3) (v := .slice l.aG l.given.length l.cG) rfl (by kernel_rfl) (by kernel_rfl) (by kernel_rfl) (fun _ _ _ h => h) (Or.inl ⟨by rfl, ?_⟩) hHeld ?_
      · intro w' hSw
        have hx := hSw.1.1
        go_simp <;> rfl
      try simp only [Act.put, List.getElem_toArray, List.getElem_cons_zero, List.getElem_cons_succ, List.setIfInBounds_toArray, List.set_cons_zero, List.set_cons_succ]
      refine wpAnyH_take (i := 4) (v := .agg #[.int .i64 g.tx, .int .i64 g.res, .int .i64 m]) rfl (by kernel_rfl) (by kernel_rfl) (by kernel_rfl) (fun _ _ _ h => h) (Or.inl ⟨by rfl, ?_⟩) hHeld ?_
      · intro w' hSw
        obtain ⟨hx0, hx1, hx2⟩ := hSw.2.2
        go_simp <;> rfl
      try simp only [Act.put, List.getElem_toArray, List.getElem_cons_zero, List.getElem_cons_succ, List.setIfInBounds_toArray, List.set_cons_zero, List.set_cons_succ]
      refine wpAnyH_ready (rs := [5]) (by kernel_rfl) (by simp) ?_
      refine AllReadyH.cons rfl (fun K hK => ?_) AllReadyH.nil
      go_simp
      refine (HC2.out _ D2).mono ?_
      rintro r d3 ⟨rfl, hbd3⟩
      have N3 : Below V1.heap.size V1 d3 := D2.trans (hbd3.mono D2.size)
      refine hK.out _ _ (HK.out _ N3) (fun hHeld => ?_)
      clear hK K hbd3
      try simp only [Act.put, List.getElem_toArray, List.getElem_cons_zero, List.getElem_cons_succ, List.setIfInBounds_toArray, List.set_cons_zero, List.set_cons_succ]
      refine wpAnyH_take (i := 6) (v := .bool false) rfl (by kernel_rfl) (by kernel_rfl) (by kernel_rfl) (fun _ _ _ h => h) (Or.inl ⟨by rfl, ?_⟩) hHeld ?_
      · intro w' hSw
        go_simp <;> rfl
      try simp only [Act.put, List.getElem_toArray, List.getElem_cons_zero, List.getElem_cons_succ, List.setIfInBounds_toArray, List.set_cons_zero, List.set_cons_succ]
      refine wpAnyH_take (i := 7) (v := undef) rfl (by kernel_rfl) (by kernel_rfl) (by kernel_rfl) (fun _ _ _ h => h) (Or.inr ⟨by rfl, rfl⟩) hHeld ?_
      try simp only [Act.put, List.getElem_toArray, List.getElem_cons_zero, List.getElem_cons_succ, List.setIfInBounds_toArray, List.set_cons_zero, List.set_cons_succ]
      refine wpAnyH_take (i := 8) (v := undef) rfl (by kernel_rfl) (by kernel_rfl) (by kernel_rfl) (fun _ _ _ h => h) (Or.inr ⟨by rfl, rfl⟩) hHeld ?_
      try simp only [Act.put, List.getElem_toArray, List.getElem_cons_zero, List.getElem_cons_succ, List.setIfInBounds_toArray, List.set_cons_zero, List.set_cons_succ]
      refine wpAnyH_take (i := 9) (v := undef) rfl (by kernel_rfl) (by kernel_rfl) (by kernel_rfl) (fun _ _ _ h => h) (Or.inr ⟨by rfl, rfl⟩) hHeld ?_
      try simp only [Act.put, List.getElem_toArray, List.getElem_cons_zero, List.getElem_cons_succ, List.setIfInBounds_toArray, List.set_cons_zero, List.set_cons_succ]
      refine wpAnyH_take (i := 10) (v := undef) rfl (by kernel_rfl) (by kernel_rfl) (by kernel_rfl) (fun _ _ _ h => h) (Or.inr ⟨by rfl, rfl⟩) hHeld ?_
      try simp only [Act.put, List.getElem_toArray, List.getElem_cons_zero, List.getElem_cons_succ, List.setIfInBounds_toArray, List.set_cons_zero, List.set_cons_succ]
      refine wpAnyH_take (i := 11) (v := undef) rfl (by kernel_rfl) (by kernel_rfl) (by kernel_rfl) (fun _ _ _ h => h) (Or.inr ⟨by rfl, rfl⟩) hHeld ?_
      try simp only [Act.put, List.getElem_toArray, List.getElem_cons_zero, List.getElem_cons_succ, List.setIfInBounds_toArray, List.set_cons_zero, List.set_cons_succ]
      refine wpAnyH_take (i := 12) (v := undef) rfl (by kernel_rfl) (by kernel_rfl) (by kernel_rfl) (fun _ _ _ h => h) (Or.inr ⟨by rfl, rfl⟩) hHeld ?_
      try simp only [Act.put, List.getElem_toArray, List.getElem_cons_zero, List.getElem_cons_succ, List.setIfInBounds_toArray, List.set_cons_zero, List.set_cons_succ]
      refine wpAnyH_take (i := 13) (v := undef) rfl (by kernel_rfl) (by kernel_rfl) (by kernel_rfl) (fun _ _ _ h => h) (Or.inr ⟨by rfl, rfl⟩) hHeld ?_
      try simp only [Act.put, List.getElem_toArray, List.getElem_cons_zero, List.getElem_cons_succ, List.setIfInBounds_toArray, List.set_cons_zero, List.set_cons_succ]
      refine wpAnyH_take (i := 14) (v := undef) rfl (by kernel_rfl) (by kernel_rfl) (by kernel_rfl) (fun _ _ _ h => h) (Or.inr ⟨by rfl, rfl⟩) hHeld ?_
      try simp only [Act.put, List.getElem_toArray, List.getElem_cons_zero, List.getElem_cons_succ, List.setIfInBounds_toArray, List.set_cons_zero, List.set_cons_succ]
      refine wpAnyH_take (i := 15) (v := undef) rfl (by kernel_rfl) (by kernel_rfl) (by kernel_rfl) (fun _ _ _ h => h) (Or.inr ⟨by rfl, rfl⟩) hHeld ?_
      try simp only [Act.put, List.getElem_toArray, List.getElem_cons_zero, List.getElem_cons_succ, List.setIfInBounds_toArray, List.set_cons_zero, List.set_cons_succ]
      refine wpAnyH_take (i := 16) (v := undef) rfl (by kernel_rfl) (by kernel_rfl) (by kernel_rfl) (fun _ _ _ h => h) (Or.inr ⟨by rfl, rfl⟩) hHeld ?_
      try simp only [Act.put, List.getElem_toArray, List.getElem_cons_zero, List.getElem_cons_succ, List.setIfInBounds_toArray, List.set_cons_zero, List.set_cons_succ]
      refine wpAnyH_take (i := 17) (v := undef) rfl (by kernel_rfl) (by kernel_rfl) (by kernel_rfl) (fun _ _ _ h => h) (Or.inr ⟨by rfl, rfl⟩) hHeld ?_
      try simp only [Act.put, List.getElem_toArray, List.getElem_cons_zero, List.getElem_cons_succ, List.setIfInBounds_toArray, List.set_cons_zero, List.set_cons_succ]
      refine wpAnyH_take (i := 18) (v := undef) rfl (by kernel_rfl) (by kernel_rfl) (by kernel_rfl) (fun _ _ _ h => h) (Or.inr ⟨by rfl, rfl⟩) hHeld ?_
      try simp only [Act.put, List.getElem_toArray, List.getElem_cons_zero, List.getElem_cons_succ, List.setIfInBounds_toArray, List.set_cons_zero, List.set_cons_succ]
      refine wpAnyH_take (i := 19) (v := .bool false) rfl (by kernel_rfl) (by kernel_rfl) (by kernel_rfl) (fun _ _ _ h => h) (Or.inl ⟨by rfl, ?_⟩) hHeld ?_
      · intro w' hSw
        go_simp <;> rfl
      try simp only [Act.put, List.getElem_toArray, List.getElem_cons_zero, List.getElem_cons_succ, List.setIfInBounds_toArray, List.set_cons_zero, List.set_cons_succ]
      refine wpAnyH_take (i := 20) (v := .bool false) rfl (by kernel_rfl) (by kernel_rfl) (by kernel_rfl) (fun _ _ _ h => h) (Or.inl ⟨by rfl, ?_⟩) hHeld ?_
      · intro w' hSw
        go_simp <;> rfl
      try simp only [Act.put, List.getElem_toArray, List.getElem_cons_zero, List.getElem_cons_succ, List.setIfInBounds_toArray, List.set_cons_zero, List.set_cons_succ]
      refine wpAnyH_done (by kernel_rfl) ?_ _
      clear hHeld HC1 HC2
      have HA : Hid (A = (l.given, l.waits ++ [g], 1)) := by rw [Hid, HV2.out]; rfl
      clear HV2 HC3
      have y1 := (HK.out _ N3).1.2
      have hw6 : ((l.waits.length : Int) == 60) = false := beq_eq_false_iff_ne.2 (by omega)
      go_upto_region 10 with fail
      clear y1
      have hD : Below w.heap.size w d3.drew := (HBW.out _ N3).drew
      have D5 : Below V1.heap.size V1 d3.drew := N3.drew
      refine wp_region_late (· == 10) (S := fun u => (u.cell? ⟨B, 0, none⟩ = some (.slice l.aG l.given.length l.cG) ∧ u.cell? ⟨B, 1, none⟩ = some (.slice l.aW l.waits.length l.cW)) ∧ (u.cell? ⟨w.heap.size, 0, none⟩ = some (.int .i64 g.tx) ∧ u.cell? ⟨w.heap.size, 1, none⟩ = some (.int .i64 g.res) ∧ u.cell? ⟨w.heap.size, 2, none⟩ = some (.int .i64 g.mode)) ∧ (u.cell? ⟨w1.heap.size, 0, none⟩ = some (.int .i64 g.tx) ∧ u.cell? ⟨w1.heap.size, 1, none⟩ = some (.int .i64 g.res) ∧ u.cell? ⟨w1.heap.size, 2, none⟩ = some (.int .i64 m))) (by kernel_rfl) (HK.out _ D5) (fun hHeld => ?_)
      generalize d3.drew = e0 at *
      refine wpAnyL_take (i := 0) (v := .pointer (some ⟨B, 0, none⟩)) rfl (by kernel_rfl) (fun _ _ _ h => h) (Or.inl ⟨by rfl, ?_⟩) hHeld ?_
      · intro w' hSw
        go_simp <;> rfl
      try simp only [Act.put, List.getElem_toArray, List.getElem_cons_zero, List.setIfInBounds_toArray, List.set_cons_zero, List.set_cons_succ]
      refine wpAnyL_take (i := 1) (v := .pointer (some ⟨B, 0, none⟩)) rfl (by kernel_rfl) (fun _ _ _ h => h) (Or.inl ⟨by rfl, ?_⟩) hHeld ?_
      · intro w' hSw
        go_simp <;> rfl
      try simp only [Act.put, List.getElem_toArray, List.getElem_cons_zero, List.getElem_cons_succ, List.setIfInBounds_toArray, List.set_cons_zero, List.set_cons_succ]
      refine wpAnyL_take (i := 2) (v := .pointer (some ⟨B, 0, none⟩)) rfl (by kernel_rfl) (fun _ _ _ h => h) (Or.inl ⟨by rfl, ?_⟩) hHeld ?_
      · intro w' hSw
        go_simp <;> rfl
      try simp only [Act.put, List.getElem_toArray, List.getElem_cons_zero, List.getElem_cons_succ, List.setIfInBounds_toArray, List.set_cons_zero, List.set_cons_succ]
      refine wpAnyL_take (i := 3) (v := .pointer (some ⟨B, 1, none⟩)) rfl (by kernel_rfl) (fun _ _ _ h => h) (Or.inl ⟨by rfl, ?_⟩) hHeld ?_
      · intro w' hSw
        go_simp <;> rfl
      try simp only [Act.put, List.getElem_toArray, List.getElem_cons_zero, List.getElem_cons_succ, List.setIfInBounds_toArray, List.set_cons_zero, List.set_cons_succ]
      refine wpAnyL_take (i := 4) (v := .slice l.aW l.waits.length l.cW) rfl (by kernel_rfl) (fun _ _ _ h => h) (Or.inl ⟨by rfl, ?_⟩) hHeld ?_
      · intro w' hSw
        have hx := hSw.1.2
        go_simp <;> rfl
      try simp only [Act.put, List.getElem_toArray, List.getElem_cons_zero, List.getElem_cons_succ, List.setIfInBounds_toArray, List.set_cons_zero, List.set_cons_succ]
      refine wpAnyL_take (i := 5) (v := .agg #[.int .i64 g.tx, .int .i64 g.res, .int .i64 g.mode]) rfl (by kernel_rfl) (fun _ _ _ h => h) (Or.inl ⟨by rfl, ?_⟩) hHeld ?_
      · intro w' hSw
        obtain ⟨hx0, hx1, hx2⟩ := hSw.2.1
        go_simp <;> rfl
      try simp only [Act.put, List.getElem_toArray, List.getElem_cons_zero, List.getElem_cons_succ, List.setIfInBounds_toArray, List.set_cons_zero, List.set_cons_succ]
      refine wpAnyL_next 6 (by kernel_rfl) rfl (fun K hK => ?_)
      go_simp
      obtain ⟨W9, hW9, y9, hb9, hs9⟩ := boxes1 e0 [.int .i64 g.tx, .int .i64 g.res, .int .i64 g.mode] 37
      have r9 : ReadsG W9 (some ⟨e0.heap.size, 0, none⟩) [g] := by rw [← hW9.out]; exact readsG_one e0 g _
      try simp only at hW9 r9
      rw [hW9.out]
      have D9 : Below w.heap.size w W9 := hD.trans (hb9.mono hD.size)
      have o9 := (HL0.out.below D9).own.waits
      clear hs9 y9
      have D9b : Below V1.heap.size V1 W9 := D5.trans (hb9.mono D5.size)
      refine hK.out _ _ ((HK.out _ (D5.trans (hb9.mono D5.size)))) (fun hHeld => ?_)
      clear hK K hW9 hb9
      try simp only [Act.put, List.getElem_toArray, List.getElem_cons_zero, List.getElem_cons_succ, List.setIfInBounds_toArray, List.set_cons_zero, List.set_cons_succ]
      refine wpAnyL_next 7 (by kernel_rfl) rfl (fun K hK => ?_)
      refine step_append_grants rfl (.tmp 64) (.tmp 66) rfl lo W9.heap.size l.aW l.cW l.waits rfl o9 _ _ [g] rfl r9 (fun h => by cases h) (by simp only [List.length_cons, List.length_nil]; omega) (by have := D9.size; omega) ?_
      intro a10 c10 y10 w10 hy10 o10 g10 k10
      obtain ⟨⟨f1, f2⟩, W3, hW3, hst⟩ := LkAt.setW (w := w) HL0.out D9 o10 g10 (fun k hk => by
        rcases k10 k hk with e | e
        · exact .inl e
        · exact .inr (by have := D9.size; omega))
      have HK10 : Hid (_) := fun k (hk : k < W9.heap.size) hn => g10.block k hk hn
      clear k10 r9 o9
      have hb10 := (HB2.out _ D9b).1.block (g10.block _ (HB2.out _ D9b).1.lt (fun e => HBl.out.1 (mem_blocksW e.symm)))
      have hb11 := (HB2.out _ D9b).2.block (g10.block _ (HB2.out _ D9b).2.lt (fun e => HBl.out.2.1 (mem_blocksW e.symm)))
      have hbB : Box w10 B [.slice l.aG l.given.length l.cG, .slice l.aW l.waits.length l.cW] 30 := ((HL0.out.below D9).box).block (g10.block _ (HL0.out.below D9).box.lt (fun e => HL0.out.off (mem_blocksW e.symm)))
      have KS : ((w10.cell? ⟨B, 0, none⟩ = some (.slice l.aG l.given.length l.cG) ∧ w10.cell? ⟨B, 1, none⟩ = some (.slice l.aW l.waits.length l.cW)) ∧ (w10.cell? ⟨w.heap.size, 0, none⟩ = some (.int .i64 g.tx) ∧ w10.cell? ⟨w.heap.size, 1, none⟩ = some (.int .i64 g.res) ∧ w10.cell? ⟨w.heap.size, 2, none⟩ = some (.int .i64 g.mode)) ∧ (w10.cell? ⟨w1.heap.size, 0, none⟩ = some (.int .i64 g.tx) ∧ w10.cell? ⟨w1.heap.size, 1, none⟩ = some (.int .i64 g.res) ∧ w10.cell? ⟨w1.heap.size, 2, none⟩ = some (.int .i64 m))) := ⟨⟨hbB.cell 0 _ rfl, f1⟩, ⟨hb10.cell 0 _ rfl, hb10.cell 1 _ rfl, hb10.cell 2 _ rfl⟩, hb11.cell 0 _ rfl, hb11.cell 1 _ rfl, hb11.cell 2 _ rfl⟩
      clear hb10 hb11 hbB
      refine hK.out _ _ (KS) (fun hHeld => ?_)
      clear hK K 
      try simp only [Act.put, List.getElem_toArray, List.getElem_cons_zero, List.getElem_cons_succ, List.setIfInBounds_toArray, List.set_cons_zero, List.set_cons_succ]
      refine wpAnyL_next 8 (by kernel_rfl) rfl (fun K hK => ?_)
      go_simp
      refine hK.out _ _ (hHeld) (fun hHeld => ?_)
      clear hK K 
      try simp only [Act.put, List.getElem_toArray, List.getElem_cons_zero, List.getElem_cons_succ, List.setIfInBounds_toArray, List.set_cons_zero, List.set_cons_succ]
      refine wpAnyL_take (i := 9) (v := .pointer (some ⟨B, 1, none⟩)) rfl (by kernel_rfl) (fun _ _ _ h => h) (Or.inl ⟨by rfl, ?_⟩) hHeld ?_
      · intro w' hSw
        go_simp <;> rfl
      try simp only [Act.put, List.getElem_toArray, List.getElem_cons_zero, List.getElem_cons_succ, List.setIfInBounds_toArray, List.set_cons_zero, List.set_cons_succ]
      refine wpAnyL_last 10 (by kernel_rfl) rfl rfl (fun K hK => ?_)
      go_simp
      rw [hW3.out]
      refine hK.out _ _ ?_
      clear hK K
      refine wpAnyL_done (by kernel_rfl) ?_ _
      have e10 := hy10.out
      subst e10
      clear hHeld hW3 f1 f2 g10 o10 HK10 hy10 KS
      have HF : Hid (AskAns lo B l A w (.returned (.int .i64 1)) W3) := ⟨⟨l.given, l.waits ++ [g], l.aG, l.cG, a10, c10⟩, by rw [HA.out], by rw [HA.out], by rw [HA.out], hst⟩
      clear hst HK
      go_wp2_with fail
      go_ret
      exact HF.out
    | true =>
      cases wt with
      | false =>
        go_upto_region 4 with fail
        have D2 : Below V1.heap.size V1 d0.drew := D0.drew
        refine wp_region_held_drew (S := fun u => (u.cell? ⟨B, 0, none⟩ = some (.slice l.aG l.given.length l.cG) ∧ u.cell? ⟨B, 1, none⟩ = some (.slice l.aW l.waits.length l.cW)) ∧ (u.cell? ⟨w.heap.size, 0, none⟩ = some (.int .i64 g.tx) ∧ u.cell? ⟨w.heap.size, 1, none⟩ = some (.int .i64 g.res) ∧ u.cell? ⟨w.heap.size, 2, none⟩ = some (.int .i64 g.mode)) ∧ (u.cell? ⟨w1.heap.size, 0, none⟩ = some (.int .i64 g.tx) ∧ u.cell? ⟨w1.heap.size, 1, none⟩ = some (.int .i64 g.res) ∧ u.cell? ⟨w1.heap.size, 2, none⟩ = some (.int .i64 m))) (by kernel_rfl) (HK.out _ D2) (fun hHeld => ?_)
        generalize d0.drew = d2 at *
        refine wpAnyH_take (i := 0) (v := .pointer (some ⟨B, 0, none⟩)) rfl (by kernel_rfl) (by kernel_rfl) (by kernel_rfl) (fun _ _ _ h => h) (Or.inl ⟨by rfl, ?_⟩) hHeld ?_
        · intro w' hSw
          go_simp <;> rfl
        try simp only [Act.put, List.getElem_toArray, List.getElem_cons_zero, List.setIfInBounds_toArray, List.set_cons_zero, List.set_cons_succ]
        refine wpAnyH_take (i := 1) (v := .pointer (some ⟨B, 0, none⟩)) rfl (by kernel_rfl) (by kernel_rfl) (by kernel_rfl) (fun _ _ _ h => h) (Or.inl ⟨by rfl, ?_⟩) hHeld ?_
        · intro w' hSw
          go_simp <;> rfl
        try simp only [Act.put, List.getElem_toArray, List.getElem_cons_zero, List.getElem_cons_succ, List.setIfInBounds_toArray, List.set_cons_zero, List.set_cons_succ]
        refine wpAnyH_take (i := 2) (v := .pointer (some ⟨B, 0, none⟩)) rfl (by kernel_rfl) (by kernel_rfl) (by kernel_rfl) (fun _ _ _ h => h) (Or.inl ⟨by rfl, ?_⟩) hHeld ?_
        · intro w' hSw
          go_simp <;> rfl
        try simp only [Act.put, List.getElem_toArray, List.getElem_cons_zero, List.getElem_cons_succ, List.setIfInBounds_toArray, List.set_cons_zero, List.set_cons_succ]
        refine wpAnyH_take (i := 3) (v := .slice l.aG l.given.length l.cG) rfl (by kernel_rfl) (by kernel_rfl) (by kernel_rfl) (fun _ _ _ h => h) (Or.inl ⟨by rfl, ?_⟩) hHeld ?_
        · intro w' hSw
          have hx := hSw.1.1
          go_simp <;> rfl
        try simp only [Act.put, List.getElem_toArray, List.getElem_cons_zero, List.getElem_cons_succ, List.setIfInBounds_toArray, List.set_cons_zero, List.set_cons_succ]
        refine wpAnyH_take (i := 4) (v := .agg #[.int .i64 g.tx, .int .i64 g.res, .int .i64 m]) rfl (by kernel_rfl) (by kernel_rfl) (by kernel_rfl) (fun _ _ _ h => h) (Or.inl ⟨by rfl, ?_⟩) hHeld ?_
        · intro w' hSw
          obtain ⟨hx0, hx1, hx2⟩ := hSw.2.2
          go_simp <;> rfl
        try simp only [Act.put, List.getElem_toArray, List.getElem_cons_zero, List.getElem_cons_succ, List.setIfInBounds_toArray, List.set_cons_zero, List.set_cons_succ]
        refine wpAnyH_ready (rs := [5]) (by kernel_rfl) (by simp) ?_
        refine AllReadyH.cons rfl (fun K hK => ?_) AllReadyH.nil
        go_simp
        refine (HC2.out _ D2).mono ?_
        rintro r d3 ⟨rfl, hbd3⟩
        have N3 : Below V1.heap.size V1 d3 := D2.trans (hbd3.mono D2.size)
        refine hK.out _ _ (HK.out _ N3) (fun hHeld => ?_)
        clear hK K hbd3
        try simp only [Act.put, List.getElem_toArray, List.getElem_cons_zero, List.getElem_cons_succ, List.setIfInBounds_toArray, List.set_cons_zero, List.set_cons_succ]
        refine wpAnyH_take (i := 6) (v := .bool true) rfl (by kernel_rfl) (by kernel_rfl) (by kernel_rfl) (fun _ _ _ h => h) (Or.inl ⟨by rfl, ?_⟩) hHeld ?_
        · intro w' hSw
          go_simp <;> rfl
        try simp only [Act.put, List.getElem_toArray, List.getElem_cons_zero, List.getElem_cons_succ, List.setIfInBounds_toArray, List.set_cons_zero, List.set_cons_succ]
        refine wpAnyH_take (i := 7) (v := .int .i64 pl) rfl (by kernel_rfl) (by kernel_rfl) (by kernel_rfl) (fun _ _ _ h => h) (Or.inl ⟨by rfl, ?_⟩) hHeld ?_
        · intro w' hSw
          go_simp <;> rfl
        try simp only [Act.put, List.getElem_toArray, List.getElem_cons_zero, List.getElem_cons_succ, List.setIfInBounds_toArray, List.set_cons_zero, List.set_cons_succ]
        refine wpAnyH_take (i := 8) (v := .bool false) rfl (by kernel_rfl) (by kernel_rfl) (by kernel_rfl) (fun _ _ _ h => h) (Or.inl ⟨by rfl, ?_⟩) hHeld ?_
        · intro w' hSw
          have hx := hpn
          go_simp <;> rfl
        try simp only [Act.put, List.getElem_toArray, List.getElem_cons_zero, List.getElem_cons_succ, List.setIfInBounds_toArray, List.set_cons_zero, List.set_cons_succ]
        refine wpAnyH_take (i := 9) (v := .bool false) rfl (by kernel_rfl) (by kernel_rfl) (by kernel_rfl) (fun _ _ _ h => h) (Or.inl ⟨by rfl, ?_⟩) hHeld ?_
        · intro w' hSw
          go_simp <;> rfl
        try simp only [Act.put, List.getElem_toArray, List.getElem_cons_zero, List.getElem_cons_succ, List.setIfInBounds_toArray, List.set_cons_zero, List.set_cons_succ]
        refine wpAnyH_take (i := 10) (v := .pointer (some ⟨B, 0, none⟩)) rfl (by kernel_rfl) (by kernel_rfl) (by kernel_rfl) (fun _ _ _ h => h) (Or.inl ⟨by rfl, ?_⟩) hHeld ?_
        · intro w' hSw
          go_simp <;> rfl
        try simp only [Act.put, List.getElem_toArray, List.getElem_cons_zero, List.getElem_cons_succ, List.setIfInBounds_toArray, List.set_cons_zero, List.set_cons_succ]
        refine wpAnyH_take (i := 11) (v := .pointer (some ⟨B, 0, none⟩)) rfl (by kernel_rfl) (by kernel_rfl) (by kernel_rfl) (fun _ _ _ h => h) (Or.inl ⟨by rfl, ?_⟩) hHeld ?_
        · intro w' hSw
          go_simp <;> rfl
        try simp only [Act.put, List.getElem_toArray, List.getElem_cons_zero, List.getElem_cons_succ, List.setIfInBounds_toArray, List.set_cons_zero, List.set_cons_succ]
        refine wpAnyH_take (i := 12) (v := .pointer (some ⟨B, 1, none⟩)) rfl (by kernel_rfl) (by kernel_rfl) (by kernel_rfl) (fun _ _ _ h => h) (Or.inl ⟨by rfl, ?_⟩) hHeld ?_
        · intro w' hSw
          go_simp <;> rfl
        try simp only [Act.put, List.getElem_toArray, List.getElem_cons_zero, List.getElem_cons_succ, List.setIfInBounds_toArray, List.set_cons_zero, List.set_cons_succ]
        refine wpAnyH_take (i := 13) (v := .slice l.aW l.waits.length l.cW) rfl (by kernel_rfl) (by kernel_rfl) (by kernel_rfl) (fun _ _ _ h => h) (Or.inl ⟨by rfl, ?_⟩) hHeld ?_
        · intro w' hSw
          have hx := hSw.1.2
          go_simp <;> rfl
        try simp only [Act.put, List.getElem_toArray, List.getElem_cons_zero, List.getElem_cons_succ, List.setIfInBounds_toArray, List.set_cons_zero, List.set_cons_succ]
        refine wpAnyH_take (i := 14) (v := .pointer (some ⟨w.heap.size, 1, none⟩)) rfl (by kernel_rfl) (by kernel_rfl) (by kernel_rfl) (fun _ _ _ h => h) (Or.inl ⟨by rfl, ?_⟩) hHeld ?_
        · intro w' hSw
          go_simp <;> rfl
        try simp only [Act.put, List.getElem_toArray, List.getElem_cons_zero, List.getElem_cons_succ, List.setIfInBounds_toArray, List.set_cons_zero, List.set_cons_succ]
        refine wpAnyH_take (i := 15) (v := .int .i64 g.res) rfl (by kernel_rfl) (by kernel_rfl) (by kernel_rfl) (fun _ _ _ h => h) (Or.inl ⟨by rfl, ?_⟩) hHeld ?_
        · intro w' hSw
          have hx := hSw.2.1.2.1
          go_simp <;> rfl
        try simp only [Act.put, List.getElem_toArray, List.getElem_cons_zero, List.getElem_cons_succ, List.setIfInBounds_toArray, List.set_cons_zero, List.set_cons_succ]
        refine wpAnyH_ready (rs := [16]) (by kernel_rfl) (by simp) ?_
        refine AllReadyH.cons rfl (fun K hK => ?_) AllReadyH.nil
        go_simp
        refine (HC1.out _ N3).mono ?_
        rintro r d4 ⟨rfl, hbd4⟩
        have N4 : Below V1.heap.size V1 d4 := N3.trans (hbd4.mono N3.size)
        refine hK.out _ _ (HK.out _ N4) (fun hHeld => ?_)
        clear hK K hbd4
        try simp only [Act.put, List.getElem_toArray, List.getElem_cons_zero, List.getElem_cons_succ, List.setIfInBounds_toArray, List.set_cons_zero, List.set_cons_succ]
        refine wpAnyH_take (i := 17) (v := .bool true) rfl (by kernel_rfl) (by kernel_rfl) (by kernel_rfl) (fun _ _ _ h => h) (Or.inl ⟨by rfl, ?_⟩) hHeld ?_
        · intro w' hSw
          go_simp <;> rfl
        try simp only [Act.put, List.getElem_toArray, List.getElem_cons_zero, List.getElem_cons_succ, List.setIfInBounds_toArray, List.set_cons_zero, List.set_cons_succ]
        refine wpAnyH_take (i := 18) (v := .bool true) rfl (by kernel_rfl) (by kernel_rfl) (by kernel_rfl) (fun _ _ _ h => h) (Or.inl ⟨by rfl, ?_⟩) hHeld ?_
        · intro w' hSw
          go_simp <;> rfl
        try simp only [Act.put, List.getElem_toArray, List.getElem_cons_zero, List.getElem_cons_succ, List.setIfInBounds_toArray, List.set_cons_zero, List.set_cons_succ]
        refine wpAnyH_take (i := 19) (v := .bool true) rfl (by kernel_rfl) (by kernel_rfl) (by kernel_rfl) (fun _ _ _ h => h) (Or.inl ⟨by rfl, ?_⟩) hHeld ?_
        · intro w' hSw
          go_simp <;> rfl
        try simp only [Act.put, List.getElem_toArray, List.getElem_cons_zero, List.getElem_cons_succ, List.setIfInBounds_toArray, List.set_cons_zero, List.set_cons_succ]
        refine wpAnyH_take (i := 20) (v := .bool true) rfl (by kernel_rfl) (by kernel_rfl) (by kernel_rfl) (fun _ _ _ h => h) (Or.inl ⟨by rfl, ?_⟩) hHeld ?_
        · intro w' hSw
          go_simp <;> rfl
        try simp only [Act.put, List.getElem_toArray, List.getElem_cons_zero, List.getElem_cons_succ, List.setIfInBounds_toArray, List.set_cons_zero, List.set_cons_succ]
        refine wpAnyH_done (by kernel_rfl) ?_ _
        clear hHeld HC1 HC2
        have HA : Hid (A = (GV, l.waits, 0)) := by rw [Hid, HV2.out]; rfl
        clear HV2
        obtain ⟨z0, z1, z2⟩ := (HK.out _ N4).2.2
        have C := HC3.out _ N4
        have nw := HBW.out _ N4
        clear HC3
        go_wp2_with fail
        refine C.mono ?_
        clear C
        rintro e w6 ⟨r, l', rfl, hl1, hl2, hl3, hl4, hst⟩
        have hrt : r = true := by
          cases r
          · exact absurd (hl3.1 rfl).2 HNE.out
          · rfl
        subst hrt
        have HF : Hid (AskAns lo B l A w (.returned (.int .i64 0)) w6) := ⟨l', by rw [HA.out], by rw [HA.out]; exact hl1 rfl, by rw [HA.out]; exact hl4, (HL0.out.same nw).trans hst⟩
        clear hl1 hl2 hl3 hl4 hst z0 z1 z2
        go_wp2_with fail
        go_ret
        exact HF.out
      | true =>
        go_upto_region 4 with fail
        have D2 : Below V1.heap.size V1 d0.drew := D0.drew
        refine wp_region_held_drew (S := fun u => (u.cell? ⟨B, 0, none⟩ = some (.slice l.aG l.given.length l.cG) ∧ u.cell? ⟨B, 1, none⟩ = some (.slice l.aW l.waits.length l.cW)) ∧ (u.cell? ⟨w.heap.size, 0, none⟩ = some (.int .i64 g.tx) ∧ u.cell? ⟨w.heap.size, 1, none⟩ = some (.int .i64 g.res) ∧ u.cell? ⟨w.heap.size, 2, none⟩ = some (.int .i64 g.mode)) ∧ (u.cell? ⟨w1.heap.size, 0, none⟩ = some (.int .i64 g.tx) ∧ u.cell? ⟨w1.heap.size, 1, none⟩ = some (.int .i64 g.res) ∧ u.cell? ⟨w1.heap.size, 2, none⟩ = some (.int .i64 m))) (by kernel_rfl) (HK.out _ D2) (fun hHeld => ?_)
        generalize d0.drew = d2 at *
        refine wpAnyH_take (i := 0) (v := .pointer (some ⟨B, 0, none⟩)) rfl (by kernel_rfl) (by kernel_rfl) (by kernel_rfl) (fun _ _ _ h => h) (Or.inl ⟨by rfl, ?_⟩) hHeld ?_
        · intro w' hSw
          go_simp <;> rfl
        try simp only [Act.put, List.getElem_toArray, List.getElem_cons_zero, List.setIfInBounds_toArray, List.set_cons_zero, List.set_cons_succ]
        refine wpAnyH_take (i := 1) (v := .pointer (some ⟨B, 0, none⟩)) rfl (by kernel_rfl) (by kernel_rfl) (by kernel_rfl) (fun _ _ _ h => h) (Or.inl ⟨by rfl, ?_⟩) hHeld ?_
        · intro w' hSw
          go_simp <;> rfl
        try simp only [Act.put, List.getElem_toArray, List.getElem_cons_zero, List.getElem_cons_succ, List.setIfInBounds_toArray, List.set_cons_zero, List.set_cons_succ]
        refine wpAnyH_take (i := 2) (v := .pointer (some ⟨B, 0, none⟩)) rfl (by kernel_rfl) (by kernel_rfl) (by kernel_rfl) (fun _ _ _ h => h) (Or.inl ⟨by rfl, ?_⟩) hHeld ?_
        · intro w' hSw
          go_simp <;> rfl
        try simp only [Act.put, List.getElem_toArray, List.getElem_cons_zero, List.getElem_cons_succ, List.setIfInBounds_toArray, List.set_cons_zero, List.set_cons_succ]
        refine wpAnyH_take (i := 3) (v := .slice l.aG l.given.length l.cG) rfl (by kernel_rfl) (by kernel_rfl) (by kernel_rfl) (fun _ _ _ h => h) (Or.inl ⟨by rfl, ?_⟩) hHeld ?_
        · intro w' hSw
          have hx := hSw.1.1
          go_simp <;> rfl
        try simp only [Act.put, List.getElem_toArray, List.getElem_cons_zero, List.getElem_cons_succ, List.setIfInBounds_toArray, List.set_cons_zero, List.set_cons_succ]
        refine wpAnyH_take (i := 4) (v := .agg #[.int .i64 g.tx, .int .i64 g.res, .int .i64 m]) rfl (by kernel_rfl) (by kernel_rfl) (by kernel_rfl) (fun _ _ _ h => h) (Or.inl ⟨by rfl, ?_⟩) hHeld ?_
        · intro w' hSw
          obtain ⟨hx0, hx1, hx2⟩ := hSw.2.2
          go_simp <;> rfl
        try simp only [Act.put, List.getElem_toArray, List.getElem_cons_zero, List.getElem_cons_succ, List.setIfInBounds_toArray, List.set_cons_zero, List.set_cons_succ]
        refine wpAnyH_ready (rs := [5]) (by kernel_rfl) (by simp) ?_
        refine AllReadyH.cons rfl (fun K hK => ?_) AllReadyH.nil
        go_simp
        refine (HC2.out _ D2).mono ?_
        rintro r d3 ⟨rfl, hbd3⟩
        have N3 : Below V1.heap.size V1 d3 := D2.trans (hbd3.mono D2.size)
        refine hK.out _ _ (HK.out _ N3) (fun hHeld => ?_)
        clear hK K hbd3
        try simp only [Act.put, List.getElem_toArray, List.getElem_cons_zero, List.getElem_cons_succ, List.setIfInBounds_toArray, List.set_cons_zero, List.set_cons_succ]
        refine wpAnyH_take (i := 6) (v := .bool true) rfl (by kernel_rfl) (by kernel_rfl) (by kernel_rfl) (fun _ _ _ h => h) (Or.inl ⟨by rfl, ?_⟩) hHeld ?_
        · intro w' hSw
          go_simp <;> rfl
        try simp only [Act.put, List.getElem_toArray, List.getElem_cons_zero, List.getElem_cons_succ, List.setIfInBounds_toArray, List.set_cons_zero, List.set_cons_succ]
        refine wpAnyH_take (i := 7) (v := .int .i64 pl) rfl (by kernel_rfl) (by kernel_rfl) (by kernel_rfl) (fun _ _ _ h => h) (Or.inl ⟨by rfl, ?_⟩) hHeld ?_
        · intro w' hSw
          go_simp <;> rfl
        try simp only [Act.put, List.getElem_toArray, List.getElem_cons_zero, List.getElem_cons_succ, List.setIfInBounds_toArray, List.set_cons_zero, List.set_cons_succ]
        refine wpAnyH_take (i := 8) (v := .bool false) rfl (by kernel_rfl) (by kernel_rfl) (by kernel_rfl) (fun _ _ _ h => h) (Or.inl ⟨by rfl, ?_⟩) hHeld ?_
        · intro w' hSw
          have hx := hpn
          go_simp <;> rfl
        try simp only [Act.put, List.getElem_toArray, List.getElem_cons_zero, List.getElem_cons_succ, List.setIfInBounds_toArray, List.set_cons_zero, List.set_cons_succ]
        refine wpAnyH_take (i := 9) (v := .bool false) rfl (by kernel_rfl) (by kernel_rfl) (by kernel_rfl) (fun _ _ _ h => h) (Or.inl ⟨by rfl, ?_⟩) hHeld ?_
        · intro w' hSw
          go_simp <;> rfl
        try simp only [Act.put, List.getElem_toArray, List.getElem_cons_zero, List.getElem_cons_succ, List.setIfInBounds_toArray, List.set_cons_zero, List.set_cons_succ]
        refine wpAnyH_take (i := 10) (v := .pointer (some ⟨B, 0, none⟩)) rfl (by kernel_rfl) (by kernel_rfl) (by kernel_rfl) (fun _ _ _ h => h) (Or.inl ⟨by rfl, ?_⟩) hHeld ?_
        · intro w' hSw
          go_simp <;> rfl
        try simp only [Act.put, List.getElem_toArray, List.getElem_cons_zero, List.getElem_cons_succ, List.setIfInBounds_toArray, List.set_cons_zero, List.set_cons_succ]
        refine wpAnyH_take (i := 11) (v := .pointer (some ⟨B, 0, none⟩)) rfl (by kernel_rfl) (by kernel_rfl) (by kernel_rfl) (fun _ _ _ h => h) (Or.inl ⟨by rfl, ?_⟩) hHeld ?_
        · intro w' hSw
          go_simp <;> rfl
        try simp only [Act.put, List.getElem_toArray, List.getElem_cons_zero, List.getElem_cons_succ, List.setIfInBounds_toArray, List.set_cons_zero, List.set_cons_succ]
        refine wpAnyH_take (i := 12) (v := .pointer (some ⟨B, 1, none⟩)) rfl (by kernel_rfl) (by kernel_rfl) (by kernel_rfl) (fun _ _ _ h => h) (Or.inl ⟨by rfl, ?_⟩) hHeld ?_
        · intro w' hSw
          go_simp <;> rfl
        try simp only [Act.put, List.getElem_toArray, List.getElem_cons_zero, List.getElem_cons_succ, List.setIfInBounds_toArray, List.set_cons_zero, List.set_cons_succ]
        refine wpAnyH_take (i := 13) (v := .slice l.aW l.waits.length l.cW) rfl (by kernel_rfl) (by kernel_rfl) (by kernel_rfl) (fun _ _ _ h => h) (Or.inl ⟨by rfl, ?_⟩) hHeld ?_
        · intro w' hSw
          have hx := hSw.1.2
          go_simp <;> rfl
        try simp only [Act.put, List.getElem_toArray, List.getElem_cons_zero, List.getElem_cons_succ, List.setIfInBounds_toArray, List.set_cons_zero, List.set_cons_succ]
        refine wpAnyH_take (i := 14) (v := .pointer (some ⟨w.heap.size, 1, none⟩)) rfl (by kernel_rfl) (by kernel_rfl) (by kernel_rfl) (fun _ _ _ h => h) (Or.inl ⟨by rfl, ?_⟩) hHeld ?_
        · intro w' hSw
          go_simp <;> rfl
        try simp only [Act.put, List.getElem_toArray, List.getElem_cons_zero, List.getElem_cons_succ, List.setIfInBounds_toArray, List.set_cons_zero, List.set_cons_succ]
        refine wpAnyH_take (i := 15) (v := .int .i64 g.res) rfl (by kernel_rfl) (by kernel_rfl) (by kernel_rfl) (fun _ _ _ h => h) (Or.inl ⟨by rfl, ?_⟩) hHeld ?_
        · intro w' hSw
          have hx := hSw.2.1.2.1
          go_simp <;> rfl
        try simp only [Act.put, List.getElem_toArray, List.getElem_cons_zero, List.getElem_cons_succ, List.setIfInBounds_toArray, List.set_cons_zero, List.set_cons_succ]
        refine wpAnyH_ready (rs := [16]) (by kernel_rfl) (by simp) ?_
        refine AllReadyH.cons rfl (fun K hK => ?_) AllReadyH.nil
        go_simp
        refine (HC1.out _ N3).mono ?_
        rintro r d4 ⟨rfl, hbd4⟩
        have N4 : Below V1.heap.size V1 d4 := N3.trans (hbd4.mono N3.size)
        refine hK.out _ _ (HK.out _ N4) (fun hHeld => ?_)
        clear hK K hbd4
        try simp only [Act.put, List.getElem_toArray, List.getElem_cons_zero, List.getElem_cons_succ, List.setIfInBounds_toArray, List.set_cons_zero, List.set_cons_succ]
        refine wpAnyH_take (i := 17) (v := .bool false) rfl (by kernel_rfl) (by kernel_rfl) (by kernel_rfl) (fun _ _ _ h => h) (Or.inl ⟨by rfl, ?_⟩) hHeld ?_
        · intro w' hSw
          go_simp <;> rfl
        try simp only [Act.put, List.getElem_toArray, List.getElem_cons_zero, List.getElem_cons_succ, List.setIfInBounds_toArray, List.set_cons_zero, List.set_cons_succ]
        refine wpAnyH_take (i := 18) (v := .bool false) rfl (by kernel_rfl) (by kernel_rfl) (by kernel_rfl) (fun _ _ _ h => h) (Or.inl ⟨by rfl, ?_⟩) hHeld ?_
        · intro w' hSw
          go_simp <;> rfl
        try simp only [Act.put, List.getElem_toArray, List.getElem_cons_zero, List.getElem_cons_succ, List.setIfInBounds_toArray, List.set_cons_zero, List.set_cons_succ]
        refine wpAnyH_take (i := 19) (v := .bool false) rfl (by kernel_rfl) (by kernel_rfl) (by kernel_rfl) (fun _ _ _ h => h) (Or.inl ⟨by rfl, ?_⟩) hHeld ?_
        · intro w' hSw
          go_simp <;> rfl
        try simp only [Act.put, List.getElem_toArray, List.getElem_cons_zero, List.getElem_cons_succ, List.setIfInBounds_toArray, List.set_cons_zero, List.set_cons_succ]
        refine wpAnyH_take (i := 20) (v := .bool false) rfl (by kernel_rfl) (by kernel_rfl) (by kernel_rfl) (fun _ _ _ h => h) (Or.inl ⟨by rfl, ?_⟩) hHeld ?_
        · intro w' hSw
          go_simp <;> rfl
        try simp only [Act.put, List.getElem_toArray, List.getElem_cons_zero, List.getElem_cons_succ, List.setIfInBounds_toArray, List.set_cons_zero, List.set_cons_succ]
        refine wpAnyH_done (by kernel_rfl) ?_ _
        clear hHeld HC1 HC2
        have HA : Hid (A = (l.given, l.waits ++ [g], 1)) := by rw [Hid, HV2.out]; rfl
        clear HV2 HC3
        have y1 := (HK.out _ N4).1.2
        have hw6 : ((l.waits.length : Int) == 60) = false := beq_eq_false_iff_ne.2 (by omega)
        go_upto_region 10 with fail
        clear y1
        have hD : Below w.heap.size w d4.drew := (HBW.out _ N4).drew
        have D5 : Below V1.heap.size V1 d4.drew := N4.drew
        refine wp_region_late (· == 10) (S := fun u => (u.cell? ⟨B, 0, none⟩ = some (.slice l.aG l.given.length l.cG) ∧ u.cell? ⟨B, 1, none⟩ = some (.slice l.aW l.waits.length l.cW)) ∧ (u.cell? ⟨w.heap.size, 0, none⟩ = some (.int .i64 g.tx) ∧ u.cell? ⟨w.heap.size, 1, none⟩ = some (.int .i64 g.res) ∧ u.cell? ⟨w.heap.size, 2, none⟩ = some (.int .i64 g.mode)) ∧ (u.cell? ⟨w1.heap.size, 0, none⟩ = some (.int .i64 g.tx) ∧ u.cell? ⟨w1.heap.size, 1, none⟩ = some (.int .i64 g.res) ∧ u.cell? ⟨w1.heap.size, 2, none⟩ = some (.int .i64 m))) (by kernel_rfl) (HK.out _ D5) (fun hHeld => ?_)
        generalize d4.drew = e0 at *
        refine wpAnyL_take (i := 0) (v := .pointer (some ⟨B, 0, none⟩)) rfl (by kernel_rfl) (fun _ _ _ h => h) (Or.inl ⟨by rfl, ?_⟩) hHeld ?_
        · intro w' hSw
          go_simp <;> rfl
        try simp only [Act.put, List.getElem_toArray, List.getElem_cons_zero, List.setIfInBounds_toArray, List.set_cons_zero, List.set_cons_succ]
        refine wpAnyL_take (i := 1) (v := .pointer (some ⟨B, 0, none⟩)) rfl (by kernel_rfl) (fun _ _ _ h => h) (Or.inl ⟨by rfl, ?_⟩) hHeld ?_
        · intro w' hSw
          go_simp <;> rfl
        try simp only [Act.put, List.getElem_toArray, List.getElem_cons_zero, List.getElem_cons_succ, List.setIfInBounds_toArray, List.set_cons_zero, List.set_cons_succ]
        refine wpAnyL_take (i := 2) (v := .pointer (some ⟨B, 0, none⟩)) rfl (by kernel_rfl) (fun _ _ _ h => h) (Or.inl ⟨by rfl, ?_⟩) hHeld ?_
        · intro w' hSw
          go_simp <;> rfl
        try simp only [Act.put, List.getElem_toArray, List.getElem_cons_zero, List.getElem_cons_succ, List.setIfInBounds_toArray, List.set_cons_zero, List.set_cons_succ]
        refine wpAnyL_take (i := 3) (v := .pointer (some ⟨B, 1, none⟩)) rfl (by kernel_rfl) (fun _ _ _ h => h) (Or.inl ⟨by rfl, ?_⟩) hHeld ?_
        · intro w' hSw
          go_simp <;> rfl
        try simp only [Act.put, List.getElem_toArray, List.getElem_cons_zero, List.getElem_cons_succ, List.setIfInBounds_toArray, List.set_cons_zero, List.set_cons_succ]
        refine wpAnyL_take (i := 4) (v := .slice l.aW l.waits.length l.cW) rfl (by kernel_rfl) (fun _ _ _ h => h) (Or.inl ⟨by rfl, ?_⟩) hHeld ?_
        · intro w' hSw
          have hx := hSw.1.2
          go_simp <;> rfl
        try simp only [Act.put, List.getElem_toArray, List.getElem_cons_zero, List.getElem_cons_succ, List.setIfInBounds_toArray, List.set_cons_zero, List.set_cons_succ]
        refine wpAnyL_take (i := 5) (v := .agg #[.int .i64 g.tx, .int .i64 g.res, .int .i64 g.mode]) rfl (by kernel_rfl) (fun _ _ _ h => h) (Or.inl ⟨by rfl, ?_⟩) hHeld ?_
        · intro w' hSw
          obtain ⟨hx0, hx1, hx2⟩ := hSw.2.1
          go_simp <;> rfl
        try simp only [Act.put, List.getElem_toArray, List.getElem_cons_zero, List.getElem_cons_succ, List.setIfInBounds_toArray, List.set_cons_zero, List.set_cons_succ]
        refine wpAnyL_next 6 (by kernel_rfl) rfl (fun K hK => ?_)
        go_simp
        obtain ⟨W9, hW9, y9, hb9, hs9⟩ := boxes1 e0 [.int .i64 g.tx, .int .i64 g.res, .int .i64 g.mode] 37
        have r9 : ReadsG W9 (some ⟨e0.heap.size, 0, none⟩) [g] := by rw [← hW9.out]; exact readsG_one e0 g _
        try simp only at hW9 r9
        rw [hW9.out]
        have D9 : Below w.heap.size w W9 := hD.trans (hb9.mono hD.size)
        have o9 := (HL0.out.below D9).own.waits
        clear hs9 y9
        have D9b : Below V1.heap.size V1 W9 := D5.trans (hb9.mono D5.size)
        refine hK.out _ _ ((HK.out _ (D5.trans (hb9.mono D5.size)))) (fun hHeld => ?_)
        clear hK K hW9 hb9
        try simp only [Act.put, List.getElem_toArray, List.getElem_cons_zero, List.getElem_cons_succ, List.setIfInBounds_toArray, List.set_cons_zero, List.set_cons_succ]
        refine wpAnyL_next 7 (by kernel_rfl) rfl (fun K hK => ?_)
        refine step_append_grants rfl (.tmp 64) (.tmp 66) rfl lo W9.heap.size l.aW l.cW l.waits rfl o9 _ _ [g] rfl r9 (fun h => by cases h) (by simp only [List.length_cons, List.length_nil]; omega) (by have := D9.size; omega) ?_
        intro a10 c10 y10 w10 hy10 o10 g10 k10
        obtain ⟨⟨f1, f2⟩, W3, hW3, hst⟩ := LkAt.setW (w := w) HL0.out D9 o10 g10 (fun k hk => by
          rcases k10 k hk with e | e
          · exact .inl e
          · exact .inr (by have := D9.size; omega))
        have HK10 : Hid (_) := fun k (hk : k < W9.heap.size) hn => g10.block k hk hn
        clear k10 r9 o9
        have hb10 := (HB2.out _ D9b).1.block (g10.block _ (HB2.out _ D9b).1.lt (fun e => HBl.out.1 (mem_blocksW e.symm)))
        have hb11 := (HB2.out _ D9b).2.block (g10.block _ (HB2.out _ D9b).2.lt (fun e => HBl.out.2.1 (mem_blocksW e.symm)))
        have hbB : Box w10 B [.slice l.aG l.given.length l.cG, .slice l.aW l.waits.length l.cW] 30 := ((HL0.out.below D9).box).block (g10.block _ (HL0.out.below D9).box.lt (fun e => HL0.out.off (mem_blocksW e.symm)))
        have KS : ((w10.cell? ⟨B, 0, none⟩ = some (.slice l.aG l.given.length l.cG) ∧ w10.cell? ⟨B, 1, none⟩ = some (.slice l.aW l.waits.length l.cW)) ∧ (w10.cell? ⟨w.heap.size, 0, none⟩ = some (.int .i64 g.tx) ∧ w10.cell? ⟨w.heap.size, 1, none⟩ = some (.int .i64 g.res) ∧ w10.cell? ⟨w.heap.size, 2, none⟩ = some (.int .i64 g.mode)) ∧ (w10.cell? ⟨w1.heap.size, 0, none⟩ = some (.int .i64 g.tx) ∧ w10.cell? ⟨w1.heap.size, 1, none⟩ = some (.int .i64 g.res) ∧ w10.cell? ⟨w1.heap.size, 2, none⟩ = some (.int .i64 m))) := ⟨⟨hbB.cell 0 _ rfl, f1⟩, ⟨hb10.cell 0 _ rfl, hb10.cell 1 _ rfl, hb10.cell 2 _ rfl⟩, hb11.cell 0 _ rfl, hb11.cell 1 _ rfl, hb11.cell 2 _ rfl⟩
        clear hb10 hb11 hbB
        refine hK.out _ _ (KS) (fun hHeld => ?_)
        clear hK K 
        try simp only [Act.put, List.getElem_toArray, List.getElem_cons_zero, List.getElem_cons_succ, List.setIfInBounds_toArray, List.set_cons_zero, List.set_cons_succ]
        refine wpAnyL_next 8 (by kernel_rfl) rfl (fun K hK => ?_)
        go_simp
        refine hK.out _ _ (hHeld) (fun hHeld => ?_)
        clear hK K 
        try simp only [Act.put, List.getElem_toArray, List.getElem_cons_zero, List.getElem_cons_succ, List.setIfInBounds_toArray, List.set_cons_zero, List.set_cons_succ]
        refine wpAnyL_take (i := 9) (v := .pointer (some ⟨B, 1, none⟩)) rfl (by kernel_rfl) (fun _ _ _ h => h) (Or.inl ⟨by rfl, ?_⟩) hHeld ?_
        · intro w' hSw
          go_simp <;> rfl
        try simp only [Act.put, List.getElem_toArray, List.getElem_cons_zero, List.getElem_cons_succ, List.setIfInBounds_toArray, List.set_cons_zero, List.set_cons_succ]
        refine wpAnyL_last 10 (by kernel_rfl) rfl rfl (fun K hK => ?_)
        go_simp
        rw [hW3.out]
        refine hK.out _ _ ?_
        clear hK K
        refine wpAnyL_done (by kernel_rfl) ?_ _
        have e10 := hy10.out
        subst e10
        clear hHeld hW3 f1 f2 g10 o10 HK10 hy10 KS
        have HF : Hid (AskAns lo B l A w (.returned (.int .i64 1)) W3) := ⟨⟨l.given, l.waits ++ [g], l.aG, l.cG, a10, c10⟩, by rw [HA.out], by rw [HA.out], by rw [HA.out], hst⟩
        clear hst HK
        go_wp2_with fail
        go_ret
        exact HF.out
end Go.Proofs.YtekljhabjkmhpaaDoor
