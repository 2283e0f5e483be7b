/- Several texts in one, in their order. -/
import Derived.Test.YtekljhabjkmhpabDoorPart4
import Derived.Deep.RegionHeld3
import Derived.Deep.LoopGhost
import Derived.Deep.RegionHeld
import Derived.Deep.Cut
/- The walk of spec.Stuck. -/
namespace Go.Proofs.YtekljhabjkmhpabDoor
open Go.RowKit

/-- What Stuck answers. -/
def StuckAns (G V : List GrantV) (s : Int) : Prop := (okLocks G V = true → 0 ≤ s ∧ StuckIs G V s) ∧ (okLocks G V = false → s = 0)
theorem stuckAns_one {G V : List GrantV} {s t : Int} (h : StuckAns G V s) (k : StuckAns G V t) : s = t := by
  cases e : okLocks G V
  · rw [h.2 e, k.2 e]
  · exact stuck_one (h.1 e).2 (k.1 e).2 ⟨(h.1 e).1, (k.1 e).1⟩
theorem stuck_end {G V : List GrantV} {b : Int} (h1 : b = 0 ∨ (1 ≤ b ∧ b ≤ 99 ∧ BackE (EdgeL G V) b)) (h2 : ∀ j, j < V.length → BackE (EdgeL G V) (V.getD j zeroG).tx → (V.getD j zeroG).tx ≤ b) : StuckIs G V b := by
  refine ⟨h1, fun x hx hx9 hb => ?_⟩
  obtain ⟨z, hz⟩ := back_first hb
  obtain ⟨k, hk, e⟩ := edge_from hz
  have := h2 k hk (by rw [e]; exact hb)
  omega

set_option maxHeartbeats 4000000 in
set_option maxRecDepth 100000 in
theorem specStuck_any (l : LocksA) (w : World) (hr : l.reads w) (hl : l.short 1099511627776) :
    Calls Tryd.prog 18 #[.agg #[.slice l.aG l.given.length l.cG, .slice l.aW l.waits.length l.cW]] w fun e w' => ∃ s : Int, e = .returned (.int .i64 s) ∧ Hid (StuckAns l.given l.waits s) ∧ Below w.heap.size w w' := by
  obtain ⟨W, hW, b0, hbW, hsW⟩ := boxes1 w [.slice l.aG l.given.length l.cG, .slice l.aW l.waits.length l.cW] 28
  have hb0 := b0.lt
  have HB : Hid (∀ w', Below W.heap.size W w' → Below w.heap.size w w') := fun w' h => hbW.trans (h.mono hbW.size)
  have hrW := hr.below hbW
  have HOK : Hid (∀ u, Below W.heap.size W u → Calls Tryd.prog 22 #[.agg #[.slice l.aG l.given.length l.cG, .slice l.aW l.waits.length l.cW]] u fun e w' => e = .returned (.bool (okLocks l.given l.waits)) ∧ Below u.heap.size u w') := fun u h => specLocksOk_any l u (hrW.below h) hl
  obtain ⟨G, V, aG, cG, aW, cW⟩ := l
  obtain ⟨hG, hV, _, _, _, _⟩ := hrW
  obtain ⟨hlG, hlV⟩ := hl
  simp only at *
  have HBW : Hid (∀ u, Below W.heap.size W u → u.cell? ⟨w.heap.size, 0, none⟩ = some (.slice aG G.length cG) ∧ u.cell? ⟨w.heap.size, 1, none⟩ = some (.slice aW V.length cW)) := fun u h => ⟨(Box.below b0 h hb0).cell 0 _ rfl, (Box.below b0 h hb0).cell 1 _ rfl⟩
  have HCV : Hid (∀ w', Below W.heap.size W w' → ∀ k, k < V.length → ∃ b off, aW = some ⟨b, off, none⟩ ∧ w'.cell? ⟨b, off + k * 3, none⟩ = some (.int .i64 (V.getD k zeroG).tx)) := fun w' h k hk => by
    obtain ⟨b, off, ha, hc⟩ := (hV.below h) (by intro e; rw [e] at hk; simp at hk)
    exact ⟨b, off, ha, (hc k hk).1⟩
  have HCB : Hid (Right G V → ∀ u, Below W.heap.size W u → ∀ tx, 1 ≤ tx ∧ tx ≤ 99 → Calls Tryd.prog 38 #[.agg #[.slice aG G.length cG, .slice aW V.length cW], .int .i64 tx] u fun e w' => ∃ r : Bool, e = .returned (.bool r) ∧ Hid (r = true ↔ BackE (EdgeL G V) tx) ∧ Below u.heap.size u w') := fun hR u h tx htx => l9Back_any G V aG cG aW cW tx u (hG.below h) (hV.below h) hR htx
  have c1 := b0.cell 1 _ rfl
  have c0 := b0.cell 0 _ rfl
  clear hr hG hV hbW hsW b0 hb0
  cases hok : okLocks G V
  · rw [hok] at HOK
    have HA : Hid (StuckAns G V 0) := ⟨fun h => (by rw [hok] at h; cases h), fun _ => rfl⟩
    have HX := HB.out W (Below.refl _ _)
    by_cases h0 : V.length = 0
    · have hz2 : ¬ ((0 : Int) < (V.length : Int)) := by rw [h0]; simp
      clear h0
      go_enter Tryd.func18, Tryd.ntmps18
      go_wp2
      rw [hW.out]
      refine wp_loop_rounds 1 ?_
      rw [rounds_succ]
      go_wp2
      go_ret
      exact ⟨0, rfl, HA.out, HX⟩
    · have hz2 : (0 : Int) < (V.length : Int) := by omega
      have C := HOK.out W (Below.refl _ _)
      clear h0
      go_enter Tryd.func18, Tryd.ntmps18
      go_wp2
      rw [hW.out]
      refine wp_loop_rounds 1 ?_
      rw [rounds_succ]
      go_wp2_with fail
      refine C.mono ?_
      rintro e w1 ⟨rfl, hb1⟩
      have HX1 := HB.out w1 hb1
      go_wp2
      go_ret
      exact ⟨0, rfl, HA.out, HX1⟩
  · rw [hok] at HOK
    have hR := right_of hok
    have HEND : Hid (∀ s, 0 ≤ s → StuckIs G V s → StuckAns G V s) := fun s h0 h => ⟨fun _ => ⟨h0, h⟩, fun h => (by rw [hok] at h; cases h)⟩
    have HCB2 : Hid (_) := HCB.out hR
    have HTX : Hid (∀ k, k < V.length → 1 ≤ (V.getD k zeroG).tx ∧ (V.getD k zeroG).tx ≤ 99) := fun k hk => hR.wtx _ (mem_getD hk zeroG)
    have hlV6 : V.length ≤ 60 := hR.lw
    clear HCB hR hok
    go_enter Tryd.func18, Tryd.ntmps18
    go_wp2
    rw [hW.out]
    clear hW c0 c1
    go_loopw [3, 4] (fun o i wr => ∃ (k : Nat) (b : Int), k ≤ V.length ∧ i = .int .i64 k ∧ o = .int .i64 b ∧ Hid (0 ≤ b ∧ (b = 0 ∨ (1 ≤ b ∧ b ≤ 99 ∧ BackE (EdgeL G V) b)) ∧ ∀ j, j < k → BackE (EdgeL G V) (V.getD j zeroG).tx → (V.getD j zeroG).tx ≤ b) ∧ Below W.heap.size W wr) (fun _ i _ => V.length - (intOf i).toNat)
    case atStart => exact ⟨0, 0, Nat.zero_le _, rfl, rfl, ⟨Int.le_refl _, .inl rfl, fun j hj => by omega⟩, Below.refl _ _⟩
    case round =>
      obtain ⟨k, b, hk, rfl, rfl, hI, hbl⟩ := hrel
      obtain ⟨c0, c1⟩ := HBW.out _ hbl
      by_cases hlt : k < V.length
      · have C := HOK.out wr hbl
        go_wp2_with fail
        refine C.mono ?_
        clear C
        rintro e w1 ⟨rfl, hb1⟩
        have nW : Below W.heap.size W w1 := hbl.trans (hb1.mono hbl.size)
        clear c0 c1 hb1 hbl HOK
        generalize wr = wo at *
        obtain ⟨bv, off, rfl, _⟩ := HCV.out w1 nW k hlt
        have HK : Hid (∀ u, Below W.heap.size W u → (u.cell? ⟨w.heap.size, 0, none⟩ = some (.slice aG G.length cG) ∧ u.cell? ⟨w.heap.size, 1, none⟩ = some (.slice (some ⟨bv, off, none⟩) V.length cW)) ∧ u.cell? ⟨bv, off + k * 3, none⟩ = some (.int .i64 (V.getD k zeroG).tx)) := fun u h => by
          obtain ⟨b', off', e, h0⟩ := HCV.out u h k hlt
          cases e
          exact ⟨HBW.out u h, h0⟩
        have HT := HTX.out k hlt
        have HCk : Hid (_) := fun u h => HCB2.out u h (V.getD k zeroG).tx HT
        have HNX : Hid (∀ b', b ≤ b' → (0 ≤ b' ∧ (b' = 0 ∨ (1 ≤ b' ∧ b' ≤ 99 ∧ BackE (EdgeL G V) b'))) → (BackE (EdgeL G V) (V.getD k zeroG).tx → (V.getD k zeroG).tx ≤ b') → (0 ≤ b' ∧ (b' = 0 ∨ (1 ≤ b' ∧ b' ≤ 99 ∧ BackE (EdgeL G V) b')) ∧ ∀ j, j < k + 1 → BackE (EdgeL G V) (V.getD j zeroG).tx → (V.getD j zeroG).tx ≤ b')) := fun b' hbb h0 h1 => ⟨h0.1, h0.2, fun j hj hB => by
          by_cases e : j < k
          · have := hI.out.2.2 j e hB; omega
          · obtain rfl : j = k := by omega
            exact h1 hB⟩
        clear HCB2 HTX HCV HBW
        generalize (V.getD k zeroG).tx = t at *
        go_upto_region 5 with fail
        have D0 : Below W.heap.size W w1.drew := nW.drew
        by_cases hgt : b < t
        · have hgt2 : (b < t) = True := eq_true hgt
          clear hgt2
          refine wp_region_held_drew (S := fun u => (u.cell? ⟨w.heap.size, 0, none⟩ = some (.slice aG G.length cG) ∧ u.cell? ⟨w.heap.size, 1, none⟩ = some (.slice (some ⟨bv, off, none⟩) V.length cW)) ∧ u.cell? ⟨bv, off + k * 3, none⟩ = some (.int .i64 t)) (by kernel_rfl) (HK.out _ D0) (fun hHeld => ?_)
          generalize w1.drew = d0 at *
          refine wpAnyH_take (i := 0) (v := .pointer (some ⟨w.heap.size, 1, none⟩)) rfl (by kernel_rfl) (by kernel_rfl) (by kernel_rfl) (fun _ _ _ h => h) (Or.inl ⟨by rfl, ?_⟩) hHeld ?_
          · intro w' hSw
            go_simp <;> rfl
          try simp only [Act.put, List.getElem_toArray, List.getElem_cons_zero, List.setIfInBounds_toArray, List.set_cons_zero, List.set_cons_succ]
          refine wpAnyH_take (i := 1) (v := .slice (some ⟨bv, off, none⟩) V.length cW) rfl (by kernel_rfl) (by kernel_rfl) (by kernel_rfl) (fun _ _ _ h => h) (Or.inl ⟨by rfl, ?_⟩) hHeld ?_
          · intro w' hSw
            have hx := hSw.1.2
            go_simp <;> rfl
          try simp only [Act.put, List.getElem_toArray, List.getElem_cons_zero, List.getElem_cons_succ, List.setIfInBounds_toArray, List.set_cons_zero, List.set_cons_succ]
          refine wpAnyH_take (i := 2) (v := .int .i64 (k : Int)) rfl (by kernel_rfl) (by kernel_rfl) (by kernel_rfl) (fun _ _ _ h => h) (Or.inl ⟨by rfl, ?_⟩) hHeld ?_
          · intro w' hSw
            go_simp <;> rfl
          try simp only [Act.put, List.getElem_toArray, List.getElem_cons_zero, List.getElem_cons_succ, List.setIfInBounds_toArray, List.set_cons_zero, List.set_cons_succ]
          refine wpAnyH_take (i := 3) (v := .pointer (some ⟨bv, off + k * 3, none⟩)) rfl (by kernel_rfl) (by kernel_rfl) (by kernel_rfl) (fun _ _ _ h => h) (Or.inl ⟨by rfl, ?_⟩) hHeld ?_
          · intro w' hSw
            go_simp <;> rfl
          try simp only [Act.put, List.getElem_toArray, List.getElem_cons_zero, List.getElem_cons_succ, List.setIfInBounds_toArray, List.set_cons_zero, List.set_cons_succ]
          refine wpAnyH_take (i := 4) (v := .pointer (some ⟨bv, off + k * 3, none⟩)) rfl (by kernel_rfl) (by kernel_rfl) (by kernel_rfl) (fun _ _ _ h => h) (Or.inl ⟨by rfl, ?_⟩) hHeld ?_
          · intro w' hSw
            go_simp <;> rfl
          try simp only [Act.put, List.getElem_toArray, List.getElem_cons_zero, List.getElem_cons_succ, List.setIfInBounds_toArray, List.set_cons_zero, List.set_cons_succ]
          refine wpAnyH_take (i := 5) (v := .int .i64 t) rfl (by kernel_rfl) (by kernel_rfl) (by kernel_rfl) (fun _ _ _ h => h) (Or.inl ⟨by rfl, ?_⟩) hHeld ?_
          · intro w' hSw
            have hx := hSw.2
            go_simp <;> rfl
          try simp only [Act.put, List.getElem_toArray, List.getElem_cons_zero, List.getElem_cons_succ, List.setIfInBounds_toArray, List.set_cons_zero, List.set_cons_succ]
          refine wpAnyH_take (i := 6) (v := .int .i64 b) rfl (by kernel_rfl) (by kernel_rfl) (by kernel_rfl) (fun _ _ _ h => h) (Or.inl ⟨by rfl, ?_⟩) hHeld ?_
          · intro w' hSw
            go_simp <;> rfl
          try simp only [Act.put, List.getElem_toArray, List.getElem_cons_zero, List.getElem_cons_succ, List.setIfInBounds_toArray, List.set_cons_zero, List.set_cons_succ]
          refine wpAnyH_take (i := 7) (v := .bool true) rfl (by kernel_rfl) (by kernel_rfl) (by kernel_rfl) (fun _ _ _ h => h) (Or.inl ⟨by rfl, ?_⟩) hHeld ?_
          · intro w' hSw
            go_simp <;> rfl
          try simp only [Act.put, List.getElem_toArray, List.getElem_cons_zero, List.getElem_cons_succ, List.setIfInBounds_toArray, List.set_cons_zero, List.set_cons_succ]
          refine wpAnyH_take (i := 8) (v := .bool true) rfl (by kernel_rfl) (by kernel_rfl) (by kernel_rfl) (fun _ _ _ h => h) (Or.inl ⟨by rfl, ?_⟩) hHeld ?_
          · intro w' hSw
            go_simp <;> rfl
          try simp only [Act.put, List.getElem_toArray, List.getElem_cons_zero, List.getElem_cons_succ, List.setIfInBounds_toArray, List.set_cons_zero, List.set_cons_succ]
          refine wpAnyH_take (i := 9) (v := .agg #[.slice aG G.length cG, .slice (some ⟨bv, off, none⟩) V.length cW]) rfl (by kernel_rfl) (by kernel_rfl) (by kernel_rfl) (fun _ _ _ h => h) (Or.inl ⟨by rfl, ?_⟩) hHeld ?_
          · intro w' hSw
            obtain ⟨hx0, hx1⟩ := hSw.1
            go_simp <;> rfl
          try simp only [Act.put, List.getElem_toArray, List.getElem_cons_zero, List.getElem_cons_succ, List.setIfInBounds_toArray, List.set_cons_zero, List.set_cons_succ]
          refine wpAnyH_take (i := 10) (v := .pointer (some ⟨w.heap.size, 1, none⟩)) rfl (by kernel_rfl) (by kernel_rfl) (by kernel_rfl) (fun _ _ _ h => h) (Or.inl ⟨by rfl, ?_⟩) hHeld ?_
          · intro w' hSw
            go_simp <;> rfl
          try simp only [Act.put, List.getElem_toArray, List.getElem_cons_zero, List.getElem_cons_succ, List.setIfInBounds_toArray, List.set_cons_zero, List.set_cons_succ]
          refine wpAnyH_take (i := 11) (v := .slice (some ⟨bv, off, none⟩) V.length cW) rfl (by kernel_rfl) (by kernel_rfl) (by kernel_rfl) (fun _ _ _ h => h) (Or.inl ⟨by rfl, ?_⟩) hHeld ?_
          · intro w' hSw
            have hx := hSw.1.2
            go_simp <;> rfl
          try simp only [Act.put, List.getElem_toArray, List.getElem_cons_zero, List.getElem_cons_succ, List.setIfInBounds_toArray, List.set_cons_zero, List.set_cons_succ]
          refine wpAnyH_take (i := 12) (v := .int .i64 (k : Int)) rfl (by kernel_rfl) (by kernel_rfl) (by kernel_rfl) (fun _ _ _ h => h) (Or.inl ⟨by rfl, ?_⟩) hHeld ?_
          · intro w' hSw
            go_simp <;> rfl
          try simp only [Act.put, List.getElem_toArray, List.getElem_cons_zero, List.getElem_cons_succ, List.setIfInBounds_toArray, List.set_cons_zero, List.set_cons_succ]
          refine wpAnyH_take (i := 13) (v := .pointer (some ⟨bv, off + k * 3, none⟩)) rfl (by kernel_rfl) (by kernel_rfl) (by kernel_rfl) (fun _ _ _ h => h) (Or.inl ⟨by rfl, ?_⟩) hHeld ?_
          · intro w' hSw
            go_simp <;> rfl
          try simp only [Act.put, List.getElem_toArray, List.getElem_cons_zero, List.getElem_cons_succ, List.setIfInBounds_toArray, List.set_cons_zero, List.set_cons_succ]
          refine wpAnyH_take (i := 14) (v := .pointer (some ⟨bv, off + k * 3, none⟩)) rfl (by kernel_rfl) (by kernel_rfl) (by kernel_rfl) (fun _ _ _ h => h) (Or.inl ⟨by rfl, ?_⟩) hHeld ?_
          · intro w' hSw
            go_simp <;> rfl
          try simp only [Act.put, List.getElem_toArray, List.getElem_cons_zero, List.getElem_cons_succ, List.setIfInBounds_toArray, List.set_cons_zero, List.set_cons_succ]
          refine wpAnyH_take (i := 15) (v := .int .i64 t) rfl (by kernel_rfl) (by kernel_rfl) (by kernel_rfl) (fun _ _ _ h => h) (Or.inl ⟨by rfl, ?_⟩) hHeld ?_
          · intro w' hSw
            have hx := hSw.2
            go_simp <;> rfl
          try simp only [Act.put, List.getElem_toArray, List.getElem_cons_zero, List.getElem_cons_succ, List.setIfInBounds_toArray, List.set_cons_zero, List.set_cons_succ]
          refine wpAnyH_ready (rs := [16]) (by kernel_rfl) (by simp) ?_
          refine AllReadyH.cons rfl (fun K hK => ?_) AllReadyH.nil
          go_simp
          refine (HCk.out _ D0).mono ?_
          rintro r d1 ⟨bk, rfl, hbk, hb1⟩
          have D1 : Below W.heap.size W d1 := D0.trans (hb1.mono D0.size)
          refine hK.out _ _ (HK.out _ D1) (fun hHeld => ?_)
          clear hK K hb1
          try simp only [Act.put, List.getElem_toArray, List.getElem_cons_zero, List.getElem_cons_succ, List.setIfInBounds_toArray, List.set_cons_zero, List.set_cons_succ]
          refine wpAnyH_take (i := 17) (v := .bool bk) rfl (by kernel_rfl) (by kernel_rfl) (by kernel_rfl) (fun _ _ _ h => h) (Or.inl ⟨by rfl, ?_⟩) hHeld ?_
          · intro w' hSw
            go_simp <;> rfl
          try simp only [Act.put, List.getElem_toArray, List.getElem_cons_zero, List.getElem_cons_succ, List.setIfInBounds_toArray, List.set_cons_zero, List.set_cons_succ]
          refine wpAnyH_done (by kernel_rfl) ?_ _
          clear hHeld
          have x1 := (HK.out _ D1).1.2
          have x2 := (HK.out _ D1).2
          have HX1 : Hid (Below W.heap.size W d1) := D1
          cases bk with
          | true =>
            have HR : Hid _ := HNX.out t (by omega) ⟨by omega, .inr ⟨HT.1, HT.2, hbk.out.1 rfl⟩⟩ (fun _ => Int.le_refl _)
            clear hI HNX hbk
            go_wp2_with fail
            go_roundw
            case rel => exact ⟨k + 1, t, by omega, by go_num, rfl, HR.out, HX1.out⟩
            case measure => simp [intOf]; omega
          | false =>
            have HR : Hid _ := HNX.out b (Int.le_refl _) ⟨hI.out.1, hI.out.2.1⟩ (fun h => by have := hbk.out.2 h; cases this)
            clear hI HNX hbk
            go_wp2_with fail
            go_roundw
            case rel => exact ⟨k + 1, b, by omega, by go_num, rfl, HR.out, HX1.out⟩
            case measure => simp [intOf]; omega
        · have HR : Hid _ := HNX.out b (Int.le_refl _) ⟨hI.out.1, hI.out.2.1⟩ (fun _ => by omega)
          refine wp_region_held_drew (S := fun u => (u.cell? ⟨w.heap.size, 0, none⟩ = some (.slice aG G.length cG) ∧ u.cell? ⟨w.heap.size, 1, none⟩ = some (.slice (some ⟨bv, off, none⟩) V.length cW)) ∧ u.cell? ⟨bv, off + k * 3, none⟩ = some (.int .i64 t)) (by kernel_rfl) (HK.out _ D0) (fun hHeld => ?_)
          generalize w1.drew = d0 at *
          refine wpAnyH_take (i := 0) (v := .pointer (some ⟨w.heap.size, 1, none⟩)) rfl (by kernel_rfl) (by kernel_rfl) (by kernel_rfl) (fun _ _ _ h => h) (Or.inl ⟨by rfl, ?_⟩) hHeld ?_
          · intro w' hSw
            go_simp <;> rfl
          try simp only [Act.put, List.getElem_toArray, List.getElem_cons_zero, List.setIfInBounds_toArray, List.set_cons_zero, List.set_cons_succ]
          refine wpAnyH_take (i := 1) (v := .slice (some ⟨bv, off, none⟩) V.length cW) rfl (by kernel_rfl) (by kernel_rfl) (by kernel_rfl) (fun _ _ _ h => h) (Or.inl ⟨by rfl, ?_⟩) hHeld ?_
          · intro w' hSw
            have hx := hSw.1.2
            go_simp <;> rfl
          try simp only [Act.put, List.getElem_toArray, List.getElem_cons_zero, List.getElem_cons_succ, List.setIfInBounds_toArray, List.set_cons_zero, List.set_cons_succ]
          refine wpAnyH_take (i := 2) (v := .int .i64 (k : Int)) rfl (by kernel_rfl) (by kernel_rfl) (by kernel_rfl) (fun _ _ _ h => h) (Or.inl ⟨by rfl, ?_⟩) hHeld ?_
          · intro w' hSw
            go_simp <;> rfl
          try simp only [Act.put, List.getElem_toArray, List.getElem_cons_zero, List.getElem_cons_succ, List.setIfInBounds_toArray, List.set_cons_zero, List.set_cons_succ]
          refine wpAnyH_take (i := 3) (v := .pointer (some ⟨bv, off + k * 3, none⟩)) rfl (by kernel_rfl) (by kernel_rfl) (by kernel_rfl) (fun _ _ _ h => h) (Or.inl ⟨by rfl, ?_⟩) hHeld ?_
          · intro w' hSw
            go_simp <;> rfl
          try simp only [Act.put, List.getElem_toArray, List.getElem_cons_zero, List.getElem_cons_succ, List.setIfInBounds_toArray, List.set_cons_zero, List.set_cons_succ]
          refine wpAnyH_take (i := 4) (v := .pointer (some ⟨bv, off + k * 3, none⟩)) rfl (by kernel_rfl) (by kernel_rfl) (by kernel_rfl) (fun _ _ _ h => h) (Or.inl ⟨by rfl, ?_⟩) hHeld ?_
          · intro w' hSw
            go_simp <;> rfl
          try simp only [Act.put, List.getElem_toArray, List.getElem_cons_zero, List.getElem_cons_succ, List.setIfInBounds_toArray, List.set_cons_zero, List.set_cons_succ]
          refine wpAnyH_take (i := 5) (v := .int .i64 t) rfl (by kernel_rfl) (by kernel_rfl) (by kernel_rfl) (fun _ _ _ h => h) (Or.inl ⟨by rfl, ?_⟩) hHeld ?_
          · intro w' hSw
            have hx := hSw.2
            go_simp <;> rfl
          try simp only [Act.put, List.getElem_toArray, List.getElem_cons_zero, List.getElem_cons_succ, List.setIfInBounds_toArray, List.set_cons_zero, List.set_cons_succ]
          refine wpAnyH_take (i := 6) (v := .int .i64 b) rfl (by kernel_rfl) (by kernel_rfl) (by kernel_rfl) (fun _ _ _ h => h) (Or.inl ⟨by rfl, ?_⟩) hHeld ?_
          · intro w' hSw
            go_simp <;> rfl
          try simp only [Act.put, List.getElem_toArray, List.getElem_cons_zero, List.getElem_cons_succ, List.setIfInBounds_toArray, List.set_cons_zero, List.set_cons_succ]
          refine wpAnyH_take (i := 7) (v := .bool false) rfl (by kernel_rfl) (by kernel_rfl) (by kernel_rfl) (fun _ _ _ h => h) (Or.inl ⟨by rfl, ?_⟩) hHeld ?_
          · intro w' hSw
            go_simp <;> rfl
          try simp only [Act.put, List.getElem_toArray, List.getElem_cons_zero, List.getElem_cons_succ, List.setIfInBounds_toArray, List.set_cons_zero, List.set_cons_succ]
          refine wpAnyH_take (i := 8) (v := .bool false) rfl (by kernel_rfl) (by kernel_rfl) (by kernel_rfl) (fun _ _ _ h => h) (Or.inl ⟨by rfl, ?_⟩) hHeld ?_
          · intro w' hSw
            go_simp <;> rfl
          try simp only [Act.put, List.getElem_toArray, List.getElem_cons_zero, List.getElem_cons_succ, List.setIfInBounds_toArray, List.set_cons_zero, List.set_cons_succ]
          refine wpAnyH_take (i := 9) (v := undef) rfl (by kernel_rfl) (by kernel_rfl) (by kernel_rfl) (fun _ _ _ h => h) (Or.inr ⟨by rfl, rfl⟩) hHeld ?_
          try simp only [Act.put, List.getElem_toArray, List.getElem_cons_zero, List.getElem_cons_succ, List.setIfInBounds_toArray, List.set_cons_zero, List.set_cons_succ]
          refine wpAnyH_take (i := 10) (v := undef) rfl (by kernel_rfl) (by kernel_rfl) (by kernel_rfl) (fun _ _ _ h => h) (Or.inr ⟨by rfl, rfl⟩) hHeld ?_
          try simp only [Act.put, List.getElem_toArray, List.getElem_cons_zero, List.getElem_cons_succ, List.setIfInBounds_toArray, List.set_cons_zero, List.set_cons_succ]
          refine wpAnyH_take (i := 11) (v := undef) rfl (by kernel_rfl) (by kernel_rfl) (by kernel_rfl) (fun _ _ _ h => h) (Or.inr ⟨by rfl, rfl⟩) hHeld ?_
          try simp only [Act.put, List.getElem_toArray, List.getElem_cons_zero, List.getElem_cons_succ, List.setIfInBounds_toArray, List.set_cons_zero, List.set_cons_succ]
          refine wpAnyH_take (i := 12) (v := undef) rfl (by kernel_rfl) (by kernel_rfl) (by kernel_rfl) (fun _ _ _ h => h) (Or.inr ⟨by rfl, rfl⟩) hHeld ?_
          try simp only [Act.put, List.getElem_toArray, List.getElem_cons_zero, List.getElem_cons_succ, List.setIfInBounds_toArray, List.set_cons_zero, List.set_cons_succ]
          refine wpAnyH_take (i := 13) (v := undef) rfl (by kernel_rfl) (by kernel_rfl) (by kernel_rfl) (fun _ _ _ h => h) (Or.inr ⟨by rfl, rfl⟩) hHeld ?_
          try simp only [Act.put, List.getElem_toArray, List.getElem_cons_zero, List.getElem_cons_succ, List.setIfInBounds_toArray, List.set_cons_zero, List.set_cons_succ]
          refine wpAnyH_take (i := 14) (v := undef) rfl (by kernel_rfl) (by kernel_rfl) (by kernel_rfl) (fun _ _ _ h => h) (Or.inr ⟨by rfl, rfl⟩) hHeld ?_
          try simp only [Act.put, List.getElem_toArray, List.getElem_cons_zero, List.getElem_cons_succ, List.setIfInBounds_toArray, List.set_cons_zero, List.set_cons_succ]
          refine wpAnyH_take (i := 15) (v := undef) rfl (by kernel_rfl) (by kernel_rfl) (by kernel_rfl) (fun _ _ _ h => h) (Or.inr ⟨by rfl, rfl⟩) hHeld ?_
          try simp only [Act.put, List.getElem_toArray, List.getElem_cons_zero, List.getElem_cons_succ, List.setIfInBounds_toArray, List.set_cons_zero, List.set_cons_succ]
          refine wpAnyH_take (i := 16) (v := undef) rfl (by kernel_rfl) (by kernel_rfl) (by kernel_rfl) (fun _ _ _ h => h) (Or.inr ⟨by rfl, rfl⟩) hHeld ?_
          try simp only [Act.put, List.getElem_toArray, List.getElem_cons_zero, List.getElem_cons_succ, List.setIfInBounds_toArray, List.set_cons_zero, List.set_cons_succ]
          refine wpAnyH_take (i := 17) (v := .bool false) rfl (by kernel_rfl) (by kernel_rfl) (by kernel_rfl) (fun _ _ _ h => h) (Or.inl ⟨by rfl, ?_⟩) hHeld ?_
          · intro w' hSw
            go_simp <;> rfl
          try simp only [Act.put, List.getElem_toArray, List.getElem_cons_zero, List.getElem_cons_succ, List.setIfInBounds_toArray, List.set_cons_zero, List.set_cons_succ]
          refine wpAnyH_done (by kernel_rfl) ?_ _
          clear hHeld
          have HX1 : Hid (Below W.heap.size W d0) := D0
          clear hI HNX
          go_wp2_with fail
          go_roundw
          case rel => exact ⟨k + 1, b, by omega, by go_num, rfl, HR.out, HX1.out⟩
          case measure => simp [intOf]; omega
      · have HF : Hid (StuckAns G V b) := HEND.out b hI.out.1 (stuck_end hI.out.2.1 (fun j hj => hI.out.2.2 j (by omega)))
        have HX := HB.out _ hbl
        go_wp2_with fail
        go_ret
        exact ⟨b, rfl, HF.out, HX⟩
end Go.Proofs.YtekljhabjkmhpabDoor

/- A search with a stack and marks: what stands of it. -/
namespace Go.Proofs.YtekljhabjkmhpabDoor

def RelL (Ls : List (List Int)) (x y : Int) : Prop := ∃ n : Nat, n < Ls.length ∧ x = n ∧ y ∈ Ls.getD n []
def seenB (S : List Bool) (x : Int) : Prop := ∃ n : Nat, n < S.length ∧ x = n ∧ S.getD n false = true
def unseen (S : List Bool) : Nat := S.count false
theorem unseen_set : ∀ (S : List Bool) (n : Nat), n < S.length → S.getD n false = false → unseen (S.set n true) + 1 = unseen S := by
  intro S
  induction S with
  | nil => intro n h; simp at h
  | cons a r ih =>
    intro n h h0
    cases n with
    | zero =>
      have e : a = false := by simpa using h0
      subst e
      simp [unseen]
    | succ n =>
      have h1 := ih n (by simpa using h) (by simpa using h0)
      simp only [unseen, List.set_cons_succ, List.count_cons] at h1 ⊢
      omega
theorem unseen_start : unseen (List.replicate 100 false) = 100 := by unfold unseen; rw [List.count_replicate_self]
theorem seen_set {S : List Bool} {n : Nat} (hn : n < S.length) {x : Int} : seenB (S.set n true) x ↔ seenB S x ∨ x = n := by
  constructor
  · rintro ⟨m, hm, rfl, h⟩
    by_cases e : m = n
    · exact .inr (by rw [e])
    · refine .inl ⟨m, by simpa using hm, rfl, ?_⟩
      have : (S.set n true).getD m false = S.getD m false := by simp [List.getD, List.getElem?_set_ne (Ne.symm e)]
      rw [← this]; exact h
  · rintro (⟨m, hm, rfl, h⟩ | rfl)
    · refine ⟨m, by simpa using hm, rfl, ?_⟩
      by_cases e : m = n
      · subst e; simp [List.getD, hn]
      · have : (S.set n true).getD m false = S.getD m false := by simp [List.getD, List.getElem?_set_ne (Ne.symm e)]
        rw [this]; exact h
    · exact ⟨n, by simpa using hn, rfl, by simp [List.getD, hn]⟩

def ClosedB (R : Int → Int → Prop) (tx : Int) (S : List Bool) (x : Int) : Prop := ∀ y, R x y → seenB S y ∧ y ≠ tx
/-- X: who is being looked through. -/
structure Dfs (R : Int → Int → Prop) (tx : Int) (S : List Bool) (T : List Int) (X : Int → Prop) : Prop where
  len : S.length = 100
  stack : ∀ x ∈ T, ReachE R tx x
  marks : ∀ x, seenB S x → ReachE R tx x
  cover : ∀ x, (x = tx ∨ seenB S x) → x ∈ T ∨ X x ∨ ClosedB R tx S x
theorem dfs_start {R : Int → Int → Prop} {tx : Int} : Dfs R tx (List.replicate 100 false) [tx] (fun _ => False) := by
  have hno : ∀ x, ¬ seenB (List.replicate 100 false) x := by
    rintro x ⟨n, hn, _, h⟩
    have e : (List.replicate 100 false).getD n false = false := by
      simp only [List.getD, List.getElem?_replicate]
      split <;> rfl
    rw [e] at h
    cases h
  refine ⟨by simp, fun x hx => ?_, fun x hx => absurd hx (hno x), fun x hx => ?_⟩
  · obtain rfl := List.mem_singleton.1 hx; exact .refl
  · rcases hx with rfl | hx
    · exact .inl (by simp)
    · exact absurd hx (hno x)
theorem dfs_end {R : Int → Int → Prop} {tx : Int} {S : List Bool} (h : Dfs R tx S [] (fun _ => False)) : ¬ BackE R tx := by
  refine back_none (fun x => x = tx ∨ seenB S x) (.inl rfl) (fun y hy z hr => ?_)
  rcases h.cover y hy with h1 | h1 | h1
  · cases h1
  · exact absurd h1 id
  · exact ⟨.inr (h1 z hr).1, (h1 z hr).2⟩
theorem dfs_pop {R : Int → Int → Prop} {tx : Int} {S : List Bool} {T : List Int} {x : Int} (h : Dfs R tx S (T ++ [x]) (fun _ => False)) : Dfs R tx S T (fun z => z = x) ∧ ReachE R tx x := by
  refine ⟨⟨h.len, fun z hz => h.stack z (List.mem_append.2 (.inl hz)), h.marks, fun z hz => ?_⟩, h.stack x (by simp)⟩
  rcases h.cover z hz with h1 | h1 | h1
  · rcases List.mem_append.1 h1 with h2 | h2
    · exact .inl h2
    · exact .inr (.inl (List.mem_singleton.1 h2))
  · exact absurd h1 id
  · exact .inr (.inr h1)
theorem dfs_done {R : Int → Int → Prop} {tx : Int} {S : List Bool} {T : List Int} {x : Int} (h : Dfs R tx S T (fun z => z = x)) (hc : ClosedB R tx S x) : Dfs R tx S T (fun _ => False) := by
  refine ⟨h.len, h.stack, h.marks, fun z hz => ?_⟩
  rcases h.cover z hz with h1 | h1 | h1
  · exact .inl h1
  · rw [h1]; exact .inr (.inr hc)
  · exact .inr (.inr h1)
theorem dfs_push {R : Int → Int → Prop} {tx : Int} {S : List Bool} {T : List Int} {x : Int} (h : Dfs R tx S T (fun z => z = x)) (hx : ReachE R tx x) {n : Nat} (hn : n < 100) (hr : R x n) : Dfs R tx (S.set n true) (T ++ [(n : Int)]) (fun z => z = x) := by
  have hn' : n < S.length := by rw [h.len]; exact hn
  refine ⟨by simp [h.len], fun z hz => ?_, fun z hz => ?_, fun z hz => ?_⟩
  · rcases List.mem_append.1 hz with h1 | h1
    · exact h.stack z h1
    · obtain rfl := List.mem_singleton.1 h1; exact .step hx hr
  · rcases (seen_set hn').1 hz with h1 | rfl
    · exact h.marks z h1
    · exact .step hx hr
  · have cl : ∀ y, ClosedB R tx S y → ClosedB R tx (S.set n true) y := fun y hy v hv => ⟨(seen_set hn').2 (.inl (hy v hv).1), (hy v hv).2⟩
    have : (z = tx ∨ seenB S z) ∨ z = n := by
      rcases hz with rfl | hz
      · exact .inl (.inl rfl)
      · rcases (seen_set hn').1 hz with h1 | h1
        · exact .inl (.inr h1)
        · exact .inr h1
    rcases this with h0 | rfl
    · rcases h.cover z h0 with h1 | h1 | h1
      · exact .inl (List.mem_append.2 (.inl h1))
      · exact .inr (.inl h1)
      · exact .inr (.inr (cl z h1))
    · exact .inl (by simp)
end Go.Proofs.YtekljhabjkmhpabDoor

/- The walk of impl.comesBack. -/
namespace Go.Proofs.YtekljhabjkmhpabDoor
open Go.RowKit

theorem OwnI.take {w : World} {lo hi : Nat} {a : Option Addr} {c : Nat} {ns : List Int} (h : OwnI w lo hi a c ns) (k : Nat) (hk : k ≤ ns.length) : OwnI w lo hi a c (ns.take k) := by
  have hl : (ns.take k).length = k := by rw [List.length_take]; omega
  obtain ⟨⟨h1, h2⟩, h3, h4⟩ := h
  refine ⟨⟨by simp, ?_⟩, h3, fun j hj => h4 j (by
    cases a with
    | none => simp [Value.ownBlock] at hj
    | some ad => simpa [Value.ownBlock] using hj)⟩
  rcases h2 with ⟨hv, h0⟩ | ⟨g, cap, cur, hv, hg, hh, hn, hcap, hsz, htake⟩
  · left
    simp only [Value.slice.injEq] at hv
    obtain ⟨rfl, _, rfl⟩ := hv
    have : ns = [] := List.length_eq_zero_iff.1 h0
    subst this
    simp
  · right
    simp only [Value.slice.injEq] at hv
    obtain ⟨rfl, _, rfl⟩ := hv
    refine ⟨g, c, cur, rfl, hg, hh, by omega, hcap, hsz, ?_⟩
    have h5 : (cur.toList.take (ns.length * 1)).take (k * 1) = (ns.map (Value.int .i64)).take (k * 1) := by rw [htake]
    rw [List.take_take, Nat.min_eq_left (by omega)] at h5
    rw [hl, h5, Nat.mul_one, List.map_take]

def TB100 : TypeId := 79
def cellsB (S : List Bool) : List Value := S.map Value.bool
theorem Tryd.zeroB100 : (Tryd.prog.info? 79).map (fun i => i.zero) = some (some (.agg (cellsB (List.replicate 100 false)).toArray)) := by kernel_rfl
set_option maxHeartbeats 1000000 in
set_option maxRecDepth 100000 in
theorem alloc_b100 {w : World} {ops : Array Oper} {rest : List Oper} {dst : Option Nat} {ty : TypeId} {pos : String} {aft : Array Edge} {act : Act} {Q : Exit → Act → World → Prop}
    (h : wpList Tryd.prog ops Q rest (act.put dst (.pointer (some ⟨w.heap.size, 0, none⟩))) (w.alloc (.cells (cellsB (List.replicate 100 false)).toArray TB100))) :
    wpList Tryd.prog ops Q ({ dst := dst, op := .alloc 79, type := ty, pos := pos, after := aft, guard := none } :: rest) act w := by
  refine wpList_plain rfl fun K hK => ?_
  have hz := Tryd.zeroB100
  cases hi : Tryd.prog.info? 79 with
  | none => rw [hi] at hz; cases hz
  | some inf =>
    rw [hi] at hz
    have hz' : inf.zero = some (.agg (cellsB (List.replicate 100 false)).toArray) := by simpa using hz
    obtain ⟨cs, hcs⟩ : ∃ cs, cellsB (List.replicate 100 false) = cs := ⟨_, rfl⟩
    rw [hcs] at hz' h
    unfold Oper.wp execOp
    have e1 : (zeroValue 79).run Tryd.prog w = .ok (.agg cs.toArray) w := by simp [zeroValue, typeInfo, hi, hz']
    have e2 : (Instr.alloc 79 true (.tuple #[])).run Tryd.prog w = .ok (.pointer (some ⟨w.heap.size, 0, none⟩)) (w.alloc (.cells cs.toArray TB100)) := by
      unfold Instr.alloc
      simp only [Sem.run_bind, e1, Result.andThen_ok]
      simp [newVar, go_sem]
      rfl
    simp only [Sem.run_bind, e2, Result.andThen_ok, Sem.run_pure]
    exact hK _ _ h
theorem cellsB_at {S : List Bool} {n : Nat} (h : n < S.length) : (cellsB S)[n]? = some (.bool (S.getD n false)) := by simp [cellsB, List.getD, h]
theorem cellsB_set (S : List Bool) (n : Nat) (b : Bool) : (cellsB S).set n (.bool b) = cellsB (S.set n b) := by simp [cellsB, List.map_set]

/-- A row of lists of numbers, read. -/
def ReadsII (w : World) (b off : Nat) (Ls : List (List Int)) : Prop := ∀ i, i < Ls.length → ∃ ai ci, w.cell? ⟨b, off + i, none⟩ = some (.slice ai (Ls.getD i []).length ci) ∧ ReadsI w ai (Ls.getD i [])
theorem ReadsII.below {w w' : World} {b off : Nat} {Ls : List (List Int)} (h : ReadsII w b off Ls) (hb : Below w.heap.size w w') : ReadsII w' b off Ls := fun i hi => by
  obtain ⟨ai, ci, h1, h2⟩ := h i hi
  exact ⟨ai, ci, (hb.cell (block_lt h1)).trans h1, h2.below hb⟩

set_option maxHeartbeats 4000000 in
set_option maxRecDepth 100000 in
theorem comesBack_any (b off c : Nat) (Ls : List (List Int)) (tx : Nat) (w : World) (hr : ReadsII w b off Ls) (hl : Ls.length = 100) (hin : ∀ i, ∀ y ∈ Ls.getD i [], 0 ≤ y ∧ y ≤ 99) (hlen : ∀ i, (Ls.getD i []).length ≤ 1000) (htx : tx < 100) :
    Calls Tryd.prog 40 #[.slice (some ⟨b, off, none⟩) 100 c, .int .i64 (tx : Int)] w fun e w' => ∃ r : Bool, e = .returned (.bool r) ∧ Hid (r = true ↔ BackE (RelL Ls) tx) ∧ Below w.heap.size w w' := by
  obtain ⟨W, hW, b0, hbW, hsW⟩ := boxes1 w (cellsB (List.replicate 100 false)) TB100
  have hb0 := b0.lt
  have HR : Hid (∀ i, i < 100 → ∃ ai ci, ∀ u, Below w.heap.size w u → u.cell? ⟨b, off + i, none⟩ = some (.slice ai (Ls.getD i []).length ci) ∧ ReadsI u ai (Ls.getD i [])) := fun i hi => by
    obtain ⟨ai, ci, h1, h2⟩ := hr i (by omega)
    exact ⟨ai, ci, fun u h => ⟨(h.cell (block_lt h1)).trans h1, h2.below h⟩⟩
  have HIN : Hid (_) := hin
  have HLN : Hid (_) := hlen
  have HRL : Hid (∀ x y, RelL Ls x y ↔ ∃ n : Nat, n < Ls.length ∧ x = n ∧ y ∈ Ls.getD n []) := fun _ _ => Iff.rfl
  have HD0 : Hid (Dfs (RelL Ls) tx (List.replicate 100 false) [(tx : Int)] (fun _ => False)) := dfs_start
  have HL100 : Hid (Ls.length = 100) := hl
  have ho0 := ownI_lit1 W tx
  have HS0 : Hid (OwnI (W.alloc (.cells #[.int .i64 (tx : Int)] 3)) (w.heap.size + 1) (W.alloc (.cells #[.int .i64 (tx : Int)] 3)).heap.size (some ⟨W.heap.size, 0, none⟩) 1 [(tx : Int)] ∧ Box (W.alloc (.cells #[.int .i64 (tx : Int)] 3)) w.heap.size (cellsB (List.replicate 100 false)) TB100 ∧ Below w.heap.size w (W.alloc (.cells #[.int .i64 (tx : Int)] 3))) :=
    ⟨ho0.widen (by omega) (by simp) (Nat.le_refl _), b0.alloc _, hbW.alloc hbW.size _⟩
  generalize RelL Ls = R at *
  clear hr hin hlen hl ho0 b0 hbW hsW
  go_enter Tryd.func40, Tryd.ntmps40
  go_upto_region 2 with (first | (refine alloc_b100 ?_) | fail)
  rw [hW.out]
  clear hW
  go_wp2_with fail
  go_loopg [6] 201 (fun n o wr => ∃ (a : Option Addr) (c : Nat) (S : List Bool) (T : List Int), o = .slice a T.length c ∧ Hid (Dfs R tx S T (fun _ => False) ∧ 2 * unseen S + T.length ≤ n ∧ ∀ x ∈ T, 0 ≤ x ∧ x ≤ 99) ∧ T.length + unseen S ≤ 101 ∧ OwnI wr (w.heap.size + 1) wr.heap.size a c T ∧ Box wr w.heap.size (cellsB S) TB100 ∧ Below w.heap.size w wr)
  case atStart =>
    refine ⟨_, _, List.replicate 100 false, [(tx : Int)], rfl, ⟨HD0.out, by rw [unseen_start]; simp, fun x hx => ?_⟩, by rw [unseen_start]; simp, HS0.out⟩
    obtain rfl := List.mem_singleton.1 hx
    omega
  case round =>
    obtain ⟨a, c', S, T, rfl, hD, hTl, ho, hbx, hbl⟩ := hrel
    clear HS0 HD0
    rcases List.eq_nil_or_concat T with hT | ⟨T', x, hT⟩
    · have HF : Hid (¬ BackE R tx) := by
        have := hD.out.1
        rw [hT] at this
        exact dfs_end this
      have hT0 : T.length ≤ 0 := by rw [hT]; simp
      have HX := hbl
      clear hD hT
      go_wp2_with fail
      go_ret
      exact ⟨false, rfl, ⟨fun h => (by cases h), fun h => absurd h HF.out⟩, HX⟩
    · rw [List.concat_eq_append] at hT
      subst hT
      obtain ⟨xn, hxe, hx100⟩ : ∃ xn : Nat, x = xn ∧ xn < 100 := by
        have := hD.out.2.2 x (by simp)
        exact ⟨x.toNat, by omega, by omega⟩
      subst hxe
      obtain ⟨bt, offt, rfl, hct⟩ := ho.reads (by simp)
      have t0 := hct T'.length (by simp)
      have e0 : (T' ++ [(xn : Int)]).getD T'.length 0 = xn := by simp [List.getD]
      rw [e0] at t0
      have hox := ho.take T'.length (by simp)
      rw [List.take_left] at hox
      have hcap := ho.len_cap
      have HDP : Hid (Dfs R tx S T' (fun z => z = (xn : Int)) ∧ ReachE R tx xn) := dfs_pop hD.out.1
      have HTE : Hid (∀ z ∈ T', 0 ≤ z ∧ z ≤ 99) := fun z hz => hD.out.2.2 z (List.mem_append.2 (.inl hz))
      have HNM : Hid (2 * unseen S + T'.length < gk) := by
        have := hD.out.2.1
        simp only [List.length_append, List.length_cons, List.length_nil] at this
        rw [Hid]; omega
      obtain ⟨aF, cF, hFu⟩ := HR.out xn hx100
      have HFR : Hid (_) := hFu
      have hF0 := (hFu wr hbl).1
      have HFI : Hid (_) := HIN.out xn
      have HFL := HLN.out xn
      have HFE : Hid (∀ y, R xn y ↔ y ∈ Ls.getD xn []) := fun y => by
        rw [HRL.out]
        constructor
        · rintro ⟨n, _, e, h⟩
          have : xn = n := by omega
          rw [this]; exact h
        · intro h
          exact ⟨xn, by have := HL100.out; omega, rfl, h⟩
      have hTl' : T'.length + 1 + unseen S ≤ 101 := by simp only [List.length_append, List.length_cons, List.length_nil] at hTl; omega
      have hcap' : T'.length + 1 ≤ c' := by simpa using hcap
      clear HR HIN HLN HRL hD hct e0 hTl hcap hFu HL100
      generalize Ls.getD xn [] = F at *
      simp only [List.length_append, List.length_cons, List.length_nil, Nat.zero_add] at ho ⊢
      have hxI : (xn : Int) < 100 := by omega
      have HS1 : Hid (OwnI wr (w.heap.size + 1) wr.heap.size (some ⟨bt, offt, none⟩) c' T' ∧ Box wr w.heap.size (cellsB S) TB100 ∧ Below w.heap.size w wr) := ⟨hox, hbx, hbl⟩
      clear ho hox hbx hbl
      generalize wr = wo at *
      go_wp2_with fail
      go_loopw [6, 31] (fun o i wr => ∃ (n : Nat) (a : Option Addr) (c : Nat) (S' : List Bool) (T : List Int), n ≤ F.length ∧ T.length + 1 + unseen S' ≤ 101 ∧ i = .int .i64 n ∧ o = .slice a T.length c ∧ Hid (Dfs R tx S' T (fun z => z = (xn : Int)) ∧ 2 * unseen S' + T.length < gk ∧ (∀ z ∈ T, 0 ≤ z ∧ z ≤ 99) ∧ (∀ y ∈ F.take n, seenB S' y ∧ y ≠ tx)) ∧ OwnI wr (w.heap.size + 1) wr.heap.size a c T ∧ Box wr w.heap.size (cellsB S') TB100 ∧ Below w.heap.size w wr) (fun _ i _ => F.length - (intOf i).toNat)
      case atStart => exact ⟨0, _, c', S, T', Nat.zero_le _, hTl', rfl, rfl, ⟨HDP.out.1, HNM.out, HTE.out, fun y hy => by simp at hy⟩, HS1.out⟩
      case round =>
        obtain ⟨n, a, c, S', T, hn, hTl, rfl, rfl, hI, ho, hbx, hbl⟩ := hrel
        clear HS1 HTE t0
        by_cases hlt : n < F.length
        · obtain ⟨bf, offf, rfl, hcf⟩ := (HFR.out wr hbl).2 (by intro e; rw [e] at hlt; simp at hlt)
          have f0 := hcf n hlt
          have HTS : Hid (F.take (n + 1) = F.take n ++ [F.getD n 0]) := take_step F 0 n hlt
          obtain ⟨y, hye, hy100⟩ : ∃ y : Nat, F.getD n 0 = y ∧ y < 100 := by
            have := HFI.out _ (mem_getD hlt 0)
            exact ⟨(F.getD n 0).toNat, by omega, by omega⟩
          have HRY : Hid (R xn y) := (HFE.out y).2 (by rw [← hye]; exact mem_getD hlt 0)
          rw [hye] at f0 HTS
          clear hcf hye
          have hyI : (y : Int) < 100 := by omega
          by_cases qy : y = tx
          · have HT : Hid (BackE R tx) := ⟨xn, HDP.out.2, by rw [← qy]; exact HRY.out⟩
            have HX := hbl
            clear hI HTS HRY HDP HFI HFE HFR HNM
            subst qy
            go_wp2_with fail
            go_ret
            exact ⟨true, rfl, ⟨fun _ => HT.out, fun _ => rfl⟩, HX⟩
          · have hqI : ¬ (y : Int) = (tx : Int) := by omega
            have hlS : S'.length = 100 := hI.out.1.len
            have s0 := hbx.cell y _ (cellsB_at (by omega))
            have sf := hbx.frozen y
            have HSN : Hid (S'.getD y false = true → ∀ z ∈ F.take (n + 1), seenB S' z ∧ z ≠ tx) := fun h z hz => by
              rw [HTS.out] at hz
              rcases List.mem_append.1 hz with hz | hz
              · exact hI.out.2.2.2 z hz
              · obtain rfl := List.mem_singleton.1 hz
                exact ⟨⟨y, by omega, rfl, h⟩, hqI⟩
            cases hsy : S'.getD y false
            · rw [hsy] at s0
              have HP : Hid (Dfs R tx (S'.set y true) (T ++ [(y : Int)]) (fun z => z = (xn : Int)) ∧ 2 * unseen (S'.set y true) + (T ++ [(y : Int)]).length < gk ∧ (∀ z ∈ T ++ [(y : Int)], 0 ≤ z ∧ z ≤ 99) ∧ (∀ z ∈ F.take (n + 1), seenB (S'.set y true) z ∧ z ≠ tx)) := by
                have hu := unseen_set S' y (by omega) hsy
                have h2 := hI.out.2.1
                refine ⟨dfs_push hI.out.1 HDP.out.2 hy100 HRY.out, by simp only [List.length_append, List.length_cons, List.length_nil]; omega, fun z hz => ?_, fun z hz => ?_⟩
                · rcases List.mem_append.1 hz with hz | hz
                  · exact hI.out.2.2.1 z hz
                  · obtain rfl := List.mem_singleton.1 hz; omega
                · rw [HTS.out] at hz
                  rcases List.mem_append.1 hz with hz | hz
                  · obtain ⟨h3, h4⟩ := hI.out.2.2.2 z hz
                    exact ⟨(seen_set (by omega)).2 (.inl h3), h4⟩
                  · obtain rfl := List.mem_singleton.1 hz
                    exact ⟨(seen_set (by omega)).2 (.inr rfl), hqI⟩
              have HTN : Hid (T.length + 1 + 1 + unseen (S'.set y true) ≤ 101) := by
                have hu := unseen_set S' y (by omega) hsy
                rw [Hid]; omega
              obtain ⟨W2, hW2, b2, hw2, hs2⟩ := box_set hbx y (.bool true)
              rw [cellsB_set] at b2
              have ho2 := ho.within hw2 (.inr (by omega))
              have hB2 : Below w.heap.size w W2 := hbl.trans (hw2.below (Nat.le_refl _) (by have := hbl.size; omega))
              have ho3 := ho2.below ((Below.refl _ _).alloc (Nat.le_refl _) (.cells #[.int .i64 (y : Int)] 3))
              have b3 := b2.alloc (.cells #[.int .i64 (y : Int)] 3)
              have hlw := b2.lt
              clear hI HTS HRY HSN hsy hw2
              go_upto_region 14 with fail
              rw [hW2.out]
              clear hW2 hs2
              go_wp2_with (at_builtin; refine append_intsF rfl _ _ rfl (w.heap.size + 1) wr.heap.size a c T rfl ho3 _ _ [(y : Int)] rfl (readsI_one W2 y _) (fun h => by cases h) (by simp; omega) (by simp; omega) ?_; intro a4 c4 y4 w4 hy4 ho4 hg4 hk4)
              go_roundw
              case rel =>
                have e4 := hy4.out
                subst e4
                refine ⟨n + 1, a4, c4, S'.set y true, _, by omega, by have := HTN.out; simp only [List.length_append, List.length_cons, List.length_nil]; omega, by go_num, rfl, HP.out, ho4, b3.block (hg4.block _ b3.lt (fun e => by have := (ho2.lt _ e.symm).1; omega)), below_append hB2 hg4 (fun q hq => by have := (ho2.lt q hq).1; omega) (by omega)⟩
              case measure => simp [intOf]; omega
            · rw [hsy] at s0
              have HN2 : Hid (_) := HSN.out hsy
              have HI2 : Hid (_ ∧ _ ∧ _) := ⟨hI.out.1, hI.out.2.1, hI.out.2.2.1⟩
              clear hI HTS HRY HSN hsy
              go_wp2_with fail
              go_roundw
              case rel => exact ⟨n + 1, _, c, S', T, by omega, hTl, by go_num, rfl, ⟨HI2.out.1, HI2.out.2.1, HI2.out.2.2, HN2.out⟩, ho, hbx, hbl⟩
              case measure => simp [intOf]; omega
        · have HK : Hid (Dfs R tx S' T (fun _ => False)) := dfs_done hI.out.1 (fun y hy => hI.out.2.2.2 y (by rw [List.take_of_length_le (by omega)]; exact (HFE.out y).1 hy))
          have HM : Hid (2 * unseen S' + T.length < gk ∧ ∀ z ∈ T, 0 ≤ z ∧ z ≤ 99) := ⟨hI.out.2.1, hI.out.2.2.1⟩
          clear hI HFE HFR HFI HDP HNM
          go_wp2_with fail
          go_roundg (2 * unseen S' + T.length)
          case rel => exact ⟨a, c, S', T, rfl, ⟨HK.out, Nat.le_refl _, HM.out.2⟩, by omega, ho, hbx, hbl⟩
          case measure => exact HM.out.1
end Go.Proofs.YtekljhabjkmhpabDoor

/- A region that draws its order and whose last operations store: what is loaded ahead of them is taken first, though they write it. -/
namespace Go.Proofs.YtekljhabjkmhpabDoor

/-- Whatever order is picked from here on; S holds behind every operation that is none of the late ones. -/
def wpAnyL (P : Program) (md : Region.Mode) (ops : Array Oper) (Q : Exit → Act → World → Prop) (S : World → Prop) (ks : Nat → Bool) : Nat → Array Bool → Act → World → Prop
  | 0, listed, a, w => Region.ready md ops listed = [] ∧ Q .normal a w
  | fuel + 1, listed, a, w =>
    (Region.ready md ops listed = [] → Q .normal a w) ∧
    ∀ i ∈ Region.ready md ops listed, wpOp P ops Q i (fun a' w' => (ks i = false → S w') ∧ wpAnyL P md ops Q S ks fuel (listed.setIfInBounds i true) a' w') a w
theorem wpAny_of_late {P : Program} {ops : Array Oper} {Q : Exit → Act → World → Prop} {md : Region.Mode} {S : World → Prop} {ks : Nat → Bool} : ∀ (fuel : Nat) (listed : Array Bool) (a : Act) (w : World), wpAnyL P md ops Q S ks fuel listed a w → wpAny P md ops Q fuel listed a w
  | 0, _, _, _, h => h
  | fuel + 1, _, _, _, h => ⟨h.1, fun i hi => wpOp_mono (fun a' w' h' => wpAny_of_late fuel _ a' w' h'.2) (h.2 i hi)⟩
/-- All late ones wait for i. -/
def lateAll (md : Region.Mode) (ops : Array Oper) (ks : Nat → Bool) (i : Nat) : Bool :=
  (List.range ops.size).all fun j => !ks j || match ops[j]? with
    | some o => o.after.any (fun e => Region.binds md e && e.on == i)
    | none => true
theorem lateAll_spec {md : Region.Mode} {ops : Array Oper} {ks : Nat → Bool} {i : Nat} (h : lateAll md ops ks i = true) (j : Nat) (oj : Oper) (hj : ops[j]? = some oj) (hk : ks j = true) : ∃ e ∈ oj.after, Region.binds md e = true ∧ e.on = i := by
  unfold lateAll at h
  rw [List.all_eq_true] at h
  have hl : j < ops.size := by
    rcases Nat.lt_or_ge j ops.size with h' | h'
    · exact h'
    · rw [Array.getElem?_eq_none h'] at hj; cases hj
  have := h j (List.mem_range.2 hl)
  rw [hk, hj] at this
  simp only [Bool.not_true, Bool.false_or, Array.any_eq_true'] at this
  obtain ⟨e, he, hb⟩ := this
  rw [Bool.and_eq_true, beq_iff_eq] at hb
  exact ⟨e, he, hb.1, hb.2⟩
theorem wpAnyL_first {P : Program} {ops : Array Oper} {Q : Exit → Act → World → Prop} {md : Region.Mode} {S : World → Prop} {ks : Nat → Bool} {i : Nat} {oi : Oper} {v : Value} (hi : ops[i]? = some oi) (hsel : ∀ (j : Nat) (o : Oper) cs b, ops[j]? = some o → o.op ≠ .select cs b)
    (hQ : ∀ c a w, Q (.panic c) (a.put oi.dst v) w → Q (.panic c) a w) (hlate : ∀ j oj, ops[j]? = some oj → ks j = true → ∃ e ∈ oj.after, Region.binds md e = true ∧ e.on = i) :
    ∀ (fuel : Nat) (listed : Array Bool) (a : Act) (w : World),
      (∀ j oj, ops[j]? = some oj → j ≠ i → listed.getD j true = false → (∀ e ∈ oj.after, Region.binds md e = true → e.on ≠ i) → oi.apart ops oj = true) →
      i ∈ Region.ready md ops listed → YieldsIf P ops S oi v a → S w →
      wpAnyL P md ops Q S ks fuel (listed.setIfInBounds i true) (a.put oi.dst v) w → wpAnyL P md ops Q S ks (fuel + 1) listed a w := by
  intro fuel
  induction fuel with
  | zero =>
    intro listed a w _ hr hy hS H
    refine ⟨fun h => (by rw [h] at hr; cases hr), fun j hj => ?_⟩
    by_cases hji : j = i
    · subst hji; exact hy.wpOp hi hS ⟨fun _ => hS, H⟩
    · have := ready_mono hj hji
      rw [H.1] at this
      cases this
  | succ fuel ih =>
    intro listed a w hfree hr hy hS H
    refine ⟨fun h => (by rw [h] at hr; cases hr), fun j hj => ?_⟩
    by_cases hji : j = i
    · subst hji; exact hy.wpOp hi hS ⟨fun _ => hS, H⟩
    · have h1 := H.2 j (ready_mono hj hji)
      obtain ⟨hjun, oj, hoj, hall⟩ := mem_ready.1 hj
      have hnot : ∀ e ∈ oj.after, Region.binds md e = true → e.on ≠ i := fun e he hb heq => by
        have h1 := hall e he hb
        have h0 := (mem_ready.1 hr).1
        rw [heq] at h1
        rcases Nat.lt_or_ge i listed.size with h' | h'
        · simp [h'] at h0 h1; rw [h0] at h1; cases h1
        · simp [Array.getElem?_eq_none h'] at h1
      have hkj : ks j = false := by
        cases hk : ks j with
        | false => rfl
        | true =>
          obtain ⟨e, he, hb, ho⟩ := hlate j oj hoj hk
          exact absurd ho (hnot e he hb)
      have h2 := wpOp_putIf hoj (hfree j oj hoj hji hjun hnot) (fun cs b => hsel i oi cs b hi) (fun cs b => hsel j oj cs b hoj) hQ hy h1
      have hfree' : ∀ k ok, ops[k]? = some ok → k ≠ i → (listed.setIfInBounds j true).getD k true = false →
          (∀ e ∈ ok.after, Region.binds md e = true → e.on ≠ i) → oi.apart ops ok = true := fun k ok hk hki hun hno => by
        refine hfree k ok hk hki ?_ hno
        by_cases hjk : j = k
        · subst hjk; exact hjun
        · rw [getD_set_ne true hjk] at hun; exact hun
      refine wpOp_mono (fun a' w' h3 => ⟨fun _ => h3.2.1 hkj, ih (listed.setIfInBounds j true) a' w' hfree' (ready_mono hr (Ne.symm hji)) h3.1 (h3.2.1 hkj) ?_⟩) h2
      rw [Array.setIfInBounds_comm _ _ hji]
      exact h3.2.2
/-- Number i is taken first: it yields v in every world that meets S, and the late ones wait for it. -/
theorem wpAnyL_take {P : Program} {ops : Array Oper} {Q : Exit → Act → World → Prop} {md : Region.Mode} {S : World → Prop} {ks : Nat → Bool} {i : Nat} {oi : Oper} {v : Value} {fuel : Nat} {listed : Array Bool} {a : Act} {w : World} (hi : ops[i]? = some oi)
    (hs : (Region.noSelect ops && (Region.free md ops listed i && ((Region.ready md ops listed).contains i && lateAll md ops ks i))) = true)
    (hQ : ∀ c a w, Q (.panic c) (a.put oi.dst v) w → Q (.panic c) a w) (hy : YieldsIf P ops S oi v a) (hS : S w)
    (h : wpAnyL P md ops Q S ks fuel (listed.setIfInBounds i true) (a.put oi.dst v) w) : wpAnyL P md ops Q S ks (fuel + 1) listed a w := by
  rw [Bool.and_eq_true, Bool.and_eq_true, Bool.and_eq_true] at hs
  exact wpAnyL_first hi (Region.noSelect_spec hs.1) hQ (lateAll_spec hs.2.2.2) fuel listed a w (Region.free_spec hi hs.2.1) (by simpa using hs.2.2.1) hy hS h
def AllReadyL (P : Program) (md : Region.Mode) (ops : Array Oper) (Q : Exit → Act → World → Prop) (S : World → Prop) (ks : Nat → Bool) (fuel : Nat) (listed : Array Bool) (a : Act) (w : World) (rs : List Nat) : Prop :=
  ∀ i ∈ rs, wpOp P ops Q i (fun a' w' => (ks i = false → S w') ∧ wpAnyL P md ops Q S ks fuel (listed.setIfInBounds i true) a' w') a w
theorem AllReadyL.nil {P : Program} {ops : Array Oper} {Q : Exit → Act → World → Prop} {md : Region.Mode} {S : World → Prop} {ks : Nat → Bool} {fuel : Nat} {listed : Array Bool} {a : Act} {w : World} : AllReadyL P md ops Q S ks fuel listed a w [] := fun _ h => by cases h
theorem AllReadyL.cons {P : Program} {ops : Array Oper} {Q : Exit → Act → World → Prop} {md : Region.Mode} {S : World → Prop} {ks : Nat → Bool} {fuel : Nat} {listed : Array Bool} {a : Act} {w : World} {i : Nat} {o : Oper} {rs : List Nat} (ho : ops[i]? = some o)
    (h : ∀ K' : Act → World → Prop, Shut (∀ a w, (ks i = false → S w) → ((ks i = false → S w) → wpAnyL P md ops Q S ks fuel (listed.setIfInBounds i true) a w) → K' a w) → if Region.wanted o (yielded ops a.tmps) = true then Oper.wp P o a w K' Q else K' (a.put o.dst undef) w)
    (hs : AllReadyL P md ops Q S ks fuel listed a w rs) : AllReadyL P md ops Q S ks fuel listed a w (i :: rs) := fun j hj => by
  rcases List.mem_cons.1 hj with rfl | hj
  · exact wpOp_step ho (fun K' hK => h K' (fun a w hS hW => hK a w ⟨hS, hW hS⟩))
  · exact hs j hj
theorem wpAnyL_ready {P : Program} {ops : Array Oper} {Q : Exit → Act → World → Prop} {md : Region.Mode} {S : World → Prop} {ks : Nat → Bool} {rs : List Nat} {fuel : Nat} {listed : Array Bool} {a : Act} {w : World} (hr : Region.ready md ops listed = rs) (hne : rs ≠ [])
    (h : AllReadyL P md ops Q S ks fuel listed a w rs) : wpAnyL P md ops Q S ks (fuel + 1) listed a w := ⟨fun h0 => absurd (hr ▸ h0) hne, hr ▸ h⟩
/-- One alone may come up next, and it is none of the late ones: behind it S is shown. -/
theorem wpAnyL_next {P : Program} {ops : Array Oper} {Q : Exit → Act → World → Prop} {md : Region.Mode} {S : World → Prop} {ks : Nat → Bool} (i : Nat) {o : Oper} {fuel : Nat} {listed : Array Bool} {a : Act} {w : World} (hr : Region.ready md ops listed = [i]) (ho : ops[i]? = some o)
    (h : ∀ K' : Act → World → Prop, Shut (∀ a w, S w → (S w → wpAnyL P md ops Q S ks fuel (listed.setIfInBounds i true) a w) → K' a w) → if Region.wanted o (yielded ops a.tmps) = true then Oper.wp P o a w K' Q else K' (a.put o.dst undef) w) : wpAnyL P md ops Q S ks (fuel + 1) listed a w :=
  wpAnyL_ready hr (by simp) (AllReadyL.cons ho (fun K' hK => h K' (fun a w hS hW => hK.out a w (fun _ => hS) (fun _ => hW hS))) AllReadyL.nil)
/-- One alone may come up next, and it is a late one. -/
theorem wpAnyL_last {P : Program} {ops : Array Oper} {Q : Exit → Act → World → Prop} {md : Region.Mode} {S : World → Prop} {ks : Nat → Bool} (i : Nat) {o : Oper} {fuel : Nat} {listed : Array Bool} {a : Act} {w : World} (hr : Region.ready md ops listed = [i]) (ho : ops[i]? = some o) (hk : ks i = true)
    (h : ∀ K' : Act → World → Prop, Shut (∀ a w, wpAnyL P md ops Q S ks fuel (listed.setIfInBounds i true) a w → K' a w) → if Region.wanted o (yielded ops a.tmps) = true then Oper.wp P o a w K' Q else K' (a.put o.dst undef) w) : wpAnyL P md ops Q S ks (fuel + 1) listed a w :=
  wpAnyL_ready hr (by simp) (AllReadyL.cons ho (fun K' hK => h K' (fun a w hW => hK.out a w (fun h => by rw [hk] at h; cases h) (fun _ => hW))) AllReadyL.nil)
theorem wpAnyL_done {P : Program} {ops : Array Oper} {Q : Exit → Act → World → Prop} {md : Region.Mode} {S : World → Prop} {ks : Nat → Bool} {listed : Array Bool} {a : Act} {w : World} (hr : Region.ready md ops listed = []) (h : Q .normal a w) :
    ∀ fuel, wpAnyL P md ops Q S ks fuel listed a w
  | 0 => ⟨hr, h⟩
  | _ + 1 => ⟨fun _ => h, by rw [hr]; simp⟩
theorem wp_region_late {P : Program} {ops : Array Oper} {Q : Exit → Act → World → Prop} {S : World → Prop} (ks : Nat → Bool) {id : Nat} {a : Act} {w : World} (hm : P.follows .mixedOrders = true) (hS : S w.drew)
    (h : S w.drew → wpAnyL P .any ops Q S ks ops.size (Array.replicate ops.size false) a w.drew) : (Code.region id ops true).wp P Q a w :=
  wp_region_any hm (wpAny_of_late _ _ _ _ (h hS))
end Go.Proofs.YtekljhabjkmhpabDoor

/- The walk of (*impl.Locks).wouldHave. -/
namespace Go.Proofs.YtekljhabjkmhpabDoor
open Go.RowKit

set_option maxHeartbeats 4000000 in
set_option maxRecDepth 100000 in
theorem wouldHave_any (B : Nat) (G : List GrantV) (aG : Option Addr) (cG : Nat) (g : GrantV) (w : World) (hT : TabBoth w) (hB : w.cell? ⟨B, 0, none⟩ = some (.slice aG G.length cG)) (hG : ReadsG w aG G) (hl : G.length ≤ 1099511627776) :
    Calls Tryd.prog 53 #[.pointer (some ⟨B, 0, none⟩), .agg #[.int .i64 g.tx, .int .i64 g.res, .int .i64 g.mode]] w fun e w' => e = .returned (.tuple #[.agg #[.int .i64 g.tx, .int .i64 g.res, .int .i64 (wouldZ G g)], .int .i64 (placeZ (atB g.tx g.res) G)]) ∧ Below w.heap.size w w' := by
  have hBl : B < w.heap.size := block_lt hB
  obtain ⟨W, hW, b0, b1, hbW, hsW⟩ := boxes2 w [.int .i64 g.tx, .int .i64 g.res, .int .i64 g.mode] [.int .i64 0, .int .i64 0, .int .i64 0] 46 46
  have hs0 := b0.lt
  have hs1 := b1.lt
  have HK : Hid (∀ u, Below W.heap.size W u → u.cell? ⟨B, 0, none⟩ = some (.slice aG G.length cG) ∧ (u.cell? ⟨w.heap.size, 0, none⟩ = some (.int .i64 g.tx) ∧ u.cell? ⟨w.heap.size, 1, none⟩ = some (.int .i64 g.res) ∧ u.cell? ⟨w.heap.size, 2, none⟩ = some (.int .i64 g.mode))) := fun u h =>
    ⟨((hbW.trans (h.mono hbW.size)).cell hBl).trans hB, (b0.below h hs0).cell 0 _ rfl, (b0.below h hs0).cell 1 _ rfl, (b0.below h hs0).cell 2 _ rfl⟩
  have HC : Hid (∀ u, Below W.heap.size W u → Calls Tryd.prog 50 #[.slice aG G.length cG, .int .i64 g.tx, .int .i64 g.res] u fun e w' => e = .returned (.int .i64 (placeZ (atB g.tx g.res) G)) ∧ Below u.heap.size u w') := fun u h => placeOf_any aG cG G g.tx g.res u ((hG.below hbW).below h) hl
  have HD : Hid (∀ u, Below W.heap.size W u → ∀ k, k < G.length → ∃ b off, aG = some ⟨b, off, none⟩ ∧ u.cell? ⟨b, off + k * 3 + 2, none⟩ = some (.int .i64 (G.getD k zeroG).mode)) := fun u h k hk => by
    obtain ⟨b, off, ha, hc⟩ := ((hG.below hbW).below h) (by intro e; rw [e] at hk; simp at hk)
    exact ⟨b, off, ha, (hc k hk).2.2⟩
  have HTB : Hid (∀ u, Below W.heap.size W u → TabBoth u) := fun u h => (hT.keep hbW).keep h
  have HW1 : Hid (∀ k : Nat, placeZ (atB g.tx g.res) G = k → k < G.length ∧ wouldZ G g = bothZ g.mode (G.getD k zeroG).mode) := fun k e => by
    refine ⟨(placeZ_at e zeroG).1, ?_⟩
    unfold wouldZ
    rw [e, if_pos (by omega), Int.toNat_natCast]
  have HW2 : Hid (¬ 0 ≤ placeZ (atB g.tx g.res) G → wouldZ G g = g.mode) := fun h => by unfold wouldZ; rw [if_neg h]
  have HNN : Hid (0 ≤ placeZ (atB g.tx g.res) G → ∃ k : Nat, placeZ (atB g.tx g.res) G = k) := fun h => by
    obtain ⟨k, _, e⟩ := placeZ_lt h
    exact ⟨k, e⟩
  have HBX : Hid (∀ u, Below W.heap.size W u → Box u w.heap.size [.int .i64 g.tx, .int .i64 g.res, .int .i64 g.mode] 46 ∧ Box u (w.heap.size + 1) [.int .i64 0, .int .i64 0, .int .i64 0] 46) := fun u h => ⟨b0.below h hs0, b1.below h hs1⟩
  have HE : Hid (∀ u, Below W.heap.size W u → Below w.heap.size w u) := fun u h => hbW.trans (h.mono hbW.size)
  have hws : w.heap.size + 2 ≤ W.heap.size := Nat.le_of_eq hsW.symm
  clear b0 b1 hbW hsW hB hG hT
  go_enter Tryd.func53, Tryd.ntmps53
  go_upto_region 1 with fail
  rw [hW.out]
  clear hW
  have D0 : Below W.heap.size W W.drew := (Below.refl _ _).drew
  refine wp_region_held_drew (S := fun u => u.cell? ⟨B, 0, none⟩ = some (.slice aG G.length cG) ∧ (u.cell? ⟨w.heap.size, 0, none⟩ = some (.int .i64 g.tx) ∧ u.cell? ⟨w.heap.size, 1, none⟩ = some (.int .i64 g.res) ∧ u.cell? ⟨w.heap.size, 2, none⟩ = some (.int .i64 g.mode))) (by kernel_rfl) (HK.out _ D0) (fun hHeld => ?_)
  generalize W.drew = d0 at *
  refine wpAnyH_take (i := 0) (v := .pointer (some ⟨B, 0, none⟩)) rfl (by kernel_rfl) (by kernel_rfl) (by kernel_rfl) (fun _ _ _ h => h) (Or.inl ⟨by rfl, ?_⟩) hHeld ?_
  · intro w' hSw
    go_simp <;> rfl
  try simp only [Act.put, List.getElem_toArray, List.getElem_cons_zero, List.setIfInBounds_toArray, List.set_cons_zero, List.set_cons_succ]
  refine wpAnyH_take (i := 1) (v := .pointer (some ⟨B, 0, none⟩)) rfl (by kernel_rfl) (by kernel_rfl) (by kernel_rfl) (fun _ _ _ h => h) (Or.inl ⟨by rfl, ?_⟩) hHeld ?_
  · intro w' hSw
    go_simp <;> rfl
  try simp only [Act.put, List.getElem_toArray, List.getElem_cons_zero, List.getElem_cons_succ, List.setIfInBounds_toArray, List.set_cons_zero, List.set_cons_succ]
  refine wpAnyH_take (i := 2) (v := .pointer (some ⟨B, 0, none⟩)) rfl (by kernel_rfl) (by kernel_rfl) (by kernel_rfl) (fun _ _ _ h => h) (Or.inl ⟨by rfl, ?_⟩) hHeld ?_
  · intro w' hSw
    go_simp <;> rfl
  try simp only [Act.put, List.getElem_toArray, List.getElem_cons_zero, List.getElem_cons_succ, List.setIfInBounds_toArray, List.set_cons_zero, List.set_cons_succ]
  refine wpAnyH_take (i := 3) (v := .slice aG G.length cG) rfl (by kernel_rfl) (by kernel_rfl) (by kernel_rfl) (fun _ _ _ h => h) (Or.inl ⟨by rfl, ?_⟩) hHeld ?_
  · intro w' hSw
    have hx := hSw.1
    go_simp <;> rfl
  try simp only [Act.put, List.getElem_toArray, List.getElem_cons_zero, List.getElem_cons_succ, List.setIfInBounds_toArray, List.set_cons_zero, List.set_cons_succ]
  refine wpAnyH_take (i := 4) (v := .pointer (some ⟨w.heap.size, 0, none⟩)) rfl (by kernel_rfl) (by kernel_rfl) (by kernel_rfl) (fun _ _ _ h => h) (Or.inl ⟨by rfl, ?_⟩) hHeld ?_
  · intro w' hSw
    go_simp <;> rfl
  try simp only [Act.put, List.getElem_toArray, List.getElem_cons_zero, List.getElem_cons_succ, List.setIfInBounds_toArray, List.set_cons_zero, List.set_cons_succ]
  refine wpAnyH_take (i := 5) (v := .int .i64 g.tx) rfl (by kernel_rfl) (by kernel_rfl) (by kernel_rfl) (fun _ _ _ h => h) (Or.inl ⟨by rfl, ?_⟩) hHeld ?_
  · intro w' hSw
    have hx := hSw.2.1
    go_simp <;> rfl
  try simp only [Act.put, List.getElem_toArray, List.getElem_cons_zero, List.getElem_cons_succ, List.setIfInBounds_toArray, List.set_cons_zero, List.set_cons_succ]
  refine wpAnyH_take (i := 6) (v := .pointer (some ⟨w.heap.size, 1, none⟩)) rfl (by kernel_rfl) (by kernel_rfl) (by kernel_rfl) (fun _ _ _ h => h) (Or.inl ⟨by rfl, ?_⟩) hHeld ?_
  · intro w' hSw
    go_simp <;> rfl
  try simp only [Act.put, List.getElem_toArray, List.getElem_cons_zero, List.getElem_cons_succ, List.setIfInBounds_toArray, List.set_cons_zero, List.set_cons_succ]
  refine wpAnyH_take (i := 7) (v := .int .i64 g.res) rfl (by kernel_rfl) (by kernel_rfl) (by kernel_rfl) (fun _ _ _ h => h) (Or.inl ⟨by rfl, ?_⟩) hHeld ?_
  · intro w' hSw
    have hx := hSw.2.2.1
    go_simp <;> rfl
  try simp only [Act.put, List.getElem_toArray, List.getElem_cons_zero, List.getElem_cons_succ, List.setIfInBounds_toArray, List.set_cons_zero, List.set_cons_succ]
  refine wpAnyH_ready (rs := [8]) (by kernel_rfl) (by simp) ?_
  refine AllReadyH.cons rfl (fun K hK => ?_) AllReadyH.nil
  go_simp
  refine (HC.out _ D0).mono ?_
  rintro r d1 ⟨rfl, hb1⟩
  have D1 : Below W.heap.size W d1 := D0.trans (hb1.mono D0.size)
  refine hK.out _ _ (HK.out _ D1) (fun hHeld => ?_)
  clear hK K hb1
  try simp only [Act.put, List.getElem_toArray, List.getElem_cons_zero, List.getElem_cons_succ, List.setIfInBounds_toArray, List.set_cons_zero, List.set_cons_succ]
  refine wpAnyH_take (i := 9) (v := .int .i64 (placeZ (atB g.tx g.res) G)) rfl (by kernel_rfl) (by kernel_rfl) (by kernel_rfl) (fun _ _ _ h => h) (Or.inl ⟨by rfl, ?_⟩) hHeld ?_
  · intro w' hSw
    go_simp <;> rfl
  try simp only [Act.put, List.getElem_toArray, List.getElem_cons_zero, List.getElem_cons_succ, List.setIfInBounds_toArray, List.set_cons_zero, List.set_cons_succ]
  refine wpAnyH_done (by kernel_rfl) ?_ _
  clear hHeld HC
  obtain ⟨bA, bR⟩ := HBX.out _ D1
  have hd1 : w.heap.size + 1 < d1.heap.size := bR.lt
  by_cases hp : 0 ≤ placeZ (atB g.tx g.res) G
  · obtain ⟨k, hk⟩ := HNN.out hp
    obtain ⟨hkl, hwz⟩ := HW1.out k hk
    have HWZ : Hid (wouldZ G g = bothZ g.mode (G.getD k zeroG).mode ∧ placeZ (atB g.tx g.res) G = k) := ⟨hwz, hk⟩
    rw [hk]
    obtain ⟨b, off, rfl, _⟩ := HD.out _ D1 k hkl
    have hk0 : (0 : Int) ≤ (k : Int) := by omega
    have HK2 : Hid (∀ u, Below W.heap.size W u → (u.cell? ⟨B, 0, none⟩ = some (.slice (some ⟨b, off, none⟩) G.length cG) ∧ u.cell? ⟨b, off + k * 3 + 2, none⟩ = some (.int .i64 (G.getD k zeroG).mode)) ∧ u.cell? ⟨w.heap.size, 2, none⟩ = some (.int .i64 g.mode)) := fun u h => by
      obtain ⟨b', off', e, hc⟩ := HD.out u h k hkl
      cases e
      exact ⟨⟨(HK.out u h).1, hc⟩, (HK.out u h).2.2.2⟩
    have hkI : (k : Int) < (G.length : Int) := by omega
    clear hp hk hwz HW1 HW2 HNN HD HK
    generalize (G.getD k zeroG).mode = hm at *
    go_upto_region 3 with fail
    have D2 : Below W.heap.size W d1.drew := D1.drew
    have HD2 : Hid (d1.drew.heap.size = d1.heap.size) := rfl
    refine wp_region_late (· == 12) (S := fun u => (u.cell? ⟨B, 0, none⟩ = some (.slice (some ⟨b, off, none⟩) G.length cG) ∧ u.cell? ⟨b, off + k * 3 + 2, none⟩ = some (.int .i64 hm)) ∧ u.cell? ⟨w.heap.size, 2, none⟩ = some (.int .i64 g.mode)) (by kernel_rfl) (HK2.out _ D2) (fun hHeld => ?_)
    generalize d1.drew = d2 at *
    refine wpAnyL_take (i := 0) (v := .pointer (some ⟨w.heap.size, 2, none⟩)) rfl (by kernel_rfl) (fun _ _ _ h => h) (Or.inl ⟨by rfl, ?_⟩) hHeld ?_
    · intro w' hSw
      go_simp <;> rfl
    try simp only [Act.put, List.getElem_toArray, List.getElem_cons_zero, List.setIfInBounds_toArray, List.set_cons_zero, List.set_cons_succ]
    refine wpAnyL_take (i := 1) (v := .int .i64 g.mode) rfl (by kernel_rfl) (fun _ _ _ h => h) (Or.inl ⟨by rfl, ?_⟩) hHeld ?_
    · intro w' hSw
      have hx := hSw.2
      go_simp <;> rfl
    try simp only [Act.put, List.getElem_toArray, List.getElem_cons_zero, List.getElem_cons_succ, List.setIfInBounds_toArray, List.set_cons_zero, List.set_cons_succ]
    refine wpAnyL_take (i := 2) (v := .pointer (some ⟨B, 0, none⟩)) rfl (by kernel_rfl) (fun _ _ _ h => h) (Or.inl ⟨by rfl, ?_⟩) hHeld ?_
    · intro w' hSw
      go_simp <;> rfl
    try simp only [Act.put, List.getElem_toArray, List.getElem_cons_zero, List.getElem_cons_succ, List.setIfInBounds_toArray, List.set_cons_zero, List.set_cons_succ]
    refine wpAnyL_take (i := 3) (v := .pointer (some ⟨B, 0, none⟩)) rfl (by kernel_rfl) (fun _ _ _ h => h) (Or.inl ⟨by rfl, ?_⟩) hHeld ?_
    · intro w' hSw
      go_simp <;> rfl
    try simp only [Act.put, List.getElem_toArray, List.getElem_cons_zero, List.getElem_cons_succ, List.setIfInBounds_toArray, List.set_cons_zero, List.set_cons_succ]
    refine wpAnyL_take (i := 4) (v := .pointer (some ⟨B, 0, none⟩)) rfl (by kernel_rfl) (fun _ _ _ h => h) (Or.inl ⟨by rfl, ?_⟩) hHeld ?_
    · intro w' hSw
      go_simp <;> rfl
    try simp only [Act.put, List.getElem_toArray, List.getElem_cons_zero, List.getElem_cons_succ, List.setIfInBounds_toArray, List.set_cons_zero, List.set_cons_succ]
    refine wpAnyL_take (i := 5) (v := .slice (some ⟨b, off, none⟩) G.length cG) rfl (by kernel_rfl) (fun _ _ _ h => h) (Or.inl ⟨by rfl, ?_⟩) hHeld ?_
    · intro w' hSw
      have hx := hSw.1.1
      go_simp <;> rfl
    try simp only [Act.put, List.getElem_toArray, List.getElem_cons_zero, List.getElem_cons_succ, List.setIfInBounds_toArray, List.set_cons_zero, List.set_cons_succ]
    refine wpAnyL_take (i := 6) (v := .int .i64 (k : Int)) rfl (by kernel_rfl) (fun _ _ _ h => h) (Or.inl ⟨by rfl, ?_⟩) hHeld ?_
    · intro w' hSw
      go_simp <;> rfl
    try simp only [Act.put, List.getElem_toArray, List.getElem_cons_zero, List.getElem_cons_succ, List.setIfInBounds_toArray, List.set_cons_zero, List.set_cons_succ]
    refine wpAnyL_take (i := 7) (v := .pointer (some ⟨b, off + k * 3, none⟩)) rfl (by kernel_rfl) (fun _ _ _ h => h) (Or.inl ⟨by rfl, ?_⟩) hHeld ?_
    · intro w' hSw
      go_simp <;> rfl
    try simp only [Act.put, List.getElem_toArray, List.getElem_cons_zero, List.getElem_cons_succ, List.setIfInBounds_toArray, List.set_cons_zero, List.set_cons_succ]
    refine wpAnyL_take (i := 8) (v := .pointer (some ⟨b, off + k * 3 + 2, none⟩)) rfl (by kernel_rfl) (fun _ _ _ h => h) (Or.inl ⟨by rfl, ?_⟩) hHeld ?_
    · intro w' hSw
      go_simp <;> rfl
    try simp only [Act.put, List.getElem_toArray, List.getElem_cons_zero, List.getElem_cons_succ, List.setIfInBounds_toArray, List.set_cons_zero, List.set_cons_succ]
    refine wpAnyL_take (i := 9) (v := .int .i64 hm) rfl (by kernel_rfl) (fun _ _ _ h => h) (Or.inl ⟨by rfl, ?_⟩) hHeld ?_
    · intro w' hSw
      have hx := hSw.1.2
      go_simp <;> rfl
    try simp only [Act.put, List.getElem_toArray, List.getElem_cons_zero, List.getElem_cons_succ, List.setIfInBounds_toArray, List.set_cons_zero, List.set_cons_succ]
    refine wpAnyL_next 10 (by kernel_rfl) rfl (fun K hK => ?_)
    go_simp
    refine (implBoth_any g.mode hm d2 (HTB.out _ D2)).mono ?_
    rintro r d3 ⟨rfl, rfl⟩
    refine hK.out _ _ (HK2.out _ D2) (fun hHeld => ?_)
    clear hK K 
    try simp only [Act.put, List.getElem_toArray, List.getElem_cons_zero, List.getElem_cons_succ, List.setIfInBounds_toArray, List.set_cons_zero, List.set_cons_succ]
    refine wpAnyL_take (i := 11) (v := .pointer (some ⟨w.heap.size, 2, none⟩)) rfl (by kernel_rfl) (fun _ _ _ h => h) (Or.inl ⟨by rfl, ?_⟩) hHeld ?_
    · intro w' hSw
      go_simp <;> rfl
    try simp only [Act.put, List.getElem_toArray, List.getElem_cons_zero, List.getElem_cons_succ, List.setIfInBounds_toArray, List.set_cons_zero, List.set_cons_succ]
    obtain ⟨bA, bR⟩ := HBX.out _ D2
    have f2 := bA.frozen 2
    have x2 := bA.cell 2 _ rfl
    obtain ⟨W4, hW4, bA4, hw4, hs4⟩ := box_set bA 2 (.int .i64 (bothZ g.mode hm))
    have bR4 := bR.within hw4 (by omega)
    simp only [List.set] at bA4
    refine wpAnyL_last 12 (by kernel_rfl) rfl rfl (fun K hK => ?_)
    go_simp
    rw [hW4.out]
    refine hK.out _ _ ?_
    clear hK K
    refine wpAnyL_done (by kernel_rfl) ?_ _
    clear hHeld hW4 f2 x2
    obtain ⟨y0, y1, y2, _⟩ := bA4.three
    obtain ⟨z0, z1, z2, g0, g1, g2⟩ := bR4.three
    obtain ⟨W5, hW5, bR5, hw5, hs5⟩ := box3_fill bR4 (.int .i64 g.tx) (.int .i64 g.res) (.int .i64 (bothZ g.mode hm))
    have HF : Hid (Below w.heap.size w W5) := by
      have hd2 := D2.size
      have h4 : Below w.heap.size d3 W4 := hw4.below (Nat.le_refl _) (by omega)
      have h5 : Below w.heap.size W4 W5 := hw5.below (by omega) (by omega)
      exact ((HE.out _ D2).trans h4).trans h5
    obtain ⟨r0, r1, r2, _⟩ := bR5.three
    clear hw4 hw5 hs4 hs5 bA4 bR4
    go_wp2_with fail
    rw [hW5.out]
    refine bodyPost_ret (v := .tuple #[.agg #[.int .i64 g.tx, .int .i64 g.res, .int .i64 (bothZ g.mode hm)], .int .i64 (k : Int)]) (by simp [results, Tryd.results53, go_sem, r0, r1, r2]) rfl ⟨by rw [HWZ.out.1, HWZ.out.2], HF.out⟩
  · have HWZ : Hid (wouldZ G g = g.mode) := HW2.out hp
    clear HW1 HW2 HNN HD HK
    obtain ⟨y0, y1, y2, _⟩ := bA.three
    obtain ⟨z0, z1, z2, g0, g1, g2⟩ := bR.three
    obtain ⟨W5, hW5, bR5, hw5, hs5⟩ := box3_fill bR (.int .i64 g.tx) (.int .i64 g.res) (.int .i64 g.mode)
    have HF : Hid (Below w.heap.size w W5) := (HE.out _ D1).trans (hw5.below (by omega) (by omega))
    obtain ⟨r0, r1, r2, _⟩ := bR5.three
    clear hw5 hs5 bA bR
    go_wp2_with fail
    rw [hW5.out]
    refine bodyPost_ret (v := .tuple #[.agg #[.int .i64 g.tx, .int .i64 g.res, .int .i64 g.mode], .int .i64 (placeZ (atB g.tx g.res) G)]) (by simp [results, Tryd.results53, go_sem, r0, r1, r2]) rfl ⟨by rw [HWZ.out], HF.out⟩
end Go.Proofs.YtekljhabjkmhpabDoor

/- The walk of (*impl.Locks).waitedFor. -/
namespace Go.Proofs.YtekljhabjkmhpabDoor
open Go.RowKit

set_option maxHeartbeats 4000000 in
set_option maxRecDepth 100000 in
theorem waitedFor_any (B : Nat) (G V : List GrantV) (aG : Option Addr) (cG : Nat) (aW : Option Addr) (cW : Nat) (k : Nat) (w : World) (hTG : TabGo w) (hTB : TabBoth w)
    (hB0 : w.cell? ⟨B, 0, none⟩ = some (.slice aG G.length cG)) (hB1 : w.cell? ⟨B, 1, none⟩ = some (.slice aW V.length cW)) (hG : ReadsG w aG G) (hV : ReadsG w aW V) (hlG : G.length ≤ 1000) (hlV : V.length ≤ 1000) (hcW : V.length ≤ cW) (hk : k < V.length) :
    Calls Tryd.prog 39 #[.pointer (some ⟨B, 0, none⟩), .int .i64 (k : Int)] w fun e w' => ∃ a c, e = .returned (.slice a (forL G V k).length c) ∧ OwnI w' w.heap.size w'.heap.size a c (forL G V k) ∧ Below w.heap.size w w' := by
  have HFL : Hid (forL G V k = (G.filter (barsB ⟨(V.getD k zeroG).tx, (V.getD k zeroG).res, wouldZ G (V.getD k zeroG)⟩)).map (·.tx) ++ ((V.take k).filter (fun h => h.res == (V.getD k zeroG).res)).map (·.tx)) := rfl
  generalize forL G V k = FL at *
  have hBl : B < w.heap.size := block_lt hB0
  have HCG : Hid (∀ w', Below w.heap.size w w' → ∀ k, k < G.length → ∃ b off, aG = some ⟨b, off, none⟩ ∧ w'.cell? ⟨b, off + k * 3, none⟩ = some (.int .i64 (G.getD k zeroG).tx) ∧ w'.cell? ⟨b, off + k * 3 + 1, none⟩ = some (.int .i64 (G.getD k zeroG).res) ∧ w'.cell? ⟨b, off + k * 3 + 2, none⟩ = some (.int .i64 (G.getD k zeroG).mode)) := fun w' h k hk => by
    obtain ⟨b, off, ha, hc⟩ := (hG.below h) (by intro e; rw [e] at hk; simp at hk)
    exact ⟨b, off, ha, hc k hk⟩
  have HCV : Hid (∀ w', Below w.heap.size w w' → ∀ k, k < V.length → ∃ b off, aW = some ⟨b, off, none⟩ ∧ w'.cell? ⟨b, off + k * 3, none⟩ = some (.int .i64 (V.getD k zeroG).tx) ∧ w'.cell? ⟨b, off + k * 3 + 1, none⟩ = some (.int .i64 (V.getD k zeroG).res) ∧ w'.cell? ⟨b, off + k * 3 + 2, none⟩ = some (.int .i64 (V.getD k zeroG).mode)) := fun w' h k hk => by
    obtain ⟨b, off, ha, hc⟩ := (hV.below h) (by intro e; rw [e] at hk; simp at hk)
    exact ⟨b, off, ha, hc k hk⟩
  have HBB : Hid (∀ u, Below w.heap.size w u → u.cell? ⟨B, 0, none⟩ = some (.slice aG G.length cG) ∧ u.cell? ⟨B, 1, none⟩ = some (.slice aW V.length cW)) := fun u h => ⟨(h.cell hBl).trans hB0, (h.cell hBl).trans hB1⟩
  have HTG : Hid (∀ u, Below w.heap.size w u → TabGo u) := fun u h => hTG.keep h
  obtain ⟨b, off, rfl, d0, d1, d2⟩ := HCV.out w (Below.refl _ _) k hk
  generalize V.getD k zeroG = z at *
  have C := wouldHave_any B G aG cG z w hTB hB0 hG (by omega)
  have hk0 : (k : Int) < (V.length : Int) := by omega
  have hkc : k ≤ cW := by omega
  clear hG hV hTG hTB
  go_enter Tryd.func39, Tryd.ntmps39
  go_wp2_with fail
  refine C.mono ?_
  clear C
  generalize wouldZ G z = m at *
  rintro e w1 ⟨rfl, hb1⟩
  generalize placeZ (atB z.tx z.res) G = pl at *
  obtain ⟨V1, hV1, bz, hbV1, hsV1⟩ := boxes1 w1 [.int .i64 z.tx, .int .i64 z.res, .int .i64 m] 46
  have hB1' : Below w.heap.size w V1 := hb1.trans (hbV1.mono hb1.size)
  have HBZ : Hid (∀ u, Below V1.heap.size V1 u → Box u w1.heap.size [.int .i64 z.tx, .int .i64 z.res, .int .i64 m] 46) := fun u h => bz.below h bz.lt
  have hs1 : w1.heap.size < V1.heap.size := bz.lt
  have hs2 : w.heap.size ≤ w1.heap.size := hb1.size
  obtain ⟨y0, y1⟩ := HBB.out _ hB1'
  have hBw1 : B < w1.heap.size := by omega
  have HB1' : Hid (∀ u, Below V1.heap.size V1 u → Below w.heap.size w u) := fun u h => hB1'.trans (h.mono hB1'.size)
  clear d0 d1 d2 bz hb1 hbV1 hsV1 hB0 hB1
  go_upto_region 3 with fail
  rw [hV1.out]
  clear hV1
  go_wp2_with fail
  clear y0 y1
  go_loopw [5, 29] (fun o i wr => ∃ (j : Nat) (a : Option Addr) (c : Nat) (L : List Int), j ≤ G.length ∧ i = .int .i64 j ∧ o = .slice a L.length c ∧ Hid (L = ((G.take j).filter (barsB ⟨z.tx, z.res, m⟩)).map (·.tx)) ∧ L.length ≤ j ∧ OwnI wr V1.heap.size wr.heap.size a c L ∧ Below V1.heap.size V1 wr) (fun _ i _ => G.length - (intOf i).toNat)
  case atStart => exact ⟨0, none, 0, [], Nat.zero_le _, rfl, rfl, rfl, Nat.zero_le _, ownI_nil _ _ _ (Nat.le_refl _), Below.refl _ _⟩
  case round =>
    obtain ⟨j, a, c, L, hj, rfl, rfl, hL, hLj, ho, hbl⟩ := hrel
    have hBW := HB1'.out _ hbl
    have hls := hbl.size
    by_cases hlt : j < G.length
    · obtain ⟨b', off', rfl, d0, d1, d2⟩ := HCG.out wr hBW j hlt
      have HST : Hid (_ = _) := filter_step (barsB ⟨z.tx, z.res, m⟩) (fun g : GrantV => g.tx) G zeroG j hlt
      clear HCG HCV HFL
      generalize G.getD j zeroG = h at *
      have HNO : Hid (barsB ⟨z.tx, z.res, m⟩ h = false → L = ((G.take (j + 1)).filter (barsB ⟨z.tx, z.res, m⟩)).map (·.tx)) := fun q => by rw [HST.out, if_neg (by rw [q]; decide)]; exact hL.out
      have HYE : Hid (barsB ⟨z.tx, z.res, m⟩ h = true → L ++ [h.tx] = ((G.take (j + 1)).filter (barsB ⟨z.tx, z.res, m⟩)).map (·.tx)) := fun q => by rw [HST.out, if_pos q, ← hL.out]
      clear HST hL
      have bzr := HBZ.out _ hbl
      obtain ⟨e0, e1, e2, _⟩ := bzr.three
      have hzl := bzr.lt
      clear bzr
      obtain ⟨V2, hV2, bh, hbV2, hsV2⟩ := boxes1 wr [.int .i64 h.tx, .int .i64 h.res, .int .i64 h.mode] 46
      have hB2 : Below V1.heap.size V1 V2 := hbl.trans (hbV2.mono hbl.size)
      have ho2 := (ho.below hbV2).widen (Nat.le_refl _) hbV2.size (Nat.le_refl _)
      have C := bars_any h ⟨z.tx, z.res, m⟩ V2 (HTG.out _ (HB1'.out _ hB2))
      simp only at C
      clear hsV2 hbV2
      go_wp2_with fail
      rw [hV2.out]
      refine C.mono ?_
      clear C hV2
      generalize barsB ⟨z.tx, z.res, m⟩ h = bb at *
      rintro e w2 ⟨rfl, hb2⟩
      have x0 := (bh.below hb2 bh.lt).cell 0 _ rfl
      have hB3 : Below V1.heap.size V1 w2 := hB2.trans (hb2.mono hB2.size)
      have ho3 := (ho2.below hb2).widen (Nat.le_refl _) hb2.size (Nat.le_refl _)
      have hl3 := hB3.size
      clear bh ho2 hB2 hb2 d0 d1 d2 e0 e1 e2
      cases bb
      · have HR : Hid _ := HNO.out rfl
        go_wp2_with fail
        go_roundw
        case rel => exact ⟨j + 1, a, c, L, by omega, by go_num, rfl, HR.out, by omega, ho3, hB3⟩
        case measure => simp [intOf]; omega
      · have HR : Hid _ := HYE.out rfl
        have ho4 := ho3.below ((Below.refl _ _).alloc (Nat.le_refl _) (.cells #[.int .i64 h.tx] 3))
        go_wp2_with (at_builtin; refine append_ints rfl _ _ rfl V1.heap.size w2.heap.size a c L rfl ho4 _ _ [h.tx] rfl (readsI_one w2 h.tx _) (fun h => by cases h) (by simp; omega) (by simp; omega) ?_; intro a5 c5 y5 w5 hy5 ho5 hg5)
        go_roundw
        case rel => exact ⟨j + 1, a5, c5, y5, by omega, by go_num, rfl, by rw [Hid, hy5.out]; exact HR.out, by rw [hy5.out]; simp; omega, ho5, below_append hB3 hg5 (fun k hk => (ho3.lt k hk).1) hB3.size⟩
        case measure => simp [intOf]; omega
    · have HL : Hid (L = (G.filter (barsB ⟨z.tx, z.res, m⟩)).map (·.tx)) := by
        have e := hL.out
        rw [List.take_of_length_le (by omega)] at e
        exact e
      have HLL : Hid (L.length ≤ G.length) := by rw [Hid]; omega
      have HS0 : Hid (OwnI wr V1.heap.size wr.heap.size a c L ∧ Below V1.heap.size V1 wr) := ⟨ho, hbl⟩
      obtain ⟨y0, y1⟩ := HBB.out _ hBW
      clear hL hLj HCG ho hbl
      generalize wr = wo at *
      go_wp2_with fail
      go_loopw [5, 49] (fun o i wr => ∃ (j : Nat) (a : Option Addr) (c : Nat) (M : List Int), j ≤ k ∧ i = .int .i64 j ∧ o = .slice a M.length c ∧ Hid (M = L ++ ((V.take j).filter (fun h => h.res == z.res)).map (·.tx)) ∧ M.length ≤ G.length + j ∧ OwnI wr V1.heap.size wr.heap.size a c M ∧ Below V1.heap.size V1 wr) (fun _ i _ => k - (intOf i).toNat)
      case atStart => exact ⟨0, _, _, L, Nat.zero_le _, rfl, rfl, by simp [Hid], by have := HLL.out; omega, HS0.out.1, HS0.out.2⟩
      case round =>
        clear hBW y0 y1 hls hlt
        obtain ⟨j, a, c, M, hj, rfl, rfl, hM, hMj, ho, hbl⟩ := hrel
        have hBW := HB1'.out _ hbl
        have hls := hbl.size
        by_cases hlt : j < k
        · obtain ⟨b', off', hh, d0, d1, d2⟩ := HCV.out wr hBW j (by omega)
          cases hh
          have HST : Hid (_ = _) := filter_step (fun h : GrantV => h.res == z.res) (fun g : GrantV => g.tx) V zeroG j (by omega)
          clear HCV HFL
          generalize V.getD j zeroG = h at *
          have HNO : Hid ((h.res == z.res) = false → M = L ++ ((V.take (j + 1)).filter (fun h => h.res == z.res)).map (·.tx)) := fun q => by rw [HST.out, if_neg (by rw [q]; decide)]; exact hM.out
          have HYE : Hid ((h.res == z.res) = true → M ++ [h.tx] = L ++ ((V.take (j + 1)).filter (fun h => h.res == z.res)).map (·.tx)) := fun q => by rw [HST.out, if_pos q, hM.out, List.append_assoc]
          clear HST hM
          have bzr := HBZ.out _ hbl
          have e1 := bzr.cell 1 _ rfl
          have hzl := bzr.lt
          clear bzr
          obtain ⟨V2, hV2, bh, hbV2, hsV2⟩ := boxes1 wr [.int .i64 h.tx, .int .i64 h.res, .int .i64 h.mode] 46
          have hB2 : Below V1.heap.size V1 V2 := hbl.trans (hbV2.mono hbl.size)
          have ho2 := (ho.below hbV2).widen (Nat.le_refl _) hbV2.size (Nat.le_refl _)
          have HV2 : Hid (_ = V2) := hV2
          have x0 := bh.cell 0 _ rfl
          have hl2 := hB2.size
          clear hsV2 hbV2 bh
          by_cases q1 : h.res = z.res
          · have HR : Hid _ := HYE.out (by simp [q1])
            have ho4 := ho2.below ((Below.refl _ _).alloc (Nat.le_refl _) (.cells #[.int .i64 h.tx] 3))
            obtain ⟨htx, hres, hmode⟩ := h
            simp only at *
            subst q1
            go_upto_region 13 with fail
            rw [HV2.out]
            clear hV2 HV2
            go_wp2_with (at_builtin; refine append_ints rfl _ _ rfl V1.heap.size V2.heap.size a c M rfl ho4 _ _ [htx] rfl (readsI_one V2 htx _) (fun h => by cases h) (by simp; omega) (by simp; omega) ?_; intro a5 c5 y5 w5 hy5 ho5 hg5)
            go_roundw
            case rel => exact ⟨j + 1, a5, c5, y5, by omega, by go_num, rfl, by rw [Hid, hy5.out]; exact HR.out, by rw [hy5.out]; simp; omega, ho5, below_append hB2 hg5 (fun k hk => (ho2.lt k hk).1) hB2.size⟩
            case measure => simp [intOf]; omega
          · have HR : Hid _ := HNO.out (by simp [q1])
            have HS : Hid (_ ∧ _) := ⟨ho2, hB2⟩
            clear ho2 hB2
            go_wp2_with fail
            rw [HV2.out]
            go_roundw
            case rel => exact ⟨j + 1, a, c, M, by omega, by go_num, rfl, HR.out, by omega, HS.out.1, HS.out.2⟩
            case measure => simp [intOf]; omega
        · have HF : Hid (M = FL) := by
            have e : j = k := by omega
            have e2 := hM.out
            rw [e, HL.out] at e2
            rw [Hid, HFL.out]
            exact e2
          have HX := hBW
          clear hM HFL
          go_wp2_with fail
          go_ret
          have e := HF.out
          subst e
          exact ⟨a, c, rfl, ho.widen (by omega) (Nat.le_refl _) (Nat.le_refl _), HX⟩
end Go.Proofs.YtekljhabjkmhpabDoor
