/- Several texts in one, in their order. -/
import Derived.Test.YtekljhabjkmhpaaDoorPFnDroppedx15
import Derived.Test.YtekljhabjkmhpaaDoorPFnDroppedx17
import Derived.Deep.RegionHeld3
import Derived.Test.YtekljhabjkmhpaaDoorPFnDroppedx19
import Derived.Test.YtekljhabjkmhpaaDoorPFnDroppedx18
import Derived.Test.YtekljhabjkmhpaaDoorProg
import Derived.Test.YtekljhabjkmhpaaDoorPFnDroppedx1
import Derived.Deep.QuietTactic
import Derived.BigQuiet
/- The walk of spec.Stuck. -/
namespace Go.Proofs.YtekljhabjkmhpaaDoor
open Go.RowKit

/-- What Stuck answers. -/
def StuckAns (G V : List GrantV) (s : Int) : Prop := (okLocks G V = true → 0 ≤ s ∧ StuckIs G V s) ∧ (okLocks G V = false → s = 0)
theorem stuckAns_one {G V : List GrantV} {s t : Int} (h : StuckAns G V s) (k : StuckAns G V t) : s = t := by
  cases e : okLocks G V
  · rw [h.2 e, k.2 e]
  · exact stuck_one (h.1 e).2 (k.1 e).2 ⟨(h.1 e).1, (k.1 e).1⟩
theorem stuck_end {G V : List GrantV} {b : Int} (h1 : b = 0 ∨ (1 ≤ b ∧ b ≤ 99 ∧ BackE (EdgeL G V) b)) (h2 : ∀ j, j < V.length → BackE (EdgeL G V) (V.getD j zeroG).tx → (V.getD j zeroG).tx ≤ b) : StuckIs G V b := by
  refine ⟨h1, fun x hx hx9 hb => ?_⟩
  obtain ⟨z, hz⟩ := back_first hb
  obtain ⟨k, hk, e⟩ := edge_from hz
  have := h2 k hk (by rw [e]; exact hb)
  omega

set_option maxHeartbeats 4000000 in
set_option maxRecDepth 100000 in
theorem specStuck_any (l : LocksA) (w : World) (hr : l.reads w) (hl : l.short 1099511627776) :
    Calls Tryd.prog 25 #[.agg #[.slice l.aG l.given.length l.cG, .slice l.aW l.waits.length l.cW]] w fun e w' => ∃ s : Int, e = .returned (.int .i64 s) ∧ Hid (StuckAns l.given l.waits s) ∧ Below w.heap.size w w' := by
  obtain ⟨W, hW, b0, hbW, hsW⟩ := boxes1 w [.slice l.aG l.given.length l.cG, .slice l.aW l.waits.length l.cW] 30
  have hb0 := b0.lt
  have HB : Hid (∀ w', Below W.heap.size W w' → Below w.heap.size w w') := fun w' h => hbW.trans (h.mono hbW.size)
  have hrW := hr.below hbW
  have HOK : Hid (∀ u, Below W.heap.size W u → Calls Tryd.prog 27 #[.agg #[.slice l.aG l.given.length l.cG, .slice l.aW l.waits.length l.cW]] u fun e w' => e = .returned (.bool (okLocks l.given l.waits)) ∧ Below u.heap.size u w') := fun u h => specLocksOk_any l u (hrW.below h) hl
  obtain ⟨G, V, aG, cG, aW, cW⟩ := l
  obtain ⟨hG, hV, _, _, _, _⟩ := hrW
  obtain ⟨hlG, hlV⟩ := hl
  simp only at *
  have HBW : Hid (∀ u, Below W.heap.size W u → u.cell? ⟨w.heap.size, 0, none⟩ = some (.slice aG G.length cG) ∧ u.cell? ⟨w.heap.size, 1, none⟩ = some (.slice aW V.length cW)) := fun u h => ⟨(Box.below b0 h hb0).cell 0 _ rfl, (Box.below b0 h hb0).cell 1 _ rfl⟩
  have HCV : Hid (∀ w', Below W.heap.size W w' → ∀ k, k < V.length → ∃ b off, aW = some ⟨b, off, none⟩ ∧ w'.cell? ⟨b, off + k * 3, none⟩ = some (.int .i64 (V.getD k zeroG).tx)) := fun w' h k hk => by
    obtain ⟨b, off, ha, hc⟩ := (hV.below h) (by intro e; rw [e] at hk; simp at hk)
    exact ⟨b, off, ha, (hc k hk).1⟩
  have HCB : Hid (Right G V → ∀ u, Below W.heap.size W u → ∀ tx, 1 ≤ tx ∧ tx ≤ 99 → Calls Tryd.prog 53 #[.agg #[.slice aG G.length cG, .slice aW V.length cW], .int .i64 tx] u fun e w' => ∃ r : Bool, e = .returned (.bool r) ∧ Hid (r = true ↔ BackE (EdgeL G V) tx) ∧ Below u.heap.size u w') := fun hR u h tx htx => l9Back_any G V aG cG aW cW tx u (hG.below h) (hV.below h) hR htx
  have c1 := b0.cell 1 _ rfl
  have c0 := b0.cell 0 _ rfl
  clear hr hG hV hbW hsW b0 hb0
  cases hok : okLocks G V
  · rw [hok] at HOK
    have HA : Hid (StuckAns G V 0) := ⟨fun h => (by rw [hok] at h; cases h), fun _ => rfl⟩
    have HX := HB.out W (Below.refl _ _)
    by_cases h0 : V.length = 0
    · have hz2 : ¬ ((0 : Int) < (V.length : Int)) := by rw [h0]; simp
      clear h0
      go_enter Tryd.func25, Tryd.ntmps25
      go_wp2
      rw [hW.out]
      refine wp_loop_rounds 1 ?_
      rw [rounds_succ]
      go_wp2
      go_ret
      exact ⟨0, rfl, HA.out, HX⟩
    · have hz2 : (0 : Int) < (V.length : Int) := by omega
      have C := HOK.out W (Below.refl _ _)
      clear h0
      go_enter Tryd.func25, Tryd.ntmps25
      go_wp2
      rw [hW.out]
      refine wp_loop_rounds 1 ?_
      rw [rounds_succ]
      go_wp2_with fail
      refine C.mono ?_
      rintro e w1 ⟨rfl, hb1⟩
      have HX1 := HB.out w1 hb1
      go_wp2
      go_ret
      exact ⟨0, rfl, HA.out, HX1⟩
  · rw [hok] at HOK
    have hR := right_of hok
    have HEND : Hid (∀ s, 0 ≤ s → StuckIs G V s → StuckAns G V s) := fun s h0 h => ⟨fun _ => ⟨h0, h⟩, fun h => (by rw [hok] at h; cases h)⟩
    have HCB2 : Hid (_) := HCB.out hR
    have HTX : Hid (∀ k, k < V.length → 1 ≤ (V.getD k zeroG).tx ∧ (V.getD k zeroG).tx ≤ 99) := fun k hk => hR.wtx _ (mem_getD hk zeroG)
    have hlV6 : V.length ≤ 60 := hR.lw
    clear HCB hR hok
    go_enter Tryd.func25, Tryd.ntmps25
    go_wp2
    rw [hW.out]
    clear hW c0 c1
    go_loopw [3, 4] (fun o i wr => ∃ (k : Nat) (b : Int), k ≤ V.length ∧ i = .int .i64 k ∧ o = .int .i64 b ∧ Hid (0 ≤ b ∧ (b = 0 ∨ (1 ≤ b ∧ b ≤ 99 ∧ BackE (EdgeL G V) b)) ∧ ∀ j, j < k → BackE (EdgeL G V) (V.getD j zeroG).tx → (V.getD j zeroG).tx ≤ b) ∧ Below W.heap.size W wr) (fun _ i _ => V.length - (intOf i).toNat)
    case atStart => exact ⟨0, 0, Nat.zero_le _, rfl, rfl, ⟨Int.le_refl _, .inl rfl, fun j hj => by omega⟩, Below.refl _ _⟩
    case round =>
      obtain ⟨k, b, hk, rfl, rfl, hI, hbl⟩ := hrel
      obtain ⟨c0, c1⟩ := HBW.out _ hbl
      by_cases hlt : k < V.length
      · have C := HOK.out wr hbl
        go_wp2_with fail
        refine C.mono ?_
        clear C
        rintro e w1 ⟨rfl, hb1⟩
        have nW : Below W.heap.size W w1 := hbl.trans (hb1.mono hbl.size)
        clear c0 c1 hb1 hbl HOK
        generalize wr = wo at *
        obtain ⟨bv, off, rfl, _⟩ := HCV.out w1 nW k hlt
        have HK : Hid (∀ u, Below W.heap.size W u → (u.cell? ⟨w.heap.size, 0, none⟩ = some (.slice aG G.length cG) ∧ u.cell? ⟨w.heap.size, 1, none⟩ = some (.slice (some ⟨bv, off, none⟩) V.length cW)) ∧ u.cell? ⟨bv, off + k * 3, none⟩ = some (.int .i64 (V.getD k zeroG).tx)) := fun u h => by
          obtain ⟨b', off', e, h0⟩ := HCV.out u h k hlt
          cases e
          exact ⟨HBW.out u h, h0⟩
        have HT := HTX.out k hlt
        have HCk : Hid (_) := fun u h => HCB2.out u h (V.getD k zeroG).tx HT
        have HNX : Hid (∀ b', b ≤ b' → (0 ≤ b' ∧ (b' = 0 ∨ (1 ≤ b' ∧ b' ≤ 99 ∧ BackE (EdgeL G V) b'))) → (BackE (EdgeL G V) (V.getD k zeroG).tx → (V.getD k zeroG).tx ≤ b') → (0 ≤ b' ∧ (b' = 0 ∨ (1 ≤ b' ∧ b' ≤ 99 ∧ BackE (EdgeL G V) b')) ∧ ∀ j, j < k + 1 → BackE (EdgeL G V) (V.getD j zeroG).tx → (V.getD j zeroG).tx ≤ b')) := fun b' hbb h0 h1 => ⟨h0.1, h0.2, fun j hj hB => by
          by_cases e : j < k
          · have := hI.out.2.2 j e hB; omega
          · obtain rfl : j = k := by omega
            exact h1 hB⟩
        clear HCB2 HTX HCV HBW
        generalize (V.getD k zeroG).tx = t at *
        go_upto_region 5 with fail
        have D0 : Below W.heap.size W w1.drew := nW.drew
        by_cases hgt : b < t
        · have hgt2 : (b < t) = True := eq_true hgt
          clear hgt2
          refine wp_region_held_drew (S := fun u => (u.cell? ⟨w.heap.size, 0, none⟩ = some (.slice aG G.length cG) ∧ u.cell? ⟨w.heap.size, 1, none⟩ = some (.slice (some ⟨bv, off, none⟩) V.length cW)) ∧ u.cell? ⟨bv, off + k * 3, none⟩ = some (.int .i64 t)) (by kernel_rfl) (HK.out _ D0) (fun hHeld => ?_)
          generalize w1.drew = d0 at *
          refine wpAnyH_take (i := 0) (v := .pointer (some ⟨w.heap.size, 1, none⟩)) rfl (by kernel_rfl) (by kernel_rfl) (by kernel_rfl) (fun _ _ _ h => h) (Or.inl ⟨by rfl, ?_⟩) hHeld ?_
          · intro w' hSw
            go_simp <;> rfl
          try simp only [Act.put, List.getElem_toArray, List.getElem_cons_zero, List.setIfInBounds_toArray, List.set_cons_zero, List.set_cons_succ]
          refine wpAnyH_take (i := 1) (v := .slice (some ⟨bv, off, none⟩) V.length cW) rfl (by kernel_rfl) (by kernel_rfl) (by kernel_rfl) (fun _ _ _ h => h) (Or.inl ⟨by rfl, ?_⟩) hHeld ?_
          · intro w' hSw
            have hx := hSw.1.2
            go_simp <;> rfl
          try simp only [Act.put, List.getElem_toArray, List.getElem_cons_zero, List.getElem_cons_succ, List.setIfInBounds_toArray, List.set_cons_zero, List.set_cons_succ]
          refine wpAnyH_take (i := 2) (v := .int .i64 (k : Int)) rfl (by kernel_rfl) (by kernel_rfl) (by kernel_rfl) (fun _ _ _ h => h) (Or.inl ⟨by rfl, ?_⟩) hHeld ?_
          · intro w' hSw
            go_simp <;> rfl
          try simp only [Act.put, List.getElem_toArray, List.getElem_cons_zero, List.getElem_cons_succ, List.setIfInBounds_toArray, List.set_cons_zero, List.set_cons_succ]
          refine wpAnyH_take (i := 3) (v := .pointer (some ⟨bv, off + k * 3, none⟩)) rfl (by kernel_rfl) (by kernel_rfl) (by kernel_rfl) (fun _ _ _ h => h) (Or.inl ⟨by rfl, ?_⟩) hHeld ?_
          · intro w' hSw
            go_simp <;> rfl
          try simp only [Act.put, List.getElem_toArray, List.getElem_cons_zero, List.getElem_cons_succ, List.setIfInBounds_toArray, List.set_cons_zero, List.set_cons_succ]
          refine wpAnyH_take (i := 4) (v := .pointer (some ⟨bv, off + k * 3, none⟩)) rfl (by kernel_rfl) (by kernel_rfl) (by kernel_rfl) (fun _ _ _ h => h) (Or.inl ⟨by rfl, ?_⟩) hHeld ?_
          · intro w' hSw
            go_simp <;> rfl
          try simp only [Act.put, List.getElem_toArray, List.getElem_cons_zero, List.getElem_cons_succ, List.setIfInBounds_toArray, List.set_cons_zero, List.set_cons_succ]
          refine wpAnyH_take (i := 5) (v := .int .i64 t) rfl (by kernel_rfl) (by kernel_rfl) (by kernel_rfl) (fun _ _ _ h => h) (Or.inl ⟨by rfl, ?_⟩) hHeld ?_
          · intro w' hSw
            have hx := hSw.2
            go_simp <;> rfl
          try simp only [Act.put, List.getElem_toArray, List.getElem_cons_zero, List.getElem_cons_succ, List.setIfInBounds_toArray, List.set_cons_zero, List.set_cons_succ]
          refine wpAnyH_take (i := 6) (v := .int .i64 b) rfl (by kernel_rfl) (by kernel_rfl) (by kernel_rfl) (fun _ _ _ h => h) (Or.inl ⟨by rfl, ?_⟩) hHeld ?_
          · intro w' hSw
            go_simp <;> rfl
          try simp only [Act.put, List.getElem_toArray, List.getElem_cons_zero, List.getElem_cons_succ, List.setIfInBounds_toArray, List.set_cons_zero, List.set_cons_succ]
          refine wpAnyH_take (i := 7) (v := .bool true) rfl (by kernel_rfl) (by kernel_rfl) (by kernel_rfl) (fun _ _ _ h => h) (Or.inl ⟨by rfl, ?_⟩) hHeld ?_
          · intro w' hSw
            go_simp <;> rfl
          try simp only [Act.put, List.getElem_toArray, List.getElem_cons_zero, List.getElem_cons_succ, List.setIfInBounds_toArray, List.set_cons_zero, List.set_cons_succ]
          refine wpAnyH_take (i := 8) (v := .bool true) rfl (by kernel_rfl) (by kernel_rfl) (by kernel_rfl) (fun _ _ _ h => h) (Or.inl ⟨by rfl, ?_⟩) hHeld ?_
          · intro w' hSw
            go_simp <;> rfl
          try simp only [Act.put, List.getElem_toArray, List.getElem_cons_zero, List.getElem_cons_succ, List.setIfInBounds_toArray, List.set_cons_zero, List.set_cons_succ]
          refine wpAnyH_take (i := 9) (v := .agg #[.slice aG G.length cG, .slice (some ⟨bv, off, none⟩) V.length cW]) rfl (by kernel_rfl) (by kernel_rfl) (by kernel_rfl) (fun _ _ _ h => h) (Or.inl ⟨by rfl, ?_⟩) hHeld ?_
          · intro w' hSw
            obtain ⟨hx0, hx1⟩ := hSw.1
            go_simp <;> rfl
          try simp only [Act.put, List.getElem_toArray, List.getElem_cons_zero, List.getElem_cons_succ, List.setIfInBounds_toArray, List.set_cons_zero, List.set_cons_succ]
          refine wpAnyH_take (i := 10) (v := .pointer (some ⟨w.heap.size, 1, none⟩)) rfl (by kernel_rfl) (by kernel_rfl) (by kernel_rfl) (fun _ _ _ h => h) (Or.inl ⟨by rfl, ?_⟩) hHeld ?_
          · intro w' hSw
            go_simp <;> rfl
          try simp only [Act.put, List.getElem_toArray, List.getElem_cons_zero, List.getElem_cons_succ, List.setIfInBounds_toArray, List.set_cons_zero, List.set_cons_succ]
          refine wpAnyH_take (i := 11) (v := .slice (some ⟨bv, off, none⟩) V.length cW) rfl (by kernel_rfl) (by kernel_rfl) (by kernel_rfl) (fun _ _ _ h => h) (Or.inl ⟨by rfl, ?_⟩) hHeld ?_
          · intro w' hSw
            have hx := hSw.1.2
            go_simp <;> rfl
          try simp only [Act.put, List.getElem_toArray, List.getElem_cons_zero, List.getElem_cons_succ, List.setIfInBounds_toArray, List.set_cons_zero, List.set_cons_succ]
          refine wpAnyH_take (i := 12) (v := .int .i64 (k : Int)) rfl (by kernel_rfl) (by kernel_rfl) (by kernel_rfl) (fun _ _ _ h => h) (Or.inl ⟨by rfl, ?_⟩) hHeld ?_
          · intro w' hSw
            go_simp <;> rfl
          try simp only [Act.put, List.getElem_toArray, List.getElem_cons_zero, List.getElem_cons_succ, List.setIfInBounds_toArray, List.set_cons_zero, List.set_cons_succ]
          refine wpAnyH_take (i := 13) (v := .pointer (some ⟨bv, off + k * 3, none⟩)) rfl (by kernel_rfl) (by kernel_rfl) (by kernel_rfl) (fun _ _ _ h => h) (Or.inl ⟨by rfl, ?_⟩) hHeld ?_
          · intro w' hSw
            go_simp <;> rfl
          try simp only [Act.put, List.getElem_toArray, List.getElem_cons_zero, List.getElem_cons_succ, List.setIfInBounds_toArray, List.set_cons_zero, List.set_cons_succ]
          refine wpAnyH_take (i := 14) (v := .pointer (some ⟨bv, off + k * 3, none⟩)) rfl (by kernel_rfl) (by kernel_rfl) (by kernel_rfl) (fun _ _ _ h => h) (Or.inl ⟨by rfl, ?_⟩) hHeld ?_
          · intro w' hSw
            go_simp <;> rfl
          try simp only [Act.put, List.getElem_toArray, List.getElem_cons_zero, List.getElem_cons_succ, List.setIfInBounds_toArray, List.set_cons_zero, List.set_cons_succ]
          refine wpAnyH_take (i := 15) (v := .int .i64 t) rfl (by kernel_rfl) (by kernel_rfl) (by kernel_rfl) (fun _ _ _ h => h) (Or.inl ⟨by rfl, ?_⟩) hHeld ?_
          · intro w' hSw
            have hx := hSw.2
            go_simp <;> rfl
          try simp only [Act.put, List.getElem_toArray, List.getElem_cons_zero, List.getElem_cons_succ, List.setIfInBounds_toArray, List.set_cons_zero, List.set_cons_succ]
          refine wpAnyH_ready (rs := [16]) (by kernel_rfl) (by simp) ?_
          refine AllReadyH.cons rfl (fun K hK => ?_) AllReadyH.nil
          go_simp
          refine (HCk.out _ D0).mono ?_
          rintro r d1 ⟨bk, rfl, hbk, hb1⟩
          have D1 : Below W.heap.size W d1 := D0.trans (hb1.mono D0.size)
          refine hK.out _ _ (HK.out _ D1) (fun hHeld => ?_)
          clear hK K hb1
          try simp only [Act.put, List.getElem_toArray, List.getElem_cons_zero, List.getElem_cons_succ, List.setIfInBounds_toArray, List.set_cons_zero, List.set_cons_succ]
          refine wpAnyH_take (i := 17) (v := .bool bk) rfl (by kernel_rfl) (by kernel_rfl) (by kernel_rfl) (fun _ _ _ h => h) (Or.inl ⟨by rfl, ?_⟩) hHeld ?_
          · intro w' hSw
            go_simp <;> rfl
          try simp only [Act.put, List.getElem_toArray, List.getElem_cons_zero, List.getElem_cons_succ, List.setIfInBounds_toArray, List.set_cons_zero, List.set_cons_succ]
          refine wpAnyH_done (by kernel_rfl) ?_ _
          clear hHeld
          have x1 := (HK.out _ D1).1.2
          have x2 := (HK.out _ D1).2
          have HX1 : Hid (Below W.heap.size W d1) := D1
          cases bk with
          | true =>
            have HR : Hid _ := HNX.out t (by omega) ⟨by omega, .inr ⟨HT.1, HT.2, hbk.out.1 rfl⟩⟩ (fun _ => Int.le_refl _)
            clear hI HNX hbk
            go_wp2_with fail
            go_roundw
            case rel => exact ⟨k + 1, t, by omega, by go_num, rfl, HR.out, HX1.out⟩
            case measure => simp [intOf]; omega
          | false =>
            have HR : Hid _ := HNX.out b (Int.le_refl _) ⟨hI.out.1, hI.out.2.1⟩ (fun h => by have := hbk.out.2 h; cases this)
            clear hI HNX hbk
            go_wp2_with fail
            go_roundw
            case rel => exact ⟨k + 1, b, by omega, by go_num, rfl, HR.out, HX1.out⟩
            case measure => simp [intOf]; omega
        · have HR : Hid _ := HNX.out b (Int.le_refl _) ⟨hI.out.1, hI.out.2.1⟩ (fun _ => by omega)
          refine wp_region_held_drew (S := fun u => (u.cell? ⟨w.heap.size, 0, none⟩ = some (.slice aG G.length cG) ∧ u.cell? ⟨w.heap.size, 1, none⟩ = some (.slice (some ⟨bv, off, none⟩) V.length cW)) ∧ u.cell? ⟨bv, off + k * 3, none⟩ = some (.int .i64 t)) (by kernel_rfl) (HK.out _ D0) (fun hHeld => ?_)
          generalize w1.drew = d0 at *
          refine wpAnyH_take (i := 0) (v := .pointer (some ⟨w.heap.size, 1, none⟩)) rfl (by kernel_rfl) (by kernel_rfl) (by kernel_rfl) (fun _ _ _ h => h) (Or.inl ⟨by rfl, ?_⟩) hHeld ?_
          · intro w' hSw
            go_simp <;> rfl
          try simp only [Act.put, List.getElem_toArray, List.getElem_cons_zero, List.setIfInBounds_toArray, List.set_cons_zero, List.set_cons_succ]
          refine wpAnyH_take (i := 1) (v := .slice (some ⟨bv, off, none⟩) V.length cW) rfl (by kernel_rfl) (by kernel_rfl) (by kernel_rfl) (fun _ _ _ h => h) (Or.inl ⟨by rfl, ?_⟩) hHeld ?_
          · intro w' hSw
            have hx := hSw.1.2
            go_simp <;> rfl
          try simp only [Act.put, List.getElem_toArray, List.getElem_cons_zero, List.getElem_cons_succ, List.setIfInBounds_toArray, List.set_cons_zero, List.set_cons_succ]
          refine wpAnyH_take (i := 2) (v := .int .i64 (k : Int)) rfl (by kernel_rfl) (by kernel_rfl) (by kernel_rfl) (fun _ _ _ h => h) (Or.inl ⟨by rfl, ?_⟩) hHeld ?_
          · intro w' hSw
            go_simp <;> rfl
          try simp only [Act.put, List.getElem_toArray, List.getElem_cons_zero, List.getElem_cons_succ, List.setIfInBounds_toArray, List.set_cons_zero, List.set_cons_succ]
          refine wpAnyH_take (i := 3) (v := .pointer (some ⟨bv, off + k * 3, none⟩)) rfl (by kernel_rfl) (by kernel_rfl) (by kernel_rfl) (fun _ _ _ h => h) (Or.inl ⟨by rfl, ?_⟩) hHeld ?_
          · intro w' hSw
            go_simp <;> rfl
          try simp only [Act.put, List.getElem_toArray, List.getElem_cons_zero, List.getElem_cons_succ, List.setIfInBounds_toArray, List.set_cons_zero, List.set_cons_succ]
          refine wpAnyH_take (i := 4) (v := .pointer (some ⟨bv, off + k * 3, none⟩)) rfl (by kernel_rfl) (by kernel_rfl) (by kernel_rfl) (fun _ _ _ h => h) (Or.inl ⟨by rfl, ?_⟩) hHeld ?_
          · intro w' hSw
            go_simp <;> rfl
          try simp only [Act.put, List.getElem_toArray, List.getElem_cons_zero, List.getElem_cons_succ, List.setIfInBounds_toArray, List.set_cons_zero, List.set_cons_succ]
          refine wpAnyH_take (i := 5) (v := .int .i64 t) rfl (by kernel_rfl) (by kernel_rfl) (by kernel_rfl) (fun _ _ _ h => h) (Or.inl ⟨by rfl, ?_⟩) hHeld ?_
          · intro w' hSw
            have hx := hSw.2
            go_simp <;> rfl
          try simp only [Act.put, List.getElem_toArray, List.getElem_cons_zero, List.getElem_cons_succ, List.setIfInBounds_toArray, List.set_cons_zero, List.set_cons_succ]
          refine wpAnyH_take (i := 6) (v := .int .i64 b) rfl (by kernel_rfl) (by kernel_rfl) (by kernel_rfl) (fun _ _ _ h => h) (Or.inl ⟨by rfl, ?_⟩) hHeld ?_
          · intro w' hSw
            go_simp <;> rfl
          try simp only [Act.put, List.getElem_toArray, List.getElem_cons_zero, List.getElem_cons_succ, List.setIfInBounds_toArray, List.set_cons_zero, List.set_cons_succ]
          refine wpAnyH_take (i := 7) (v := .bool false) rfl (by kernel_rfl) (by kernel_rfl) (by kernel_rfl) (fun _ _ _ h => h) (Or.inl ⟨by rfl, ?_⟩) hHeld ?_
          · intro w' hSw
            go_simp <;> rfl
          try simp only [Act.put, List.getElem_toArray, List.getElem_cons_zero, List.getElem_cons_succ, List.setIfInBounds_toArray, List.set_cons_zero, List.set_cons_succ]
          refine wpAnyH_take (i := 8) (v := .bool false) rfl (by kernel_rfl) (by kernel_rfl) (by kernel_rfl) (fun _ _ _ h => h) (Or.inl ⟨by rfl, ?_⟩) hHeld ?_
          · intro w' hSw
            go_simp <;> rfl
          try simp only [Act.put, List.getElem_toArray, List.getElem_cons_zero, List.getElem_cons_succ, List.setIfInBounds_toArray, List.set_cons_zero, List.set_cons_succ]
          refine wpAnyH_take (i := 9) (v := undef) rfl (by kernel_rfl) (by kernel_rfl) (by kernel_rfl) (fun _ _ _ h => h) (Or.inr ⟨by rfl, rfl⟩) hHeld ?_
          try simp only [Act.put, List.getElem_toArray, List.getElem_cons_zero, List.getElem_cons_succ, List.setIfInBounds_toArray, List.set_cons_zero, List.set_cons_succ]
          refine wpAnyH_take (i := 10) (v := undef) rfl (by kernel_rfl) (by kernel_rfl) (by kernel_rfl) (fun _ _ _ h => h) (Or.inr ⟨by rfl, rfl⟩) hHeld ?_
          try simp only [Act.put, List.getElem_toArray, List.getElem_cons_zero, List.getElem_cons_succ, List.setIfInBounds_toArray, List.set_cons_zero, List.set_cons_succ]
          refine wpAnyH_take (i := 11) (v := undef) rfl (by kernel_rfl) (by kernel_rfl) (by kernel_rfl) (fun _ _ _ h => h) (Or.inr ⟨by rfl, rfl⟩) hHeld ?_
          try simp only [Act.put, List.getElem_toArray, List.getElem_cons_zero, List.getElem_cons_succ, List.setIfInBounds_toArray, List.set_cons_zero, List.set_cons_succ]
          refine wpAnyH_take (i := 12) (v := undef) rfl (by kernel_rfl) (by kernel_rfl) (by kernel_rfl) (fun _ _ _ h => h) (Or.inr ⟨by rfl, rfl⟩) hHeld ?_
          try simp only [Act.put, List.getElem_toArray, List.getElem_cons_zero, List.getElem_cons_succ, List.setIfInBounds_toArray, List.set_cons_zero, List.set_cons_succ]
          refine wpAnyH_take (i := 13) (v := undef) rfl (by kernel_rfl) (by kernel_rfl) (by kernel_rfl) (fun _ _ _ h => h) (Or.inr ⟨by rfl, rfl⟩) hHeld ?_
          try simp only [Act.put, List.getElem_toArray, List.getElem_cons_zero, List.getElem_cons_succ, List.setIfInBounds_toArray, List.set_cons_zero, List.set_cons_succ]
          refine wpAnyH_take (i := 14) (v := undef) rfl (by kernel_rfl) (by kernel_rfl) (by kernel_rfl) (fun _ _ _ h => h) (Or.inr ⟨by rfl, rfl⟩) hHeld ?_
          try simp only [Act.put, List.getElem_toArray, List.getElem_cons_zero, List.getElem_cons_succ, List.setIfInBounds_toArray, List.set_cons_zero, List.set_cons_succ]
          refine wpAnyH_take (i := 15) (v := undef) rfl (by kernel_rfl) (by kernel_rfl) (by kernel_rfl) (fun _ _ _ h => h) (Or.inr ⟨by rfl, rfl⟩) hHeld ?_
          try simp only [Act.put, List.getElem_toArray, List.getElem_cons_zero, List.getElem_cons_succ, List.setIfInBounds_toArray, List.set_cons_zero, List.set_cons_succ]
          refine wpAnyH_take (i := 16) (v := undef) rfl (by kernel_rfl) (by kernel_rfl) (by kernel_rfl) (fun _ _ _ h => h) (Or.inr ⟨by rfl, rfl⟩) hHeld ?_
          try simp only [Act.put, List.getElem_toArray, List.getElem_cons_zero, List.getElem_cons_succ, List.setIfInBounds_toArray, List.set_cons_zero, List.set_cons_succ]
          refine wpAnyH_take (i := 17) (v := .bool false) rfl (by kernel_rfl) (by kernel_rfl) (by kernel_rfl) (fun _ _ _ h => h) (Or.inl ⟨by rfl, ?_⟩) hHeld ?_
          · intro w' hSw
            go_simp <;> rfl
          try simp only [Act.put, List.getElem_toArray, List.getElem_cons_zero, List.getElem_cons_succ, List.setIfInBounds_toArray, List.set_cons_zero, List.set_cons_succ]
          refine wpAnyH_done (by kernel_rfl) ?_ _
          clear hHeld
          have HX1 : Hid (Below W.heap.size W d0) := D0
          clear hI HNX
          go_wp2_with fail
          go_roundw
          case rel => exact ⟨k + 1, b, by omega, by go_num, rfl, HR.out, HX1.out⟩
          case measure => simp [intOf]; omega
      · have HF : Hid (StuckAns G V b) := HEND.out b hI.out.1 (stuck_end hI.out.2.1 (fun j hj => hI.out.2.2 j (by omega)))
        have HX := HB.out _ hbl
        go_wp2_with fail
        go_ret
        exact ⟨b, rfl, HF.out, HX⟩
end Go.Proofs.YtekljhabjkmhpaaDoor

/- The walk of impl.Stuck. -/
namespace Go.Proofs.YtekljhabjkmhpaaDoor
open Go.RowKit

/-- The rows of the table after the first j that wait. -/
def waitL (G V : List GrantV) : Nat → List (List Int)
  | 0 => List.replicate 100 []
  | j + 1 => (waitL G V j).set (V.getD j zeroG).tx.toNat (forL G V j)
theorem waitL_len (G V : List GrantV) : ∀ j, (waitL G V j).length = 100
  | 0 => by simp [waitL]
  | j + 1 => by simp [waitL, waitL_len G V j]
theorem getD_set_self {α : Type} (ls : List α) (n : Nat) (h : n < ls.length) (v z : α) : (ls.set n v).getD n z = v := by simp [List.getD, h]
theorem getD_set_ne {α : Type} (ls : List α) (m n : Nat) (h : m ≠ n) (v z : α) : (ls.set n v).getD m z = ls.getD m z := by
  simp only [List.getD]
  rw [List.getElem?_set_ne (Ne.symm h)]
theorem waitL_mem {G V : List GrantV} (hR : Right G V) : ∀ j, j ≤ V.length → ∀ (n : Nat) (y : Int), y ∈ (waitL G V j).getD n [] ↔ ∃ k, k < j ∧ (V.getD k zeroG).tx = n ∧ y ∈ forL G V k := by
  intro j
  induction j with
  | zero =>
    intro _ n y
    have e : (waitL G V 0).getD n [] = [] := by
      simp only [waitL, List.getD, List.getElem?_replicate]
      split <;> rfl
    rw [e]
    constructor
    · intro h; cases h
    · rintro ⟨k, hk, _⟩; omega
  | succ j ih =>
    intro hj n y
    have hl := waitL_len G V j
    have ht := hR.wtx _ (mem_getD (show j < V.length by omega) zeroG)
    by_cases e : n = (V.getD j zeroG).tx.toNat
    · have e2 : (waitL G V (j + 1)).getD n [] = forL G V j := by
        rw [waitL, e]
        exact getD_set_self _ _ (by rw [hl]; omega) _ _
      rw [e2]
      constructor
      · intro h
        exact ⟨j, by omega, by omega, h⟩
      · rintro ⟨k, hk, hk2, h⟩
        have : k = j := hR.once k j (by omega) (by omega) (by omega)
        rw [← this]; exact h
    · have e2 : (waitL G V (j + 1)).getD n [] = (waitL G V j).getD n [] := by
        rw [waitL]
        exact getD_set_ne _ _ _ e _ _
      rw [e2, ih (by omega)]
      constructor
      · rintro ⟨k, hk, h1, h2⟩
        exact ⟨k, by omega, h1, h2⟩
      · rintro ⟨k, hk, h1, h2⟩
        have : k ≠ j := fun q => by subst q; omega
        exact ⟨k, by omega, h1, h2⟩
theorem waitL_rel {G V : List GrantV} (hR : Right G V) (x y : Int) : RelL (waitL G V V.length) x y ↔ EdgeL G V x y := by
  constructor
  · rintro ⟨n, _, rfl, h⟩
    obtain ⟨k, hk, e, hy⟩ := (waitL_mem hR V.length (Nat.le_refl _) n y).1 h
    exact ⟨k, hk, e, hy⟩
  · rintro ⟨k, hk, e, hy⟩
    have ht := hR.wtx _ (mem_getD hk zeroG)
    refine ⟨x.toNat, by rw [waitL_len]; omega, by omega, ?_⟩
    exact (waitL_mem hR V.length (Nat.le_refl _) _ y).2 ⟨k, hk, by omega, hy⟩
theorem waitL_each {G V : List GrantV} (hR : Right G V) (i : Nat) : ∀ y ∈ (waitL G V V.length).getD i [], 0 ≤ y ∧ y ≤ 99 := fun y hy => by
  obtain ⟨k, _, _, h⟩ := (waitL_mem hR V.length (Nat.le_refl _) i y).1 hy
  have := forL_in hR k y h
  omega
theorem waitL_short {G V : List GrantV} (hR : Right G V) : ∀ j i, ((waitL G V j).getD i []).length ≤ 1000 := by
  intro j
  induction j with
  | zero =>
    intro i
    have e : (waitL G V 0).getD i [] = [] := by
      simp only [waitL, List.getD, List.getElem?_replicate]
      split <;> rfl
    rw [e]; simp
  | succ j ih =>
    intro i
    by_cases e : i = (V.getD j zeroG).tx.toNat ∧ i < 100
    · have e2 : (waitL G V (j + 1)).getD i [] = forL G V j := by
        rw [waitL, ← e.1]
        exact getD_set_self _ _ (by rw [waitL_len]; omega) _ _
      rw [e2]
      have := forL_len G V j
      have := hR.lg
      have := hR.lw
      omega
    · have e2 : (waitL G V (j + 1)).getD i [] = (waitL G V j).getD i [] := by
        by_cases q : i < 100
        · rw [waitL]
          exact getD_set_ne _ _ _ (fun h => e ⟨h, q⟩) _ _
        · simp only [waitL, List.getD]
          rw [List.getElem?_eq_none (by rw [List.length_set, waitL_len]; omega), List.getElem?_eq_none (by rw [waitL_len]; omega)]
      rw [e2]; exact ih i

/-- A table of lists that the call owns: its row lies in block g, the lists behind it. -/
structure RowsI (w : World) (base g : Nat) (vs : List Value) (Ls : List (List Int)) : Prop where
  row : w.ownsRow base 40 1 (.slice (some ⟨g, 0, none⟩) 100 100) 100 vs
  each : ∀ i, i < 100 → ∃ ai ci, vs[i]? = some (.slice ai (Ls.getD i []).length ci) ∧ OwnI w (g + 1) w.heap.size ai ci (Ls.getD i [])
theorem RowsI.below {w w' : World} {base g : Nat} {vs : List Value} {Ls : List (List Int)} (h : RowsI w base g vs Ls) (hb : Below w.heap.size w w') : RowsI w' base g vs Ls :=
  ⟨ownsRow_block h.row (fun k hk => hb.block k (h.row.lt k hk).2), fun i hi => by
    obtain ⟨ai, ci, h1, h2⟩ := h.each i hi
    have h3 := h2.below hb
    exact ⟨ai, ci, h1, h3.widen (Nat.le_refl _) h3.2.1 (Nat.le_refl _)⟩⟩
theorem RowsI.set {w : World} {base g : Nat} {vs : List Value} {Ls : List (List Int)} (h : RowsI w base g vs Ls) (hl : Ls.length = 100) (n : Nat) (hn : n < 100) {a : Option Addr} {c : Nat} {L : List Int} (ho : OwnI w (g + 1) w.heap.size a c L) :
    ∃ W, Hid (w.setCell ⟨g, n, none⟩ (.slice a L.length c) = W) ∧ RowsI W base g (vs.set n (.slice a L.length c)) (Ls.set n L) ∧ Within g (g + 1) w W ∧ W.heap.size = w.heap.size := by
  have hv : vs.length = 100 := by have := h.row.1; omega
  have s1 := h.row.stored n (.slice a L.length c)
  have hw : Within g (g + 1) w (w.setCell ⟨g, n, none⟩ (.slice a L.length c)) := within_set w g n _ (by omega)
  refine ⟨_, rfl, ⟨s1.1, fun i hi => ?_⟩, hw, by simp⟩
  by_cases e : i = n
  · subst e
    have e1 : (Ls.set i L).getD i [] = L := by simp [List.getD, hl, hi]
    rw [e1]
    have h3 := ho.within hw (.inr (Nat.le_refl _))
    exact ⟨a, c, by rw [List.getElem?_set_self (by omega)], h3.widen (Nat.le_refl _) h3.2.1 (Nat.le_refl _)⟩
  · have e1 : (Ls.set n L).getD i [] = Ls.getD i [] := by simp only [List.getD]; rw [List.getElem?_set_ne (Ne.symm e)]
    rw [e1]
    obtain ⟨ai, ci, h1, h2⟩ := h.each i hi
    have h3 := h2.within hw (.inr (Nat.le_refl _))
    exact ⟨ai, ci, by rw [List.getElem?_set_ne (Ne.symm e)]; exact h1, h3.widen (Nat.le_refl _) h3.2.1 (Nat.le_refl _)⟩
theorem RowsI.reads {w : World} {base g : Nat} {vs : List Value} {Ls : List (List Int)} (h : RowsI w base g vs Ls) (hl : Ls.length = 100) : ReadsII w g 0 Ls := fun i hi => by
  obtain ⟨ai, ci, h1, h2⟩ := h.each i (by omega)
  exact ⟨ai, ci, by rw [Nat.zero_add, h.row.cellAt i (by omega)]; exact h1, h2.reads⟩
theorem Tryd.infoSl : (Tryd.prog.info? 40).map (fun i => (i.zero, i.size, i.bytes)) = some (some (.slice none 0 0), 1, 24) := by kernel_rfl
theorem rows_start {w : World} {base g : Nat} (h : w.ownsRow base 40 1 (.slice (some ⟨g, 0, none⟩) 100 100) 100 (madeCells (Value.slice none 0 0).cells (100 * 1)).toList) : RowsI w base g (madeCells (Value.slice none 0 0).cells (100 * 1)).toList (List.replicate 100 []) := by
  refine ⟨h, fun i hi => ?_⟩
  have e : (List.replicate 100 ([] : List Int)).getD i [] = [] := by
    simp only [List.getD, List.getElem?_replicate]
    split <;> rfl
  rw [e]
  refine ⟨none, 0, ?_, ownI_nil _ _ _ (Nat.le_refl _)⟩
  simp only [madeCells, Array.toList_map, List.getElem?_map, Array.toList_range, List.getElem?_range (show i < 100 * 1 by omega), Option.map_some]
  show some (#[Value.slice none 0 0][i % 1]!) = _
  rw [Nat.mod_one]
  rfl

set_option maxHeartbeats 4000000 in
set_option maxRecDepth 100000 in
theorem implStuck_any (l : LocksA) (w : World) (hTG : TabGo w) (hTB : TabBoth w) (hr : l.reads w) (hl : l.short 1099511627776) :
    Calls Tryd.prog 24 #[.agg #[.slice l.aG l.given.length l.cG, .slice l.aW l.waits.length l.cW]] w fun e w' => ∃ s : Int, e = .returned (.int .i64 s) ∧ Hid (StuckAns l.given l.waits s) ∧ Below w.heap.size w w' := by
  obtain ⟨W, hW, b0, hbW, hsW⟩ := boxes1 w [.slice l.aG l.given.length l.cG, .slice l.aW l.waits.length l.cW] 30
  have hb0 := b0.lt
  have HB : Hid (∀ w', Below W.heap.size W w' → Below w.heap.size w w') := fun w' h => hbW.trans (h.mono hbW.size)
  have hrW := hr.below hbW
  have COK := implLocksOk_any l W (hTG.keep hbW) hrW hl
  have HTG : Hid (∀ u, Below W.heap.size W u → TabGo u) := fun u h => (hTG.keep hbW).keep h
  have HTB : Hid (∀ u, Below W.heap.size W u → TabBoth u) := fun u h => (hTB.keep hbW).keep h
  obtain ⟨G, V, aG, cG, aW, cW⟩ := l
  obtain ⟨hG, hV, _, _, _, hcW⟩ := hrW
  obtain ⟨hlG, hlV⟩ := hl
  simp only at *
  have HBW : Hid (∀ u, Below W.heap.size W u → u.cell? ⟨w.heap.size, 0, none⟩ = some (.slice aG G.length cG) ∧ u.cell? ⟨w.heap.size, 1, none⟩ = some (.slice aW V.length cW)) := fun u h => ⟨(Box.below b0 h hb0).cell 0 _ rfl, (Box.below b0 h hb0).cell 1 _ rfl⟩
  have HCV : Hid (∀ w', Below W.heap.size W w' → ∀ k, k < V.length → ∃ b off, aW = some ⟨b, off, none⟩ ∧ w'.cell? ⟨b, off + k * 3, none⟩ = some (.int .i64 (V.getD k zeroG).tx) ∧ w'.cell? ⟨b, off + k * 3 + 1, none⟩ = some (.int .i64 (V.getD k zeroG).res) ∧ w'.cell? ⟨b, off + k * 3 + 2, none⟩ = some (.int .i64 (V.getD k zeroG).mode)) := fun w' h k hk => by
    obtain ⟨b, off, ha, hc⟩ := (hV.below h) (by intro e; rw [e] at hk; simp at hk)
    exact ⟨b, off, ha, hc k hk⟩
  have HWF : Hid (Right G V → ∀ u, Below W.heap.size W u → ∀ k, k < V.length → Calls Tryd.prog 51 #[.pointer (some ⟨w.heap.size, 0, none⟩), .int .i64 (k : Int)] u fun e w' => ∃ a c, e = .returned (.slice a (forL G V k).length c) ∧ OwnI w' u.heap.size w'.heap.size a c (forL G V k) ∧ Below u.heap.size u w') := fun hR u h k hk =>
    waitedFor_any w.heap.size G V aG cG aW cW k u (HTG.out u h) (HTB.out u h) (HBW.out u h).1 (HBW.out u h).2 (hG.below h) (hV.below h) (by have := hR.lg; omega) (by have := hR.lw; omega) hcW hk
  have c0 := b0.cell 0 _ rfl
  have c1 := b0.cell 1 _ rfl
  have hsW1 : w.heap.size < W.heap.size := hb0
  clear hr hG hV hbW hsW b0 hb0 hTG hTB HTG HTB
  cases hok : okLocks G V
  · rw [hok] at COK
    have HA : Hid (StuckAns G V 0) := ⟨fun h => (by rw [hok] at h; cases h), fun _ => rfl⟩
    clear hok
    go_enter Tryd.func24, Tryd.ntmps24
    go_wp2_with fail
    rw [hW.out]
    refine COK.mono ?_
    rintro e w1 ⟨rfl, hb1⟩
    have HX1 := HB.out w1 hb1
    go_wp2
    go_ret
    exact ⟨0, rfl, HA.out, HX1⟩
  · rw [hok] at COK
    have hR := right_of hok
    have HEND : Hid (∀ s, 0 ≤ s → StuckIs G V s → StuckAns G V s) := fun s h0 h => ⟨fun _ => ⟨h0, h⟩, fun h => (by rw [hok] at h; cases h)⟩
    have HWF2 : Hid (_) := HWF.out hR
    have HTX : Hid (∀ k, k < V.length → ∃ t : Nat, (V.getD k zeroG).tx = t ∧ 1 ≤ t ∧ t < 100) := fun k hk => by
      have := hR.wtx _ (mem_getD hk zeroG)
      exact ⟨(V.getD k zeroG).tx.toNat, by omega, by omega, by omega⟩
    have hlV6 : V.length ≤ 60 := hR.lw
    have HR : Hid (Right G V) := hR
    clear HWF hR hok
    obtain ⟨i0, hi, hz0, hz1, hz2⟩ := info_parts Tryd.infoSl
    go_enter Tryd.func24, Tryd.ntmps24
    go_wp2_with fail
    rw [hW.out]
    refine COK.mono ?_
    clear COK hW
    rintro e w1 ⟨rfl, hb1⟩
    obtain ⟨x0, x1⟩ := HBW.out w1 hb1
    have hs1 := hb1.size
    clear c0 c1
    go_wp2_with (at_make; refine wpList_make_full _ rfl _ _ 73 rfl w1.heap.size 40 i0 (.slice none 0 0) 1 Tryd.underlying73 hi hz0 hz1 _ _ _ _ 100 rfl rfl rfl rfl (by rw [hz2]; omega) (by simp [maxLen]) (Nat.le_refl _) ?_; intro w2 hown2 hgrow2; have hbm : Below w1.heap.size w1 w2 := (Below.refl _ _).grown hgrow2 (Nat.le_refl _) (fun k h => by cases h); have hRow0 := rows_start hown2; have hB2 : Below W.heap.size W w2 := hb1.trans (hbm.mono hb1.size); obtain ⟨z0, z1⟩ := HBW.out w2 hB2; clear hown2 hgrow2 x0 x1)
    have HS2 : Hid (RowsI w2 w1.heap.size w1.heap.size (madeCells (Value.slice none 0 0).cells (100 * 1)).toList (waitL G V 0) ∧ Below W.heap.size W w2) := ⟨hRow0, hB2⟩
    clear hRow0 hB2 hbm z0 z1
    go_loopw [14] (fun i wr => ∃ (k : Nat) (vs : List Value), k ≤ V.length ∧ i = .int .i64 k ∧ RowsI wr w1.heap.size w1.heap.size vs (waitL G V k) ∧ Below W.heap.size W wr) (fun i _ => V.length - (intOf i).toNat)
    case atStart => exact ⟨0, _, Nat.zero_le _, rfl, HS2.out.1, HS2.out.2⟩
    case round =>
      obtain ⟨k, vs, hk, rfl, hrow, hbl⟩ := hrel
      clear HS2
      have hgl := (hrow.row.lt w1.heap.size rfl).2
      by_cases hlt : k < V.length
      · obtain ⟨b, off, rfl, d0, d1, d2⟩ := HCV.out wr hbl k hlt
        obtain ⟨t, ht, ht1, ht2⟩ := HTX.out k hlt
        have HWS : Hid (waitL G V (k + 1) = (waitL G V k).set t (forL G V k)) := by
          rw [Hid, waitL, ht, Int.toNat_natCast]
        rw [ht] at d0
        obtain ⟨V1, hV1, bz, hbV1, hsV1⟩ := boxes1 wr [.int .i64 (t : Int), .int .i64 (V.getD k zeroG).res, .int .i64 (V.getD k zeroG).mode] 37
        have nV : Below W.heap.size W V1 := hbl.trans (hbV1.mono hbl.size)
        have HK : Hid (∀ u, Below V1.heap.size V1 u → u.cell? ⟨wr.heap.size, 0, none⟩ = some (.int .i64 (t : Int))) := fun u h => (bz.below h bz.lt).cell 0 _ rfl
        have HWk : Hid (∀ u, Below V1.heap.size V1 u → _) := fun u h => HWF2.out u (nV.trans (h.mono nV.size)) k hlt
        have hrow1 := hrow.below hbV1
        have hVl := bz.lt
        have htI : (t : Int) < 100 := by omega
        clear ht bz hbV1 hsV1
        generalize (V.getD k zeroG).res = zr at *
        generalize (V.getD k zeroG).mode = zm at *
        generalize forL G V k = F at *
        go_upto_region 7 with fail
        rw [hV1.out]
        clear hV1 d0 d1 d2 hrow
        have D0 : Below V1.heap.size V1 V1.drew := (Below.refl _ _).drew
        have hrow2 := hrow1.below D0
        refine wp_region_late (· == 6) (S := fun u => u.cell? ⟨wr.heap.size, 0, none⟩ = some (.int .i64 (t : Int))) (by kernel_rfl) (HK.out _ D0) (fun hHeld => ?_)
        generalize V1.drew = d0 at *
        refine wpAnyL_take (i := 0) (v := .slice (some ⟨w1.heap.size, 0, none⟩) 100 100) rfl (by kernel_rfl) (fun _ _ _ h => h) (Or.inl ⟨by rfl, ?_⟩) hHeld ?_
        · intro w' hSw
          go_simp <;> rfl
        try simp only [Act.put, List.getElem_toArray, List.getElem_cons_zero, List.setIfInBounds_toArray, List.set_cons_zero, List.set_cons_succ]
        refine wpAnyL_take (i := 1) (v := .pointer (some ⟨wr.heap.size, 0, none⟩)) rfl (by kernel_rfl) (fun _ _ _ h => h) (Or.inl ⟨by rfl, ?_⟩) hHeld ?_
        · intro w' hSw
          go_simp <;> rfl
        try simp only [Act.put, List.getElem_toArray, List.getElem_cons_zero, List.getElem_cons_succ, List.setIfInBounds_toArray, List.set_cons_zero, List.set_cons_succ]
        refine wpAnyL_take (i := 2) (v := .int .i64 (t : Int)) rfl (by kernel_rfl) (fun _ _ _ h => h) (Or.inl ⟨by rfl, ?_⟩) hHeld ?_
        · intro w' hSw
          have hx := hSw
          go_simp <;> rfl
        try simp only [Act.put, List.getElem_toArray, List.getElem_cons_zero, List.getElem_cons_succ, List.setIfInBounds_toArray, List.set_cons_zero, List.set_cons_succ]
        refine wpAnyL_take (i := 3) (v := .int .i64 (k : Int)) rfl (by kernel_rfl) (fun _ _ _ h => h) (Or.inl ⟨by rfl, ?_⟩) hHeld ?_
        · intro w' hSw
          go_simp <;> rfl
        try simp only [Act.put, List.getElem_toArray, List.getElem_cons_zero, List.getElem_cons_succ, List.setIfInBounds_toArray, List.set_cons_zero, List.set_cons_succ]
        refine wpAnyL_next 4 (by kernel_rfl) rfl (fun K hK => ?_)
        go_simp
        refine (HWk.out _ D0).mono ?_
        rintro r d1 ⟨aF, cF, rfl, hoF, hb1⟩
        have D1 : Below V1.heap.size V1 d1 := D0.trans (hb1.mono D0.size)
        have hrow3 := hrow2.below hb1
        have hs0 := D0.size
        have hoF2 := hoF.widen (lo' := w1.heap.size + 1) (by omega) (Nat.le_refl _) (Nat.le_refl _)
        refine hK.out _ _ (HK.out _ D1) (fun hHeld => ?_)
        clear hK K 
        try simp only [Act.put, List.getElem_toArray, List.getElem_cons_zero, List.getElem_cons_succ, List.setIfInBounds_toArray, List.set_cons_zero, List.set_cons_succ]
        refine wpAnyL_take (i := 5) (v := .pointer (some ⟨w1.heap.size, t, none⟩)) rfl (by kernel_rfl) (fun _ _ _ h => h) (Or.inl ⟨by rfl, ?_⟩) hHeld ?_
        · intro w' hSw
          go_simp <;> rfl
        try simp only [Act.put, List.getElem_toArray, List.getElem_cons_zero, List.getElem_cons_succ, List.setIfInBounds_toArray, List.set_cons_zero, List.set_cons_succ]
        obtain ⟨W4, hW4, hrow4, hw4, hs4⟩ := hrow3.set (waitL_len G V k) t ht2 hoF2
        have g0 := hrow3.row.cellAt t (by omega)
        have hvl : vs.length = 100 := by have := hrow3.row.1; omega
        obtain ⟨vt, hvt⟩ : ∃ vt, vs[t]? = some vt := ⟨_, List.getElem?_eq_getElem (by omega)⟩
        rw [hvt] at g0
        have g1 := hrow3.row.frozenAt t
        refine wpAnyL_last 6 (by kernel_rfl) rfl rfl (fun K hK => ?_)
        go_simp
        rw [hW4.out]
        refine hK.out _ _ ?_
        clear hK K
        refine wpAnyL_done (by kernel_rfl) ?_ _
        rw [← HWS.out] at hrow4
        have nW4 : Below W.heap.size W W4 := (nV.trans (D1.mono nV.size)).trans (hw4.below (by omega) (by have := (nV.trans (D1.mono nV.size)).size; omega))
        clear hHeld hW4 hw4 hs4 g0 g1 hvt hrow1 hrow2 hrow3
        go_wp2_with fail
        go_roundw
        case rel => exact ⟨k + 1, _, by omega, by go_num, hrow4, nW4⟩
        case measure => simp [intOf]; omega
      · have HRL : Hid (∀ x y, RelL (waitL G V k) x y ↔ EdgeL G V x y) := by
          have e : k = V.length := by omega
          rw [e]; exact waitL_rel HR.out
        have HIN : Hid (∀ i, ∀ y ∈ (waitL G V k).getD i [], 0 ≤ y ∧ y ≤ 99) := by
          have e : k = V.length := by omega
          rw [e]; exact waitL_each HR.out
        have HLN : Hid (∀ i, ((waitL G V k).getD i []).length ≤ 1000) := waitL_short HR.out k
        have HL : Hid ((waitL G V k).length = 100) := waitL_len G V k
        have HS : Hid (RowsI wr w1.heap.size w1.heap.size vs (waitL G V k) ∧ Below W.heap.size W wr) := ⟨hrow, hbl⟩
        clear hrow hbl hgl HWF2 HTX HCV HBW HR
        generalize waitL G V k = Ls at *
        generalize wr = wo at *
        go_wp2_with fail
        go_loopw [6] (fun i wr => ∃ n : Nat, n ≤ 99 ∧ i = .int .i64 n ∧ Hid (∀ x : Int, n < x → x ≤ 99 → ¬ BackE (EdgeL G V) x) ∧ RowsI wr w1.heap.size w1.heap.size vs Ls ∧ Below W.heap.size W wr) (fun i _ => (intOf i).toNat)
        case atStart => exact ⟨99, Nat.le_refl _, rfl, fun x h h' => by omega, HS.out.1, HS.out.2⟩
        case round =>
          obtain ⟨n, hn, rfl, hI, hrow, hbl⟩ := hrel
          clear HS
          by_cases hn0 : 0 < n
          · have C := comesBack_any w1.heap.size 0 100 Ls n wr (hrow.reads HL.out) HL.out HIN.out HLN.out (by omega)
            have hnI : (0 : Int) < (n : Int) := by omega
            go_wp2_with fail
            refine C.mono ?_
            clear C
            rintro e w3 ⟨r, rfl, hr, hb3⟩
            have hrow3 := hrow.below hb3
            have nb3 : Below W.heap.size W w3 := hbl.trans (hb3.mono hbl.size)
            cases r
            · have HNX : Hid (∀ x : Int, ((n - 1 : Nat) : Int) < x → x ≤ 99 → ¬ BackE (EdgeL G V) x) := fun x h1 h2 hB => by
                by_cases e : (n : Int) < x
                · exact hI.out x e h2 hB
                · have e2 : x = n := by omega
                  rw [e2] at hB
                  have := hr.out.2 ((back_congr HRL.out n).2 hB)
                  cases this
              clear hI hr
              go_wp2_with fail
              go_roundw
              case rel => exact ⟨n - 1, by omega, by go_num, HNX.out, hrow3, nb3⟩
              case measure => simp [intOf]; omega
            · have HF : Hid (StuckAns G V n) := HEND.out n (by omega) ⟨.inr ⟨by omega, by omega, (back_congr HRL.out n).1 (hr.out.1 rfl)⟩, hI.out⟩
              have HX := HB.out _ nb3
              clear hI hr
              go_wp2_with fail
              go_ret
              exact ⟨n, rfl, HF.out, HX⟩
          · have e0 : n = 0 := by omega
            have HF : Hid (StuckAns G V 0) := HEND.out 0 (Int.le_refl _) ⟨.inl rfl, fun x h1 h2 => hI.out x (by omega) h2⟩
            have HX := HB.out _ hbl
            have hnI : ¬ (0 : Int) < (n : Int) := by omega
            clear hI e0
            go_wp2_with fail
            go_ret
            exact ⟨0, rfl, HF.out, HX⟩
end Go.Proofs.YtekljhabjkmhpaaDoor

/- The walks of laws.sameBytes and laws.at. -/
namespace Go.Proofs.YtekljhabjkmhpaaDoor
open Go.RowKit

theorem ret_natE {k : IntKind} {z : Int} (h : 0 ≤ z) : Ending.returned (.int k z) = .returned (.int k ((z.toNat : Nat) : Int)) := by rw [Int.toNat_of_nonneg h]

set_option maxHeartbeats 400000 in
theorem at_any (a : Option Addr) (c : Nat) (zs : List Int) (i : Nat) (w : World) (hr : Reads w a zs) (hl : zs.length ≤ 70368744177664) (hi : i ≤ 1000) :
    Calls Tryd.prog 20 #[.slice a zs.length c, .int .i64 i] w fun e w' => (∃ n : Nat, n < 256 ∧ e = .returned (.int .i64 n)) ∧ w' = w := by
  by_cases hlt : i < zs.length
  · have hby := bytes_at hr.byte i
    rcases hr.cases with rfl | ⟨b, off, rfl, hpos, hcell⟩
    · simp at hlt
    have hc := hcell i hlt
    clear hcell
    generalize zs.getD i 0 = z at *
    go_enter Tryd.func20, Tryd.ntmps20
    go_wp2
    go_ret
    exact ⟨⟨z.toNat, by omega, ret_natE hby.1⟩, rfl⟩
  · go_enter Tryd.func20, Tryd.ntmps20
    go_wp2
    go_ret
    exact ⟨⟨(((i : Int) * 31 + (zs.length : Int) * 7) % 256).toNat, by omega, ret_natE (by omega)⟩, rfl⟩
end Go.Proofs.YtekljhabjkmhpaaDoor

/- The walk of laws.big. -/
namespace Go.Proofs.YtekljhabjkmhpaaDoor
open Go.RowKit

set_option maxHeartbeats 400000 in
theorem big_any (a : Option Addr) (c n : Nat) (w : World) : Calls Tryd.prog 9 #[.slice a n c] w fun e w' => e = .returned (.bool (decide (1048576 < n))) ∧ w' = w := by
  by_cases h : 1048576 < n
  · have HB : Hid (decide (1048576 < n) = true) := decide_eq_true h
    go_enter Tryd.func9, Tryd.ntmps9
    go_wp2
    go_ret
    exact ⟨by rw [HB.out]; exact ret_bool (decide_eq_true (by omega)), rfl⟩
  · have HB : Hid (decide (1048576 < n) = false) := decide_eq_false h
    go_enter Tryd.func9, Tryd.ntmps9
    go_wp2
    go_ret
    exact ⟨by rw [HB.out]; exact ret_bool (decide_eq_false (by omega)), rfl⟩

end Go.Proofs.YtekljhabjkmhpaaDoor
