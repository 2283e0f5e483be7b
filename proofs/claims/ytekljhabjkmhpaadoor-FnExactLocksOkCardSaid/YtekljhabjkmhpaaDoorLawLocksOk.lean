/- The walk of laws.FnExactLocksOk. -/
import Derived.Test.YtekljhabjkmhpaaDoorLocksOkSpec
import Derived.Test.YtekljhabjkmhpaaDoorLocksOk
import Derived.Test.YtekljhabjkmhpaaDoorLocksWalk
import Derived.Deep.RegionHeld3
namespace Go.Proofs.YtekljhabjkmhpaaDoor
open Go.RowKit

set_option maxHeartbeats 1000000 in
set_option maxRecDepth 100000 in
theorem lawLocksOk_walk (l : LocksA) (w : World) (hT : TabGo w) (hin : InLocks w l) :
    Calls Tryd.prog 8 #[.agg #[.slice l.aG l.given.length l.cG, .slice l.aW l.waits.length l.cW]] w fun e w' => e = .returned (.bool true) ∧ Below w.heap.size w w' := by
  obtain ⟨G, V, aG, cG, aW, cW⟩ := l
  obtain ⟨hG, hV, hlen⟩ := hin
  have hsz : LocksA.short ⟨G, V, aG, cG, aW, cW⟩ 9223372036854775807 := by
    have h1 := hlen.1
    have h2 := hlen.2
    simp only [maxLen] at h1 h2
    exact ⟨by omega, by omega⟩
  simp only at *
  obtain ⟨W, hW, b0, hbW, hsW⟩ := boxes1 w [.slice aG G.length cG, .slice aW V.length cW] 47
  go_enter Tryd.func8, Tryd.ntmps8
  go_wp2_with fail
  rw [hW.out]
  refine (szLocks_any ⟨G, V, aG, cG, aW, cW⟩ W hsz).mono ?_
  rintro e w1 ⟨left, rfl, hcase, hb1⟩
  have B1 : Below w.heap.size w w1 := hbW.trans (hb1.mono hbW.size)
  have b1 := b0.below hb1 b0.lt
  rcases hcase with hs | ⟨hs, hsh⟩
  · go_wp2
    go_ret
    exact ⟨rfl, B1⟩
  have hsh2 : LocksA.short ⟨G, V, aG, cG, aW, cW⟩ 1099511627776 := ⟨Nat.le_trans hsh.1 (by decide), Nat.le_trans hsh.2 (by decide)⟩
  have hlG : G.length ≤ 1099511627776 := hsh2.1
  have hlV : V.length ≤ 1099511627776 := hsh2.2
  clear hsh hlen hsz
  have hlt : w.heap.size < w1.heap.size := b1.lt
  have hkeep : ∀ w', Below (w.heap.size + 1) w1 w' → w'.cell? ⟨w.heap.size, 0, none⟩ = some (.slice aG G.length cG) ∧ w'.cell? ⟨w.heap.size, 1, none⟩ = some (.slice aW V.length cW) :=
    fun w' hh => ⟨(b1.below hh (by omega)).cell 0 _ rfl, (b1.below hh (by omega)).cell 1 _ rfl⟩
  obtain ⟨x0, x1⟩ := hkeep w1 (Below.refl _ _)
  have hG1 := hG.below B1
  have hV1 := hV.below B1
  go_wp2_with fail
  refine (toLocks_own ⟨G, V, aG, cG, aW, cW⟩ w1 hG1 hV1 hsh2).mono ?_
  rintro e w2 ⟨p1, d1, p2, d2, rfl, ho2, hb2⟩
  have B2 : Below w.heap.size w w2 := B1.trans (hb2.mono B1.size)
  go_wp2_with fail
  refine (specLocksOk_any ⟨G, V, p1, d1, p2, d2⟩ w2 ho2.reads hsh2).mono ?_
  rintro e w3 ⟨rfl, hb3⟩
  have K3 : Below w1.heap.size w1 w3 := hb2.trans (hb3.mono hb2.size)
  obtain ⟨y0, y1⟩ := hkeep w3 (K3.mono (by omega))
  go_wp2_with fail
  refine (toLocks_own ⟨G, V, aG, cG, aW, cW⟩ w3 (hG1.below K3) (hV1.below K3) hsh2).mono ?_
  rintro e w4 ⟨q1, e1, q2, e2, rfl, ho4, hb4⟩
  have K4 : Below w1.heap.size w1 w4 := K3.trans (hb4.mono K3.size)
  go_wp2_with fail
  obtain ⟨W5, hW5, bX, hbW5, hsW5⟩ := boxes1 w4 [.slice q1 G.length e1, .slice q2 V.length e2] 30
  rw [hW5.out]
  clear hW5
  have hTW : TabGo W5 := hT.keep (B1.trans ((K4.trans (hbW5.mono K4.size)).mono B1.size))
  refine (implLocksOk_any ⟨G, V, q1, e1, q2, e2⟩ W5 hTW (ho4.reads.below hbW5) hsh2).mono ?_
  rintro e w6 ⟨rfl, hb6⟩
  have K6 : Below w4.heap.size w4 w6 := hbW5.trans (hb6.mono hbW5.size)
  have K16 : Below w1.heap.size w1 w6 := K4.trans (K6.mono K4.size)
  have bX6 := bX.below hb6 bX.lt
  have hX6 := bX6.lt
  have hkX : ∀ w', Below (w4.heap.size + 1) w6 w' → w'.cell? ⟨w4.heap.size, 0, none⟩ = some (.slice q1 G.length e1) ∧ w'.cell? ⟨w4.heap.size, 1, none⟩ = some (.slice q2 V.length e2) :=
    fun w' hh => ⟨(bX6.below hh (by omega)).cell 0 _ rfl, (bX6.below hh (by omega)).cell 1 _ rfl⟩
  have hkA : ∀ w', Below w6.heap.size w6 w' → w'.cell? ⟨w.heap.size, 0, none⟩ = some (.slice aG G.length cG) ∧ w'.cell? ⟨w.heap.size, 1, none⟩ = some (.slice aW V.length cW) :=
    fun w' hh => hkeep w' ((K16.mono (by omega)).trans (hh.mono (by have := K16.size; omega)))
  have hk : ∀ w', Below w6.heap.size w6 w' → (w'.cell? ⟨w.heap.size, 0, none⟩ = some (.slice aG G.length cG) ∧ w'.cell? ⟨w.heap.size, 1, none⟩ = some (.slice aW V.length cW)) ∧ (w'.cell? ⟨w4.heap.size, 0, none⟩ = some (.slice q1 G.length e1) ∧ w'.cell? ⟨w4.heap.size, 1, none⟩ = some (.slice q2 V.length e2)) :=
    fun w' hh => ⟨hkA w' hh, hkX w' (hh.mono (by omega))⟩
  have hG6 := hG1.below K16
  have hV6 := hV1.below K16
  have ho46 := ho4.below K6
  clear hkeep hkX hkA
  simp only at *
  generalize okLocks G V = B at *
  have hBB : (B != B) = false := by cases B <;> rfl
  go_wp2_with fail
  have hh := hk w6 (Below.refl _ _)
  go_region_held3 (fun w' => (w'.cell? ⟨w.heap.size, 0, none⟩ = some (.slice aG G.length cG) ∧ w'.cell? ⟨w.heap.size, 1, none⟩ = some (.slice aW V.length cW)) ∧ (w'.cell? ⟨w4.heap.size, 0, none⟩ = some (.slice q1 G.length e1) ∧ w'.cell? ⟨w4.heap.size, 1, none⟩ = some (.slice q2 V.length e2)))
    (first | exact hk _ hw8 | exact hk _ hw7 | go_keep)
    (first
    | (go_at_call 28; refine (toLocks_own ⟨G, V, aG, cG, aW, cW⟩ _ (hG6.below (Below.refl _ _).drew) (hV6.below (Below.refl _ _).drew) hsh2).mono ?_; rintro e w7 ⟨z1, f1, z2, f2, rfl, ho7, hb7⟩; have hw7 : Below w6.heap.size w6 w7 := (Below.refl _ _).drew.trans hb7)
    | (go_at_call 29; refine (eqLocks_same G V q1 q2 z1 z2 e1 e2 f1 f2 w7 (ho46.below hw7).given.reads (ho46.below hw7).waits.reads ho7.given.reads ho7.waits.reads hlG hlV).mono ?_; rintro e w8 ⟨rfl, hb8⟩; have hw8 : Below w6.heap.size w6 w8 := hw7.trans (hb8.mono hw7.size)))
  go_wp2
  go_ret
  exact ⟨rfl, B1.trans ((K16.trans (hw8.mono K16.size)).mono B1.size)⟩
end Go.Proofs.YtekljhabjkmhpaaDoor
