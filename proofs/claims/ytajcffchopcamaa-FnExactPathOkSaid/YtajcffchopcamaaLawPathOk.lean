/- The walk of laws.FnExactPathOk. -/
import Derived.Test.YtajcffchopcamaaPathOkI
import Derived.Test.YtajcffchopcamaaOpenPath
import Derived.Deep.RegionHeld3
namespace Go.Proofs.Ytajcffchopcamaa
open Go.RowKit

set_option maxHeartbeats 1000000 in
set_option maxRecDepth 100000 in
theorem lawPathOk_walk (p : PathA) (w : World) (hin : InPath w p) :
    Calls Try.prog 3 #[.agg #[.int .i64 p.frm, .slice p.a p.steps.length p.c]] w fun e w' => e = .returned (.bool true) ∧ Below w.heap.size w w' := by
  obtain ⟨x, T, a, c⟩ := p
  obtain ⟨hr, hlen, _, _⟩ := hin
  simp only at *
  have hsz : T.length ≤ 9223372036854775807 := by simp only [maxLen] at hlen; omega
  obtain ⟨W, hW, b0, hbW, hsW⟩ := boxes1 w [.int .i64 x, .slice a T.length c] 24
  go_enter Try.func3, Try.ntmps3
  go_wp2_with fail
  rw [hW.out]
  refine (szPath_any ⟨x, T, a, c⟩ W hsz).mono ?_
  rintro e w1 ⟨left, rfl, hcase, hb1⟩
  have B1 : Below w.heap.size w w1 := hbW.trans (hb1.mono hbW.size)
  have b1 := b0.below hb1 b0.lt
  rcases hcase with hs | ⟨hs, hsh⟩
  · go_wp2
    go_ret
    exact ⟨rfl, B1⟩
  have hl : T.length ≤ 1099511627776 := Nat.le_trans hsh (by decide)
  clear hsh hlen hsz
  have hlt : w.heap.size < w1.heap.size := b1.lt
  have hkeep : ∀ w', Below (w.heap.size + 1) w1 w' → w'.cell? ⟨w.heap.size, 0, none⟩ = some (.int .i64 x) ∧ w'.cell? ⟨w.heap.size, 1, none⟩ = some (.slice a T.length c) :=
    fun w' hh => ⟨(b1.below hh (by omega)).cell 0 _ rfl, (b1.below hh (by omega)).cell 1 _ rfl⟩
  obtain ⟨x0, x1⟩ := hkeep w1 (Below.refl _ _)
  have hr1 := hr.below B1
  go_wp2_with fail
  refine (toPath_own ⟨x, T, a, c⟩ w1 hr1 hl).mono ?_
  rintro e w2 ⟨p1, d1, rfl, ho2, hb2⟩
  have B2 : Below w.heap.size w w2 := B1.trans (hb2.mono B1.size)
  go_wp2_with fail
  refine (specPathOk_any x T p1 d1 w2 ho2.reads hl).mono ?_
  rintro e w3 ⟨rfl, hb3⟩
  have K3 : Below w1.heap.size w1 w3 := hb2.trans (hb3.mono hb2.size)
  obtain ⟨y0, y1⟩ := hkeep w3 (K3.mono (by omega))
  go_wp2_with fail
  refine (toPath_own ⟨x, T, a, c⟩ w3 (hr1.below K3) hl).mono ?_
  rintro e w4 ⟨q1, e1, rfl, ho4, hb4⟩
  have K4 : Below w1.heap.size w1 w4 := K3.trans (hb4.mono K3.size)
  go_wp2_with fail
  obtain ⟨W5, hW5, bX, hbW5, hsW5⟩ := boxes1 w4 [.int .i64 x, .slice q1 T.length e1] 29
  rw [hW5.out]
  clear hW5
  refine (implPathOk_any x T q1 e1 W5 (ho4.reads.below hbW5) hl).mono ?_
  rintro e w6 ⟨rfl, hb6⟩
  have K6 : Below w4.heap.size w4 w6 := hbW5.trans (hb6.mono hbW5.size)
  have K16 : Below w1.heap.size w1 w6 := K4.trans (K6.mono K4.size)
  have bX6 := bX.below hb6 bX.lt
  have hX6 := bX6.lt
  have hkX : ∀ w', Below (w4.heap.size + 1) w6 w' → w'.cell? ⟨w4.heap.size, 0, none⟩ = some (.int .i64 x) ∧ w'.cell? ⟨w4.heap.size, 1, none⟩ = some (.slice q1 T.length e1) :=
    fun w' hh => ⟨(bX6.below hh (by omega)).cell 0 _ rfl, (bX6.below hh (by omega)).cell 1 _ rfl⟩
  have hkA : ∀ w', Below w6.heap.size w6 w' → w'.cell? ⟨w.heap.size, 0, none⟩ = some (.int .i64 x) ∧ w'.cell? ⟨w.heap.size, 1, none⟩ = some (.slice a T.length c) :=
    fun w' hh => hkeep w' ((K16.mono (by omega)).trans (hh.mono (by have := K16.size; omega)))
  have hk : ∀ w', Below w6.heap.size w6 w' → (w'.cell? ⟨w.heap.size, 0, none⟩ = some (.int .i64 x) ∧ w'.cell? ⟨w.heap.size, 1, none⟩ = some (.slice a T.length c)) ∧ (w'.cell? ⟨w4.heap.size, 0, none⟩ = some (.int .i64 x) ∧ w'.cell? ⟨w4.heap.size, 1, none⟩ = some (.slice q1 T.length e1)) :=
    fun w' hh => ⟨hkA w' hh, hkX w' (hh.mono (by omega))⟩
  have hr6 := hr1.below K16
  have ho46 := ho4.below K6
  clear hkeep hkX hkA
  generalize pathB x T = B at *
  have hBB : (B != B) = false := by cases B <;> rfl
  go_wp2_with fail
  have hh := hk w6 (Below.refl _ _)
  go_region_held3 (fun w' => (w'.cell? ⟨w.heap.size, 0, none⟩ = some (.int .i64 x) ∧ w'.cell? ⟨w.heap.size, 1, none⟩ = some (.slice a T.length c)) ∧ (w'.cell? ⟨w4.heap.size, 0, none⟩ = some (.int .i64 x) ∧ w'.cell? ⟨w4.heap.size, 1, none⟩ = some (.slice q1 T.length e1)))
    (first | exact hk _ hw8 | exact hk _ hw7 | go_keep)
    (first
    | (go_at_call 6; refine (toPath_own ⟨x, T, a, c⟩ _ (hr6.below (Below.refl _ _).drew) hl).mono ?_; rintro e w7 ⟨z1, f1, rfl, ho7, hb7⟩; have hw7 : Below w6.heap.size w6 w7 := (Below.refl _ _).drew.trans hb7)
    | (go_at_call 8; refine (eqPath_same x T q1 z1 e1 f1 w7 (ho46.below hw7).reads ho7.reads hl).mono ?_; rintro e w8 ⟨rfl, hb8⟩; have hw8 : Below w6.heap.size w6 w8 := hw7.trans (hb8.mono hw7.size)))
  go_wp2
  go_ret
  exact ⟨rfl, B1.trans ((K16.trans (hw8.mono K16.size)).mono B1.size)⟩
end Go.Proofs.Ytajcffchopcamaa
