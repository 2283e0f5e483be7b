/- Paths: what they are, what came in, and laws.toPath, szPath, eqPath, markPath, heldPath. -/
import Derived.Test.YtajcffchopcamaaStepMark
import Derived.Test.YtajcffchopcamaaOpenObj
import Derived.Deep.Cut
namespace Go.Proofs.Ytajcffchopcamaa
open Go.RowKit Go.ChangeShapes Go.WideShapes Go.ChangeAt

structure PathA where
  frm : Int
  steps : List StepV
  a : Option Addr
  c : Nat
def PathA.val (p : PathA) : Value := .agg #[.int .i64 p.frm, .slice p.a p.steps.length p.c]

set_option maxHeartbeats 1000000 in
set_option maxRecDepth 100000 in
theorem toPath_own (p : PathA) (w : World) (hr : ReadsPh w p.a p.steps) (hl : p.steps.length ≤ 1099511627776) :
    Calls Try.prog 6 #[.agg #[.int .i64 p.frm, .slice p.a p.steps.length p.c]] w fun e w' => ∃ a1 c1, e = .returned (.agg #[.int .i64 p.frm, .slice a1 p.steps.length c1]) ∧
      OwnPh w' w.heap.size w'.heap.size a1 c1 p.steps ∧ Below w.heap.size w w' := by
  obtain ⟨x, T, a, c⟩ := p
  simp only at *
  obtain ⟨W, hW, b0, b1, b2, hbW, hsW⟩ := boxes3 w [.int .i64 x, .slice a T.length c] [.int .i64 0, .slice none 0 0] [.int .i64 0, .slice none 0 0] 24 29 29
  have c0 := b0.cell 0 _ rfl
  have d0 := b2.cell 0 _ rfl
  have e0 := b2.frozen 0
  obtain ⟨W2, hW2, b2s, hw2, hs2⟩ := box_set b2 0 (.int .i64 x)
  simp only [List.set] at b2s
  have b02 := b0.within hw2 (by omega)
  have b12 := b1.within hw2 (by omega)
  have c1 := b02.cell 1 _ rfl
  have hWb : Below w.heap.size w W2 := hbW.trans (hw2.below (by omega) (by omega))
  have C := toPathStepS_any a c T W2 (hr.below hWb) hl
  go_enter Try.func6, Try.ntmps6
  go_upto_region 2 with fail
  rw [hW.out]
  clear hW
  go_upto_region 3 with fail
  rw [hW2.out]
  clear hW2 c0 d0 e0
  go_wp2_with fail
  refine C.mono ?_
  clear C
  rintro e w1 ⟨a1, cc1, rfl, ho1, hb1⟩
  have b0' := b02.below hb1 b02.lt
  have b1' := b12.below hb1 b12.lt
  have b2' := b2s.below hb1 b2s.lt
  have g1 := b2'.cell 1 _ rfl
  have h1 := b2'.frozen 1
  have bS := b2'.set 1 (.slice a1 T.length cc1)
  have bT := b1'.other (C := w.heap.size + 1 + 1) (i := 1) (v := .slice a1 T.length cc1) (by omega)
  simp only [List.set] at bS
  have s0 := bS.cell 0 _ rfl
  have s1 := bS.cell 1 _ rfl
  have t0 := bT.cell 0 _ rfl
  have t1 := bT.cell 1 _ rfl
  have u0 := bT.frozen 0
  have u1 := bT.frozen 1
  have bF := (bT.set 0 (.int .i64 x)).set 1 (.slice a1 T.length cc1)
  simp only [List.set] at bF
  have hwF : Within (w.heap.size + 1) (w.heap.size + 3) w1 _ := ((within_set w1 (w.heap.size + 1 + 1) 1 (.slice a1 T.length cc1) (by omega)).trans (within_set _ (w.heap.size + 1) 0 (.int .i64 x) (by omega))).trans (within_set _ (w.heap.size + 1) 1 (.slice a1 T.length cc1) (by omega))
  have HF : Hid (_ ∧ _ ∧ _) := ⟨bF.cell 0 _ rfl, bF.cell 1 _ rfl, hwF⟩
  clear bF hwF
  go_wp2
  obtain ⟨f0, f1, hwF⟩ := HF.out
  generalize ((w1.setCell ⟨w.heap.size + 1 + 1, 1, none⟩ (.slice a1 T.length cc1)).setCell ⟨w.heap.size + 1, 0, none⟩ (.int .i64 x)).setCell ⟨w.heap.size + 1, 1, none⟩ (.slice a1 T.length cc1) = WF at *
  have hs1 := hb1.size
  have hsF := hwF.size
  refine bodyPost_ret (v := .agg #[.int .i64 x, .slice a1 T.length cc1]) (by simp [results, Try.results6, go_sem, f0, f1]) rfl ⟨a1, cc1, rfl, (ho1.within hwF (.inr (by omega))).widen (by omega) (by omega) (Nat.le_refl _), (hWb.trans (hb1.mono (by omega))).trans (hwF.below (by omega) (by omega))⟩

set_option maxHeartbeats 1000000 in
set_option maxRecDepth 100000 in
theorem szPath_any (p : PathA) (w : World) (hn : p.steps.length ≤ 9223372036854775807) :
    Calls Try.prog 4 #[.agg #[.int .i64 p.frm, .slice p.a p.steps.length p.c], .int .i64 1048576] w fun e w' => ∃ left : Int, e = .returned (.int .i64 left) ∧ (left < 0 ∨ (0 ≤ left ∧ p.steps.length ≤ 1048576)) ∧ Below w.heap.size w w' := by
  obtain ⟨x, T, a, c⟩ := p
  simp only at *
  obtain ⟨W, hW, b0, hbW, hsW⟩ := boxes1 w [.int .i64 x, .slice a T.length c] 24
  have c1 := b0.cell 1 _ rfl
  clear b0 hsW
  by_cases h : (1048576 : Int) - T.length < 0
  · have C : ∀ u, Calls Try.prog 9 #[.slice a T.length c, .int .i64 1048576] u fun e w' => e = .returned (.int .i64 (-1)) ∧ w' = u := fun u => by
      go_enter Try.func9, Try.ntmps9
      go_wp2
      go_ret
      exact ⟨rfl, rfl⟩
    go_enter Try.func4, Try.ntmps4
    go_wp2_with fail
    rw [hW.out]
    refine (C W).mono ?_
    rintro e w' ⟨rfl, rfl⟩
    go_wp2
    go_ret
    exact ⟨-1, rfl, .inl (by omega), hbW⟩
  · have C : ∀ u, Calls Try.prog 9 #[.slice a T.length c, .int .i64 1048576] u fun e w' => e = .returned (.int .i64 (1048576 - T.length)) ∧ w' = u := fun u => by
      go_enter Try.func9, Try.ntmps9
      go_wp2
      go_ret
      exact ⟨rfl, rfl⟩
    go_enter Try.func4, Try.ntmps4
    go_wp2_with fail
    rw [hW.out]
    refine (C W).mono ?_
    rintro e w' ⟨rfl, rfl⟩
    go_wp2
    go_ret
    exact ⟨1048576 - T.length, rfl, .inr ⟨by omega, by omega⟩, hbW⟩

set_option maxHeartbeats 1000000 in
set_option maxRecDepth 100000 in
theorem eqPath_same (x : Int) (T : List StepV) (a1 a2 : Option Addr) (c1 c2 : Nat) (w : World) (h1 : ReadsPh w a1 T) (h2 : ReadsPh w a2 T) (hl : T.length ≤ 1099511627776) :
    Calls Try.prog 8 #[.agg #[.int .i64 x, .slice a1 T.length c1], .agg #[.int .i64 x, .slice a2 T.length c2]] w fun e w' => e = .returned (.bool true) ∧ Below w.heap.size w w' := by
  obtain ⟨W, hW, b0, b1, hbW, hsW⟩ := boxes2 w [.int .i64 x, .slice a1 T.length c1] [.int .i64 x, .slice a2 T.length c2] 29 29
  have x0 := b0.cell 0 _ rfl
  have x1 := b0.cell 1 _ rfl
  have y0 := b1.cell 0 _ rfl
  have y1 := b1.cell 1 _ rfl
  have C := eqPathStepS_same a1 a2 c1 c2 T W (h1.below hbW) (h2.below hbW) hl
  clear b0 b1 hsW
  go_enter Try.func8, Try.ntmps8
  go_upto_region 1 with fail
  rw [hW.out]
  clear hW
  go_wp2_with fail
  refine C.mono ?_
  rintro e w1 ⟨rfl, hb1⟩
  go_wp2
  go_ret
  exact ⟨rfl, hbW.trans (hb1.mono hbW.size)⟩
end Go.Proofs.Ytajcffchopcamaa
