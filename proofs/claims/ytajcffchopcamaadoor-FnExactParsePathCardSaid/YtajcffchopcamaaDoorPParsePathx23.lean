/- Several texts in one, in their order. -/
import Derived.Test.YtajcffchopcamaaDoorPParsePathx3
import Derived.ProofKit
import Derived.OpenShut
import Derived.ChangeOld
import Derived.Test.YtajcffchopcamaaDoorPParsePathx10
import Derived.Deep.Cut
import Derived.Test.YtajcffchopcamaaDoorPParsePathx11
/- What came in, read: a slice of numbers, an object. -/
namespace Go.Proofs.YtajcffchopcamaaDoor
open Go.ChangeShapes Go.WideShapes Go.ChangeAt Go.RowKit

section
variable {H : Type} {enc : TypeId × Value → H} {w : World} {base : Nat} {spare : Nat → Bool} {held : Bool}

end
end Go.Proofs.YtajcffchopcamaaDoor

/- Paths: what they are, what came in, and laws.toPath, szPath, eqPath, markPath, heldPath. -/
namespace Go.Proofs.YtajcffchopcamaaDoor
open Go.RowKit Go.ChangeShapes Go.WideShapes Go.ChangeAt

set_option maxHeartbeats 1000000 in
set_option maxRecDepth 100000 in
theorem eqPath_same (x : Int) (T : List StepV) (a1 a2 : Option Addr) (c1 c2 : Nat) (w : World) (h1 : ReadsPh w a1 T) (h2 : ReadsPh w a2 T) (hl : T.length ≤ 1099511627776) :
    Calls Tryd.prog 9 #[.agg #[.int .i64 x, .slice a1 T.length c1], .agg #[.int .i64 x, .slice a2 T.length c2]] w fun e w' => e = .returned (.bool true) ∧ Below w.heap.size w w' := by
  obtain ⟨W, hW, b0, b1, hbW, hsW⟩ := boxes2 w [.int .i64 x, .slice a1 T.length c1] [.int .i64 x, .slice a2 T.length c2] 29 29
  have x0 := b0.cell 0 _ rfl
  have x1 := b0.cell 1 _ rfl
  have y0 := b1.cell 0 _ rfl
  have y1 := b1.cell 1 _ rfl
  have C := eqPathStepS_same a1 a2 c1 c2 T W (h1.below hbW) (h2.below hbW) hl
  clear b0 b1 hsW
  go_enter Tryd.func9, Tryd.ntmps9
  go_upto_region 1 with fail
  rw [hW.out]
  clear hW
  go_wp2_with fail
  refine C.mono ?_
  rintro e w1 ⟨rfl, hb1⟩
  go_wp2
  go_ret
  exact ⟨rfl, hbW.trans (hb1.mono hbW.size)⟩
end Go.Proofs.YtajcffchopcamaaDoor

/- Paths that are right; the walk of spec.PathOk. -/
namespace Go.Proofs.YtajcffchopcamaaDoor
open Go.RowKit

def stepB (s : StepV) : Bool := if s.kd = 1 then inB s.num 0 9 else if s.kd = 2 then s.num == 0 else if s.kd = 3 then s.num == 0 else if s.kd = 4 then inB s.num 1 99 else if s.kd = 5 then inB s.num (-1000000) 1000000 else false
def pathB (x : Int) (T : List StepV) : Bool := T.all stepB && (inB x 1 31 && decide (T.length ≤ 8))

set_option maxHeartbeats 1000000 in
set_option maxRecDepth 100000 in
theorem l12Step_any (s : StepV) (w : World) :
    Calls Tryd.prog 28 #[.agg #[.int .i64 s.kd, .int .i64 s.num]] w fun e w' => e = .returned (.bool (stepB s)) ∧ Below w.heap.size w w' := by
  obtain ⟨x, y⟩ := s
  obtain ⟨W, hW, b0, hbW, hsW⟩ := boxes1 w [.int .i64 x, .int .i64 y] 41
  have q0 := b0.cell 0 _ rfl
  have q1 := b0.cell 1 _ rfl
  have HL : Hid (∀ (a b : Int) (u : World), Calls Tryd.prog 29 #[.int .i64 y, .int .i64 a, .int .i64 b] u fun e w' => e = .returned (.bool (inB y a b)) ∧ w' = u) := fun a b u => l1In_any y a b u
  clear b0 hsW
  simp only [stepB]
  by_cases h1 : x = 1
  · subst h1
    rw [if_pos rfl]
    have C := HL.out 0 9 W
    generalize inB y 0 9 = R at *
    clear HL
    go_enter Tryd.func28, Tryd.ntmps28
    go_upto_region 1 with fail
    rw [hW.out]
    clear hW
    go_wp2_with fail
    refine C.mono ?_
    rintro e w1 ⟨rfl, rfl⟩
    go_wp2
    go_ret
    exact ⟨rfl, hbW⟩
  rw [if_neg h1]
  have k1 : (x == 1) = false := by simpa using h1
  by_cases h2 : x = 2
  · subst h2
    rw [if_pos rfl]
    clear HL
    go_enter Tryd.func28, Tryd.ntmps28
    go_upto_region 1 with fail
    rw [hW.out]
    clear hW
    go_wp2
    go_ret
    exact ⟨rfl, hbW⟩
  rw [if_neg h2]
  have k2 : (x == 2) = false := by simpa using h2
  by_cases h3 : x = 3
  · subst h3
    rw [if_pos rfl]
    clear HL
    go_enter Tryd.func28, Tryd.ntmps28
    go_upto_region 1 with fail
    rw [hW.out]
    clear hW
    go_wp2
    go_ret
    exact ⟨rfl, hbW⟩
  rw [if_neg h3]
  have k3 : (x == 3) = false := by simpa using h3
  by_cases h4 : x = 4
  · subst h4
    rw [if_pos rfl]
    have C := HL.out 1 99 W
    generalize inB y 1 99 = R at *
    clear HL
    go_enter Tryd.func28, Tryd.ntmps28
    go_upto_region 1 with fail
    rw [hW.out]
    clear hW
    go_wp2_with fail
    refine C.mono ?_
    rintro e w1 ⟨rfl, rfl⟩
    go_wp2
    go_ret
    exact ⟨rfl, hbW⟩
  rw [if_neg h4]
  have k4 : (x == 4) = false := by simpa using h4
  by_cases h5 : x = 5
  · subst h5
    rw [if_pos rfl]
    have C := HL.out (-1000000) 1000000 W
    generalize inB y (-1000000) 1000000 = R at *
    clear HL
    go_enter Tryd.func28, Tryd.ntmps28
    go_upto_region 1 with fail
    rw [hW.out]
    clear hW
    go_wp2_with fail
    refine C.mono ?_
    rintro e w1 ⟨rfl, rfl⟩
    go_wp2
    go_ret
    exact ⟨rfl, hbW⟩
  rw [if_neg h5]
  have k5 : (x == 5) = false := by simpa using h5
  clear HL h1 h2 h3 h4 h5
  go_enter Tryd.func28, Tryd.ntmps28
  go_upto_region 1 with fail
  rw [hW.out]
  clear hW
  go_wp2
  go_ret
  exact ⟨rfl, hbW⟩

set_option maxHeartbeats 1000000 in
set_option maxRecDepth 100000 in
theorem specPathOk_any (x : Int) (T : List StepV) (a : Option Addr) (c : Nat) (w : World) (hr : ReadsPh w a T) (hl : T.length ≤ 1099511627776) :
    Calls Tryd.prog 15 #[.agg #[.int .i64 x, .slice a T.length c]] w fun e w' => e = .returned (.bool (pathB x T)) ∧ Below w.heap.size w w' := by
  obtain ⟨W, hW, b0, hbW, hsW⟩ := boxes1 w [.int .i64 x, .slice a T.length c] 29
  have HC : Hid (∀ u, Below W.heap.size W u → (u.cell? ⟨w.heap.size, 0, none⟩ = some (.int .i64 x) ∧ u.cell? ⟨w.heap.size, 1, none⟩ = some (.slice a T.length c)) ∧ ∀ k, k < T.length → ∃ b off, a = some ⟨b, off, none⟩ ∧ u.cell? ⟨b, off + k * 2, none⟩ = some (.int .i64 (T.getD k zeroPh).kd) ∧ u.cell? ⟨b, off + k * 2 + 1, none⟩ = some (.int .i64 (T.getD k zeroPh).num)) := fun u hu => by
    refine ⟨⟨(b0.below hu b0.lt).cell 0 _ rfl, (b0.below hu b0.lt).cell 1 _ rfl⟩, fun k hk => ?_⟩
    obtain ⟨b, off, ha, hc⟩ := ((hr.below hbW).below hu) (by intro e; rw [e] at hk; simp at hk)
    exact ⟨b, off, ha, hc k hk⟩
  have HHIT : Hid (∀ k, k < T.length → stepB (T.getD k zeroPh) = false → pathB x T = false) := fun k hk h => by unfold pathB; rw [all_hit (k := k) hk h]; rfl
  have HSTEP : Hid (∀ k, k < T.length → (T.take k).all stepB = true → stepB (T.getD k zeroPh) = true → (T.take (k + 1)).all stepB = true) := fun k hk h h1 => all_step hk h h1
  have HEND : Hid (∀ k, ¬ k < T.length → (T.take k).all stepB = true → pathB x T = (inB x 1 31 && decide (T.length ≤ 8))) := fun k hk h => by unfold pathB; rw [all_end hk h]; rfl
  have HL : Hid (∀ u, Calls Tryd.prog 29 #[.int .i64 x, .int .i64 1, .int .i64 31] u fun e w' => e = .returned (.bool (inB x 1 31)) ∧ w' = u) := fun u => l1In_any x 1 31 u
  clear hr b0 hsW
  generalize pathB x T = R at *
  generalize inB x 1 31 = I at *
  go_enter Tryd.func15, Tryd.ntmps15
  go_upto_region 1 with fail
  rw [hW.out]
  clear hW
  go_wp2_with fail
  go_loopw [3] (fun i wr => ∃ k : Nat, k ≤ T.length ∧ i = .int .i64 k ∧ Hid ((T.take k).all stepB = true) ∧ Below W.heap.size W wr) (fun i _ => T.length - (intOf i).toNat)
  case atStart => exact ⟨0, Nat.zero_le _, rfl, (show (T.take 0).all stepB = true by simp), Below.refl _ _⟩
  case round =>
    obtain ⟨k, hk, rfl, hall, hbl⟩ := hrel
    obtain ⟨⟨p0, p1⟩, hst⟩ := HC.out wr hbl
    by_cases hlt : k < T.length
    · obtain ⟨b, off, rfl, c0, c1⟩ := hst k hlt
      have HH1 : Hid (stepB (T.getD k zeroPh) = false → R = false) := fun h => HHIT.out k hlt h
      have HH2 : Hid (stepB (T.getD k zeroPh) = true → (T.take (k + 1)).all stepB = true) := fun h => HSTEP.out k hlt hall.out h
      clear HC HHIT HSTEP HEND hall hst
      generalize T.getD k zeroPh = z at *
      have C := l12Step_any z wr
      generalize stepB z = zb at *
      cases zb with
      | false =>
        have HR : Hid (R = false) := HH1.out rfl
        clear HH1 HH2
        go_wp2_with fail
        refine C.mono ?_
        rintro e w1 ⟨rfl, hb1⟩
        go_wp2
        go_ret
        exact ⟨ret_bool HR.out.symm, hbW.trans ((hbl.trans (hb1.mono hbl.size)).mono hbW.size)⟩
      | true =>
        have HN : Hid ((T.take (k + 1)).all stepB = true) := HH2.out rfl
        clear HH1 HH2
        go_wp2_with fail
        refine C.mono ?_
        rintro e w1 ⟨rfl, hb1⟩
        have hB1 : Below W.heap.size W w1 := hbl.trans (hb1.mono hbl.size)
        clear C hb1 hbl c0 c1 p0 p1
        go_wp2_with fail
        go_roundw
        case rel => exact ⟨k + 1, by omega, by go_num, HN, hB1⟩
        case measure => simp [intOf]; omega
    · have HR : Hid (R = (I && decide (T.length ≤ 8))) := HEND.out k hlt hall.out
      have hBw := hbW.trans (hbl.mono hbW.size)
      have CI := HL.out wr
      clear HC HHIT HSTEP HEND hall hst HL
      cases I with
      | false =>
        have HT : Hid (R = false) := HR.out
        clear HR
        go_wp2_with fail
        refine CI.mono ?_
        rintro e w1 ⟨rfl, rfl⟩
        go_wp2
        go_ret
        exact ⟨ret_bool HT.out.symm, hBw⟩
      | true =>
        have HT : Hid (decide ((T.length : Int) ≤ 8) = R) := by rw [Hid, HR.out, Bool.true_and]; exact decide_eq_decide.2 (by omega)
        clear HR
        go_wp2_with fail
        refine CI.mono ?_
        rintro e w1 ⟨rfl, rfl⟩
        go_wp2
        go_ret
        exact ⟨ret_bool HT.out, hBw⟩
end Go.Proofs.YtajcffchopcamaaDoor
