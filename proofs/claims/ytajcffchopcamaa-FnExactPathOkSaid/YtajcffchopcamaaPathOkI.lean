/- The walks of impl.stepOk, allStepsOk, PathOk. -/
import Derived.Test.YtajcffchopcamaaPathOkS
namespace Go.Proofs.Ytajcffchopcamaa
open Go.RowKit

set_option maxHeartbeats 400000 in
theorem oidOk_path (x : Int) (w : World) : Calls Try.prog 13 #[.int .i64 x] w fun e w' => e = .returned (.bool (inB x 1 31)) ∧ w' = w := by
  by_cases h1 : 1 ≤ x
  · by_cases h2 : x ≤ 31
    · have HB : Hid (inB x 1 31 = true) := by simp [Hid, inB]; omega
      go_enter Try.func13, Try.ntmps13
      go_wp2
      go_ret
      exact ⟨ret_bool HB.out.symm, rfl⟩
    · have HB : Hid (inB x 1 31 = false) := by simp [Hid, inB]; omega
      go_enter Try.func13, Try.ntmps13
      go_wp2
      go_ret
      exact ⟨ret_bool HB.out.symm, rfl⟩
  · have HB : Hid (inB x 1 31 = false) := by simp [Hid, inB]; omega
    go_enter Try.func13, Try.ntmps13
    go_wp2
    go_ret
    exact ⟨ret_bool HB.out.symm, rfl⟩

set_option maxHeartbeats 1000000 in
set_option maxRecDepth 100000 in
theorem implStepOk_any (s : StepV) (w : World) :
    Calls Try.prog 17 #[.agg #[.int .i64 s.kd, .int .i64 s.num]] w fun e w' => e = .returned (.bool (stepB s)) ∧ Below w.heap.size w w' := by
  obtain ⟨x, y⟩ := s
  obtain ⟨W, hW, b0, hbW, hsW⟩ := boxes1 w [.int .i64 x, .int .i64 y] 36
  have q0 := b0.cell 0 _ rfl
  have q1 := b0.cell 1 _ rfl
  clear b0 hsW
  simp only [stepB]
  by_cases h1 : x = 1
  · subst h1
    rw [if_pos rfl]
    by_cases g1 : 0 ≤ y
    · by_cases g2 : y ≤ 9
      · have HB : Hid (inB y 0 9 = true) := by simp [Hid, inB]; omega
        generalize inB y 0 9 = R at *
        go_enter Try.func17, Try.ntmps17
        go_upto_region 1 with fail
        rw [hW.out]
        clear hW
        go_wp2
        go_ret
        exact ⟨ret_bool HB.out.symm, hbW⟩
      · have HB : Hid (inB y 0 9 = false) := by simp [Hid, inB]; omega
        generalize inB y 0 9 = R at *
        go_enter Try.func17, Try.ntmps17
        go_upto_region 1 with fail
        rw [hW.out]
        clear hW
        go_wp2
        go_ret
        exact ⟨ret_bool HB.out.symm, hbW⟩
    · have HB : Hid (inB y 0 9 = false) := by simp [Hid, inB]; omega
      generalize inB y 0 9 = R at *
      go_enter Try.func17, Try.ntmps17
      go_upto_region 1 with fail
      rw [hW.out]
      clear hW
      go_wp2
      go_ret
      exact ⟨ret_bool HB.out.symm, hbW⟩
  rw [if_neg h1]
  have k1 : (x == 1) = false := by simpa using h1
  by_cases h2 : x = 2
  · subst h2
    rw [if_pos rfl]
    go_enter Try.func17, Try.ntmps17
    go_upto_region 1 with fail
    rw [hW.out]
    clear hW
    go_wp2
    go_ret
    exact ⟨rfl, hbW⟩
  rw [if_neg h2]
  have k2 : (x == 2) = false := by simpa using h2
  by_cases h3 : x = 3
  · subst h3
    rw [if_pos rfl]
    go_enter Try.func17, Try.ntmps17
    go_upto_region 1 with fail
    rw [hW.out]
    clear hW
    go_wp2
    go_ret
    exact ⟨rfl, hbW⟩
  rw [if_neg h3]
  have k3 : (x == 3) = false := by simpa using h3
  by_cases h4 : x = 4
  · subst h4
    rw [if_pos rfl]
    by_cases g1 : 1 ≤ y
    · by_cases g2 : y ≤ 99
      · have HB : Hid (inB y 1 99 = true) := by simp [Hid, inB]; omega
        generalize inB y 1 99 = R at *
        go_enter Try.func17, Try.ntmps17
        go_upto_region 1 with fail
        rw [hW.out]
        clear hW
        go_wp2
        go_ret
        exact ⟨ret_bool HB.out.symm, hbW⟩
      · have HB : Hid (inB y 1 99 = false) := by simp [Hid, inB]; omega
        generalize inB y 1 99 = R at *
        go_enter Try.func17, Try.ntmps17
        go_upto_region 1 with fail
        rw [hW.out]
        clear hW
        go_wp2
        go_ret
        exact ⟨ret_bool HB.out.symm, hbW⟩
    · have HB : Hid (inB y 1 99 = false) := by simp [Hid, inB]; omega
      generalize inB y 1 99 = R at *
      go_enter Try.func17, Try.ntmps17
      go_upto_region 1 with fail
      rw [hW.out]
      clear hW
      go_wp2
      go_ret
      exact ⟨ret_bool HB.out.symm, hbW⟩
  rw [if_neg h4]
  have k4 : (x == 4) = false := by simpa using h4
  by_cases h5 : x = 5
  · subst h5
    rw [if_pos rfl]
    by_cases g1 : -1000000 ≤ y
    · by_cases g2 : y ≤ 1000000
      · have HB : Hid (inB y (-1000000) 1000000 = true) := by simp [Hid, inB]; omega
        generalize inB y (-1000000) 1000000 = R at *
        go_enter Try.func17, Try.ntmps17
        go_upto_region 1 with fail
        rw [hW.out]
        clear hW
        go_wp2
        go_ret
        exact ⟨ret_bool HB.out.symm, hbW⟩
      · have HB : Hid (inB y (-1000000) 1000000 = false) := by simp [Hid, inB]; omega
        generalize inB y (-1000000) 1000000 = R at *
        go_enter Try.func17, Try.ntmps17
        go_upto_region 1 with fail
        rw [hW.out]
        clear hW
        go_wp2
        go_ret
        exact ⟨ret_bool HB.out.symm, hbW⟩
    · have HB : Hid (inB y (-1000000) 1000000 = false) := by simp [Hid, inB]; omega
      generalize inB y (-1000000) 1000000 = R at *
      go_enter Try.func17, Try.ntmps17
      go_upto_region 1 with fail
      rw [hW.out]
      clear hW
      go_wp2
      go_ret
      exact ⟨ret_bool HB.out.symm, hbW⟩
  rw [if_neg h5]
  have k5 : (x == 5) = false := by simpa using h5
  clear h1 h2 h3 h4 h5
  go_enter Try.func17, Try.ntmps17
  go_upto_region 1 with fail
  rw [hW.out]
  clear hW
  go_wp2
  go_ret
  exact ⟨rfl, hbW⟩

set_option maxHeartbeats 1000000 in
set_option maxRecDepth 100000 in
theorem allStepsOk_any (a : Option Addr) (c : Nat) (ls : List StepV) (w : World) (hr : ReadsPh w a ls) (hl : ls.length ≤ 1099511627776) :
    Calls Try.prog 14 #[.slice a ls.length c] w fun e w' => e = .returned (.bool (ls.all stepB)) ∧ Below w.heap.size w w' := by
  have HC : Hid (∀ u, Below w.heap.size w u → ∀ k, k < ls.length → ∃ b off, a = some ⟨b, off, none⟩ ∧ u.cell? ⟨b, off + k * 2, none⟩ = some (.int .i64 (ls.getD k zeroPh).kd) ∧ u.cell? ⟨b, off + k * 2 + 1, none⟩ = some (.int .i64 (ls.getD k zeroPh).num)) := fun u hu k hk => by
    obtain ⟨b, off, ha, hc⟩ := (hr.below hu) (by intro e; rw [e] at hk; simp at hk)
    exact ⟨b, off, ha, hc k hk⟩
  have HHIT : Hid (∀ k, k < ls.length → stepB (ls.getD k zeroPh) = false → ls.all stepB = false) := fun k hk h => all_hit (k := k) hk h
  have HSTEP : Hid (∀ k, k < ls.length → (ls.take k).all stepB = true → stepB (ls.getD k zeroPh) = true → (ls.take (k + 1)).all stepB = true) := fun k hk h h1 => all_step hk h h1
  have HEND : Hid (∀ k, ¬ k < ls.length → (ls.take k).all stepB = true → ls.all stepB = true) := fun k hk h => all_end hk h
  clear hr
  generalize ls.all stepB = R at *
  go_enter Try.func14, Try.ntmps14
  go_wp2
  go_loopw [7] (fun i wr => ∃ k : Nat, k ≤ ls.length ∧ i = .int .i64 k ∧ Hid ((ls.take k).all stepB = true) ∧ Below w.heap.size w wr) (fun i _ => ls.length - (intOf i).toNat)
  case atStart => exact ⟨0, Nat.zero_le _, rfl, (show (ls.take 0).all stepB = true by simp), Below.refl _ _⟩
  case round =>
    obtain ⟨k, hk, rfl, hall, hbl⟩ := hrel
    by_cases hlt : k < ls.length
    · obtain ⟨b, off, rfl, c0, c1⟩ := HC.out wr hbl k hlt
      have HH1 : Hid (stepB (ls.getD k zeroPh) = false → R = false) := fun h => HHIT.out k hlt h
      have HH2 : Hid (stepB (ls.getD k zeroPh) = true → (ls.take (k + 1)).all stepB = true) := fun h => HSTEP.out k hlt hall.out h
      clear HC HHIT HSTEP HEND hall
      generalize ls.getD k zeroPh = z at *
      obtain ⟨V, hV, bz, hbV, hsV⟩ := boxes1 wr [.int .i64 z.kd, .int .i64 z.num] 36
      have q0 := bz.cell 0 _ rfl
      have q1 := bz.cell 1 _ rfl
      have C := implStepOk_any z V
      have hB : Below w.heap.size w V := hbl.trans (hbV.mono hbl.size)
      generalize stepB z = zb at *
      clear bz hsV hbV
      cases zb with
      | false =>
        have HR : Hid (R = false) := HH1.out rfl
        clear HH1 HH2
        go_wp2_with fail
        rw [hV.out]
        go_wp2_with fail
        refine C.mono ?_
        rintro e w1 ⟨rfl, hb1⟩
        go_wp2
        go_ret
        exact ⟨ret_bool HR.out.symm, hB.trans (hb1.mono hB.size)⟩
      | true =>
        have HN : Hid ((ls.take (k + 1)).all stepB = true) := HH2.out rfl
        clear HH1 HH2
        go_wp2_with fail
        rw [hV.out]
        go_wp2_with fail
        refine C.mono ?_
        rintro e w1 ⟨rfl, hb1⟩
        have hB1 : Below w.heap.size w w1 := hB.trans (hb1.mono hB.size)
        clear C hV hb1 hB
        go_wp2_with fail
        go_roundw
        case rel => exact ⟨k + 1, by omega, by go_num, HN, hB1⟩
        case measure => simp [intOf]; omega
    · have HR : Hid (R = true) := HEND.out k hlt hall.out
      clear HC HHIT HSTEP HEND hall
      go_wp2
      go_ret
      exact ⟨ret_bool HR.out.symm, hbl⟩

set_option maxHeartbeats 1000000 in
set_option maxRecDepth 100000 in
theorem implPathOk_any (x : Int) (T : List StepV) (a : Option Addr) (c : Nat) (w : World) (hr : ReadsPh w a T) (hl : T.length ≤ 1099511627776) :
    Calls Try.prog 7 #[.agg #[.int .i64 x, .slice a T.length c]] w fun e w' => e = .returned (.bool (pathB x T)) ∧ Below w.heap.size w w' := by
  obtain ⟨W, hW, b0, hbW, hsW⟩ := boxes1 w [.int .i64 x, .slice a T.length c] 29
  have q0 := b0.cell 0 _ rfl
  have q1 := b0.cell 1 _ rfl
  have CO := oidOk_path x W
  have CA := allStepsOk_any a c T W (hr.below hbW) hl
  have HB : Hid (pathB x T = (T.all stepB && (inB x 1 31 && decide (T.length ≤ 8)))) := rfl
  clear b0 hsW hr
  generalize pathB x T = R at *
  generalize inB x 1 31 = I at *
  generalize T.all stepB = A at *
  cases I with
  | false =>
    have HR : Hid (R = false) := by rw [Hid, HB.out]; cases A <;> rfl
    clear HB CA
    go_enter Try.func7, Try.ntmps7
    go_upto_region 1 with fail
    rw [hW.out]
    clear hW
    go_wp2_with fail
    refine CO.mono ?_
    rintro e w1 ⟨rfl, rfl⟩
    go_wp2
    go_ret
    exact ⟨ret_bool HR.out.symm, hbW⟩
  | true =>
    by_cases h8 : T.length ≤ 8
    · have HR : Hid (R = A) := by rw [Hid, HB.out]; simp [h8]
      have k8 : (T.length : Int) ≤ 8 := by omega
      clear HB
      go_enter Try.func7, Try.ntmps7
      go_upto_region 1 with fail
      rw [hW.out]
      clear hW
      go_wp2_with fail
      refine CO.mono ?_
      rintro e w1 ⟨rfl, rfl⟩
      go_wp2_with fail
      refine CA.mono ?_
      rintro e w2 ⟨rfl, hb2⟩
      go_wp2
      go_ret
      exact ⟨ret_bool HR.out.symm, hbW.trans (hb2.mono hbW.size)⟩
    · have HR : Hid (R = false) := by rw [Hid, HB.out]; simp [h8]
      have k8 : ¬ (T.length : Int) ≤ 8 := by omega
      clear HB CA
      go_enter Try.func7, Try.ntmps7
      go_upto_region 1 with fail
      rw [hW.out]
      clear hW
      go_wp2_with fail
      refine CO.mono ?_
      rintro e w1 ⟨rfl, rfl⟩
      go_wp2
      go_ret
      exact ⟨ret_bool HR.out.symm, hbW⟩
end Go.Proofs.Ytajcffchopcamaa
