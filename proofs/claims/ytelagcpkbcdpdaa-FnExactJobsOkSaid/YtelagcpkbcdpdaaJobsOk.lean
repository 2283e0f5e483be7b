/- The walks of impl.opOk, opsOk, JobsOk. -/
import Derived.Test.YtelagcpkbcdpdaaJobsMath
import Derived.Deep.QuietTactic
namespace Go.Proofs.Ytelagcpkbcdpdaa
open Go.RowKit

set_option maxHeartbeats 400000 in
theorem oidOk_job (x : Int) (w : World) : Calls Try.prog 59 #[.int .i64 x] w fun e w' => e = .returned (.bool (inB x 1 31)) ∧ w' = w := by
  by_cases h1 : 1 ≤ x
  · by_cases h2 : x ≤ 31
    · have HB : Hid (inB x 1 31 = true) := by simp [Hid, inB]; omega
      go_enter Try.func59, Try.ntmps59
      go_wp2
      go_ret
      exact ⟨ret_bool HB.out.symm, rfl⟩
    · have HB : Hid (inB x 1 31 = false) := by simp [Hid, inB]; omega
      go_enter Try.func59, Try.ntmps59
      go_wp2
      go_ret
      exact ⟨ret_bool HB.out.symm, rfl⟩
  · have HB : Hid (inB x 1 31 = false) := by simp [Hid, inB]; omega
    go_enter Try.func59, Try.ntmps59
    go_wp2
    go_ret
    exact ⟨ret_bool HB.out.symm, rfl⟩

set_option maxHeartbeats 1000000 in
set_option maxRecDepth 100000 in
theorem implOpOk_any (o : OpV) (w : World) :
    Calls Try.prog 38 #[.agg #[.int .i64 o.kd, .int .i64 o.oid, .int .i64 o.num]] w fun e w' => e = .returned (.bool (opB o)) ∧ Below w.heap.size w w' := by
  obtain ⟨x, y, z⟩ := o
  obtain ⟨W, hW, b0, hbW, hsW⟩ := boxes1 w [.int .i64 x, .int .i64 y, .int .i64 z] 62
  obtain ⟨q0, q1, q2, _⟩ := b0.three
  have C := oidOk_job y W
  have HB : Hid (opB ⟨x, y, z⟩ = if x = 4 then (y == 0 && z == 0) else (inB x 1 3 && (inB y 1 31 && inB z (-1000) 1000))) := rfl
  generalize opB ⟨x, y, z⟩ = R at *
  simp only
  clear b0 hsW
  by_cases h4 : x = 4
  · have hR : R = (y == 0 && z == 0) := by rw [HB.out, if_pos h4]
    clear HB C
    subst h4
    by_cases hy : y = 0
    · subst hy
      by_cases hz : z = 0
      · subst hz
        go_enter Try.func38, Try.ntmps38
        go_wp2
        rw [hW.out]
        go_ret
        exact ⟨ret_bool (by rw [hR]; rfl), hbW⟩
      · have kz : (z == 0) = false := by simpa using hz
        have HR : Hid (R = false) := by rw [Hid, hR, kz]; rfl
        clear hR
        go_enter Try.func38, Try.ntmps38
        go_wp2
        rw [hW.out]
        go_ret
        exact ⟨ret_bool HR.out.symm, hbW⟩
    · have ky : (y == 0) = false := by simpa using hy
      have HR : Hid (R = false) := by rw [Hid, hR, ky]; rfl
      clear hR
      go_enter Try.func38, Try.ntmps38
      go_wp2
      rw [hW.out]
      go_ret
      exact ⟨ret_bool HR.out.symm, hbW⟩
  have hR : R = (inB x 1 3 && (inB y 1 31 && inB z (-1000) 1000)) := by rw [HB.out, if_neg h4]
  clear HB
  by_cases h : 1 ≤ x ∧ x ≤ 3
  · have kx : inB x 1 3 = true := by simp [inB, h.1, h.2]
    rw [kx, Bool.true_and] at hR
    clear kx h4
    generalize inB y 1 31 = yb at *
    obtain ⟨n1, n2⟩ := h
    have hx : x = 1 ∨ x = 2 ∨ x = 3 := by omega
    clear n1 n2
    cases yb with
    | false =>
      have HR : Hid (R = false) := hR
      clear hR
      rcases hx with rfl | rfl | rfl
      all_goals
        go_enter Try.func38, Try.ntmps38
        go_wp2_with fail
        rw [hW.out]
        refine C.mono ?_
        rintro e w' ⟨rfl, rfl⟩
        go_wp2
        go_ret
        exact ⟨ret_bool HR.out.symm, hbW⟩
    | true =>
      rw [Bool.true_and] at hR
      by_cases z1 : -1000 ≤ z
      · by_cases z2 : z ≤ 1000
        · have HR : Hid (R = true) := by rw [Hid, hR]; simp [inB, z1, z2]
          clear hR
          rcases hx with rfl | rfl | rfl
          all_goals
            go_enter Try.func38, Try.ntmps38
            go_wp2_with fail
            rw [hW.out]
            refine C.mono ?_
            rintro e w' ⟨rfl, rfl⟩
            go_wp2
            go_ret
            exact ⟨ret_bool HR.out.symm, hbW⟩
        · have HR : Hid (R = false) := by rw [Hid, hR]; simp [inB, z2]
          clear hR
          rcases hx with rfl | rfl | rfl
          all_goals
            go_enter Try.func38, Try.ntmps38
            go_wp2_with fail
            rw [hW.out]
            refine C.mono ?_
            rintro e w' ⟨rfl, rfl⟩
            go_wp2
            go_ret
            exact ⟨ret_bool ((decide_eq_false (by omega)).trans HR.out.symm), hbW⟩
      · have HR : Hid (R = false) := by rw [Hid, hR]; simp [inB, z1]
        clear hR
        rcases hx with rfl | rfl | rfl
        all_goals
          go_enter Try.func38, Try.ntmps38
          go_wp2_with fail
          rw [hW.out]
          refine C.mono ?_
          rintro e w' ⟨rfl, rfl⟩
          go_wp2
          go_ret
          exact ⟨ret_bool HR.out.symm, hbW⟩
  · have HR : Hid (R = false) := by
      have : inB x 1 3 = false := by
        cases e : inB x 1 3
        · rfl
        · exact absurd (by simpa [inB] using e) h
      rw [Hid, hR, this]; rfl
    have e1 : (x == 1) = false := by rw [beq_eq_false_iff_ne]; omega
    have e2 : (x == 2) = false := by rw [beq_eq_false_iff_ne]; omega
    have e3 : (x == 3) = false := by rw [beq_eq_false_iff_ne]; omega
    have e4 : (x == 4) = false := by rw [beq_eq_false_iff_ne]; omega
    clear hR h h4 C
    go_enter Try.func38, Try.ntmps38
    go_wp2
    rw [hW.out]
    go_ret
    exact ⟨ret_bool HR.out.symm, hbW⟩

set_option maxHeartbeats 1000000 in
set_option maxRecDepth 100000 in
theorem implOpsOk_any (a : Option Addr) (c : Nat) (ls : List OpV) (w : World) (hr : ReadsQ w a ls) (hl : ls.length ≤ 1099511627776) :
    Calls Try.prog 19 #[.slice a ls.length c] w fun e w' => e = .returned (.bool (opsB ls)) ∧ Below w.heap.size w w' := by
  have HC : Hid (∀ u, Below w.heap.size w u → ∀ k, k < ls.length → ∃ b off, a = some ⟨b, off, none⟩ ∧ u.cell? ⟨b, off + k * 3, none⟩ = some (.int .i64 (ls.getD k zeroQ).kd) ∧ u.cell? ⟨b, off + k * 3 + 1, none⟩ = some (.int .i64 (ls.getD k zeroQ).oid) ∧ u.cell? ⟨b, off + k * 3 + 2, none⟩ = some (.int .i64 (ls.getD k zeroQ).num)) := fun u hu k hk => by
    obtain ⟨b, off, ha, hc⟩ := (hr.below hu) (by intro e; rw [e] at hk; simp at hk)
    exact ⟨b, off, ha, hc k hk⟩
  have HHIT : Hid (∀ k, k < ls.length → opB (ls.getD k zeroQ) = false → opsB ls = false) := fun k hk h => opsB_hit hk h
  have HSTEP : Hid (∀ k, k < ls.length → (ls.take k).all opB = true → opB (ls.getD k zeroQ) = true → (ls.take (k + 1)).all opB = true) := fun k hk h h1 => all_step hk h h1
  have HEND : Hid (∀ k, ¬ k < ls.length → (ls.take k).all opB = true → opsB ls = decide (ls.length ≤ 6)) := fun k hk h => by rw [opsB, all_end hk h, Bool.and_true]
  clear hr
  generalize opsB ls = R at *
  go_enter Try.func19, Try.ntmps19
  go_wp2
  go_loopw [7] (fun i wr => ∃ k : Nat, k ≤ ls.length ∧ i = .int .i64 k ∧ Hid ((ls.take k).all opB = true) ∧ Below w.heap.size w wr) (fun i _ => ls.length - (intOf i).toNat)
  case atStart => exact ⟨0, Nat.zero_le _, rfl, (show (ls.take 0).all opB = true by simp), Below.refl _ _⟩
  case round =>
    obtain ⟨k, hk, rfl, hall, hbl⟩ := hrel
    by_cases hlt : k < ls.length
    · obtain ⟨b, off, rfl, c0, c1, c2⟩ := HC.out wr hbl k hlt
      have HH1 : Hid (opB (ls.getD k zeroQ) = false → R = false) := fun h => HHIT.out k hlt h
      have HH2 : Hid (opB (ls.getD k zeroQ) = true → (ls.take (k + 1)).all opB = true) := fun h => HSTEP.out k hlt hall.out h
      clear HC HHIT HSTEP HEND hall
      generalize ls.getD k zeroQ = z at *
      obtain ⟨V, hV, bz, hbV, hsV⟩ := boxes1 wr [.int .i64 z.kd, .int .i64 z.oid, .int .i64 z.num] 62
      obtain ⟨q0, q1, q2, _⟩ := bz.three
      have C := implOpOk_any z V
      have hB : Below w.heap.size w V := hbl.trans (hbV.mono hbl.size)
      generalize opB z = zb at *
      clear bz hsV hbV
      cases zb with
      | false =>
        have HR : Hid (R = false) := HH1.out rfl
        clear HH1 HH2
        go_wp2_with fail
        rw [hV.out]
        go_wp2_with fail
        refine C.mono ?_
        rintro e w1 ⟨rfl, hb1⟩
        go_wp2
        go_ret
        exact ⟨ret_bool HR.out.symm, hB.trans (hb1.mono hB.size)⟩
      | true =>
        have HN : Hid ((ls.take (k + 1)).all opB = true) := HH2.out rfl
        clear HH1 HH2
        go_wp2_with fail
        rw [hV.out]
        go_wp2_with fail
        refine C.mono ?_
        rintro e w1 ⟨rfl, hb1⟩
        have hB1 : Below w.heap.size w w1 := hB.trans (hb1.mono hB.size)
        clear C hV hb1 hB
        go_wp2_with fail
        go_roundw
        case rel => exact ⟨k + 1, by omega, by go_num, HN, hB1⟩
        case measure => simp [intOf]; omega
    · have HR : Hid (R = decide (ls.length ≤ 6)) := HEND.out k hlt hall.out
      clear HC HHIT HSTEP HEND hall
      have HT : Hid (decide ((ls.length : Int) ≤ 6) = R) := by rw [Hid, HR.out]; exact decide_eq_decide.2 (by omega)
      go_wp2
      go_ret
      exact ⟨ret_bool HT.out, hbl⟩

set_option maxHeartbeats 1000000 in
set_option maxRecDepth 100000 in
theorem implJobsOk_any (a : Option Addr) (c : Nat) (js : List JobA) (w : World) (hr : ReadsJ w a js) (hl : JobsShort js 1099511627776) :
    Calls Try.prog 8 #[.slice a js.length c] w fun e w' => e = .returned (.bool (jobsB (opsJ js))) ∧ Below w.heap.size w w' := by
  obtain ⟨hl1, hl2⟩ := hl
  have HC : Hid (∀ u, Below w.heap.size w u → ∀ k, k < js.length → ∃ b off, a = some ⟨b, off, none⟩ ∧ u.cell? ⟨b, off + k, none⟩ = some (js.getD k zeroJ).cell ∧ ReadsQ u (js.getD k zeroJ).a (js.getD k zeroJ).ops ∧ (js.getD k zeroJ).ops.length ≤ 1099511627776) := fun u hu k hk => by
    obtain ⟨b, off, ha, hc⟩ := (hr.below hu) (by intro e; rw [e] at hk; simp at hk)
    exact ⟨b, off, ha, (hc k hk).1, (hc k hk).2, hl2 _ (jobD_mem js k hk)⟩
  have HL : (opsJ js).length = js.length := opsJ_len js
  have HHIT : Hid (∀ k, k < js.length → opsB (js.getD k zeroJ).ops = false → jobsB (opsJ js) = false) := fun k hk h => jobsB_hit (k := k) (by omega) (by rw [opsJ_at]; exact h)
  have HSTEP : Hid (∀ k, k < js.length → ((opsJ js).take k).all opsB = true → opsB (js.getD k zeroJ).ops = true → ((opsJ js).take (k + 1)).all opsB = true) := fun k hk h h1 => all_step (z := []) (by omega) h (by rw [opsJ_at]; exact h1)
  have HEND : Hid (∀ k, ¬ k < js.length → ((opsJ js).take k).all opsB = true → jobsB (opsJ js) = decide (js.length ≤ 4)) := fun k hk h => by rw [jobsB, all_end (by omega) h, Bool.and_true, HL]
  clear hr hl2 HL
  generalize jobsB (opsJ js) = R at *
  generalize opsJ js = L at *
  go_enter Try.func8, Try.ntmps8
  go_wp2
  go_loopw [7] (fun i wr => ∃ k : Nat, k ≤ js.length ∧ i = .int .i64 k ∧ Hid ((L.take k).all opsB = true) ∧ Below w.heap.size w wr) (fun i _ => js.length - (intOf i).toNat)
  case atStart => exact ⟨0, Nat.zero_le _, rfl, (show (L.take 0).all opsB = true by simp), Below.refl _ _⟩
  case round =>
    obtain ⟨k, hk, rfl, hall, hbl⟩ := hrel
    by_cases hlt : k < js.length
    · obtain ⟨b, off, rfl, c0, hrz, hlz⟩ := HC.out wr hbl k hlt
      have HH1 : Hid (opsB (js.getD k zeroJ).ops = false → R = false) := fun h => HHIT.out k hlt h
      have HH2 : Hid (opsB (js.getD k zeroJ).ops = true → (L.take (k + 1)).all opsB = true) := fun h => HSTEP.out k hlt hall.out h
      clear HC HHIT HSTEP HEND hall
      generalize js.getD k zeroJ = z at *
      simp only [JobA.cell] at c0
      have C := implOpsOk_any z.a z.c z.ops wr hrz hlz
      generalize opsB z.ops = zb at *
      cases zb with
      | false =>
        have HR : Hid (R = false) := HH1.out rfl
        clear HH1 HH2
        go_wp2_with fail
        refine C.mono ?_
        rintro e w1 ⟨rfl, hb1⟩
        go_wp2
        go_ret
        exact ⟨ret_bool HR.out.symm, hbl.trans (hb1.mono hbl.size)⟩
      | true =>
        have HN : Hid ((L.take (k + 1)).all opsB = true) := HH2.out rfl
        clear HH1 HH2
        go_wp2_with fail
        refine C.mono ?_
        rintro e w1 ⟨rfl, hb1⟩
        have hB1 : Below w.heap.size w w1 := hbl.trans (hb1.mono hbl.size)
        clear C hb1 hbl c0
        go_wp2_with fail
        go_roundw
        case rel => exact ⟨k + 1, by omega, by go_num, HN, hB1⟩
        case measure => simp [intOf]; omega
    · have HR : Hid (R = decide (js.length ≤ 4)) := HEND.out k hlt hall.out
      clear HC HHIT HSTEP HEND hall
      have HT : Hid (decide ((js.length : Int) ≤ 4) = R) := by rw [Hid, HR.out]; exact decide_eq_decide.2 (by omega)
      go_wp2
      go_ret
      exact ⟨ret_bool HT.out, hbl⟩
end Go.Proofs.Ytelagcpkbcdpdaa
