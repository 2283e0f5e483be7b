/- The walks of spec.l10Op, JobsOk. -/
import Derived.Test.YtelagcpkbcdpdaaJobsMath
import Derived.Test.YtelagcpkbcdpdaaL1In
namespace Go.Proofs.Ytelagcpkbcdpdaa
open Go.RowKit

set_option maxHeartbeats 1000000 in
set_option maxRecDepth 100000 in
theorem l10Op_any (o : OpV) (w : World) :
    Calls Try.prog 17 #[.agg #[.int .i64 o.kd, .int .i64 o.oid, .int .i64 o.num]] w fun e w' => e = .returned (.bool (opB o)) ∧ Below w.heap.size w w' := by
  obtain ⟨x, y, z⟩ := o
  obtain ⟨W, hW, b0, hbW, hsW⟩ := boxes1 w [.int .i64 x, .int .i64 y, .int .i64 z] 62
  obtain ⟨q0, q1, q2, _⟩ := b0.three
  have C1 := l1In_any x 1 3 W
  have C2 := l1In_any y 1 31 W
  have C3 := l1In_any z (-1000) 1000 W
  have HB : Hid (opB ⟨x, y, z⟩ = if x = 4 then (y == 0 && z == 0) else (inB x 1 3 && (inB y 1 31 && inB z (-1000) 1000))) := rfl
  generalize opB ⟨x, y, z⟩ = R at *
  simp only
  clear b0 hsW
  by_cases h4 : x = 4
  · have hR : R = (y == 0 && z == 0) := by rw [HB.out, if_pos h4]
    clear HB C1 C2 C3
    subst h4
    by_cases hy : y = 0
    · subst hy
      by_cases hz : z = 0
      · subst hz
        go_enter Try.func17, Try.ntmps17
        go_wp2
        rw [hW.out]
        go_ret
        exact ⟨ret_bool (by rw [hR]; rfl), hbW⟩
      · have kz : (z == 0) = false := by simpa using hz
        have HR : Hid (R = false) := by rw [Hid, hR, kz]; rfl
        clear hR
        go_enter Try.func17, Try.ntmps17
        go_wp2
        rw [hW.out]
        go_ret
        exact ⟨ret_bool HR.out.symm, hbW⟩
    · have ky : (y == 0) = false := by simpa using hy
      have HR : Hid (R = false) := by rw [Hid, hR, ky]; rfl
      clear hR
      go_enter Try.func17, Try.ntmps17
      go_wp2
      rw [hW.out]
      go_ret
      exact ⟨ret_bool HR.out.symm, hbW⟩
  have hR : R = (inB x 1 3 && (inB y 1 31 && inB z (-1000) 1000)) := by rw [HB.out, if_neg h4]
  have e4 : (x == 4) = false := by simpa using h4
  clear HB h4
  generalize inB x 1 3 = x1 at *
  generalize inB y 1 31 = x2 at *
  generalize inB z (-1000) 1000 = x3 at *
  cases x1
  · go_enter Try.func17, Try.ntmps17
    go_wp2_with fail
    rw [hW.out]
    refine C1.mono ?_
    rintro e w' ⟨rfl, rfl⟩
    go_wp2
    go_ret
    exact ⟨ret_bool (by rw [hR]; rfl), hbW⟩
  cases x2
  · go_enter Try.func17, Try.ntmps17
    go_wp2_with fail
    rw [hW.out]
    refine C1.mono ?_
    rintro e w' ⟨rfl, rfl⟩
    go_wp2_with fail
    refine C2.mono ?_
    rintro e w' ⟨rfl, rfl⟩
    go_wp2
    go_ret
    exact ⟨ret_bool (by rw [hR]; rfl), hbW⟩
  · go_enter Try.func17, Try.ntmps17
    go_wp2_with fail
    rw [hW.out]
    refine C1.mono ?_
    rintro e w' ⟨rfl, rfl⟩
    go_wp2_with fail
    refine C2.mono ?_
    rintro e w' ⟨rfl, rfl⟩
    go_wp2_with fail
    refine C3.mono ?_
    rintro e w' ⟨rfl, rfl⟩
    go_wp2
    go_ret
    exact ⟨ret_bool (by rw [hR]; rfl), hbW⟩

set_option maxHeartbeats 2000000 in
set_option maxRecDepth 100000 in
theorem specJobsOk_any (a : Option Addr) (c : Nat) (js : List JobA) (w : World) (hr : ReadsJ w a js) (hl : JobsShort js 1099511627776) :
    Calls Try.prog 6 #[.slice a js.length c] w fun e w' => e = .returned (.bool (jobsB (opsJ js))) ∧ Below w.heap.size w w' := by
  obtain ⟨hl1, hl2⟩ := hl
  have HC : Hid (∀ u, Below w.heap.size w u → ∀ k, k < js.length → ∃ b off, a = some ⟨b, off, none⟩ ∧ u.cell? ⟨b, off + k, none⟩ = some (js.getD k zeroJ).cell ∧ ReadsQ u (js.getD k zeroJ).a (js.getD k zeroJ).ops ∧ (js.getD k zeroJ).ops.length ≤ 1099511627776) := fun u hu k hk => by
    obtain ⟨b, off, ha, hc⟩ := (hr.below hu) (by intro e; rw [e] at hk; simp at hk)
    exact ⟨b, off, ha, (hc k hk).1, (hc k hk).2, hl2 _ (jobD_mem js k hk)⟩
  have HL : (opsJ js).length = js.length := opsJ_len js
  have HLONG : Hid (¬ js.length ≤ 4 → jobsB (opsJ js) = false) := fun h => jobsB_long (by omega)
  have HHIT : Hid (∀ k, k < js.length → opsB (js.getD k zeroJ).ops = false → jobsB (opsJ js) = false) := fun k hk h => jobsB_hit (k := k) (by omega) (by rw [opsJ_at]; exact h)
  have HSTEP : Hid (∀ k, k < js.length → ((opsJ js).take k).all opsB = true → opsB (js.getD k zeroJ).ops = true → ((opsJ js).take (k + 1)).all opsB = true) := fun k hk h h1 => all_step (z := []) (by omega) h (by rw [opsJ_at]; exact h1)
  have HEND : Hid (∀ k, ¬ k < js.length → ((opsJ js).take k).all opsB = true → js.length ≤ 4 → jobsB (opsJ js) = true) := fun k hk h h4 => jobsB_end (k := k) (by omega) h (by omega)
  clear hr hl2 HL
  generalize jobsB (opsJ js) = R at *
  generalize opsJ js = L at *
  by_cases h4 : js.length ≤ 4
  case neg =>
    have HR : Hid (R = false) := HLONG.out h4
    clear HC HHIT HSTEP HEND HLONG
    go_enter Try.func6, Try.ntmps6
    go_wp2
    go_ret
    exact ⟨ret_bool HR.out.symm, Below.refl _ _⟩
  clear HLONG
  have H4 : Hid (js.length ≤ 4) := h4
  go_enter Try.func6, Try.ntmps6
  go_wp2
  clear h4
  go_loopw [3] (fun i wr => ∃ k : Nat, k ≤ js.length ∧ i = .int .i64 k ∧ Hid ((L.take k).all opsB = true) ∧ Below w.heap.size w wr) (fun i _ => js.length - (intOf i).toNat)
  case atStart => exact ⟨0, Nat.zero_le _, rfl, (show (L.take 0).all opsB = true by simp), Below.refl _ _⟩
  case round =>
    obtain ⟨k, hk, rfl, hall, hbl⟩ := hrel
    by_cases hlt : k < js.length
    · obtain ⟨b, off, rfl, c0, hrz, hlz⟩ := HC.out wr hbl k hlt
      have HH1 : Hid (opsB (js.getD k zeroJ).ops = false → R = false) := fun h => HHIT.out k hlt h
      have HH2 : Hid (opsB (js.getD k zeroJ).ops = true → (L.take (k + 1)).all opsB = true) := fun h => HSTEP.out k hlt hall.out h
      have HCZ : Hid (∀ u, Below w.heap.size w u → u.cell? ⟨b, off + k, none⟩ = some (js.getD k zeroJ).cell ∧ ReadsQ u (js.getD k zeroJ).a (js.getD k zeroJ).ops) := fun u hu => by
        obtain ⟨b', off', ha, h1, h2, _⟩ := HC.out u hu k hlt
        cases ha
        exact ⟨h1, h2⟩
      clear HC HHIT HSTEP HEND hall hrz
      generalize js.getD k zeroJ = z at *
      simp only [JobA.cell] at c0 HCZ
      by_cases h6 : z.ops.length ≤ 6
      case neg =>
        have HR : Hid (R = false) := HH1.out (opsB_long h6)
        clear HH1 HH2 HCZ
        go_wp2
        go_ret
        exact ⟨ret_bool HR.out.symm, hbl⟩
      have HQ1 : Hid (∀ m, m < z.ops.length → opB (z.ops.getD m zeroQ) = false → R = false) := fun m hm h => HH1.out (opsB_hit hm h)
      have HQ2 : Hid (∀ m, m < z.ops.length → (z.ops.take m).all opB = true → opB (z.ops.getD m zeroQ) = true → (z.ops.take (m + 1)).all opB = true) := fun m hm h h1 => all_step hm h h1
      have HQ3 : Hid (∀ m, ¬ m < z.ops.length → (z.ops.take m).all opB = true → (L.take (k + 1)).all opsB = true) := fun m hm h => HH2.out (opsB_end hm h h6)
      have HQC : Hid (∀ u, Below w.heap.size w u → ∀ m, m < z.ops.length → ∃ b2 o2, z.a = some ⟨b2, o2, none⟩ ∧ u.cell? ⟨b2, o2 + m * 3, none⟩ = some (.int .i64 (z.ops.getD m zeroQ).kd) ∧ u.cell? ⟨b2, o2 + m * 3 + 1, none⟩ = some (.int .i64 (z.ops.getD m zeroQ).oid) ∧ u.cell? ⟨b2, o2 + m * 3 + 2, none⟩ = some (.int .i64 (z.ops.getD m zeroQ).num)) := fun u hu m hm => by
        obtain ⟨b2, o2, ha, hc⟩ := (HCZ.out u hu).2 (by intro e; rw [e] at hm; simp at hm)
        exact ⟨b2, o2, ha, hc m hm⟩
      have HCC : Hid (∀ u, Below w.heap.size w u → u.cell? ⟨b, off + k, none⟩ = some (.slice z.a z.ops.length z.c)) := fun u hu => (HCZ.out u hu).1
      clear HH1 HH2 HCZ
      go_wp2_with fail
      go_loopw [4] (fun i wq => ∃ m : Nat, m ≤ z.ops.length ∧ i = .int .i64 m ∧ Hid ((z.ops.take m).all opB = true) ∧ Below w.heap.size w wq) (fun i _ => z.ops.length - (intOf i).toNat)
      case atStart => exact ⟨0, Nat.zero_le _, rfl, (show (z.ops.take 0).all opB = true by simp), hbl⟩
      case round =>
        obtain ⟨m, hm, rfl, hallm, hbm⟩ := hrel
        have cc := HCC.out _ hbm
        by_cases hltm : m < z.ops.length
        · obtain ⟨b2, o2, ha, d0, d1, d2⟩ := HQC.out _ hbm m hltm
          have HH1 : Hid (opB (z.ops.getD m zeroQ) = false → R = false) := fun h => HQ1.out m hltm h
          have HH2 : Hid (opB (z.ops.getD m zeroQ) = true → (z.ops.take (m + 1)).all opB = true) := fun h => HQ2.out m hltm hallm.out h
          rw [ha] at cc
          clear ha HQC HQ1 HQ2 HQ3 hallm c0 HCC
          generalize z.ops.getD m zeroQ = y at *
          have C := l10Op_any y wr
          generalize opB y = yb at *
          cases yb with
          | false =>
            have HR : Hid (R = false) := HH1.out rfl
            clear HH1 HH2
            go_wp2_with fail
            refine C.mono ?_
            rintro e w1 ⟨rfl, hb1⟩
            go_wp2
            go_ret
            exact ⟨ret_bool HR.out.symm, hbm.trans (hb1.mono hbm.size)⟩
          | true =>
            have HN : Hid ((z.ops.take (m + 1)).all opB = true) := HH2.out rfl
            clear HH1 HH2
            go_wp2_with fail
            refine C.mono ?_
            rintro e w1 ⟨rfl, hb1⟩
            have hB1 : Below w.heap.size w w1 := hbm.trans (hb1.mono hbm.size)
            clear C hb1 hbm d0 d1 d2 cc
            go_wp2_with fail
            go_roundw
            case rel => exact ⟨m + 1, by omega, by go_num, HN, hB1⟩
            case measure => simp [intOf]; omega
        · have HN : Hid ((L.take (k + 1)).all opsB = true) := HQ3.out m hltm hallm.out
          clear HQC HQ1 HQ2 HQ3 hallm c0 HCC
          go_wp2_with fail
          go_roundw
          case rel => exact ⟨k + 1, by omega, by go_num, HN, hbm⟩
          case measure => simp [intOf]; omega
    · have HR : Hid (R = true) := HEND.out k hlt hall.out H4.out
      clear HC HHIT HSTEP HEND hall
      go_wp2
      go_ret
      exact ⟨ret_bool HR.out.symm, hbl⟩
end Go.Proofs.Ytelagcpkbcdpdaa
