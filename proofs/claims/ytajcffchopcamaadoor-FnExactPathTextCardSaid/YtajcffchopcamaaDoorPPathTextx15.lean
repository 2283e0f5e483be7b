/- Several texts in one, in their order. -/
import Derived.Test.YtajcffchopcamaaDoorPPathTextx14
import Derived.Test.YtajcffchopcamaaDoorPPathTextx12
import Derived.Lib.ItoaNum
import Derived.Lib.Join
/- The text of a path; the walk of spec.PathText. -/
namespace Go.Proofs.YtajcffchopcamaaDoor
open Go.RowKit

def stepText (s : StepV) : List Int := if s.kd = 1 then [46] ++ numText s.num else if s.kd = 2 then [46, 42] else if s.kd = 3 then [46, 42, 42] else if s.kd = 4 then ([91, 107, 61] ++ numText s.num) ++ [93] else ([91, 105, 62] ++ numText s.num) ++ [93]
/-- The text of the first k steps. -/
def pathTo (x : Int) (T : List StepV) (k : Nat) : List Int := numText x ++ (T.take k).flatMap stepText
def pathText (x : Int) (T : List StepV) : List Int := if pathB x T then pathTo x T T.length else []

theorem stepB_num {s : StepV} (h : stepB s = true) : -1000000000 ≤ s.num ∧ s.num ≤ 1000000000 := by
  unfold stepB at h
  repeat' split at h
  all_goals simp [inB] at h
  all_goals omega
theorem stepB_kd {s : StepV} (h : stepB s = true) : s.kd = 1 ∨ s.kd = 2 ∨ s.kd = 3 ∨ s.kd = 4 ∨ s.kd = 5 := by
  unfold stepB at h
  repeat' split at h
  all_goals simp [*] at h ⊢
theorem stepText_len {s : StepV} (h : stepB s = true) : (stepText s).length ≤ 15 := by
  have := num_len _ (stepB_num h)
  unfold stepText
  repeat' split
  all_goals simp
  all_goals omega
theorem pathTo_step (x : Int) (T : List StepV) {k : Nat} (hk : k < T.length) : pathTo x T (k + 1) = pathTo x T k ++ stepText (T.getD k zeroPh) := by
  have e : T.take (k + 1) = T.take k ++ [T.getD k zeroPh] := by rw [List.take_add_one]; simp [List.getD, hk]
  unfold pathTo
  rw [e, List.flatMap_append]
  simp
theorem pathB_info {x : Int} {T : List StepV} (h : pathB x T = true) : (-1000000000 ≤ x ∧ x ≤ 1000000000) ∧ T.length ≤ 8 ∧ ∀ k, k < T.length → stepB (T.getD k zeroPh) = true := by
  simp only [pathB, inB, Bool.and_eq_true, List.all_eq_true, decide_eq_true_eq] at h
  refine ⟨by omega, h.2.2, fun k hk => h.1 _ (by simp [List.getD, hk])⟩
theorem pathTo_len {x : Int} {T : List StepV} (h : pathB x T = true) (k : Nat) (hk : k ≤ T.length) : (pathTo x T k).length ≤ 11 + 15 * k := by
  obtain ⟨hx, _, hs⟩ := pathB_info h
  induction k with
  | zero => have := num_len x hx; simp [pathTo]; omega
  | succ k ih =>
    rw [pathTo_step x T hk, List.length_append]
    have := ih (by omega)
    have := stepText_len (hs k hk)
    omega

set_option maxHeartbeats 2000000 in
set_option maxRecDepth 100000 in
theorem specPathText_any (x : Int) (T : List StepV) (a : Option Addr) (c : Nat) (w : World) (hr : ReadsPh w a T) (hl : T.length ≤ 1099511627776) :
    Calls Tryd.prog 6 #[.agg #[.int .i64 x, .slice a T.length c]] w fun e w' => e = .returned (.string (strOf (pathText x T))) ∧ Below w.heap.size w w' := by
  obtain ⟨W, hW, b0, hbW, hsW⟩ := boxes1 w [.int .i64 x, .slice a T.length c] 29
  have HOK : Hid (Calls Tryd.prog 15 #[.agg #[.int .i64 x, .slice a T.length c]] W fun e w' => e = .returned (.bool (pathB x T)) ∧ Below W.heap.size W w') := specPathOk_any x T a c W (hr.below hbW) hl
  have HC : Hid (∀ u, Below W.heap.size W u → (u.cell? ⟨w.heap.size, 0, none⟩ = some (.int .i64 x) ∧ u.cell? ⟨w.heap.size, 1, none⟩ = some (.slice a T.length c)) ∧ ∀ k, k < T.length → ∃ b off, a = some ⟨b, off, none⟩ ∧ u.cell? ⟨b, off + k * 2, none⟩ = some (.int .i64 (T.getD k zeroPh).kd) ∧ u.cell? ⟨b, off + k * 2 + 1, none⟩ = some (.int .i64 (T.getD k zeroPh).num)) := fun u hu => by
    refine ⟨⟨(b0.below hu b0.lt).cell 0 _ rfl, (b0.below hu b0.lt).cell 1 _ rfl⟩, fun k hk => ?_⟩
    obtain ⟨b, off, ha, hc⟩ := ((hr.below hbW).below hu) (by intro e; rw [e] at hk; simp at hk)
    exact ⟨b, off, ha, hc k hk⟩
  clear hr b0 hsW
  obtain ⟨⟨q0, q1⟩, -⟩ := HC.out W (Below.refl _ _)
  cases hB : pathB x T with
  | false =>
    have HT : Hid (strOf (pathText x T) = ⟨#[]⟩) := by rw [Hid, pathText, if_neg (by rw [hB]; decide)]; rfl
    have C := HOK.out
    rw [hB] at C
    clear HOK hB HC
    generalize strOf (pathText x T) = R at *
    go_enter Tryd.func6, Tryd.ntmps6
    go_upto_region 1 with fail
    rw [hW.out]
    clear hW
    go_wp2_with fail
    refine C.mono ?_
    rintro e w1 ⟨rfl, hb1⟩
    go_wp2
    go_ret
    exact ⟨by have h := HT.out; subst h; rfl, hbW.trans (hb1.mono hbW.size)⟩
  | true =>
    obtain ⟨hx, h8, hs⟩ := pathB_info hB
    have HT : Hid (pathText x T = pathTo x T T.length) := by rw [Hid, pathText, if_pos hB]
    have HLEN : Hid (∀ k, k ≤ T.length → (strOf (pathTo x T k)).size ≤ 11 + 15 * k) := fun k hk => by rw [strOf_size]; exact pathTo_len hB k hk
    have HS : Hid (∀ k, k < T.length → stepB (T.getD k zeroPh) = true) := hs
    have HX : Hid (∀ u, Calls Tryd.prog 16 #[.int .i64 x] u fun e w' => e = .returned (.string (strOf (numText x))) ∧ Below u.heap.size u w') := fun u => l2Text_any x u hx
    have H0 : Hid (strOf (numText x) = strOf (pathTo x T 0)) := by simp [Hid, pathTo]
    have HST : Hid (∀ k, k < T.length → strOf (pathTo x T (k + 1)) = strOf (pathTo x T k) ++ strOf (stepText (T.getD k zeroPh))) := fun k hk => by rw [pathTo_step x T hk, strOf_append]
    have C := HOK.out
    rw [hB] at C
    clear HOK hB hs
    have hz0 : (strOf (numText x)).size ≤ 11 := by rw [strOf_size]; exact num_len x hx
    clear hx
    generalize strOf (numText x) = S0 at *
    go_enter Tryd.func6, Tryd.ntmps6
    go_upto_region 1 with fail
    rw [hW.out]
    clear hW
    go_wp2_with fail
    refine C.mono ?_
    rintro e w1 ⟨rfl, hb1⟩
    clear C
    obtain ⟨⟨p0, p1⟩, -⟩ := HC.out w1 hb1
    have CX := HX.out w1
    clear HX
    go_wp2_with fail
    refine CX.mono ?_
    rintro e w2 ⟨rfl, hb2⟩
    have hB2 : Below W.heap.size W w2 := hb1.trans (hb2.mono hb1.size)
    clear CX hb1 hb2 p0 p1 q0 q1
    go_wp2_with fail
    go_loopw [3, 4] (fun s i wr => ∃ (S : ByteArray) (k : Nat), s = .string S ∧ i = .int .i64 k ∧ k ≤ T.length ∧ S.size ≤ 11 + 15 * k ∧ Hid (S = strOf (pathTo x T k)) ∧ Below W.heap.size W wr) (fun _ i _ => T.length - (intOf i).toNat)
    case atStart => exact ⟨S0, 0, rfl, rfl, Nat.zero_le _, by omega, H0.out, hB2⟩
    case round =>
      obtain ⟨S, k, rfl, rfl, hk, hsz, hS, hbl⟩ := hrel
      obtain ⟨⟨p0, p1⟩, hst⟩ := HC.out wr hbl
      by_cases hlt : k < T.length
      · obtain ⟨b, off, rfl, c0, c1⟩ := hst k hlt
        have hsb := HS.out k hlt
        have hnb := stepB_num hsb
        have HE : Hid (S ++ strOf (stepText (T.getD k zeroPh)) = strOf (pathTo x T (k + 1))) := by rw [Hid, HST.out k hlt, hS.out]
        have hes : (strOf (pathTo x T (k + 1))).size ≤ 11 + 15 * (k + 1) := HLEN.out (k + 1) hlt
        have HC2 : Hid (∀ u, Below W.heap.size W u → (u.cell? ⟨w.heap.size, 0, none⟩ = some (.int .i64 x) ∧ u.cell? ⟨w.heap.size, 1, none⟩ = some (.slice (some ⟨b, off, none⟩) T.length c)) ∧ u.cell? ⟨b, off + k * 2, none⟩ = some (.int .i64 (T.getD k zeroPh).kd)) := fun u hu => by
          obtain ⟨hh, h2⟩ := HC.out u hu
          obtain ⟨b', off', e, d0, _⟩ := h2 k hlt
          cases e
          exact ⟨hh, d0⟩
        have hkd := stepB_kd hsb
        have hts : (strOf (numText (T.getD k zeroPh).num)).size ≤ 11 := by rw [strOf_size]; exact num_len _ hnb
        have C := l2Text_any (T.getD k zeroPh).num wr hnb
        clear HC HS HST HLEN hS hst HT H0 hsb hnb
        generalize T.getD k zeroPh = z at *
        generalize hN : strOf (pathTo x T (k + 1)) = N at *
        have HN : Hid (N = strOf (pathTo x T (k + 1))) := hN.symm
        clear hN
        obtain ⟨kd, num⟩ := z
        simp only at *
        go_wp2_with fail
        refine C.mono ?_
        rintro e w3 ⟨rfl, hb3⟩
        have hB3 : Below W.heap.size W w3 := hbl.trans (hb3.mono hbl.size)
        clear C hb3 p0 p1 c0 c1
        obtain ⟨⟨p0, p1⟩, c0⟩ := HC2.out w3 hB3
        clear HC2
        rcases hkd with rfl | rfl | rfl | rfl | rfl
        · have HF : Hid ((S ++ ⟨#[46]⟩) ++ strOf (numText num) = N) := by
            rw [Hid, ← HE.out, show stepText ⟨1, num⟩ = [46] ++ numText num from by simp [stepText]]
            simp only [strOf_append, ByteArray.append_assoc]
            rfl
          clear HE
          generalize strOf (numText num) = NT at *
          go_wp2
          go_roundw
          case rel => exact ⟨(S ++ ⟨#[46]⟩) ++ NT, k + 1, rfl, by go_num, by omega, by rw [HF.out]; exact hes, HF.out.trans HN.out, hB3⟩
          case measure => simp [intOf]; omega
        · have HF : Hid (S ++ ⟨#[46, 42]⟩ = N) := by
            rw [Hid, ← HE.out, show stepText ⟨2, num⟩ = [46, 42] from by simp [stepText]]
            rfl
          clear HE
          generalize strOf (numText num) = NT at *
          go_wp2
          go_roundw
          case rel => exact ⟨S ++ ⟨#[46, 42]⟩, k + 1, rfl, by go_num, by omega, by rw [HF.out]; exact hes, HF.out.trans HN.out, hB3⟩
          case measure => simp [intOf]; omega
        · have HF : Hid (S ++ ⟨#[46, 42, 42]⟩ = N) := by
            rw [Hid, ← HE.out, show stepText ⟨3, num⟩ = [46, 42, 42] from by simp [stepText]]
            rfl
          clear HE
          generalize strOf (numText num) = NT at *
          go_wp2
          go_roundw
          case rel => exact ⟨S ++ ⟨#[46, 42, 42]⟩, k + 1, rfl, by go_num, by omega, by rw [HF.out]; exact hes, HF.out.trans HN.out, hB3⟩
          case measure => simp [intOf]; omega
        · have HF : Hid (((S ++ ⟨#[91, 107, 61]⟩) ++ strOf (numText num)) ++ ⟨#[93]⟩ = N) := by
            rw [Hid, ← HE.out, show stepText ⟨4, num⟩ = ([91, 107, 61] ++ numText num) ++ [93] from by simp [stepText]]
            simp only [strOf_append, ByteArray.append_assoc]
            rfl
          clear HE
          generalize strOf (numText num) = NT at *
          go_wp2
          go_roundw
          case rel => exact ⟨((S ++ ⟨#[91, 107, 61]⟩) ++ NT) ++ ⟨#[93]⟩, k + 1, rfl, by go_num, by omega, by rw [HF.out]; exact hes, HF.out.trans HN.out, hB3⟩
          case measure => simp [intOf]; omega
        · have HF : Hid (((S ++ ⟨#[91, 105, 62]⟩) ++ strOf (numText num)) ++ ⟨#[93]⟩ = N) := by
            rw [Hid, ← HE.out, show stepText ⟨5, num⟩ = ([91, 105, 62] ++ numText num) ++ [93] from by simp [stepText]]
            simp only [strOf_append, ByteArray.append_assoc]
            rfl
          clear HE
          generalize strOf (numText num) = NT at *
          go_wp2
          go_roundw
          case rel => exact ⟨((S ++ ⟨#[91, 105, 62]⟩) ++ NT) ++ ⟨#[93]⟩, k + 1, rfl, by go_num, by omega, by rw [HF.out]; exact hes, HF.out.trans HN.out, hB3⟩
          case measure => simp [intOf]; omega
      · have HR : Hid (S = strOf (pathText x T)) := by rw [Hid, hS.out, HT.out, show k = T.length from by omega]
        clear HC HS HST HLEN hS hst HT H0
        go_wp2
        go_ret
        exact ⟨by rw [← HR.out]; rfl, hbW.trans (hbl.mono hbW.size)⟩
end Go.Proofs.YtajcffchopcamaaDoor

/- The walks of impl.stepOk, allStepsOk, PathOk. -/
namespace Go.Proofs.YtajcffchopcamaaDoor
open Go.RowKit

set_option maxHeartbeats 400000 in
theorem oidOk_path (x : Int) (w : World) : Calls Tryd.prog 31 #[.int .i64 x] w fun e w' => e = .returned (.bool (inB x 1 31)) ∧ w' = w := by
  by_cases h1 : 1 ≤ x
  · by_cases h2 : x ≤ 31
    · have HB : Hid (inB x 1 31 = true) := by simp [Hid, inB]; omega
      go_enter Tryd.func31, Tryd.ntmps31
      go_wp2
      go_ret
      exact ⟨ret_bool HB.out.symm, rfl⟩
    · have HB : Hid (inB x 1 31 = false) := by simp [Hid, inB]; omega
      go_enter Tryd.func31, Tryd.ntmps31
      go_wp2
      go_ret
      exact ⟨ret_bool HB.out.symm, rfl⟩
  · have HB : Hid (inB x 1 31 = false) := by simp [Hid, inB]; omega
    go_enter Tryd.func31, Tryd.ntmps31
    go_wp2
    go_ret
    exact ⟨ret_bool HB.out.symm, rfl⟩

set_option maxHeartbeats 1000000 in
set_option maxRecDepth 100000 in
theorem implStepOk_any (s : StepV) (w : World) :
    Calls Tryd.prog 38 #[.agg #[.int .i64 s.kd, .int .i64 s.num]] w fun e w' => e = .returned (.bool (stepB s)) ∧ Below w.heap.size w w' := by
  obtain ⟨x, y⟩ := s
  obtain ⟨W, hW, b0, hbW, hsW⟩ := boxes1 w [.int .i64 x, .int .i64 y] 41
  have q0 := b0.cell 0 _ rfl
  have q1 := b0.cell 1 _ rfl
  clear b0 hsW
  simp only [stepB]
  by_cases h1 : x = 1
  · subst h1
    rw [if_pos rfl]
    by_cases g1 : 0 ≤ y
    · by_cases g2 : y ≤ 9
      · have HB : Hid (inB y 0 9 = true) := by simp [Hid, inB]; omega
        generalize inB y 0 9 = R at *
        go_enter Tryd.func38, Tryd.ntmps38
        go_upto_region 1 with fail
        rw [hW.out]
        clear hW
        go_wp2
        go_ret
        exact ⟨ret_bool HB.out.symm, hbW⟩
      · have HB : Hid (inB y 0 9 = false) := by simp [Hid, inB]; omega
        generalize inB y 0 9 = R at *
        go_enter Tryd.func38, Tryd.ntmps38
        go_upto_region 1 with fail
        rw [hW.out]
        clear hW
        go_wp2
        go_ret
        exact ⟨ret_bool HB.out.symm, hbW⟩
    · have HB : Hid (inB y 0 9 = false) := by simp [Hid, inB]; omega
      generalize inB y 0 9 = R at *
      go_enter Tryd.func38, Tryd.ntmps38
      go_upto_region 1 with fail
      rw [hW.out]
      clear hW
      go_wp2
      go_ret
      exact ⟨ret_bool HB.out.symm, hbW⟩
  rw [if_neg h1]
  have k1 : (x == 1) = false := by simpa using h1
  by_cases h2 : x = 2
  · subst h2
    rw [if_pos rfl]
    go_enter Tryd.func38, Tryd.ntmps38
    go_upto_region 1 with fail
    rw [hW.out]
    clear hW
    go_wp2
    go_ret
    exact ⟨rfl, hbW⟩
  rw [if_neg h2]
  have k2 : (x == 2) = false := by simpa using h2
  by_cases h3 : x = 3
  · subst h3
    rw [if_pos rfl]
    go_enter Tryd.func38, Tryd.ntmps38
    go_upto_region 1 with fail
    rw [hW.out]
    clear hW
    go_wp2
    go_ret
    exact ⟨rfl, hbW⟩
  rw [if_neg h3]
  have k3 : (x == 3) = false := by simpa using h3
  by_cases h4 : x = 4
  · subst h4
    rw [if_pos rfl]
    by_cases g1 : 1 ≤ y
    · by_cases g2 : y ≤ 99
      · have HB : Hid (inB y 1 99 = true) := by simp [Hid, inB]; omega
        generalize inB y 1 99 = R at *
        go_enter Tryd.func38, Tryd.ntmps38
        go_upto_region 1 with fail
        rw [hW.out]
        clear hW
        go_wp2
        go_ret
        exact ⟨ret_bool HB.out.symm, hbW⟩
      · have HB : Hid (inB y 1 99 = false) := by simp [Hid, inB]; omega
        generalize inB y 1 99 = R at *
        go_enter Tryd.func38, Tryd.ntmps38
        go_upto_region 1 with fail
        rw [hW.out]
        clear hW
        go_wp2
        go_ret
        exact ⟨ret_bool HB.out.symm, hbW⟩
    · have HB : Hid (inB y 1 99 = false) := by simp [Hid, inB]; omega
      generalize inB y 1 99 = R at *
      go_enter Tryd.func38, Tryd.ntmps38
      go_upto_region 1 with fail
      rw [hW.out]
      clear hW
      go_wp2
      go_ret
      exact ⟨ret_bool HB.out.symm, hbW⟩
  rw [if_neg h4]
  have k4 : (x == 4) = false := by simpa using h4
  by_cases h5 : x = 5
  · subst h5
    rw [if_pos rfl]
    by_cases g1 : -1000000 ≤ y
    · by_cases g2 : y ≤ 1000000
      · have HB : Hid (inB y (-1000000) 1000000 = true) := by simp [Hid, inB]; omega
        generalize inB y (-1000000) 1000000 = R at *
        go_enter Tryd.func38, Tryd.ntmps38
        go_upto_region 1 with fail
        rw [hW.out]
        clear hW
        go_wp2
        go_ret
        exact ⟨ret_bool HB.out.symm, hbW⟩
      · have HB : Hid (inB y (-1000000) 1000000 = false) := by simp [Hid, inB]; omega
        generalize inB y (-1000000) 1000000 = R at *
        go_enter Tryd.func38, Tryd.ntmps38
        go_upto_region 1 with fail
        rw [hW.out]
        clear hW
        go_wp2
        go_ret
        exact ⟨ret_bool HB.out.symm, hbW⟩
    · have HB : Hid (inB y (-1000000) 1000000 = false) := by simp [Hid, inB]; omega
      generalize inB y (-1000000) 1000000 = R at *
      go_enter Tryd.func38, Tryd.ntmps38
      go_upto_region 1 with fail
      rw [hW.out]
      clear hW
      go_wp2
      go_ret
      exact ⟨ret_bool HB.out.symm, hbW⟩
  rw [if_neg h5]
  have k5 : (x == 5) = false := by simpa using h5
  clear h1 h2 h3 h4 h5
  go_enter Tryd.func38, Tryd.ntmps38
  go_upto_region 1 with fail
  rw [hW.out]
  clear hW
  go_wp2
  go_ret
  exact ⟨rfl, hbW⟩

set_option maxHeartbeats 1000000 in
set_option maxRecDepth 100000 in
theorem allStepsOk_any (a : Option Addr) (c : Nat) (ls : List StepV) (w : World) (hr : ReadsPh w a ls) (hl : ls.length ≤ 1099511627776) :
    Calls Tryd.prog 32 #[.slice a ls.length c] w fun e w' => e = .returned (.bool (ls.all stepB)) ∧ Below w.heap.size w w' := by
  have HC : Hid (∀ u, Below w.heap.size w u → ∀ k, k < ls.length → ∃ b off, a = some ⟨b, off, none⟩ ∧ u.cell? ⟨b, off + k * 2, none⟩ = some (.int .i64 (ls.getD k zeroPh).kd) ∧ u.cell? ⟨b, off + k * 2 + 1, none⟩ = some (.int .i64 (ls.getD k zeroPh).num)) := fun u hu k hk => by
    obtain ⟨b, off, ha, hc⟩ := (hr.below hu) (by intro e; rw [e] at hk; simp at hk)
    exact ⟨b, off, ha, hc k hk⟩
  have HHIT : Hid (∀ k, k < ls.length → stepB (ls.getD k zeroPh) = false → ls.all stepB = false) := fun k hk h => all_hit (k := k) hk h
  have HSTEP : Hid (∀ k, k < ls.length → (ls.take k).all stepB = true → stepB (ls.getD k zeroPh) = true → (ls.take (k + 1)).all stepB = true) := fun k hk h h1 => all_step hk h h1
  have HEND : Hid (∀ k, ¬ k < ls.length → (ls.take k).all stepB = true → ls.all stepB = true) := fun k hk h => all_end hk h
  clear hr
  generalize ls.all stepB = R at *
  go_enter Tryd.func32, Tryd.ntmps32
  go_wp2
  go_loopw [7] (fun i wr => ∃ k : Nat, k ≤ ls.length ∧ i = .int .i64 k ∧ Hid ((ls.take k).all stepB = true) ∧ Below w.heap.size w wr) (fun i _ => ls.length - (intOf i).toNat)
  case atStart => exact ⟨0, Nat.zero_le _, rfl, (show (ls.take 0).all stepB = true by simp), Below.refl _ _⟩
  case round =>
    obtain ⟨k, hk, rfl, hall, hbl⟩ := hrel
    by_cases hlt : k < ls.length
    · obtain ⟨b, off, rfl, c0, c1⟩ := HC.out wr hbl k hlt
      have HH1 : Hid (stepB (ls.getD k zeroPh) = false → R = false) := fun h => HHIT.out k hlt h
      have HH2 : Hid (stepB (ls.getD k zeroPh) = true → (ls.take (k + 1)).all stepB = true) := fun h => HSTEP.out k hlt hall.out h
      clear HC HHIT HSTEP HEND hall
      generalize ls.getD k zeroPh = z at *
      obtain ⟨V, hV, bz, hbV, hsV⟩ := boxes1 wr [.int .i64 z.kd, .int .i64 z.num] 41
      have q0 := bz.cell 0 _ rfl
      have q1 := bz.cell 1 _ rfl
      have C := implStepOk_any z V
      have hB : Below w.heap.size w V := hbl.trans (hbV.mono hbl.size)
      generalize stepB z = zb at *
      clear bz hsV hbV
      cases zb with
      | false =>
        have HR : Hid (R = false) := HH1.out rfl
        clear HH1 HH2
        go_wp2_with fail
        rw [hV.out]
        go_wp2_with fail
        refine C.mono ?_
        rintro e w1 ⟨rfl, hb1⟩
        go_wp2
        go_ret
        exact ⟨ret_bool HR.out.symm, hB.trans (hb1.mono hB.size)⟩
      | true =>
        have HN : Hid ((ls.take (k + 1)).all stepB = true) := HH2.out rfl
        clear HH1 HH2
        go_wp2_with fail
        rw [hV.out]
        go_wp2_with fail
        refine C.mono ?_
        rintro e w1 ⟨rfl, hb1⟩
        have hB1 : Below w.heap.size w w1 := hB.trans (hb1.mono hB.size)
        clear C hV hb1 hB
        go_wp2_with fail
        go_roundw
        case rel => exact ⟨k + 1, by omega, by go_num, HN, hB1⟩
        case measure => simp [intOf]; omega
    · have HR : Hid (R = true) := HEND.out k hlt hall.out
      clear HC HHIT HSTEP HEND hall
      go_wp2
      go_ret
      exact ⟨ret_bool HR.out.symm, hbl⟩

set_option maxHeartbeats 1000000 in
set_option maxRecDepth 100000 in
theorem implPathOk_any (x : Int) (T : List StepV) (a : Option Addr) (c : Nat) (w : World) (hr : ReadsPh w a T) (hl : T.length ≤ 1099511627776) :
    Calls Tryd.prog 18 #[.agg #[.int .i64 x, .slice a T.length c]] w fun e w' => e = .returned (.bool (pathB x T)) ∧ Below w.heap.size w w' := by
  obtain ⟨W, hW, b0, hbW, hsW⟩ := boxes1 w [.int .i64 x, .slice a T.length c] 29
  have q0 := b0.cell 0 _ rfl
  have q1 := b0.cell 1 _ rfl
  have CO := oidOk_path x W
  have CA := allStepsOk_any a c T W (hr.below hbW) hl
  have HB : Hid (pathB x T = (T.all stepB && (inB x 1 31 && decide (T.length ≤ 8)))) := rfl
  clear b0 hsW hr
  generalize pathB x T = R at *
  generalize inB x 1 31 = I at *
  generalize T.all stepB = A at *
  cases I with
  | false =>
    have HR : Hid (R = false) := by rw [Hid, HB.out]; cases A <;> rfl
    clear HB CA
    go_enter Tryd.func18, Tryd.ntmps18
    go_upto_region 1 with fail
    rw [hW.out]
    clear hW
    go_wp2_with fail
    refine CO.mono ?_
    rintro e w1 ⟨rfl, rfl⟩
    go_wp2
    go_ret
    exact ⟨ret_bool HR.out.symm, hbW⟩
  | true =>
    by_cases h8 : T.length ≤ 8
    · have HR : Hid (R = A) := by rw [Hid, HB.out]; simp [h8]
      have k8 : (T.length : Int) ≤ 8 := by omega
      clear HB
      go_enter Tryd.func18, Tryd.ntmps18
      go_upto_region 1 with fail
      rw [hW.out]
      clear hW
      go_wp2_with fail
      refine CO.mono ?_
      rintro e w1 ⟨rfl, rfl⟩
      go_wp2_with fail
      refine CA.mono ?_
      rintro e w2 ⟨rfl, hb2⟩
      go_wp2
      go_ret
      exact ⟨ret_bool HR.out.symm, hbW.trans (hb2.mono hbW.size)⟩
    · have HR : Hid (R = false) := by rw [Hid, HB.out]; simp [h8]
      have k8 : ¬ (T.length : Int) ≤ 8 := by omega
      clear HB CA
      go_enter Tryd.func18, Tryd.ntmps18
      go_upto_region 1 with fail
      rw [hW.out]
      clear hW
      go_wp2_with fail
      refine CO.mono ?_
      rintro e w1 ⟨rfl, rfl⟩
      go_wp2
      go_ret
      exact ⟨ret_bool HR.out.symm, hbW⟩
end Go.Proofs.YtajcffchopcamaaDoor

/- Plain mathematics: the texts of numbers as the library says them. -/
namespace Go.Proofs.YtajcffchopcamaaDoor
open Go.RowKit

def b8 (z : Int) : UInt8 := UInt8.ofNat z.toNat
theorem strOf_b8 (l : List Int) : strOf l = ⟨(l.map b8).toArray⟩ := rfl

theorem dec_lib (n : Nat) : (decOf n).map b8 = Lib.decDigits n := by
  induction n using Nat.strongRecOn with
  | _ n ih =>
    by_cases h : n < 10
    · rw [decOf_small n h, Lib.decDigits, dif_pos h]
      show [UInt8.ofNat (((48 + n : Nat) : Int)).toNat] = _
      rw [Int.toNat_natCast]
    · rw [decOf_big n h, Lib.decDigits, dif_neg h, List.map_append, ih (n / 10) (by omega)]
      congr 1
theorem num_lib (z : Int) : (numText z).map b8 = Lib.itoa z := by
  unfold numText Lib.itoa
  split
  · rw [List.map_cons, dec_lib, show (-z).toNat = z.natAbs from by omega]; rfl
  · exact dec_lib _
theorem itoa_str (z : Int) : (⟨(Lib.itoa z).toArray⟩ : ByteArray) = strOf (numText z) := by rw [strOf_b8, num_lib]

end Go.Proofs.YtajcffchopcamaaDoor
