/- Several texts in one, in their order. -/
import Derived.Test.YtajcffchopcamaaDoorPParsePathx23
import Derived.Test.YtajcffchopcamaaDoorPParsePathx12
import Derived.Test.YtajcffchopcamaaDoorPParsePathx14
import Derived.Test.YtajcffchopcamaaDoorPParsePathx13
/- The text of a path; the walk of spec.PathText. -/
namespace Go.Proofs.YtajcffchopcamaaDoor
open Go.RowKit

def stepText (s : StepV) : List Int := if s.kd = 1 then [46] ++ numText s.num else if s.kd = 2 then [46, 42] else if s.kd = 3 then [46, 42, 42] else if s.kd = 4 then ([91, 107, 61] ++ numText s.num) ++ [93] else ([91, 105, 62] ++ numText s.num) ++ [93]
/-- The text of the first k steps. -/
def pathTo (x : Int) (T : List StepV) (k : Nat) : List Int := numText x ++ (T.take k).flatMap stepText
def pathText (x : Int) (T : List StepV) : List Int := if pathB x T then pathTo x T T.length else []

theorem stepB_num {s : StepV} (h : stepB s = true) : -1000000000 ≤ s.num ∧ s.num ≤ 1000000000 := by
  unfold stepB at h
  repeat' split at h
  all_goals simp [inB] at h
  all_goals omega
theorem stepB_kd {s : StepV} (h : stepB s = true) : s.kd = 1 ∨ s.kd = 2 ∨ s.kd = 3 ∨ s.kd = 4 ∨ s.kd = 5 := by
  unfold stepB at h
  repeat' split at h
  all_goals simp [*] at h ⊢
theorem stepText_len {s : StepV} (h : stepB s = true) : (stepText s).length ≤ 15 := by
  have := num_len _ (stepB_num h)
  unfold stepText
  repeat' split
  all_goals simp
  all_goals omega
theorem pathTo_step (x : Int) (T : List StepV) {k : Nat} (hk : k < T.length) : pathTo x T (k + 1) = pathTo x T k ++ stepText (T.getD k zeroPh) := by
  have e : T.take (k + 1) = T.take k ++ [T.getD k zeroPh] := by rw [List.take_add_one]; simp [List.getD, hk]
  unfold pathTo
  rw [e, List.flatMap_append]
  simp
theorem pathB_info {x : Int} {T : List StepV} (h : pathB x T = true) : (-1000000000 ≤ x ∧ x ≤ 1000000000) ∧ T.length ≤ 8 ∧ ∀ k, k < T.length → stepB (T.getD k zeroPh) = true := by
  simp only [pathB, inB, Bool.and_eq_true, List.all_eq_true, decide_eq_true_eq] at h
  refine ⟨by omega, h.2.2, fun k hk => h.1 _ (by simp [List.getD, hk])⟩
theorem pathTo_len {x : Int} {T : List StepV} (h : pathB x T = true) (k : Nat) (hk : k ≤ T.length) : (pathTo x T k).length ≤ 11 + 15 * k := by
  obtain ⟨hx, _, hs⟩ := pathB_info h
  induction k with
  | zero => have := num_len x hx; simp [pathTo]; omega
  | succ k ih =>
    rw [pathTo_step x T hk, List.length_append]
    have := ih (by omega)
    have := stepText_len (hs k hk)
    omega

set_option maxHeartbeats 2000000 in
set_option maxRecDepth 100000 in
theorem specPathText_any (x : Int) (T : List StepV) (a : Option Addr) (c : Nat) (w : World) (hr : ReadsPh w a T) (hl : T.length ≤ 1099511627776) :
    Calls Tryd.prog 6 #[.agg #[.int .i64 x, .slice a T.length c]] w fun e w' => e = .returned (.string (strOf (pathText x T))) ∧ Below w.heap.size w w' := by
  obtain ⟨W, hW, b0, hbW, hsW⟩ := boxes1 w [.int .i64 x, .slice a T.length c] 29
  have HOK : Hid (Calls Tryd.prog 15 #[.agg #[.int .i64 x, .slice a T.length c]] W fun e w' => e = .returned (.bool (pathB x T)) ∧ Below W.heap.size W w') := specPathOk_any x T a c W (hr.below hbW) hl
  have HC : Hid (∀ u, Below W.heap.size W u → (u.cell? ⟨w.heap.size, 0, none⟩ = some (.int .i64 x) ∧ u.cell? ⟨w.heap.size, 1, none⟩ = some (.slice a T.length c)) ∧ ∀ k, k < T.length → ∃ b off, a = some ⟨b, off, none⟩ ∧ u.cell? ⟨b, off + k * 2, none⟩ = some (.int .i64 (T.getD k zeroPh).kd) ∧ u.cell? ⟨b, off + k * 2 + 1, none⟩ = some (.int .i64 (T.getD k zeroPh).num)) := fun u hu => by
    refine ⟨⟨(b0.below hu b0.lt).cell 0 _ rfl, (b0.below hu b0.lt).cell 1 _ rfl⟩, fun k hk => ?_⟩
    obtain ⟨b, off, ha, hc⟩ := ((hr.below hbW).below hu) (by intro e; rw [e] at hk; simp at hk)
    exact ⟨b, off, ha, hc k hk⟩
  clear hr b0 hsW
  obtain ⟨⟨q0, q1⟩, -⟩ := HC.out W (Below.refl _ _)
  cases hB : pathB x T with
  | false =>
    have HT : Hid (strOf (pathText x T) = ⟨#[]⟩) := by rw [Hid, pathText, if_neg (by rw [hB]; decide)]; rfl
    have C := HOK.out
    rw [hB] at C
    clear HOK hB HC
    generalize strOf (pathText x T) = R at *
    go_enter Tryd.func6, Tryd.ntmps6
    go_upto_region 1 with fail
    rw [hW.out]
    clear hW
    go_wp2_with fail
    refine C.mono ?_
    rintro e w1 ⟨rfl, hb1⟩
    go_wp2
    go_ret
    exact ⟨by have h := HT.out; subst h; rfl, hbW.trans (hb1.mono hbW.size)⟩
  | true =>
    obtain ⟨hx, h8, hs⟩ := pathB_info hB
    have HT : Hid (pathText x T = pathTo x T T.length) := by rw [Hid, pathText, if_pos hB]
    have HLEN : Hid (∀ k, k ≤ T.length → (strOf (pathTo x T k)).size ≤ 11 + 15 * k) := fun k hk => by rw [strOf_size]; exact pathTo_len hB k hk
    have HS : Hid (∀ k, k < T.length → stepB (T.getD k zeroPh) = true) := hs
    have HX : Hid (∀ u, Calls Tryd.prog 16 #[.int .i64 x] u fun e w' => e = .returned (.string (strOf (numText x))) ∧ Below u.heap.size u w') := fun u => l2Text_any x u hx
    have H0 : Hid (strOf (numText x) = strOf (pathTo x T 0)) := by simp [Hid, pathTo]
    have HST : Hid (∀ k, k < T.length → strOf (pathTo x T (k + 1)) = strOf (pathTo x T k) ++ strOf (stepText (T.getD k zeroPh))) := fun k hk => by rw [pathTo_step x T hk, strOf_append]
    have C := HOK.out
    rw [hB] at C
    clear HOK hB hs
    have hz0 : (strOf (numText x)).size ≤ 11 := by rw [strOf_size]; exact num_len x hx
    clear hx
    generalize strOf (numText x) = S0 at *
    go_enter Tryd.func6, Tryd.ntmps6
    go_upto_region 1 with fail
    rw [hW.out]
    clear hW
    go_wp2_with fail
    refine C.mono ?_
    rintro e w1 ⟨rfl, hb1⟩
    clear C
    obtain ⟨⟨p0, p1⟩, -⟩ := HC.out w1 hb1
    have CX := HX.out w1
    clear HX
    go_wp2_with fail
    refine CX.mono ?_
    rintro e w2 ⟨rfl, hb2⟩
    have hB2 : Below W.heap.size W w2 := hb1.trans (hb2.mono hb1.size)
    clear CX hb1 hb2 p0 p1 q0 q1
    go_wp2_with fail
    go_loopw [3, 4] (fun s i wr => ∃ (S : ByteArray) (k : Nat), s = .string S ∧ i = .int .i64 k ∧ k ≤ T.length ∧ S.size ≤ 11 + 15 * k ∧ Hid (S = strOf (pathTo x T k)) ∧ Below W.heap.size W wr) (fun _ i _ => T.length - (intOf i).toNat)
    case atStart => exact ⟨S0, 0, rfl, rfl, Nat.zero_le _, by omega, H0.out, hB2⟩
    case round =>
      obtain ⟨S, k, rfl, rfl, hk, hsz, hS, hbl⟩ := hrel
      obtain ⟨⟨p0, p1⟩, hst⟩ := HC.out wr hbl
      by_cases hlt : k < T.length
      · obtain ⟨b, off, rfl, c0, c1⟩ := hst k hlt
        have hsb := HS.out k hlt
        have hnb := stepB_num hsb
        have HE : Hid (S ++ strOf (stepText (T.getD k zeroPh)) = strOf (pathTo x T (k + 1))) := by rw [Hid, HST.out k hlt, hS.out]
        have hes : (strOf (pathTo x T (k + 1))).size ≤ 11 + 15 * (k + 1) := HLEN.out (k + 1) hlt
        have HC2 : Hid (∀ u, Below W.heap.size W u → (u.cell? ⟨w.heap.size, 0, none⟩ = some (.int .i64 x) ∧ u.cell? ⟨w.heap.size, 1, none⟩ = some (.slice (some ⟨b, off, none⟩) T.length c)) ∧ u.cell? ⟨b, off + k * 2, none⟩ = some (.int .i64 (T.getD k zeroPh).kd)) := fun u hu => by
          obtain ⟨hh, h2⟩ := HC.out u hu
          obtain ⟨b', off', e, d0, _⟩ := h2 k hlt
          cases e
          exact ⟨hh, d0⟩
        have hkd := stepB_kd hsb
        have hts : (strOf (numText (T.getD k zeroPh).num)).size ≤ 11 := by rw [strOf_size]; exact num_len _ hnb
        have C := l2Text_any (T.getD k zeroPh).num wr hnb
        clear HC HS HST HLEN hS hst HT H0 hsb hnb
        generalize T.getD k zeroPh = z at *
        generalize hN : strOf (pathTo x T (k + 1)) = N at *
        have HN : Hid (N = strOf (pathTo x T (k + 1))) := hN.symm
        clear hN
        obtain ⟨kd, num⟩ := z
        simp only at *
        go_wp2_with fail
        refine C.mono ?_
        rintro e w3 ⟨rfl, hb3⟩
        have hB3 : Below W.heap.size W w3 := hbl.trans (hb3.mono hbl.size)
        clear C hb3 p0 p1 c0 c1
        obtain ⟨⟨p0, p1⟩, c0⟩ := HC2.out w3 hB3
        clear HC2
        rcases hkd with rfl | rfl | rfl | rfl | rfl
        · have HF : Hid ((S ++ ⟨#[46]⟩) ++ strOf (numText num) = N) := by
            rw [Hid, ← HE.out, show stepText ⟨1, num⟩ = [46] ++ numText num from by simp [stepText]]
            simp only [strOf_append, ByteArray.append_assoc]
            rfl
          clear HE
          generalize strOf (numText num) = NT at *
          go_wp2
          go_roundw
          case rel => exact ⟨(S ++ ⟨#[46]⟩) ++ NT, k + 1, rfl, by go_num, by omega, by rw [HF.out]; exact hes, HF.out.trans HN.out, hB3⟩
          case measure => simp [intOf]; omega
        · have HF : Hid (S ++ ⟨#[46, 42]⟩ = N) := by
            rw [Hid, ← HE.out, show stepText ⟨2, num⟩ = [46, 42] from by simp [stepText]]
            rfl
          clear HE
          generalize strOf (numText num) = NT at *
          go_wp2
          go_roundw
          case rel => exact ⟨S ++ ⟨#[46, 42]⟩, k + 1, rfl, by go_num, by omega, by rw [HF.out]; exact hes, HF.out.trans HN.out, hB3⟩
          case measure => simp [intOf]; omega
        · have HF : Hid (S ++ ⟨#[46, 42, 42]⟩ = N) := by
            rw [Hid, ← HE.out, show stepText ⟨3, num⟩ = [46, 42, 42] from by simp [stepText]]
            rfl
          clear HE
          generalize strOf (numText num) = NT at *
          go_wp2
          go_roundw
          case rel => exact ⟨S ++ ⟨#[46, 42, 42]⟩, k + 1, rfl, by go_num, by omega, by rw [HF.out]; exact hes, HF.out.trans HN.out, hB3⟩
          case measure => simp [intOf]; omega
        · have HF : Hid (((S ++ ⟨#[91, 107, 61]⟩) ++ strOf (numText num)) ++ ⟨#[93]⟩ = N) := by
            rw [Hid, ← HE.out, show stepText ⟨4, num⟩ = ([91, 107, 61] ++ numText num) ++ [93] from by simp [stepText]]
            simp only [strOf_append, ByteArray.append_assoc]
            rfl
          clear HE
          generalize strOf (numText num) = NT at *
          go_wp2
          go_roundw
          case rel => exact ⟨((S ++ ⟨#[91, 107, 61]⟩) ++ NT) ++ ⟨#[93]⟩, k + 1, rfl, by go_num, by omega, by rw [HF.out]; exact hes, HF.out.trans HN.out, hB3⟩
          case measure => simp [intOf]; omega
        · have HF : Hid (((S ++ ⟨#[91, 105, 62]⟩) ++ strOf (numText num)) ++ ⟨#[93]⟩ = N) := by
            rw [Hid, ← HE.out, show stepText ⟨5, num⟩ = ([91, 105, 62] ++ numText num) ++ [93] from by simp [stepText]]
            simp only [strOf_append, ByteArray.append_assoc]
            rfl
          clear HE
          generalize strOf (numText num) = NT at *
          go_wp2
          go_roundw
          case rel => exact ⟨((S ++ ⟨#[91, 105, 62]⟩) ++ NT) ++ ⟨#[93]⟩, k + 1, rfl, by go_num, by omega, by rw [HF.out]; exact hes, HF.out.trans HN.out, hB3⟩
          case measure => simp [intOf]; omega
      · have HR : Hid (S = strOf (pathText x T)) := by rw [Hid, hS.out, HT.out, show k = T.length from by omega]
        clear HC HS HST HLEN hS hst HT H0
        go_wp2
        go_ret
        exact ⟨by rw [← HR.out]; rfl, hbW.trans (hbl.mono hbW.size)⟩
end Go.Proofs.YtajcffchopcamaaDoor

/- Plain mathematics of a path's text: where its steps begin, and that it is one path's alone. -/
namespace Go.Proofs.YtajcffchopcamaaDoor

theorem num_nostop (n : Int) : ∀ z ∈ numText n, stopB z = false := by
  have hd : ∀ m : Nat, ∀ z ∈ decOf m, stopB z = false := fun m z hz => by
    have := isDig_bd (decOf_dig m z hz)
    simp [stopB]
    omega
  intro z hz
  unfold numText at hz
  split at hz
  · rcases List.mem_cons.1 hz with rfl | hz
    · rfl
    · exact hd _ z hz
  · exact hd _ z hz
theorem stepText_parts (s : StepV) : ∃ c R, stepText s = c :: R ∧ stopB c = true ∧ ∀ z ∈ R, stopB z = false := by
  have hn := num_nostop s.num
  unfold stepText
  repeat' split
  · exact ⟨46, numText s.num, rfl, rfl, hn⟩
  · exact ⟨46, [42], rfl, rfl, by simp [stopB]⟩
  · exact ⟨46, [42, 42], rfl, rfl, by simp [stopB]⟩
  · refine ⟨91, ([107, 61] ++ numText s.num) ++ [93], rfl, rfl, ?_⟩
    intro z hz
    simp only [List.mem_append, List.mem_cons, List.not_mem_nil, or_false] at hz
    rcases hz with ((rfl | rfl) | hz) | rfl
    · rfl
    · rfl
    · exact hn z hz
    · rfl
  · refine ⟨91, ([105, 62] ++ numText s.num) ++ [93], rfl, rfl, ?_⟩
    intro z hz
    simp only [List.mem_append, List.mem_cons, List.not_mem_nil, or_false] at hz
    rcases hz with ((rfl | rfl) | hz) | rfl
    · rfl
    · rfl
    · exact hn z hz
    · rfl

theorem endAt_mid {L A B C : List Int} (h : L = A ++ (B ++ C)) (hB : ∀ z ∈ B, stopB z = false) (hC : ∀ c R, C = c :: R → stopB c = true) : EndAt L A.length (A.length + B.length) := by
  subst h
  refine ⟨Nat.le_add_right _ _, by simp, fun t h1 h2 => ?_, fun h => ?_⟩
  · have e : (A ++ (B ++ C)).getD t 0 = B.getD (t - A.length) 0 := by
      simp [List.getD, List.getElem?_append_right h1, List.getElem?_append_left (show t - A.length < B.length by omega)]
    rw [e]
    exact hB _ (by simp [List.getD, show t - A.length < B.length by omega])
  · cases C with
    | nil => simp at h
    | cons c R =>
      have e : (A ++ (B ++ c :: R)).getD (A.length + B.length) 0 = c := by
        simp [List.getD]
      rw [e]
      exact hC c R rfl

theorem flat_head (T : List StepV) (c : Int) (R : List Int) (h : T.flatMap stepText = c :: R) : stopB c = true := by
  cases T with
  | nil => cases h
  | cons s T =>
    obtain ⟨c', R', e, hc, -⟩ := stepText_parts s
    rw [List.flatMap_cons, e] at h
    simp at h
    rw [← h.1]
    exact hc

theorem pathTo_rest (x : Int) (T : List StepV) (k : Nat) : pathTo x T T.length = pathTo x T k ++ (T.drop k).flatMap stepText := by
  unfold pathTo
  rw [List.take_length, List.append_assoc, ← List.flatMap_append, List.take_append_drop]

theorem endAt_head (x : Int) (T : List StepV) : EndAt (pathTo x T T.length) 0 (pathTo x T 0).length := by
  have h := endAt_mid (L := pathTo x T T.length) (A := []) (B := pathTo x T 0) (C := (T.drop 0).flatMap stepText) (pathTo_rest x T 0) (by simpa [pathTo] using num_nostop x) (fun c R => flat_head _ c R)
  simpa using h

theorem drop_getPh (T : List StepV) {k : Nat} (hk : k < T.length) : T.drop k = T.getD k zeroPh :: T.drop (k + 1) := by
  rw [List.drop_eq_getElem_cons hk]
  simp [List.getD, hk]

theorem endAt_step (x : Int) (T : List StepV) {k : Nat} (hk : k < T.length) : EndAt (pathTo x T T.length) ((pathTo x T k).length + 1) (pathTo x T (k + 1)).length := by
  obtain ⟨c, R, e, hc, hR⟩ := stepText_parts (T.getD k zeroPh)
  have h := endAt_mid (L := pathTo x T T.length) (A := pathTo x T k ++ [c]) (B := R) (C := (T.drop (k + 1)).flatMap stepText) (by rw [pathTo_rest x T k, drop_getPh T hk, List.flatMap_cons, e]; simp) hR (fun c R => flat_head _ c R)
  rw [pathTo_step x T hk, e]
  simpa [Nat.add_assoc, Nat.add_comm] using h

/-- What lies between the places where a step begins and ends is the step's text. -/
theorem step_piece (x : Int) (T : List StepV) {k : Nat} (hk : k < T.length) : ((pathTo x T T.length).drop (pathTo x T k).length).take ((pathTo x T (k + 1)).length - (pathTo x T k).length) = stepText (T.getD k zeroPh) := by
  rw [pathTo_rest x T k, drop_getPh T hk, List.flatMap_cons, pathTo_step x T hk]
  simp
theorem head_piece (x : Int) (T : List StepV) : (pathTo x T T.length).take (pathTo x T 0).length = numText x := by
  rw [pathTo_rest x T 0]
  simp [pathTo]

/-- What a piece of the text says, as the model reads it; none: a number that is none. -/
def pieceOf (L : List Int) : Option StepV :=
  if L = [46, 42] then some ⟨2, 0⟩ else if L = [46, 42, 42] then some ⟨3, 0⟩
  else if L.getD 0 0 = 46 then (numberOf (L.drop 1)).map (fun n => ⟨1, n⟩)
  else if 4 < L.length ∧ L.take 3 = [91, 107, 61] then (numberOf ((L.drop 3).take (L.length - 1 - 3))).map (fun n => ⟨4, n⟩)
  else if 4 < L.length ∧ L.take 3 = [91, 105, 62] then (numberOf ((L.drop 3).take (L.length - 1 - 3))).map (fun n => ⟨5, n⟩)
  else some ⟨0, 0⟩

theorem numText_first (n : Int) : ∃ c R, numText n = c :: R ∧ c ≠ 42 := by
  have hp : 0 < (numText n).length := by
    unfold numText
    split
    · simp
    · exact decOf_pos _
  cases e : numText n with
  | nil => rw [e] at hp; cases hp
  | cons c R =>
    refine ⟨c, R, rfl, ?_⟩
    have hm : c ∈ numText n := by rw [e]; simp
    unfold numText at hm
    split at hm
    · rcases List.mem_cons.1 hm with rfl | hm
      · decide
      · have := isDig_bd (decOf_dig _ c hm); omega
    · have := isDig_bd (decOf_dig _ c hm); omega

theorem piece_text {s : StepV} (h : stepB s = true) : pieceOf (stepText s) = some s := by
  obtain ⟨c, R, en, hc⟩ := numText_first s.num
  have hk := stepB_kd h
  have hb : -1000000 ≤ s.num ∧ s.num ≤ 1000000 ∧ ((s.kd = 2 ∨ s.kd = 3) → s.num = 0) := by
    unfold stepB at h
    repeat' split at h
    all_goals simp [inB] at h
    all_goals omega
  have hn := text_number s.num (by omega)
  obtain ⟨kd, num⟩ := s
  simp only at *
  have hl : (numText num).length = R.length + 1 := by rw [en]; simp
  rcases hk with rfl | rfl | rfl | rfl | rfl
  · have e : stepText ⟨1, num⟩ = 46 :: numText num := by simp [stepText]
    rw [e]
    have n1 : ¬ (46 :: numText num = [46, 42]) := by rw [en]; intro q; simp at q; exact hc q.1
    have n2 : ¬ (46 :: numText num = [46, 42, 42]) := by rw [en]; intro q; simp at q; exact hc q.1
    rw [pieceOf, if_neg n1, if_neg n2, if_pos (by simp), List.drop_one, List.tail_cons, hn]
    rfl
  · have : num = 0 := hb.2.2 (.inl rfl)
    subst this
    rfl
  · have : num = 0 := hb.2.2 (.inr rfl)
    subst this
    rfl
  · have e : stepText ⟨4, num⟩ = 91 :: 107 :: 61 :: (numText num ++ [93]) := by simp [stepText]
    rw [e, pieceOf, if_neg (by simp), if_neg (by simp), if_neg (by simp), if_pos (by simp; omega)]
    have e2 : (List.drop 3 (91 :: 107 :: 61 :: (numText num ++ [93]))).take ((91 :: 107 :: 61 :: (numText num ++ [93])).length - 1 - 3) = numText num := by simp
    rw [e2, hn]
    rfl
  · have e : stepText ⟨5, num⟩ = 91 :: 105 :: 62 :: (numText num ++ [93]) := by simp [stepText]
    rw [e, pieceOf, if_neg (by simp), if_neg (by simp), if_neg (by simp), if_neg (by simp), if_pos (by simp; omega)]
    have e2 : (List.drop 3 (91 :: 105 :: 62 :: (numText num ++ [93]))).take ((91 :: 105 :: 62 :: (numText num ++ [93])).length - 1 - 3) = numText num := by simp
    rw [e2, hn]
    rfl

/-- L is the text of the path of x and T. -/
def IsPath (L : List Int) (x : Int) (T : List StepV) : Prop := pathB x T = true ∧ pathTo x T T.length = L

theorem pathB_from {x : Int} {T : List StepV} (h : pathB x T = true) : 1 ≤ x ∧ x ≤ 31 := by
  simp only [pathB, inB, Bool.and_eq_true, decide_eq_true_eq] at h
  exact h.2.1

/-- What the reader has, k steps in, of every path whose text it is. -/
def PathIn (L : List Int) (x : Int) (T : List StepV) (ok : Bool) (at' : Nat) : Prop := ∀ y U, IsPath L y U → y = x ∧ ok = true ∧ T.length ≤ U.length ∧ T = U.take T.length ∧ at' = (pathTo y U T.length).length

theorem pathIn_start {L : List Int} {j : Nat} (h : EndAt L 0 j) : PathIn L ((numberOf (L.take j)).getD 0) [] (numberOf (L.take j)).isSome j := by
  rintro y U ⟨hB, rfl⟩
  obtain rfl := endAt_one (endAt_head y U) h
  have hy := pathB_from hB
  rw [head_piece, text_number y (by omega)]
  exact ⟨rfl, rfl, Nat.zero_le _, rfl, rfl⟩

theorem pathIn_step {L : List Int} {x : Int} {T : List StepV} {i j : Nat} (h : PathIn L x T true i) (hi : i < L.length) (hj : EndAt L (i + 1) j) :
    PathIn L x (T ++ [(pieceOf ((L.drop i).take (j - i))).getD ⟨0, 0⟩]) (pieceOf ((L.drop i).take (j - i))).isSome j := by
  rintro y U hP
  obtain ⟨rfl, -, hl, hT, hat⟩ := h y U hP
  obtain ⟨hB, rfl⟩ := hP
  have hlt : T.length < U.length := by
    rcases Nat.lt_or_ge T.length U.length with g | g
    · exact g
    · rw [hat, Nat.le_antisymm hl g] at hi
      exact absurd hi (Nat.lt_irrefl _)
  subst hat
  obtain rfl := endAt_one (endAt_step y U hlt) hj
  rw [step_piece y U hlt, piece_text ((pathB_info hB).2.2 _ hlt)]
  refine ⟨rfl, rfl, by simp; omega, ?_, by simp⟩
  simp only [List.length_append, List.length_cons, List.length_nil, Nat.zero_add, Option.getD_some]
  rw [List.take_add_one, ← hT]
  simp [List.getD, hlt]

theorem pathIn_none {L : List Int} {x : Int} {T : List StepV} {ok : Bool} {i : Nat} (h : PathIn L x T ok i) (hn : ok = false ∨ 8 < T.length) : ∀ y U, ¬ IsPath L y U := by
  intro y U hP
  obtain ⟨-, hok, hl, -, -⟩ := h y U hP
  have := (pathB_info hP.1).2.1
  rcases hn with hn | hn
  · rw [hn] at hok; cases hok
  · omega

theorem pathIn_end {L : List Int} {x : Int} {T : List StepV} {ok : Bool} {i : Nat} (h : PathIn L x T ok i) (hi : L.length ≤ i) : ∀ y U, IsPath L y U → y = x ∧ U = T := by
  intro y U hP
  obtain ⟨rfl, -, hl, hT, hat⟩ := h y U hP
  refine ⟨rfl, ?_⟩
  rcases Nat.lt_or_ge T.length U.length with g | g
  · exfalso
    obtain ⟨c, R, e, -, -⟩ := stepText_parts (U.getD T.length zeroPh)
    have h1 := pathTo_rest y U T.length
    rw [drop_getPh U g, List.flatMap_cons, e, hP.2] at h1
    rw [h1, hat] at hi
    simp at hi
    omega
  · rw [hT, Nat.le_antisymm hl g, List.take_length]
end Go.Proofs.YtajcffchopcamaaDoor

/- Which of its ways the reader of a path's text goes at a piece. -/
namespace Go.Proofs.YtajcffchopcamaaDoor
open Go.RowKit

theorem str_is (P : ByteArray) (l : List UInt8) : (P.toList == l) = decide (sBytes P = l.map fun b => (b.toNat : Int)) := by
  rw [ByteArray.toList_eq]
  have inj : ∀ a b : UInt8, (a.toNat : Int) = (b.toNat : Int) → a = b := fun a b h => UInt8.toNat_inj.1 (by omega)
  have key : P.data.toList = l ↔ sBytes P = l.map fun b => (b.toNat : Int) := by
    unfold sBytes
    constructor
    · intro h; rw [h]
    · intro h; exact (List.map_inj_right (fun a b h => inj a b h)).1 h
  by_cases h : P.data.toList = l
  · rw [decide_eq_true (key.1 h), h]; simp
  · rw [decide_eq_false (fun e => h (key.2 e))]; simpa using h

/-- Which of its ways the reader goes at a piece. -/
theorem piece_ways (P : ByteArray) (hp : 0 < P.size) :
    ((P.toList == [46, 42]) = true ∧ pieceOf (sBytes P) = some ⟨2, 0⟩) ∨
    ((P.toList == [46, 42]) = false ∧ (P.toList == [46, 42, 42]) = true ∧ pieceOf (sBytes P) = some ⟨3, 0⟩) ∨
    ((P.toList == [46, 42]) = false ∧ (P.toList == [46, 42, 42]) = false ∧ ((((P[0]'hp).toNat : Nat) : Int) == 46) = true ∧ pieceOf (sBytes P) = (numberOf (sBytes (P.extract 1 P.size))).map (fun n => ⟨1, n⟩)) ∨
    ((P.toList == [46, 42]) = false ∧ (P.toList == [46, 42, 42]) = false ∧ ((((P[0]'hp).toNat : Nat) : Int) == 46) = false ∧
      ((4 < P.size ∧ ((P.extract 0 3).toList == [91, 107, 61]) = true ∧ pieceOf (sBytes P) = (numberOf (sBytes (P.extract 3 (P.size - 1)))).map (fun n => ⟨4, n⟩)) ∨
       (4 < P.size ∧ ((P.extract 0 3).toList == [91, 107, 61]) = false ∧ ((P.extract 0 3).toList == [91, 105, 62]) = true ∧ pieceOf (sBytes P) = (numberOf (sBytes (P.extract 3 (P.size - 1)))).map (fun n => ⟨5, n⟩)) ∨
       (4 < P.size ∧ ((P.extract 0 3).toList == [91, 107, 61]) = false ∧ ((P.extract 0 3).toList == [91, 105, 62]) = false ∧ pieceOf (sBytes P) = some ⟨0, 0⟩) ∨
       (¬ 4 < P.size ∧ pieceOf (sBytes P) = some ⟨0, 0⟩))) := by
  have e3 : sBytes (P.extract 0 3) = (sBytes P).take 3 := by rw [sBytes_extract]; simp
  have e1 : sBytes (P.extract 1 P.size) = (sBytes P).drop 1 := by
    rw [sBytes_extract, List.take_of_length_le (by simp [sBytes_len])]
  have em : sBytes (P.extract 3 (P.size - 1)) = ((sBytes P).drop 3).take ((sBytes P).length - 1 - 3) := by rw [sBytes_extract, sBytes_len]
  simp only [str_is, byte_at, e3, e1, em, pieceOf]
  have hl : (sBytes P).length = P.size := sBytes_len P
  rw [← hl]
  generalize sBytes P = L
  simp only [List.map_cons, List.map_nil, show ((46 : UInt8).toNat : Int) = 46 from rfl, show ((42 : UInt8).toNat : Int) = 42 from rfl, show ((91 : UInt8).toNat : Int) = 91 from rfl, show ((107 : UInt8).toNat : Int) = 107 from rfl, show ((61 : UInt8).toNat : Int) = 61 from rfl, show ((105 : UInt8).toNat : Int) = 105 from rfl, show ((62 : UInt8).toNat : Int) = 62 from rfl]
  by_cases h1 : L = [46, 42]
  · left; simp [h1]
  by_cases h2 : L = [46, 42, 42]
  · right; left; simp [h2]
  by_cases h3 : L.getD 0 0 = 46
  · right; right; left
    refine ⟨decide_eq_false h1, decide_eq_false h2, by rw [h3]; rfl, ?_⟩
    rw [if_neg h1, if_neg h2, if_pos h3]
  right; right; right
  refine ⟨decide_eq_false h1, decide_eq_false h2, by simpa using h3, ?_⟩
  rw [if_neg h1, if_neg h2, if_neg h3]
  by_cases h4 : 4 < L.length
  · by_cases h5 : L.take 3 = [91, 107, 61]
    · left; exact ⟨h4, decide_eq_true h5, by rw [if_pos ⟨h4, h5⟩]⟩
    · by_cases h6 : L.take 3 = [91, 105, 62]
      · right; left; exact ⟨h4, decide_eq_false h5, decide_eq_true h6, by rw [if_neg (fun e => h5 e.2), if_pos ⟨h4, h6⟩]⟩
      · right; right; left; exact ⟨h4, decide_eq_false h5, decide_eq_false h6, by rw [if_neg (fun e => h5 e.2), if_neg (fun e => h6 e.2)]⟩
  · right; right; right; exact ⟨h4, by rw [if_neg (fun e => h4 e.1), if_neg (fun e => h4 e.1)]⟩
end Go.Proofs.YtajcffchopcamaaDoor
