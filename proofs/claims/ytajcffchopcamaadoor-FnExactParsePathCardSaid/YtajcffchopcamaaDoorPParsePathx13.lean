/- Several texts in one, in their order. -/
import Derived.Test.YtajcffchopcamaaDoorPParsePathx10
import Derived.Test.YtajcffchopcamaaDoorPParsePathx11
import Derived.WalkKit
import Derived.Laws.Strings
/- Plain mathematics of numbers in texts: which texts are numbers, and what they are. -/
namespace Go.Proofs.YtajcffchopcamaaDoor

theorem snocRec {motive : List Int → Prop} (nil : motive []) (append_singleton : ∀ (D : List Int) (c : Int), motive D → motive (D ++ [c])) (D : List Int) : motive D := by
  have key : ∀ E : List Int, motive E.reverse := by
    intro E
    induction E with
    | nil => exact nil
    | cons c r ih => rw [List.reverse_cons]; exact append_singleton _ _ ih
  have := key D.reverse
  rwa [List.reverse_reverse] at this

def isDig (c : Int) : Bool := inB c 48 57
def digStep (n : Nat) (c : Int) : Nat := n * 10 + (c - 48).toNat
def digVal (D : List Int) : Nat := D.foldl digStep 0
def digOk (minus : Bool) (D : List Int) : Bool := inB D.length 1 9 && (!(decide (1 < D.length) && decide (D.getD 0 0 = 48)) && (!(minus && decide (D = [48])) && D.all isDig))
def numMinus (L : List Int) : Bool := decide (0 < L.length) && decide (L.getD 0 0 = 45)
def numBody (L : List Int) : List Int := if numMinus L then L.drop 1 else L
def signed (minus : Bool) (n : Nat) : Int := if minus then -(n : Int) else n
/-- The number that a text is, if it is one. -/
def numberOf (L : List Int) : Option Int := if digOk (numMinus L) (numBody L) then some (signed (numMinus L) (digVal (numBody L))) else none

theorem digVal_snoc (D : List Int) (c : Int) : digVal (D ++ [c]) = digVal D * 10 + (c - 48).toNat := by simp [digVal, digStep]
theorem digVal_take (D : List Int) (k : Nat) (h : k < D.length) : digVal (D.take (k + 1)) = digVal (D.take k) * 10 + (D.getD k 0 - 48).toNat := by
  rw [List.take_succ_eq_append_getElem h, digVal_snoc]
  simp [List.getD, h]
theorem isDig_bd {c : Int} (h : isDig c = true) : 48 ≤ c ∧ c ≤ 57 := by simpa [isDig, inB] using h

theorem digVal_lt (D : List Int) (h : ∀ z ∈ D, isDig z = true) : digVal D < 10 ^ D.length := by
  induction D using snocRec with
  | nil => simp [digVal]
  | append_singleton D c ih =>
    have h1 := ih (fun z hz => h z (by simp [hz]))
    have h2 := isDig_bd (h c (by simp))
    rw [digVal_snoc, List.length_append, List.length_singleton, Nat.pow_succ]
    omega

theorem decOf_dig (n : Nat) : ∀ z ∈ decOf n, isDig z = true := by
  induction n using Nat.strongRecOn with
  | _ n ih =>
    intro z hz
    by_cases h : n < 10
    · rw [decOf_small n h] at hz
      simp at hz
      subst hz
      unfold isDig inB; rw [decide_eq_true_eq]; omega
    · rw [decOf_big n h, List.mem_append] at hz
      rcases hz with hz | hz
      · exact ih (n / 10) (by omega) z hz
      · simp at hz
        subst hz
        unfold isDig inB; rw [decide_eq_true_eq]; omega
theorem decOf_val (n : Nat) : digVal (decOf n) = n := by
  induction n using Nat.strongRecOn with
  | _ n ih =>
    by_cases h : n < 10
    · rw [decOf_small n h]; simp [digVal, digStep]; omega
    · rw [decOf_big n h, digVal_snoc, ih (n / 10) (by omega)]
      omega
theorem decOf_pos (n : Nat) : 0 < (decOf n).length := by
  by_cases h : n < 10
  · rw [decOf_small n h]; simp
  · rw [decOf_big n h]; simp
/-- No nought ahead, but of 0 itself. -/
theorem decOf_head (n : Nat) : 0 < n → (decOf n).getD 0 0 ≠ 48 := by
  induction n using Nat.strongRecOn with
  | _ n ih =>
    intro hn
    by_cases h : n < 10
    · rw [decOf_small n h]; simp; omega
    · rw [decOf_big n h]
      have hp := decOf_pos (n / 10)
      have := ih (n / 10) (by omega) (by omega)
      have e : (decOf (n / 10) ++ [((48 + n % 10 : Nat) : Int)]).getD 0 0 = (decOf (n / 10)).getD 0 0 := by
        simp only [List.getD]
        rw [List.getElem?_append_left hp]
      rw [e]
      exact this

theorem digOk_parts {m : Bool} {D : List Int} (h : digOk m D = true) : (1 ≤ D.length ∧ D.length ≤ 9) ∧ (1 < D.length → D.getD 0 0 ≠ 48) ∧ (m = true → D ≠ [48]) ∧ (∀ z ∈ D, isDig z = true) := by
  simp only [digOk, Bool.and_eq_true, Bool.not_eq_true', Bool.and_eq_false_iff, decide_eq_false_iff_not, inB, decide_eq_true_eq, List.all_eq_true] at h
  refine ⟨⟨by omega, by omega⟩, ?_, ?_, h.2.2.2⟩
  · intro h1 h2
    rcases h.2.1 with h3 | h3
    · exact h3 h1
    · exact h3 h2
  · intro h1 h2
    rcases h.2.2.1 with h3 | h3
    · rw [h1] at h3; cases h3
    · exact h3 h2
theorem digOk_mk {m : Bool} {D : List Int} (h1 : 1 ≤ D.length) (h2 : D.length ≤ 9) (h3 : 1 < D.length → D.getD 0 0 ≠ 48) (h4 : m = true → D ≠ [48]) (h5 : ∀ z ∈ D, isDig z = true) : digOk m D = true := by
  simp only [digOk, Bool.and_eq_true, Bool.not_eq_true', Bool.and_eq_false_iff, decide_eq_false_iff_not, inB, decide_eq_true_eq, List.all_eq_true]
  refine ⟨by omega, ?_, ?_, h5⟩
  · by_cases h : 1 < D.length
    · exact .inr (h3 h)
    · exact .inl h
  · cases m with
    | false => exact .inl rfl
    | true => exact .inr (h4 rfl)

/-- .. and back. -/
theorem text_number (z : Int) (h : -1000000000 < z ∧ z < 1000000000) : numberOf (numText z) = some z := by
  have key : ∀ n : Nat, n < 1000000000 → (decOf n).length ≤ 9 := fun n hn => decOf_len 8 n (by omega)
  have hne : ∀ n : Nat, numMinus (decOf n) = false := by
    intro n
    unfold numMinus
    have hd := decOf_dig n
    have hp := decOf_pos n
    have hm : (decOf n).getD 0 0 ∈ decOf n := by simp [List.getD, hp]
    have := isDig_bd (hd _ hm)
    simp only [Bool.and_eq_false_iff, decide_eq_false_iff_not]
    right; omega
  have hok : ∀ (n : Nat) (m : Bool), n < 1000000000 → (m = true → 0 < n) → digOk m (decOf n) = true := by
    intro n m hn hm
    have hp := decOf_pos n
    refine digOk_mk (by omega) (key n hn) ?_ ?_ (decOf_dig n)
    · intro hl
      apply decOf_head
      by_cases h0 : n < 10
      · rw [decOf_small n h0] at hl; simp at hl
      · omega
    · intro h1 h2
      have := decOf_val n
      rw [h2] at this
      have := hm h1
      simp [digVal, digStep] at *
      omega
  by_cases h0 : z < 0
  · have e : numText z = 45 :: decOf (-z).toNat := by unfold numText; rw [if_pos h0]
    have hm : numMinus (numText z) = true := by rw [e]; simp [numMinus]
    have hb : numBody (numText z) = decOf (-z).toNat := by unfold numBody; rw [hm, e]; rfl
    unfold numberOf
    rw [hm, hb, if_pos (hok _ true (by omega) (fun _ => by omega)), decOf_val]
    simp [signed]; omega
  · have e : numText z = decOf z.toNat := by unfold numText; rw [if_neg h0]
    have hm : numMinus (numText z) = false := by rw [e]; exact hne _
    have hb : numBody (numText z) = decOf z.toNat := by unfold numBody; rw [hm, e]; rfl
    unfold numberOf
    rw [hm, hb, if_pos (hok _ false (by omega) (fun h => by cases h)), decOf_val]
    simp [signed]; omega
end Go.Proofs.YtajcffchopcamaaDoor

/- The bytes of a text. -/
namespace Go.Proofs.YtajcffchopcamaaDoor

def sBytes (s : ByteArray) : List Int := s.data.toList.map fun b => (b.toNat : Int)

theorem sBytes_len (s : ByteArray) : (sBytes s).length = s.size := by
  rw [sBytes, List.length_map, Array.length_toList]; rfl
theorem sBytes_byte (s : ByteArray) : ∀ z ∈ sBytes s, 0 ≤ z ∧ z < 256 := by
  intro z hz
  simp only [sBytes, List.mem_map] at hz
  obtain ⟨b, _, rfl⟩ := hz
  have := b.toNat_lt
  omega

theorem sBytes_extract (s : ByteArray) (a b : Nat) : sBytes (s.extract a b) = ((sBytes s).drop a).take (b - a) := by
  unfold sBytes
  rw [ByteArray.data_extract, Array.toList_extract, List.map_take, List.map_drop]

end Go.Proofs.YtajcffchopcamaaDoor

/- The walk of spec.l2Number. -/
namespace Go.Proofs.YtajcffchopcamaaDoor
open Go.RowKit

theorem byte_at (s : ByteArray) (j : Nat) (h : j < s.size) : (((s[j]'h).toNat : Nat) : Int) = (sBytes s).getD j 0 := by
  have hl : j < s.data.toList.length := by simpa using h
  have : (sBytes s)[j]? = some (((s[j]'h).toNat : Nat) : Int) := by
    unfold sBytes
    rw [List.getElem?_map, List.getElem?_eq_getElem hl]
    simp only [Option.map_some]
    rfl
  simp [List.getD, this]

theorem sBytes_size (s : ByteArray) : s.size = (sBytes s).length := (sBytes_len s).symm
theorem sBytes_inj {a b : ByteArray} (h : sBytes a = sBytes b) : a = b := by
  apply ByteArray.ext
  apply Array.ext'
  unfold sBytes at h
  have hinj : Function.Injective (fun b : UInt8 => ((b.toNat : Nat) : Int)) := by
    intro x y hxy
    have : x.toNat = y.toNat := Int.ofNat.inj hxy
    exact UInt8.toNat_inj.1 this
  exact (List.map_inj_right (fun x y hxy => hinj hxy)).1 h

/-- What l2Number answers. -/
def numAns : Option Int → Value
  | some z => .tuple #[.int .i64 z, .bool true]
  | none => .tuple #[.int .i64 0, .bool false]

theorem number_none (L : List Int) (h : digOk (numMinus L) (numBody L) = false) : numberOf L = none := by unfold numberOf; rw [if_neg (by rw [h]; decide)]
theorem number_some (L : List Int) (h : digOk (numMinus L) (numBody L) = true) : numberOf L = some (signed (numMinus L) (digVal (numBody L))) := by unfold numberOf; rw [if_pos h]

theorem digOk_len {m : Bool} {D : List Int} (h : inB D.length 1 9 = false) : digOk m D = false := by simp [digOk, h]
theorem digOk_nought {m : Bool} {D : List Int} (h1 : 1 < D.length) (h2 : D.getD 0 0 = 48) : digOk m D = false := by
  by_cases h : digOk m D = true
  · exact absurd h2 ((digOk_parts h).2.1 h1)
  · simpa using h
theorem digOk_minus {D : List Int} (h2 : D = [48]) : digOk true D = false := by
  by_cases h : digOk true D = true
  · exact absurd h2 ((digOk_parts h).2.2.1 rfl)
  · simpa using h
theorem digOk_not {m : Bool} {D : List Int} (j : Nat) (hj : j < D.length) (h : isDig (D.getD j 0) = false) : digOk m D = false := by
  by_cases hk : digOk m D = true
  · have := (digOk_parts hk).2.2.2 (D.getD j 0) (by simp [List.getD, hj])
    rw [h] at this; cases this
  · simpa using hk
theorem digOk_all {m : Bool} {D : List Int} (h1 : inB D.length 1 9 = true) (h3 : ¬ (1 < D.length ∧ D.getD 0 0 = 48)) (h4 : m = true → D ≠ [48]) (h5 : ∀ t, t < D.length → isDig (D.getD t 0) = true) : digOk m D = true := by
  have hb : 1 ≤ D.length ∧ D.length ≤ 9 := by simp [inB] at h1; omega
  refine digOk_mk hb.1 hb.2 (fun h e => h3 ⟨h, e⟩) h4 ?_
  intro z hz
  obtain ⟨j, hj, rfl⟩ := List.getElem_of_mem hz
  have := h5 j hj
  simpa [List.getD, hj] using this

set_option maxHeartbeats 1000000 in
set_option maxRecDepth 100000 in
theorem l2Number_empty (s : ByteArray) (w : World) (hs : s.size ≤ 0) : Calls Tryd.prog 23 #[.string s] w fun e w' => e = .returned (numAns (numberOf (sBytes s))) ∧ w' = w := by
  have hL : sBytes s = [] := List.length_eq_zero_iff.1 (by rw [sBytes_len]; omega)
  have HN : Hid (numberOf (sBytes s) = none) := by rw [Hid, hL]; rfl
  have hz : (s.size : Int) < 1 := by omega
  have HB : Hid (inB (s.size : Int) 1 9 = false) := by unfold inB; rw [Hid, decide_eq_false_iff_not]; omega
  clear hL
  go_enter Tryd.func23, Tryd.ntmps23
  go_wp2_with fail
  refine (l1In_any _ _ _ _).mono ?_
  rintro e w' ⟨rfl, rfl⟩
  rw [HB.out]
  go_wp2
  go_ret2
  exact ⟨by rw [HN.out]; rfl, rfl⟩

set_option maxHeartbeats 2000000 in
set_option maxRecDepth 100000 in
theorem l2Number_minus (s D : ByteArray) (w : World) (hp : 0 < s.size) (hs : s.size ≤ 1048576) (h45 : (((s[0]'hp).toNat : Nat) : Int) = 45) (hD : s.extract 1 s.size = D) : Calls Tryd.prog 23 #[.string s] w fun e w' => e = .returned (numAns (numberOf (sBytes s))) ∧ w' = w := by
  have HM : Hid (numMinus (sBytes s) = true) := by
    unfold numMinus
    rw [Hid, ← byte_at s 0 hp, ← sBytes_size]
    simp [hp, h45]
    
  have HBO : Hid (numBody (sBytes s) = sBytes D) := by
    unfold numBody
    rw [HM.out]
    rw [Hid, if_pos rfl, ← hD, sBytes_extract, List.take_of_length_le (by rw [List.length_drop, sBytes_len]; omega)]
  have HNN : Hid (digOk true (sBytes D) = false → numberOf (sBytes s) = none) := fun h => number_none _ (by rw [HM.out, HBO.out]; exact h)
  have HNS : Hid (digOk true (sBytes D) = true → numberOf (sBytes s) = some (signed true (digVal (sBytes D)))) := fun h => by rw [number_some _ (by rw [HM.out, HBO.out]; exact h), HM.out, HBO.out]
  have h45b : ((((s[0]'hp).toNat : Nat) : Int) == 45) = true := by rw [h45]; decide
  clear h45
  cases hin : inB (D.size : Int) 1 9 with
  | false =>
    have HI : Hid (_ = _) := hin
    have HN : Hid (_ = _) := HNN.out (digOk_len (by rw [sBytes_len]; exact hin))
    clear hin
    go_enter Tryd.func23, Tryd.ntmps23
    go_wp2_with fail
    refine (l1In_any _ _ _ _).mono ?_
    rintro e w' ⟨rfl, rfl⟩
    rw [HI.out]
    go_wp2
    go_ret2
    exact ⟨by rw [HN.out]; rfl, rfl⟩
  | true =>
    have HI : Hid (_ = _) := hin
    have hsz : 1 ≤ D.size ∧ D.size ≤ 9 := by simp [inB] at hin; omega
    have HIL : Hid (inB (((sBytes D).length : Nat) : Int) 1 9 = true) := by rw [Hid, sBytes_len]; exact hin
    clear hin
    obtain ⟨hz1, hz9⟩ := hsz
    have HSL : Hid ((sBytes D).length = D.size) := sBytes_len D
    have HBT : Hid (∀ j (h : j < D.size), (((D[j]'h).toNat : Nat) : Int) = (sBytes D).getD j 0) := fun j h => byte_at D j h
    have HBY : Hid (∀ j, 0 ≤ (sBytes D).getD j 0 ∧ (sBytes D).getD j 0 < 256) := fun j => bytes_at (sBytes_byte D) j
    have hz0 : 0 < D.size := by omega
    by_cases hno : 1 < D.size ∧ (sBytes D).getD 0 0 = 48
    · have HN : Hid (_ = _) := HNN.out (digOk_nought (by rw [sBytes_len]; exact hno.1) hno.2)
      obtain ⟨hno1, hno2⟩ := hno
      have h48 : ((((D[0]'hz0).toNat : Nat) : Int) == 48) = true := by rw [HBT.out 0 hz0, hno2]; decide
      clear hno2
      have hgt : (1 : Int) < (D.size : Int) := by omega
      go_enter Tryd.func23, Tryd.ntmps23
      go_wp2_with fail
      refine (l1In_any _ _ _ _).mono ?_
      rintro e w' ⟨rfl, rfl⟩
      rw [HI.out]
      go_wp2
      go_ret2
      exact ⟨by rw [HN.out]; rfl, rfl⟩
    · have hcs : D.size < 2 ∨ (1 < D.size ∧ ((((D[0]'hz0).toNat : Nat) : Int) == 48) = false) := by
        by_cases h : 1 < D.size
        · refine .inr ⟨h, ?_⟩
          rw [HBT.out 0 hz0]
          have : ¬ (sBytes D).getD 0 0 = 48 := fun e => hno ⟨h, e⟩
          simpa using this
        · exact .inl (by omega)
      have HNO : Hid (¬ (1 < (sBytes D).length ∧ (sBytes D).getD 0 0 = 48)) := by rw [Hid, sBytes_len]; exact hno
      clear hno
      by_cases hD0 : sBytes D = [48]
      · have HN : Hid (_ = _) := HNN.out (digOk_minus hD0)
        have hne0 : (D.toList == [48]) = true := by
          have : D = ⟨#[48]⟩ := sBytes_inj (by rw [hD0]; rfl)
          rw [this, ByteArray.toList_eq]; decide
        have hone : D.size < 2 := by have := HSL.out; rw [hD0] at this; simp at this; omega
        clear hD0 hcs
        go_enter Tryd.func23, Tryd.ntmps23
        go_wp2_with fail
        refine (l1In_any _ _ _ _).mono ?_
        rintro e w' ⟨rfl, rfl⟩
        rw [HI.out]
        go_wp2
        go_ret2
        exact ⟨by rw [HN.out]; rfl, rfl⟩
      have HNE : Hid (sBytes D ≠ [48]) := hD0
      have hne0 : (D.toList == [48]) = false := by
        rw [beq_eq_false_iff_ne]
        intro e
        rw [ByteArray.toList_eq] at e
        exact hD0 (by unfold sBytes; rw [e]; rfl)
      clear hD0
      rcases hcs with hlt2 | ⟨hgt, h48⟩
      all_goals
        go_enter Tryd.func23, Tryd.ntmps23
        go_wp2_with fail
        refine (l1In_any _ _ _ _).mono ?_
        rintro e w' ⟨rfl, rfl⟩
        rw [HI.out]
        go_wp2
        go_loop [5, 6] (fun v i => ∃ j : Nat, j ≤ D.size ∧ i = .int .i64 j ∧ v = .int .i64 (digVal ((sBytes D).take j) : Nat) ∧ Hid (∀ t, t < j → isDig ((sBytes D).getD t 0) = true)) (fun _ i => D.size - (intOf i).toNat)
        case atStart => exact ⟨0, by omega, rfl, by simp [digVal], fun t ht => by omega⟩
        case round =>
          obtain ⟨j, hj, rfl, rfl, hall⟩ := hrel
          have hvl : digVal ((sBytes D).take j) < 1000000000 := by
            have h1 := digVal_lt ((sBytes D).take j) (by
              intro z hz
              obtain ⟨t, ht, rfl⟩ := List.getElem_of_mem hz
              have ht' : t < j := by simp at ht; omega
              have := hall.out t ht'
              rw [List.getElem_take]
              simpa [List.getD, show t < (sBytes D).length from by simp at ht; omega] using this)
            have h2 : (10 : Nat) ^ ((sBytes D).take j).length ≤ 10 ^ 9 := Nat.pow_le_pow_right (by omega) (by have := HSL.out; simp; omega)
            have h3 : (10 : Nat) ^ 9 = 1000000000 := by decide
            omega
          by_cases hlt : j < D.size
          · have hbv := HBT.out j hlt
            have hby := HBY.out j
            have HST : Hid (_ = _) := digVal_take (sBytes D) j (by have := HSL.out; omega)
            cases hdg : inB ((sBytes D).getD j 0) 48 57 with
            | false =>
              have HN : Hid (_ = _) := HNN.out (digOk_not j (by have := HSL.out; omega) hdg)
              have HG : Hid (_ = _) := hdg
              clear hdg HBT HBY
              generalize (sBytes D).getD j 0 = c at *
              generalize digVal ((sBytes D).take j) = v at *
              go_wp2_with fail
              refine (l1In_any _ _ _ _).mono ?_
              rintro e w' ⟨rfl, rfl⟩
              rw [HG.out]
              go_wp2
              go_ret2
              exact ⟨by rw [HN.out]; rfl, rfl⟩
            | true =>
              have HNX : Hid (∀ t, t < j + 1 → isDig ((sBytes D).getD t 0) = true) := by
                intro t ht
                by_cases e : t = j
                · rw [e]; exact hdg
                · exact hall.out t (by omega)
              have hcb : 48 ≤ (sBytes D).getD j 0 ∧ (sBytes D).getD j 0 ≤ 57 := by simpa [inB] using hdg
              have HG : Hid (_ = _) := hdg
              clear hdg HBT HBY
              generalize (sBytes D).getD j 0 = c at *
              generalize digVal ((sBytes D).take j) = v at *
              go_wp2_with fail
              refine (l1In_any _ _ _ _).mono ?_
              rintro e w' ⟨rfl, rfl⟩
              rw [HG.out]
              go_wp2
              go_round
              case rel => exact ⟨j + 1, by omega, by go_num, val_int (by rw [HST.out]; omega), HNX⟩
              case measure => simp [intOf]; omega
          · have HN : Hid (numberOf (sBytes s) = some (signed true (digVal ((sBytes D).take j)))) := by
              rw [Hid, List.take_of_length_le (by have := HSL.out; omega)]
              exact HNS.out (digOk_all HIL.out HNO.out (fun _ => HNE.out) (fun t ht => hall.out t (by have := HSL.out; omega)))
            generalize digVal ((sBytes D).take j) = v at *
            go_wp2
            go_ret2
            exact ⟨by rw [HN.out]; rfl, rfl⟩

set_option maxHeartbeats 2000000 in
set_option maxRecDepth 100000 in
theorem l2Number_plain (s : ByteArray) (w : World) (hp : 0 < s.size) (hs : s.size ≤ 1048576) (h45 : (((s[0]'hp).toNat : Nat) : Int) ≠ 45) : Calls Tryd.prog 23 #[.string s] w fun e w' => e = .returned (numAns (numberOf (sBytes s))) ∧ w' = w := by
  have HM : Hid (numMinus (sBytes s) = false) := by
    unfold numMinus
    rw [Hid, ← byte_at s 0 hp, ← sBytes_size]
    simp 
    intro _; exact_mod_cast h45
  have HBO : Hid (numBody (sBytes s) = sBytes s) := by
    unfold numBody
    rw [HM.out]
    rw [Hid, if_neg (by decide)]
  have HNN : Hid (digOk false (sBytes s) = false → numberOf (sBytes s) = none) := fun h => number_none _ (by rw [HM.out, HBO.out]; exact h)
  have HNS : Hid (digOk false (sBytes s) = true → numberOf (sBytes s) = some (signed false (digVal (sBytes s)))) := fun h => by rw [number_some _ (by rw [HM.out, HBO.out]; exact h), HM.out, HBO.out]
  have h45b : ((((s[0]'hp).toNat : Nat) : Int) == 45) = false := by simpa using h45
  clear h45
  cases hin : inB (s.size : Int) 1 9 with
  | false =>
    have HI : Hid (_ = _) := hin
    have HN : Hid (_ = _) := HNN.out (digOk_len (by rw [sBytes_len]; exact hin))
    clear hin
    go_enter Tryd.func23, Tryd.ntmps23
    go_wp2_with fail
    refine (l1In_any _ _ _ _).mono ?_
    rintro e w' ⟨rfl, rfl⟩
    rw [HI.out]
    go_wp2
    go_ret2
    exact ⟨by rw [HN.out]; rfl, rfl⟩
  | true =>
    have HI : Hid (_ = _) := hin
    have hsz : 1 ≤ s.size ∧ s.size ≤ 9 := by simp [inB] at hin; omega
    have HIL : Hid (inB (((sBytes s).length : Nat) : Int) 1 9 = true) := by rw [Hid, sBytes_len]; exact hin
    clear hin
    obtain ⟨hz1, hz9⟩ := hsz
    have HSL : Hid ((sBytes s).length = s.size) := sBytes_len s
    have HBT : Hid (∀ j (h : j < s.size), (((s[j]'h).toNat : Nat) : Int) = (sBytes s).getD j 0) := fun j h => byte_at s j h
    have HBY : Hid (∀ j, 0 ≤ (sBytes s).getD j 0 ∧ (sBytes s).getD j 0 < 256) := fun j => bytes_at (sBytes_byte s) j
    have hz0 : 0 < s.size := by omega
    by_cases hno : 1 < s.size ∧ (sBytes s).getD 0 0 = 48
    · have HN : Hid (_ = _) := HNN.out (digOk_nought (by rw [sBytes_len]; exact hno.1) hno.2)
      obtain ⟨hno1, hno2⟩ := hno
      have h48 : ((((s[0]'hz0).toNat : Nat) : Int) == 48) = true := by rw [HBT.out 0 hz0, hno2]; decide
      clear hno2
      have hgt : (1 : Int) < (s.size : Int) := by omega
      go_enter Tryd.func23, Tryd.ntmps23
      go_wp2_with fail
      refine (l1In_any _ _ _ _).mono ?_
      rintro e w' ⟨rfl, rfl⟩
      rw [HI.out]
      go_wp2
      go_ret2
      exact ⟨by rw [HN.out]; rfl, rfl⟩
    · have hcs : s.size < 2 ∨ (1 < s.size ∧ ((((s[0]'hz0).toNat : Nat) : Int) == 48) = false) := by
        by_cases h : 1 < s.size
        · refine .inr ⟨h, ?_⟩
          rw [HBT.out 0 hz0]
          have : ¬ (sBytes s).getD 0 0 = 48 := fun e => hno ⟨h, e⟩
          simpa using this
        · exact .inl (by omega)
      have HNO : Hid (¬ (1 < (sBytes s).length ∧ (sBytes s).getD 0 0 = 48)) := by rw [Hid, sBytes_len]; exact hno
      clear hno
      rcases hcs with hlt2 | ⟨hgt, h48⟩
      all_goals
        go_enter Tryd.func23, Tryd.ntmps23
        go_wp2_with fail
        refine (l1In_any _ _ _ _).mono ?_
        rintro e w' ⟨rfl, rfl⟩
        rw [HI.out]
        go_wp2
        go_loop [5, 6] (fun v i => ∃ j : Nat, j ≤ s.size ∧ i = .int .i64 j ∧ v = .int .i64 (digVal ((sBytes s).take j) : Nat) ∧ Hid (∀ t, t < j → isDig ((sBytes s).getD t 0) = true)) (fun _ i => s.size - (intOf i).toNat)
        case atStart => exact ⟨0, by omega, rfl, by simp [digVal], fun t ht => by omega⟩
        case round =>
          obtain ⟨j, hj, rfl, rfl, hall⟩ := hrel
          have hvl : digVal ((sBytes s).take j) < 1000000000 := by
            have h1 := digVal_lt ((sBytes s).take j) (by
              intro z hz
              obtain ⟨t, ht, rfl⟩ := List.getElem_of_mem hz
              have ht' : t < j := by simp at ht; omega
              have := hall.out t ht'
              rw [List.getElem_take]
              simpa [List.getD, show t < (sBytes s).length from by simp at ht; omega] using this)
            have h2 : (10 : Nat) ^ ((sBytes s).take j).length ≤ 10 ^ 9 := Nat.pow_le_pow_right (by omega) (by have := HSL.out; simp; omega)
            have h3 : (10 : Nat) ^ 9 = 1000000000 := by decide
            omega
          by_cases hlt : j < s.size
          · have hbv := HBT.out j hlt
            have hby := HBY.out j
            have HST : Hid (_ = _) := digVal_take (sBytes s) j (by have := HSL.out; omega)
            cases hdg : inB ((sBytes s).getD j 0) 48 57 with
            | false =>
              have HN : Hid (_ = _) := HNN.out (digOk_not j (by have := HSL.out; omega) hdg)
              have HG : Hid (_ = _) := hdg
              clear hdg HBT HBY
              generalize (sBytes s).getD j 0 = c at *
              generalize digVal ((sBytes s).take j) = v at *
              go_wp2_with fail
              refine (l1In_any _ _ _ _).mono ?_
              rintro e w' ⟨rfl, rfl⟩
              rw [HG.out]
              go_wp2
              go_ret2
              exact ⟨by rw [HN.out]; rfl, rfl⟩
            | true =>
              have HNX : Hid (∀ t, t < j + 1 → isDig ((sBytes s).getD t 0) = true) := by
                intro t ht
                by_cases e : t = j
                · rw [e]; exact hdg
                · exact hall.out t (by omega)
              have hcb : 48 ≤ (sBytes s).getD j 0 ∧ (sBytes s).getD j 0 ≤ 57 := by simpa [inB] using hdg
              have HG : Hid (_ = _) := hdg
              clear hdg HBT HBY
              generalize (sBytes s).getD j 0 = c at *
              generalize digVal ((sBytes s).take j) = v at *
              go_wp2_with fail
              refine (l1In_any _ _ _ _).mono ?_
              rintro e w' ⟨rfl, rfl⟩
              rw [HG.out]
              go_wp2
              go_round
              case rel => exact ⟨j + 1, by omega, by go_num, val_int (by rw [HST.out]; omega), HNX⟩
              case measure => simp [intOf]; omega
          · have HN : Hid (numberOf (sBytes s) = some (signed false (digVal ((sBytes s).take j)))) := by
              rw [Hid, List.take_of_length_le (by have := HSL.out; omega)]
              exact HNS.out (digOk_all HIL.out HNO.out (fun h => by cases h) (fun t ht => hall.out t (by have := HSL.out; omega)))
            generalize digVal ((sBytes s).take j) = v at *
            go_wp2
            go_ret2
            exact ⟨by rw [HN.out]; rfl, rfl⟩

theorem l2Number_any (s : ByteArray) (w : World) (hs : s.size ≤ 1048576) : Calls Tryd.prog 23 #[.string s] w fun e w' => e = .returned (numAns (numberOf (sBytes s))) ∧ w' = w := by
  by_cases hp : 0 < s.size
  · by_cases h45 : (((s[0]'hp).toNat : Nat) : Int) = 45
    · exact l2Number_minus s _ w hp hs h45 rfl
    · exact l2Number_plain s w hp hs h45
  · exact l2Number_empty s w (by omega)
end Go.Proofs.YtajcffchopcamaaDoor
