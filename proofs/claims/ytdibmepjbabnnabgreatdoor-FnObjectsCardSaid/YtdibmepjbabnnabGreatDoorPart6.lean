/- Several texts in one, in their order. -/
import Derived.Test.YtdibmepjbabnnabGreatDoorPart2
import Derived.Lib.ItoaNum
import Derived.Lib.Join
import Derived.Lib.AtoiTie
import Derived.Lib.Split
import Derived.LaidLaws
import Derived.LaidHandle
import Derived.Lib.LaidTab
import Derived.Test.YtdibmepjbabnnabGreatDoorProg
import Derived.LaidEql
import Derived.Stop.Asserts
import Derived.RowKitTokens
import Derived.Test.YtdibmepjbabnnabGreatDoorPart1
import Derived.Test.YtdibmepjbabnnabGreatDoorShelf
import Derived.Test.YtdibmepjbabnnabGreatDoorPart4
/- Plain mathematics: the texts of numbers as the library says them. -/
namespace Go.Proofs.YtdibmepjbabnnabGreatDoor
open Go.RowKit

def b8 (z : Int) : UInt8 := UInt8.ofNat z.toNat
theorem strOf_b8 (l : List Int) : strOf l = ⟨(l.map b8).toArray⟩ := rfl

theorem dec_lib (n : Nat) : (decOf n).map b8 = Lib.decDigits n := by
  induction n using Nat.strongRecOn with
  | _ n ih =>
    by_cases h : n < 10
    · rw [decOf_small n h, Lib.decDigits, dif_pos h]
      show [UInt8.ofNat (((48 + n : Nat) : Int)).toNat] = _
      rw [Int.toNat_natCast]
    · rw [decOf_big n h, Lib.decDigits, dif_neg h, List.map_append, ih (n / 10) (by omega)]
      congr 1
theorem num_lib (z : Int) : (numText z).map b8 = Lib.itoa z := by
  unfold numText Lib.itoa
  split
  · rw [List.map_cons, dec_lib, show (-z).toNat = z.natAbs from by omega]; rfl
  · exact dec_lib _
theorem itoa_str (z : Int) : (⟨(Lib.itoa z).toArray⟩ : ByteArray) = strOf (numText z) := by rw [strOf_b8, num_lib]

theorem join_snoc (xs : List (List UInt8)) (y sep : List UInt8) (h : xs ≠ []) : Lib.join (xs ++ [y]) sep = Lib.join xs sep ++ sep ++ y := by
  cases xs with
  | nil => exact absurd rfl h
  | cons x r =>
    rw [List.cons_append, Lib.join_cons, Lib.join_cons]
    simp [Lib.joinTail]
theorem join_lib (l : List Int) (k : Nat) (hk : k ≤ l.length) : (joinTo l k).map b8 = Lib.join ((l.take k).map Lib.itoa) [44] := by
  induction k with
  | zero => simp [joinTo, Lib.join_nil]
  | succ k ih =>
    have hlt : k < l.length := by omega
    rw [List.take_succ_eq_append_getElem hlt, List.map_append, List.map_cons, List.map_nil]
    have hg : l.getD k 0 = l[k] := by simp [List.getD, hlt]
    by_cases h0 : k = 0
    · subst h0
      simp only [joinTo, List.take_zero, List.map_nil, List.nil_append, if_true]
      rw [num_lib, hg, Lib.join_one]
    · rw [join_step l k (by omega), List.map_append, List.map_append, ih (by omega), num_lib, hg, join_snoc]
      · rfl
      · intro e
        have h := congrArg List.length e
        rw [List.length_map, List.length_take, List.length_nil] at h
        omega
theorem joinOf_str (l : List Int) : (⟨(Lib.join (l.map Lib.itoa) [44]).toArray⟩ : ByteArray) = strOf (joinOf l) := by
  rw [strOf_b8, joinOf, join_lib l l.length (Nat.le_refl _), List.take_length]
theorem joinOf_len (l : List Int) : (Lib.join (l.map Lib.itoa) [44]).length = (joinOf l).length := by
  have h := congrArg List.length (join_lib l l.length (Nat.le_refl _))
  rw [List.length_map, List.take_length] at h
  exact h.symm
end Go.Proofs.YtdibmepjbabnnabGreatDoor

/- Plain mathematics: which texts are objects' texts; two ways of reading them are one. -/
namespace Go.Proofs.YtdibmepjbabnnabGreatDoor
open Go.RowKit

/-! ### Signs -/
def plainSign (z : Int) : Prop := z = 45 ∨ (48 ≤ z ∧ z ≤ 57)
theorem numText_sign (n : Int) : ∀ z ∈ numText n, plainSign z := by
  intro z hz
  unfold numText at hz
  split at hz
  · rcases List.mem_cons.1 hz with rfl | h
    · exact .inl rfl
    · exact .inr (isDig_bd (decOf_dig _ z h))
  · exact .inr (isDig_bd (decOf_dig _ z hz))
theorem numText_ne (n : Int) : numText n ≠ [] := by
  unfold numText
  split
  · simp
  · intro e
    have := decOf_pos n.toNat
    rw [e] at this
    simp at this

theorem glue_snoc (b : Int) (ps : List (List Int)) (q : List Int) (h : ps ≠ []) : glue b (ps ++ [q]) = (glue b ps ++ [b]) ++ q := by
  induction ps with
  | nil => exact absurd rfl h
  | cons p r ih =>
    cases r with
    | nil => simp [glue]
    | cons p2 r2 =>
      have := ih (by simp)
      simp only [List.cons_append] at this ⊢
      rw [glue, this, glue]
      simp
theorem join_glue (l : List Int) (k : Nat) (hk : k ≤ l.length) : joinTo l k = glue 44 ((l.take k).map numText) := by
  induction k with
  | zero => simp [joinTo, glue]
  | succ k ih =>
    have hlt : k < l.length := by omega
    have hg : l.getD k 0 = l[k] := by simp [List.getD, hlt]
    rw [List.take_succ_eq_append_getElem hlt, List.map_append, List.map_cons, List.map_nil]
    by_cases h0 : k = 0
    · subst h0
      rw [join_step0, hg]
      rfl
    · rw [join_step l k (by omega), ih (by omega), glue_snoc, hg]
      intro e
      have h := congrArg List.length e
      rw [List.length_map, List.length_take, List.length_nil] at h
      omega
theorem joinOf_glue (l : List Int) : joinOf l = glue 44 (l.map numText) := by
  rw [joinOf, join_glue l l.length (Nat.le_refl _), List.take_length]
theorem glue_mem (b : Int) (ps : List (List Int)) : ∀ z ∈ glue b ps, z = b ∨ ∃ p ∈ ps, z ∈ p := by
  induction ps with
  | nil => intro z hz; simp [glue] at hz
  | cons p r ih =>
    intro z hz
    cases r with
    | nil => exact .inr ⟨p, by simp, by simpa [glue] using hz⟩
    | cons p2 r2 =>
      rw [glue, List.mem_append, List.mem_cons] at hz
      rcases hz with h | h | h
      · exact .inr ⟨p, by simp, h⟩
      · exact .inl h
      · rcases ih z h with e | ⟨q, hq, hz'⟩
        · exact .inl e
        · exact .inr ⟨q, by simp [List.mem_cons.1 hq], hz'⟩
theorem joinOf_sign (l : List Int) : ∀ z ∈ joinOf l, z = 44 ∨ plainSign z := by
  intro z hz
  rw [joinOf_glue] at hz
  rcases glue_mem 44 _ z hz with h | ⟨p, hp, hzp⟩
  · exact .inl h
  · obtain ⟨n, _, rfl⟩ := List.mem_map.1 hp
    exact .inr (numText_sign n z hzp)
theorem split_glue (b : Int) (ps : List (List Int)) (hne : ps ≠ []) (h : ∀ p ∈ ps, ∀ z ∈ p, z ≠ b) : splitOf b (glue b ps) = ps := by
  induction ps with
  | nil => exact absurd rfl hne
  | cons p r ih =>
    cases r with
    | nil => simp only [glue]; exact split_none b p (h p (by simp))
    | cons p2 r2 =>
      rw [glue, split_at b p _ (h p (by simp)), ih (by simp) (fun q hq => h q (by simp [List.mem_cons.1 hq]))]
theorem split_join (l : List Int) (h : l ≠ []) : splitOf 44 (joinOf l) = l.map numText := by
  rw [joinOf_glue]
  apply split_glue
  · simpa using h
  · intro p hp z hz
    obtain ⟨n, _, rfl⟩ := List.mem_map.1 hp
    rcases numText_sign n z hz with rfl | h'
    · decide
    · omega
theorem joinOf_nil_iff (l : List Int) (h : joinOf l = []) : l = [] := by
  cases l with
  | nil => rfl
  | cons n r =>
    exfalso
    have hs := split_join (n :: r) (by simp)
    rw [h] at hs
    simp only [splitOf, List.map_cons, List.cons.injEq] at hs
    exact numText_ne n hs.1.symm

/-! ### Numbers between commas, by whatever reads one -/
def allBy (f : List Int → Option Int) : List (List Int) → Option (List Int)
  | [] => some []
  | p :: r => match f p with
    | none => none
    | some z => (allBy f r).map (z :: ·)
def partsBy (f : List Int → Option Int) (L : List Int) : Option (List Int) := if L = [] then some [] else allBy f (splitOf 44 L)

theorem allBy_sound {f : List Int → Option Int} (hf : ∀ p z, f p = some z → numText z = p) : ∀ (ps : List (List Int)) (l : List Int), allBy f ps = some l → l.map numText = ps := by
  intro ps
  induction ps with
  | nil => intro l h; simp [allBy] at h; subst h; rfl
  | cons p r ih =>
    intro l h
    unfold allBy at h
    cases hp : f p with
    | none => rw [hp] at h; cases h
    | some z =>
      rw [hp] at h
      cases hr : allBy f r with
      | none => simp [hr] at h
      | some l' =>
        simp only [hr, Option.map_some, Option.some.injEq] at h
        subst h
        rw [List.map_cons, ih l' hr, hf p z hp]
theorem allBy_back {f : List Int → Option Int} : ∀ (l : List Int), (∀ z ∈ l, f (numText z) = some z) → allBy f (l.map numText) = some l := by
  intro l
  induction l with
  | nil => intro _; rfl
  | cons z r ih =>
    intro h
    rw [List.map_cons, allBy, h z (by simp)]
    simp only
    rw [ih (fun y hy => h y (by simp [hy]))]
    rfl
theorem partsBy_sound {f : List Int → Option Int} (hf : ∀ p z, f p = some z → numText z = p) (L l : List Int) (h : partsBy f L = some l) : joinOf l = L := by
  unfold partsBy at h
  split at h
  · rename_i e
    simp only [Option.some.injEq] at h
    subst h; subst e; rfl
  · have := allBy_sound hf _ _ h
    rw [joinOf_glue, this, glue_split]
theorem partsBy_back {f : List Int → Option Int} (l : List Int) (h : ∀ z ∈ l, f (numText z) = some z) : partsBy f (joinOf l) = some l := by
  unfold partsBy
  by_cases e : joinOf l = []
  · rw [if_pos e, joinOf_nil_iff l e]
  · rw [if_neg e, split_join l (fun h => e (by rw [h]; rfl)), allBy_back l h]
theorem numbersOf_by (L : List Int) : numbersOf L = partsBy numberOf L := by
  have key : ∀ ps, numsOfAll ps = allBy numberOf ps := by
    intro ps
    induction ps with
    | nil => rfl
    | cons p r ih =>
      unfold numsOfAll allBy
      cases numberOf p with
      | none => rfl
      | some z =>
        rw [ih]
        cases allBy numberOf r <;> rfl
  unfold numbersOf partsBy
  rw [key]

/-! ### A number by strconv -/
theorem decFrom_app : ∀ (l r : List UInt8) (acc : Nat), Lib.decFrom acc (l ++ r) = (Lib.decFrom acc l).bind (fun a => Lib.decFrom a r) := by
  intro l
  induction l with
  | nil => intro r acc; rfl
  | cons b t ih =>
    intro r acc
    rw [List.cons_append, Lib.decFrom, Lib.decFrom]
    cases Lib.digitVal b with
    | none => rfl
    | some d => exact ih r _
theorem digitVal_dig (d : Nat) (h : d < 10) : Lib.digitVal (UInt8.ofNat (48 + d)) = some d := by
  have e : (UInt8.ofNat (48 + d)).toNat = 48 + d := by simp; omega
  unfold Lib.digitVal
  rw [e, if_pos (by omega)]
  congr 1
  omega
theorem decFrom_dec (n : Nat) : Lib.decFrom 0 (Lib.decDigits n) = some n := by
  induction n using Nat.strongRecOn with
  | _ n ih =>
    rw [Lib.decDigits]
    by_cases h : n < 10
    · rw [dif_pos h]
      simp only [Lib.decFrom, digitVal_dig n h]
      congr 1
      omega
    · rw [dif_neg h, decFrom_app, ih (n / 10) (by omega)]
      simp only [Option.bind_some, Lib.decFrom, digitVal_dig (n % 10) (by omega)]
      congr 1
      omega
theorem dec_head (n : Nat) : ∃ c r, Lib.decDigits n = c :: r ∧ 48 ≤ c.toNat := by
  rw [← dec_lib]
  cases hd : decOf n with
  | nil => have := decOf_pos n; rw [hd] at this; simp at this
  | cons z r =>
    refine ⟨b8 z, r.map b8, rfl, ?_⟩
    have := isDig_bd (decOf_dig n z (by rw [hd]; simp))
    unfold b8
    simp
    omega
theorem atoi_itoa (z : Int) : Lib.atoi (Lib.itoa z) = some z := by
  unfold Lib.itoa
  split
  · obtain ⟨c, r, hc, _⟩ := dec_head z.natAbs
    have hd := decFrom_dec z.natAbs
    simp only [Lib.atoi, beq_self_eq_true, if_true, Lib.decNat]
    rw [hc] at hd ⊢
    simp only [List.isEmpty_cons, Bool.false_eq_true, if_false, hd, Option.map_some, Option.some.injEq]
    omega
  · obtain ⟨c, r, hc, h48⟩ := dec_head z.toNat
    have hd := decFrom_dec z.toNat
    rw [hc] at hd ⊢
    have h1 : (c == 45) = false := by
      rw [beq_eq_false_iff_ne]; intro e; rw [e] at h48; simp at h48
    have h2 : (c == 43) = false := by
      rw [beq_eq_false_iff_ne]; intro e; rw [e] at h48; simp at h48
    simp only [Lib.atoi, h1, h2, Bool.false_eq_true, if_false, Lib.decNat, List.isEmpty_cons, hd, Option.map_some, Option.some.injEq]
    omega
/-- What parseNumber takes a text for. -/
def pNum (L : List Int) : Option Int := match Lib.atoiAll (L.map b8) with
  | .ok v => if numText v = L then some v else none
  | _ => none
theorem pNum_sound (L : List Int) (z : Int) (h : pNum L = some z) : numText z = L := by
  unfold pNum at h
  split at h
  · split at h
    · simp only [Option.some.injEq] at h
      subst h; assumption
    · cases h
  · cases h
theorem pNum_back (z : Int) (h : -1000000000 ≤ z ∧ z ≤ 1000000000) : pNum (numText z) = some z := by
  have hl : (Lib.itoa z).length ≤ 18 := by
    rw [← num_lib, List.length_map]
    have := num_len z h
    omega
  unfold pNum
  rw [num_lib, Lib.atoiAll_short _ hl, atoi_itoa]
  simp [Lib.NumEnd.ofOption]

/-! ### The whole text -/
theorem textO_eq (o : ObjV) : textO o = numText o.kind ++ 40 :: (joinOf o.ints ++ 59 :: (joinOf o.refs ++ [41])) := by simp [textO]
def openAt : List Int → Nat
  | [] => 0
  | z :: r => if z = 40 then 0 else openAt r + 1
theorem openAt_le (L : List Int) : openAt L ≤ L.length := by
  induction L with
  | nil => simp [openAt]
  | cons z r ih => unfold openAt; split <;> simp; omega
theorem openAt_app (x y : List Int) (h : ∀ z ∈ x, z ≠ 40) : openAt (x ++ 40 :: y) = x.length := by
  induction x with
  | nil => simp [openAt]
  | cons z r ih =>
    rw [List.cons_append, openAt, if_neg (h z (by simp)), ih (fun w hw => h w (by simp [hw])), List.length_cons]
theorem openAt_at (L : List Int) (h : openAt L < L.length) : L = L.take (openAt L) ++ 40 :: L.drop (openAt L + 1) := by
  induction L with
  | nil => simp [openAt] at h
  | cons z r ih =>
    unfold openAt at h ⊢
    split
    · rename_i e; subst e; simp
    · rename_i e
      rw [if_neg e, List.length_cons] at h
      have := ih (by omega)
      simp only [List.take_succ_cons, List.drop_succ_cons, List.cons_append]
      rw [← this]

def okO (k : Option Int) (is rs : Option (List Int)) : Option ObjV := match k, is, rs with
  | some k, some is, some rs => if okB ⟨k, is, rs⟩ then some ⟨k, is, rs⟩ else none
  | _, _, _ => none
theorem okO_some {k : Option Int} {is rs : Option (List Int)} {o : ObjV} (h : okO k is rs = some o) : k = some o.kind ∧ is = some o.ints ∧ rs = some o.refs ∧ okB o = true := by
  unfold okO at h
  split at h
  · split at h
    · rename_i hok
      simp only [Option.some.injEq] at h
      subst h
      exact ⟨rfl, rfl, rfl, hok⟩
    · cases h
  · cases h
theorem okO_mk {o : ObjV} (h : okB o = true) : okO (some o.kind) (some o.ints) (some o.refs) = some o := by
  unfold okO
  simp only
  rw [if_pos h]

/-- As the model reads it. -/
def midOf (L : List Int) : List Int := (L.drop (openAt L + 1)).take (L.length - 1 - (openAt L + 1))
def specParse (L : List Int) : Option ObjV :=
  if L.length < openAt L + 2 ∨ L.getD (L.length - 1) 0 ≠ 41 then none
  else match splitOf 59 (midOf L) with
    | [h0, h1] => okO (numberOf (L.take (openAt L))) (numbersOf h0) (numbersOf h1)
    | _ => none

theorem okB_nine {o : ObjV} (h : okB o = true) : (-1000000000 < o.kind ∧ o.kind < 1000000000) ∧ (∀ z ∈ o.ints, -1000000000 < z ∧ z < 1000000000) ∧ (∀ z ∈ o.refs, -1000000000 < z ∧ z < 1000000000) := by
  simp [okB, inB] at h
  obtain ⟨⟨h1, h2⟩, _, _, h3, h4⟩ := h
  exact ⟨by omega, fun z hz => by have := h3 z hz; omega, fun z hz => by have := h4 z hz; omega⟩

theorem drop_last (L : List Int) (h : 0 < L.length) : L = L.take (L.length - 1) ++ [L.getD (L.length - 1) 0] := by
  have hlt : L.length - 1 < L.length := by omega
  have h1 := List.take_succ_eq_append_getElem hlt
  have h2 : L.take (L.length - 1 + 1) = L := List.take_of_length_le (by omega)
  have h3 : L.getD (L.length - 1) 0 = L[L.length - 1] := by simp [List.getD, hlt]
  rw [h3, ← h1, h2]

theorem spec_sound (L : List Int) (o : ObjV) (h : specParse L = some o) : okB o = true ∧ textO o = L := by
  unfold specParse at h
  split at h
  · cases h
  · rename_i hc
    have hlen : openAt L + 2 ≤ L.length := by omega
    have hlast : L.getD (L.length - 1) 0 = 41 := by
      by_cases e : L.getD (L.length - 1) 0 = 41
      · exact e
      · exact absurd (.inr e) hc
    split at h
    · rename_i h0 h1 hs
      obtain ⟨hk, hi, hr, hok⟩ := okO_some h
      refine ⟨hok, ?_⟩
      have hL := openAt_at L (by omega)
      have hR : L.drop (openAt L + 1) = midOf L ++ [41] := by
        have hd := drop_last (L.drop (openAt L + 1)) (by rw [List.length_drop]; omega)
        rw [List.length_drop] at hd
        have e1 : L.length - (openAt L + 1) - 1 = L.length - 1 - (openAt L + 1) := by omega
        have e2 : (L.drop (openAt L + 1)).getD (L.length - 1 - (openAt L + 1)) 0 = 41 := by
          rw [← hlast]
          simp only [List.getD, List.getElem?_drop]
          congr 2
          omega
        rw [e1, e2] at hd
        exact hd
      have hm : midOf L = h0 ++ 59 :: h1 := by
        have := glue_split 59 (midOf L)
        rw [hs] at this
        simpa [glue] using this.symm
      rw [numbersOf_by] at hi hr
      have ht : ∀ p z, numberOf p = some z → numText z = p := fun p z h => (number_text p z h).1
      have ek := ht _ _ hk
      have ei := partsBy_sound ht _ _ hi
      have er := partsBy_sound ht _ _ hr
      rw [textO_eq, ek, ei, er]
      conv => rhs; rw [hL, hR, hm]
      simp
    · cases h

theorem spec_back (o : ObjV) (h : okB o = true) : specParse (textO o) = some o := by
  obtain ⟨hk, hi, hr⟩ := okB_nine h
  have e := textO_eq o
  have ho : openAt (textO o) = (numText o.kind).length := by
    rw [e]
    apply openAt_app
    intro z hz
    rcases numText_sign _ z hz with rfl | h'
    · decide
    · omega
  have hlen : (textO o).length = (numText o.kind).length + 1 + (joinOf o.ints).length + 1 + (joinOf o.refs).length + 1 := by rw [e]; simp; omega
  have hlast : (textO o).getD ((textO o).length - 1) 0 = 41 := by
    rw [hlen, textO]
    simp only [List.getD]
    rw [List.getElem?_append_right (by simp; omega)]
    simp
    have : (numText o.kind).length + 1 + (joinOf o.ints).length + 1 + (joinOf o.refs).length - ((numText o.kind).length + ((joinOf o.ints).length + ((joinOf o.refs).length + 1) + 1)) = 0 := by omega
    simp [this]
  have hmid : midOf (textO o) = joinOf o.ints ++ 59 :: joinOf o.refs := by
    unfold midOf
    rw [ho, hlen, e]
    have hd : (numText o.kind ++ 40 :: (joinOf o.ints ++ 59 :: (joinOf o.refs ++ [41]))).drop ((numText o.kind).length + 1) = joinOf o.ints ++ 59 :: (joinOf o.refs ++ [41]) := by
      rw [List.drop_append]; simp
    rw [hd]
    have hs : joinOf o.ints ++ 59 :: (joinOf o.refs ++ [41]) = (joinOf o.ints ++ 59 :: joinOf o.refs) ++ [41] := by simp
    rw [hs, List.take_left' (by simp; omega)]
  have hsp : splitOf 59 (joinOf o.ints ++ 59 :: joinOf o.refs) = [joinOf o.ints, joinOf o.refs] := by
    have hne : ∀ l : List Int, ∀ z ∈ joinOf l, z ≠ 59 := by
      intro l z hz
      rcases joinOf_sign l z hz with rfl | rfl | h'
      · decide
      · decide
      · omega
    rw [split_at 59 _ _ (hne _), split_none 59 _ (hne _)]
  unfold specParse
  rw [if_neg (by rw [ho, hlast, hlen]; omega), hmid, hsp]
  simp only
  rw [ho, show (textO o).take (numText o.kind).length = numText o.kind from by rw [e]; simp, text_number _ hk, numbersOf_by, numbersOf_by, partsBy_back _ (fun z hz => text_number z (hi z hz)), partsBy_back _ (fun z hz => text_number z (hr z hz))]
  exact okO_mk h

/-- As the program reads it. -/
def cutOf (b : Int) : List Int → Option (List Int × List Int)
  | [] => none
  | z :: r => if z = b then some ([], r) else (cutOf b r).map fun p => (z :: p.1, p.2)
theorem cutOf_sound (b : Int) : ∀ (L x y : List Int), cutOf b L = some (x, y) → L = x ++ b :: y := by
  intro L
  induction L with
  | nil => intro x y h; cases h
  | cons z r ih =>
    intro x y h
    unfold cutOf at h
    split at h
    · rename_i e
      simp only [Option.some.injEq, Prod.mk.injEq] at h
      obtain ⟨rfl, rfl⟩ := h
      simp [e]
    · cases hc : cutOf b r with
      | none => rw [hc] at h; cases h
      | some p =>
        obtain ⟨x', y'⟩ := p
        rw [hc] at h
        simp only [Option.map_some, Option.some.injEq, Prod.mk.injEq] at h
        obtain ⟨rfl, rfl⟩ := h
        rw [ih x' y' hc]; rfl
theorem cutOf_back (b : Int) (x y : List Int) (h : ∀ z ∈ x, z ≠ b) : cutOf b (x ++ b :: y) = some (x, y) := by
  induction x with
  | nil => simp [cutOf]
  | cons z r ih => rw [List.cons_append, cutOf, if_neg (h z (by simp)), ih (fun w hw => h w (by simp [hw]))]; rfl
def implParse (L : List Int) : Option ObjV := match cutOf 40 L with
  | none => none
  | some (kt, r1) => match cutOf 59 r1 with
    | none => none
    | some (it, r2) => match cutOf 41 r2 with
      | none => none
      | some (rt, r3) => if r3 = [] then okO (pNum kt) (partsBy pNum it) (partsBy pNum rt) else none
theorem impl_sound (L : List Int) (o : ObjV) (h : implParse L = some o) : okB o = true ∧ textO o = L := by
  unfold implParse at h
  split at h
  · cases h
  · rename_i kt r1 h1
    split at h
    · cases h
    · rename_i it r2 h2
      split at h
      · cases h
      · rename_i rt r3 h3
        split at h
        · rename_i e
          obtain ⟨hk, hi, hr, hok⟩ := okO_some h
          refine ⟨hok, ?_⟩
          rw [cutOf_sound 40 _ _ _ h1, cutOf_sound 59 _ _ _ h2, cutOf_sound 41 _ _ _ h3, e, textO_eq, pNum_sound _ _ hk, partsBy_sound pNum_sound _ _ hi, partsBy_sound pNum_sound _ _ hr]
        · cases h
theorem impl_back (o : ObjV) (h : okB o = true) : implParse (textO o) = some o := by
  obtain ⟨hk, hi, hr⟩ := okB_nine h
  have hj : ∀ (l : List Int) (b : Int), b = 59 ∨ b = 41 → ∀ z ∈ joinOf l, z ≠ b := by
    intro l b hb z hz
    rcases joinOf_sign l z hz with rfl | rfl | h' <;> omega
  have hn : ∀ z ∈ numText o.kind, z ≠ 40 := by
    intro z hz
    rcases numText_sign _ z hz with rfl | h' <;> omega
  unfold implParse
  rw [textO_eq, cutOf_back 40 _ _ hn]
  simp only
  rw [cutOf_back 59 _ _ (hj _ _ (.inl rfl))]
  simp only
  rw [show joinOf o.refs ++ [41] = joinOf o.refs ++ 41 :: [] from rfl, cutOf_back 41 _ _ (hj _ _ (.inr rfl))]
  simp only
  rw [if_pos trivial, pNum_back _ (by omega), partsBy_back _ (fun z hz => pNum_back z (by have := hi z hz; omega)), partsBy_back _ (fun z hz => pNum_back z (by have := hr z hz; omega))]
  exact okO_mk h

theorem parse_one (L : List Int) : implParse L = specParse L := by
  cases hs : specParse L with
  | some o =>
    obtain ⟨h1, h2⟩ := spec_sound L o hs
    rw [← h2]; exact impl_back o h1
  | none =>
    cases hi : implParse L with
    | none => rfl
    | some o =>
      obtain ⟨h1, h2⟩ := impl_sound L o hi
      rw [← h2, spec_back o h1] at hs
      cases hs
end Go.Proofs.YtdibmepjbabnnabGreatDoor

/- Plain mathematics: what the library says of cutting texts at one sign, said of their bytes. -/
namespace Go.Proofs.YtdibmepjbabnnabGreatDoor
open Go.RowKit

def toI (b : UInt8) : Int := (b.toNat : Int)
theorem sBytes_toI (s : ByteArray) : sBytes s = s.data.toList.map toI := rfl
theorem sBytes_mk (l : List UInt8) : sBytes ⟨l.toArray⟩ = l.map toI := rfl
theorem toI_inj {a b : UInt8} (h : toI a = toI b) : a = b := UInt8.toNat_inj.1 (Int.ofNat.inj h)
theorem toI_ne {c : UInt8} {x : List UInt8} (h : c ∉ x) : ∀ z ∈ x.map toI, z ≠ toI c := by
  intro z hz e
  obtain ⟨b, hb, rfl⟩ := List.mem_map.1 hz
  exact h (toI_inj e ▸ hb)
theorem b8_toI (l : List UInt8) : (l.map toI).map b8 = l := by
  rw [List.map_map]
  have : (b8 ∘ toI) = id := by
    funext b
    simp [b8, toI]
  rw [this]; simp

theorem occ_one (l : List UInt8) (c : UInt8) (j : Nat) : Lib.occAt l [c] j = true ↔ l[j]? = some c := by
  unfold Lib.occAt
  cases hd : l.drop j with
  | nil =>
    have : l.length ≤ j := by simpa using hd
    simp [List.getElem?_eq_none this]
  | cons b r =>
    have hj : l[j]? = some b := by
      have := congrArg (·[0]?) hd
      simpa [List.getElem?_drop] using this
    rw [hj]
    simp [List.isPrefixOf]
    exact eq_comm
theorem idx_cases (c : UInt8) (l : List UInt8) : (∃ x y, l = x ++ c :: y ∧ c ∉ x ∧ Lib.index l [c] = x.length) ∨ (c ∉ l ∧ Lib.index l [c] = -1) := by
  by_cases h : c ∈ l
  · obtain ⟨x, y, rfl, hx⟩ := List.eq_append_cons_of_mem h
    refine .inl ⟨x, y, rfl, hx, ?_⟩
    apply Lib.index_first
    · simp
    · rw [occ_one]; simp
    · intro j hj
      by_cases ho : Lib.occAt (x ++ c :: y) [c] j = true
      · rw [occ_one, List.getElem?_append_left hj] at ho
        exact absurd (List.mem_of_getElem? ho) hx
      · simpa using ho
  · refine .inr ⟨h, ?_⟩
    apply Lib.index_none
    intro j _
    by_cases ho : Lib.occAt l [c] j = true
    · rw [occ_one] at ho
      exact absurd (List.mem_of_getElem? ho) h
    · simpa using ho

theorem cutOf_none (b : Int) (L : List Int) (h : ∀ z ∈ L, z ≠ b) : cutOf b L = none := by
  induction L with
  | nil => rfl
  | cons z r ih => rw [cutOf, if_neg (h z (by simp)), ih (fun w hw => h w (by simp [hw]))]; rfl
/-- strings.Cut at one sign. -/
theorem cut_bytes (s : ByteArray) (c : UInt8) :
    (∃ A B : ByteArray, cutOf (toI c) (sBytes s) = some (sBytes A, sBytes B) ∧ Lib.cut s.data.toList [c] = (A.data.toList, B.data.toList, true)) ∨ (cutOf (toI c) (sBytes s) = none ∧ Lib.cut s.data.toList [c] = (s.data.toList, [], false)) := by
  rcases idx_cases c s.data.toList with ⟨x, y, hl, hx, hi⟩ | ⟨hn, hi⟩
  · refine .inl ⟨⟨x.toArray⟩, ⟨y.toArray⟩, ?_, ?_⟩
    · rw [sBytes_mk, sBytes_mk, sBytes_toI, hl, List.map_append, List.map_cons]
      exact cutOf_back _ _ _ (toI_ne hx)
    · unfold Lib.cut
      rw [hi, if_pos (by omega), hl]
      simp
  · refine .inr ⟨cutOf_none _ _ (toI_ne hn), ?_⟩
    unfold Lib.cut
    rw [hi, if_neg (by omega)]

theorem split_one (c : UInt8) : ∀ (n : Nat) (l : List UInt8), l.length ≤ n → (Lib.splitK [c] 0 (Lib.count l [c]) l).map (·.map toI) = splitOf (toI c) (l.map toI) ∧ (Lib.splitK [c] 0 (Lib.count l [c]) l).length = Lib.count l [c] + 1 := by
  intro n
  induction n with
  | zero =>
    intro l hl
    obtain rfl : l = [] := List.length_eq_zero_iff.1 (by omega)
    rcases idx_cases c [] with ⟨x, y, hh, _⟩ | ⟨_, hi⟩
    · simp at hh
    · rw [Lib.count_miss hi]; exact ⟨rfl, rfl⟩
  | succ n ih =>
    intro l hl
    rcases idx_cases c l with ⟨x, y, rfl, hx, hi⟩ | ⟨hn, hi⟩
    · have hd : (x ++ c :: y).drop (x.length + [c].length) = y := by
        rw [List.drop_append]; simp
      have hc := Lib.count_hit (by simp) hi
      rw [hd] at hc
      have hy : y.length ≤ n := by simp at hl; omega
      obtain ⟨h1, h2⟩ := ih y hy
      rw [hc, Nat.add_comm 1, Lib.splitK, if_neg (by rw [hi]; simp), hi, Int.toNat_natCast, hd]
      refine ⟨?_, by simp [h2]⟩
      rw [List.map_cons, h1, List.map_append, List.map_cons, split_at _ _ _ (toI_ne hx)]
      simp
    · rw [Lib.count_miss hi]
      refine ⟨?_, rfl⟩
      rw [split_none _ _ (toI_ne hn)]
      rfl
/-- strings.Split at one sign. -/
theorem split_bytes (s : ByteArray) (c : UInt8) : (Lib.splitB ⟨#[c]⟩ 0 (Lib.countB s ⟨#[c]⟩) s).map sBytes = splitOf (toI c) (sBytes s) ∧ (Lib.splitB ⟨#[c]⟩ 0 (Lib.countB s ⟨#[c]⟩) s).length = Lib.countB s ⟨#[c]⟩ + 1 := by
  have hd := Lib.splitB_data ⟨#[c]⟩ 0 (Lib.countB s ⟨#[c]⟩) s
  obtain ⟨h1, h2⟩ := split_one c _ s.data.toList (Nat.le_refl _)
  have e : Lib.splitK (ByteArray.mk #[c]).data.toList 0 (Lib.countB s ⟨#[c]⟩) s.data.toList = Lib.splitK [c] 0 (Lib.count s.data.toList [c]) s.data.toList := rfl
  rw [e] at hd
  constructor
  · rw [sBytes_toI, ← h1, ← hd, List.map_map]
    rfl
  · have := congrArg List.length hd
    rw [List.length_map, h2] at this
    exact this
end Go.Proofs.YtdibmepjbabnnabGreatDoor

/- What a row's condition on its listed variables gives: each of them reads as its datum. -/
namespace Go.Proofs.YtdibmepjbabnnabGreatDoor

theorem laidVars_mem {P : Program} {w : World} : ∀ (l : List (String × DataW Unit)) (ps : List MemPlace), DataW.LaidVars P w l ps → ∀ n d, (n, d) ∈ l →
    ∃ g t cs fuel p, P.globalNamed n = some g ∧ (P.globals[g]?).map (·.type) = some t ∧ w.var? P n = some cs ∧ DataW.trod (fun _ => ()) P w 0 (fun _ => true) false fuel t cs.toList = some (d, p) := by
  intro l
  induction l with
  | nil => intro _ _ n d hm; cases hm
  | cons x r ih =>
    intro ps h n d hm
    obtain ⟨n', d'⟩ := x
    obtain ⟨g, t, cs, fuel, p, q, h1, h2, h3, h4, h5, _⟩ := h
    rcases List.mem_cons.1 hm with e | hm'
    · cases e
      exact ⟨g, t, cs, fuel, p, h1, h2, h3, h4⟩
    · exact ih q h5 n d hm'

theorem var_heap {P : Program} {w : World} {name : String} {g : Nat} {cs : Array Value} (hg : P.globalNamed name = some g) (h : w.var? P name = some cs) : ∃ t f, w.heap[g]? = some (.cells cs t f) := by
  unfold World.var? at h
  rw [hg] at h
  simp only [Option.bind_some] at h
  split at h
  · rename_i cs' t f hh
    simp only [Option.some.injEq] at h
    exact ⟨t, f, by rw [hh, h]⟩
  · cases h

/-- A table of integers that is listed lies in its block. -/
theorem tab_heap {P : Program} {w : World} {laid : List (String × DataW Unit)} {name : String} {k : IntKind} {zs : List Int} {g : Nat} {t e : TypeId} {n : Nat} (hl : laidMet P laid w) (hm : (name, Lib.tabData k zs) ∈ laid)
    (hg : P.globalNamed name = some g) (hty : (P.globals[g]?).map (·.type) = some t) (ht : P.underlying t = some (.array n e)) (he : P.underlying e = some (.int k)) (hce : P.cellsOf e = 1) (hct : P.cellsOf t = n) :
    ∃ t' f, w.heap[g]? = some (.cells (zs.map fun z => Value.int k z).toArray t' f) := by
  obtain ⟨ps, hv, _⟩ := hl
  obtain ⟨g', t', cs, fuel, p, h1, h2, h3, h4⟩ := laidVars_mem laid ps hv name _ hm
  obtain rfl := Option.some.inj (hg.symm.trans h1)
  obtain rfl := Option.some.inj (hty.symm.trans h2)
  have hc := Lib.cells_of_tab ht he hce hct h4
  obtain ⟨t', f, hh⟩ := var_heap hg h3
  refine ⟨t', f, ?_⟩
  rw [hh]
  congr 2
  apply Array.toList_inj.1
  rw [hc]

theorem tabIs_of {P : Program} {w : World} {name : String} {g : Nat} {k : IntKind} {zs : List Int} {t : TypeId} {f : Nat × Nat} (hg : P.globalNamed name = some g) (h : w.heap[g]? = some (.cells (zs.map fun z => Value.int k z).toArray t f)) : Lib.TabIs P w name k zs := by
  unfold Lib.TabIs World.var?
  rw [hg]
  simp [h]
end Go.Proofs.YtdibmepjbabnnabGreatDoor

/- errors.As at a noObject: the walks of errors.As and of impl.isNoObject. -/
namespace Go.Proofs.YtdibmepjbabnnabGreatDoor
open Go.RowKit Go.Extern.Stop Go.Stop Go.Extern

/-- The variable errors.errorType holds the handle of the type error. -/
def ErrT (w : World) : Prop := w.cell? ⟨0, 0, none⟩ = some (.iface 111 (.agg #[.pointer (some ⟨9, 45, none⟩)]))

theorem ErrT.lt {w : World} (h : ErrT w) : 0 < w.heap.size := by
  unfold ErrT at h
  rcases Nat.lt_or_ge 0 w.heap.size with h0 | h0
  · exact h0
  · simp [World.cell?, Array.getElem?_eq_none h0] at h
theorem ErrT.below {w w' : World} {n : Nat} (h : ErrT w) (hb : Below n w w') (hn : 0 < n) : ErrT w' := by
  unfold ErrT at h ⊢
  rw [hb.cell (p := ⟨0, 0, none⟩) hn]
  exact h
theorem ErrT.keep {w w' : World} (h : ErrT w) (hb : Below w.heap.size w w') : ErrT w' := h.below hb h.lt

theorem Tryz.asValueOfP (t : Addr) (w : World) : (ReflectliteValue.unpack (.iface 63 (.pointer (some t)))).run Tryz.prog w
    = .ok (.agg #[.pointer (some ⟨9, 63, none⟩), .pointer (some ⟨w.heap.size, 0, none⟩), .int .u64 150]) (w.alloc (.cells #[.pointer (some t)] 63)) := by kernel_rfl
theorem Tryz.asTypeP (a : Addr) (w : World) : (ReflectliteValue.methodAny (ReflectliteValue.valueError "reflectlite.Value.Type" 0) (fun t _ _ _ => ReflectliteType.toType t) #[.agg #[.pointer (some ⟨9, 63, none⟩), .pointer (some a), .int .u64 150]]).run Tryz.prog w
    = .ok (.iface 111 (.agg #[.pointer (some ⟨9, 63, none⟩)])) w := by kernel_rfl
theorem Tryz.asMethodKind (h : Value) (w : World) : (Go.method 296 111 (.agg #[h]) "Kind").run Tryz.prog w = .ok (118, h) w := by kernel_rfl
theorem Tryz.asKindP (w : World) : ((ReflectliteType.abiMethod fun t => (fun a : Nat => Value.int IntKind.u8 (a : Int)) <$> Rtype.kind t) #[.pointer (some ⟨9, 63, none⟩)]).run Tryz.prog w = .ok (.int .u8 22) w := by kernel_rfl
theorem Tryz.asKindS (w : World) : ((ReflectliteType.abiMethod fun t => (fun a : Nat => Value.int IntKind.u8 (a : Int)) <$> Rtype.kind t) #[.pointer (some ⟨9, 61, none⟩)]).run Tryz.prog w = .ok (.int .u8 25) w := by kernel_rfl

theorem rlm (z : Sem Value) (f : TypeId → Addr → Nat → Nat → Sem Value) (v : Value) :
    ReflectliteValue.method z f #[v] = (do match ← ReflectliteValue.parts v with | none => z | some (t, a, fl) => f t a fl (fl % 32)) := rfl
theorem Tryz.asPartsP (a : Addr) (w : World) : (ReflectliteValue.parts (.agg #[.pointer (some ⟨9, 63, none⟩), .pointer (some a), .int .u64 150])).run Tryz.prog w = .ok (some (63, a, 150)) w := by kernel_rfl
theorem Tryz.asIsNilP (a p : Addr) (W : World) (ha : W.cell? a = some (.pointer (some p))) :
    (ReflectliteValue.method (ReflectliteValue.valueError "reflectlite.Value.IsNil" 0) ReflectliteValue.isNil #[.agg #[.pointer (some ⟨9, 63, none⟩), .pointer (some a), .int .u64 150]]).run Tryz.prog W = .ok (.bool false) W := by
  rw [rlm]
  simp only [Sem.run_bind, Tryz.asPartsP, Result.andThen]
  simp [ReflectliteValue.isNil, loadVar, isAgg, underlying, Tryz.underlying63, ha, Result.andThen]

theorem Tryz.asMethodElem (h : Value) (w : World) : (Go.method 296 111 (.agg #[h]) "Elem").run Tryz.prog w = .ok (129, .agg #[h]) w := by kernel_rfl
theorem Tryz.asMethodImplements (h : Value) (w : World) : (Go.method 296 111 (.agg #[h]) "Implements").run Tryz.prog w = .ok (130, .agg #[h]) w := by kernel_rfl
theorem Tryz.asMethodAssignableTo (h : Value) (w : World) : (Go.method 296 111 (.agg #[h]) "AssignableTo").run Tryz.prog w = .ok (127, .agg #[h]) w := by kernel_rfl
theorem Tryz.asElemP (w : World) : (ReflectliteType.method ReflectliteType.elem #[.agg #[.pointer (some ⟨9, 63, none⟩)]]).run Tryz.prog w = .ok (.iface 111 (.agg #[.pointer (some ⟨9, 61, none⟩)])) w := by kernel_rfl
theorem Tryz.asImplementsS (w : World) : (ReflectliteType.relation "Implements" ReflectliteType.implements_ #[.agg #[.pointer (some ⟨9, 61, none⟩)], .iface 111 (.agg #[.pointer (some ⟨9, 45, none⟩)])]).run Tryz.prog w = .ok (.bool true) w := by kernel_rfl
theorem Tryz.asTypeOfS (v : Value) (w : World) : (ReflectliteType.typeOf #[.iface 61 v]).run Tryz.prog w = .ok (.iface 111 (.agg #[.pointer (some ⟨9, 61, none⟩)])) w := by kernel_rfl
theorem Tryz.asAssignableS (w : World) : (ReflectliteType.relation "AssignableTo" ReflectliteType.assignableTo #[.agg #[.pointer (some ⟨9, 61, none⟩)], .iface 111 (.agg #[.pointer (some ⟨9, 61, none⟩)])]).run Tryz.prog w = .ok (.bool true) w := by kernel_rfl
theorem Tryz.asValueOfS (s : ByteArray) (w : World) : (ReflectliteValue.unpack (.iface 61 (.agg #[.string s]))).run Tryz.prog w
    = .ok (.agg #[.pointer (some ⟨9, 61, none⟩), .pointer (some ⟨w.heap.size, 0, none⟩), .int .u64 153]) (w.alloc (.cells #[.string s] 61)) := by kernel_rfl

theorem Tryz.asElemOfP (w : World) : (Rtype.elem? 63).run Tryz.prog w = .ok (some 61) w := by kernel_rfl
theorem Tryz.asMkS (p : Addr) (w : World) : (ReflectliteValue.mk 61 p ReflectliteValue.flagAddr).run Tryz.prog w = .ok (.agg #[.pointer (some ⟨9, 61, none⟩), .pointer (some p), .int .u64 409]) w := by kernel_rfl
theorem Tryz.asElemV (a p : Addr) (W : World) (ha : W.cell? a = some (.pointer (some p))) :
    (ReflectliteValue.method (ReflectliteValue.valueError "reflectlite.Value.Elem" 0) ReflectliteValue.elem #[.agg #[.pointer (some ⟨9, 63, none⟩), .pointer (some a), .int .u64 150]]).run Tryz.prog W
      = .ok (.agg #[.pointer (some ⟨9, 61, none⟩), .pointer (some p), .int .u64 409]) W := by
  rw [rlm]
  simp only [Sem.run_bind, Tryz.asPartsP, Result.andThen]
  simp [ReflectliteValue.elem, loadVar, isAgg, underlying, Tryz.underlying63, ha, Result.andThen, Tryz.asElemOfP, Tryz.asMkS]
theorem rls (v x : Value) : ReflectliteValue.set #[v, x] = (do
    let (some (dst, a, fl), some (src, b, _)) := (← ReflectliteValue.parts v, ← ReflectliteValue.parts x)
      | unsupported (.noEntry "extern/(internal/reflectlite.Value).Set.zeroValue")
    if fl / ReflectliteValue.flagAddr % 2 == 0 then unsupported (.noEntry "extern/(internal/reflectlite.Value).Set.unaddressable")
    let val ← loadVar src b
    if ← Rtype.directlyAssignable dst src then storeVar dst a val
    else if ← Rtype.implements dst src then
      if (← Rtype.kind src) == 20 then
        match val with
        | .nilIface => unsupported (.noEntry "extern/reflectlite: a nil value of one interface type handed on as a value of another")
        | _ => storeVar dst a val
      else storeVar dst a (.iface src val)
    else panicString ("reflectlite.Set: value of type " ++ (← Rtype.spelt src) ++ " is not assignable to type " ++ (← Rtype.spelt dst))
    pure (.tuple #[])) := rfl
theorem Tryz.asPartsSa (a : Addr) (w : World) : (ReflectliteValue.parts (.agg #[.pointer (some ⟨9, 61, none⟩), .pointer (some a), .int .u64 409])).run Tryz.prog w = .ok (some (61, a, 409)) w := by kernel_rfl
theorem Tryz.asPartsS (a : Addr) (w : World) : (ReflectliteValue.parts (.agg #[.pointer (some ⟨9, 61, none⟩), .pointer (some a), .int .u64 153])).run Tryz.prog w = .ok (some (61, a, 153)) w := by kernel_rfl
theorem Tryz.asDirectS (w : World) : (Rtype.directlyAssignable 61 61).run Tryz.prog w = .ok true w := by kernel_rfl
theorem Tryz.asSizeS (w : World) : (sizeOf 61).run Tryz.prog w = .ok 1 w := by kernel_rfl
theorem Tryz.asSetS (ta b : Addr) (s : ByteArray) (old : Value) (W : World) (hb : W.cell? b = some (.string s)) (ht : W.cell? ta = some old) (hf : W.frozen? ta = false) :
    (ReflectliteValue.set #[.agg #[.pointer (some ⟨9, 61, none⟩), .pointer (some ta), .int .u64 409], .agg #[.pointer (some ⟨9, 61, none⟩), .pointer (some b), .int .u64 153]]).run Tryz.prog W
      = .ok (.tuple #[]) (W.setCell ta (.string s)) := by
  rw [rls]
  simp only [Sem.run_bind, Tryz.asPartsSa, Tryz.asPartsS, Result.andThen]
  simp [ReflectliteValue.flagAddr, loadVar, loadCells, loadCellsFrom, hb, Result.andThen, Tryz.asDirectS, storeVar, Value.cells, storeCells, Addr.add]
  rw [run_store Tryz.prog W ta _ _ (by rfl)]
  simp [ht, hf]

/-- errors.As(nil, target). -/
theorem as_nil (t : Value) (w : World) : Calls Tryz.prog 33 #[.nilIface, t] w fun e w' => e = .returned (.bool false) ∧ w' = w := by
  go_enter Tryz.func33, Tryz.ntmps33
  go_wp2
  go_ret
  exact ⟨rfl, rfl⟩

set_option maxHeartbeats 4000000 in
theorem as_hit (s : ByteArray) (t : Addr) (old : Value) (w : World) (hg : w.cell? ⟨0, 0, none⟩ = some (.iface 111 (.agg #[.pointer (some ⟨9, 45, none⟩)]))) (ht0 : w.cell? t = some old) (hf0 : w.frozen? t = false) :
    Calls Tryz.prog 33 #[.iface 61 (.agg #[.string s]), .iface 63 (.pointer (some t))] w fun ev w' => ev = .returned (.bool true) ∧ w' = ((((w.alloc (.cells #[.pointer (some t)] 63)).alloc (.cells #[.pointer (some ⟨9, 63, none⟩), .pointer (some ⟨w.heap.size, 0, none⟩), .int .u64 150] 89)).alloc (.cells #[.pointer (some ⟨9, 63, none⟩), .pointer (some ⟨w.heap.size, 0, none⟩), .int .u64 150] 89)).alloc (.cells #[.string s] 61)).setCell t (.string s) := by
  have h6 := @run_callFunc_extern Tryz.prog 47 _ (fun args => ReflectliteValue.unpack (args.getD 0 (.tuple #[]))) Tryz.func47 (by kernel_rfl) (by kernel_rfl) (by kernel_rfl) (by kernel_rfl)
  have h7 := @run_callFunc_extern Tryz.prog 48 _ (ReflectliteValue.methodAny (ReflectliteValue.valueError "reflectlite.Value.Type" 0) (fun t _ _ _ => ReflectliteType.toType t)) Tryz.func48 (by kernel_rfl) (by kernel_rfl) (by kernel_rfl) (by kernel_rfl)
  have h8 := @run_callFunc_extern Tryz.prog 49 _ (ReflectliteValue.method (ReflectliteValue.valueError "reflectlite.Value.IsNil" 0) ReflectliteValue.isNil) Tryz.func49 (by kernel_rfl) (by kernel_rfl) (by kernel_rfl) (by kernel_rfl)
  have h27 := @run_callFunc_extern Tryz.prog 118 _ (ReflectliteType.abiMethod fun t => do pure (.int .u8 (← Rtype.kind t))) Tryz.func118 (by kernel_rfl) (by kernel_rfl) (by kernel_rfl) (by kernel_rfl)
  have h37 := @run_callFunc_extern Tryz.prog 129 _ (ReflectliteType.method ReflectliteType.elem) Tryz.func129 (by kernel_rfl) (by kernel_rfl) (by kernel_rfl) (by kernel_rfl)
  have h38 := @run_callFunc_extern Tryz.prog 130 _ (ReflectliteType.relation "Implements" ReflectliteType.implements_) Tryz.func130 (by kernel_rfl) (by kernel_rfl) (by kernel_rfl) (by kernel_rfl)
  have h10 := @run_callFunc_extern Tryz.prog 62 _ ReflectliteType.typeOf Tryz.func62 (by kernel_rfl) (by kernel_rfl) (by kernel_rfl) (by kernel_rfl)
  have h35 := @run_callFunc_extern Tryz.prog 127 _ (ReflectliteType.relation "AssignableTo" ReflectliteType.assignableTo) Tryz.func127 (by kernel_rfl) (by kernel_rfl) (by kernel_rfl) (by kernel_rfl)
  have h11 := @run_callFunc_extern Tryz.prog 63 _ (ReflectliteValue.method (ReflectliteValue.valueError "reflectlite.Value.Elem" 0) ReflectliteValue.elem) Tryz.func63 (by kernel_rfl) (by kernel_rfl) (by kernel_rfl) (by kernel_rfl)
  have h12 := @run_callFunc_extern Tryz.prog 64 _ ReflectliteValue.set Tryz.func64 (by kernel_rfl) (by kernel_rfl) (by kernel_rfl) (by kernel_rfl)
  have tO := Tryz.asTypeOfS
  have mA := Tryz.asMethodAssignableTo
  have a25 := Tryz.asAssignableS
  have v25 := Tryz.asValueOfS
  have f6 := Tryz.asValueOfP
  have f7 := Tryz.asTypeP
  have mK := Tryz.asMethodKind
  have mE := Tryz.asMethodElem
  have mI := Tryz.asMethodImplements
  have k27 := Tryz.asKindP
  have k25 := Tryz.asKindS
  have e27 := Tryz.asElemP
  have i25 := Tryz.asImplementsS
  have n8 := Tryz.asIsNilP ⟨w.heap.size, 0, none⟩ t ((w.alloc (.cells #[.pointer (some t)] 63)).alloc (.cells #[.pointer (some ⟨9, 63, none⟩), .pointer (some ⟨w.heap.size, 0, none⟩), .int .u64 150] 89)) (by simp)
  have hlt : 0 < w.heap.size := by
    rcases Nat.lt_or_ge 0 w.heap.size with h0 | h0
    · exact h0
    · simp [World.cell?, Array.getElem?_eq_none h0] at hg
  have hg2 : ((w.alloc (.cells #[.pointer (some t)] 63)).alloc (.cells #[.pointer (some ⟨9, 63, none⟩), .pointer (some ⟨w.heap.size, 0, none⟩), .int .u64 150] 89)).cell? ⟨0, 0, none⟩ = some (.iface 111 (.agg #[.pointer (some ⟨9, 45, none⟩)])) := by
    rw [World.cell?_alloc_lt _ _ ⟨0, 0, none⟩ (Nat.lt_of_lt_of_le hlt (by simp)), World.cell?_alloc_lt _ _ ⟨0, 0, none⟩ hlt]; exact hg
  have htl : t.block < w.heap.size := by
    rcases Nat.lt_or_ge t.block w.heap.size with h | h
    · exact h
    · simp [World.cell?, Array.getElem?_eq_none h] at ht0
  have el := Tryz.asElemV ⟨w.heap.size, 0, none⟩ t (((w.alloc (.cells #[.pointer (some t)] 63)).alloc (.cells #[.pointer (some ⟨9, 63, none⟩), .pointer (some ⟨w.heap.size, 0, none⟩), .int .u64 150] 89)).alloc (.cells #[.pointer (some ⟨9, 63, none⟩), .pointer (some ⟨w.heap.size, 0, none⟩), .int .u64 150] 89)) (by rw [World.cell?_alloc_lt _ _ ⟨w.heap.size, 0, none⟩ (by simp; omega)]; simp)
  have st := Tryz.asSetS t ⟨w.heap.size + 1 + 1 + 1, 0, none⟩ s old ((((w.alloc (.cells #[.pointer (some t)] 63)).alloc (.cells #[.pointer (some ⟨9, 63, none⟩), .pointer (some ⟨w.heap.size, 0, none⟩), .int .u64 150] 89)).alloc (.cells #[.pointer (some ⟨9, 63, none⟩), .pointer (some ⟨w.heap.size, 0, none⟩), .int .u64 150] 89)).alloc (.cells #[.string s] 61))
    (by rw [World.cell?_alloc_at _ _ _ _ (by simp)]; rfl)
    (by rw [World.cell?_alloc_lt _ _ t (by simp; omega), World.cell?_alloc_lt _ _ t (by simp; omega), World.cell?_alloc_lt _ _ t (by simp; omega), World.cell?_alloc_lt _ _ t htl]; exact ht0)
    (by rw [World.frozen?_alloc_old _ _ t (by simp; omega), World.frozen?_alloc_old _ _ t (by simp; omega), World.frozen?_alloc_old _ _ t (by simp; omega), World.frozen?_alloc_old _ _ t (Nat.ne_of_lt htl)]; exact hf0)
  go_enter Tryz.func33, Tryz.ntmps33
  go_wp2
  refine wp_loop_rounds 1 ?_
  rw [rounds_succ]
  go_wp2
  go_ret
  exact ⟨rfl, rfl⟩

theorem isNo_nil (w : World) : Calls Tryz.prog 20 #[.nilIface] w fun e w' => e = .returned (.bool false) ∧ Below w.heap.size w w' := by
  go_enter Tryz.func20, Tryz.ntmps20
  go_wp2_with fail
  refine (as_nil _ _).mono ?_
  rintro e w' ⟨rfl, rfl⟩
  go_wp2
  go_ret
  exact ⟨rfl, (Below.refl _ _).alloc (Nat.le_refl _) _⟩

set_option maxHeartbeats 1000000 in
theorem isNo_hit (s : ByteArray) (w : World) (hg : ErrT w) : Calls Tryz.prog 20 #[.iface 61 (.agg #[.string s])] w fun e w' => e = .returned (.bool true) ∧ Below w.heap.size w w' := by
  have hgA : ErrT (w.alloc (.cells #[.string ⟨#[]⟩] 61)) := hg.keep ((Below.refl _ _).alloc (Nat.le_refl _) _)
  go_enter Tryz.func20, Tryz.ntmps20
  go_wp2_with fail
  refine (as_hit s ⟨w.heap.size, 0, none⟩ (.string ⟨#[]⟩) _ hgA (by simp) (by simp)).mono ?_
  rintro e w' ⟨rfl, rfl⟩
  go_wp2
  go_ret
  refine ⟨rfl, ?_⟩
  exact (((((Below.refl _ _).alloc (Nat.le_refl _) _).alloc (by simp) _).alloc (by simp; omega) _).alloc (by simp; omega) _).alloc (by simp; omega) _
end Go.Proofs.YtdibmepjbabnnabGreatDoor

/- strconv.Itoa by the library's contract; the walk of impl.partsText. -/
namespace Go.Proofs.YtdibmepjbabnnabGreatDoor
open Go.RowKit

/-- What the library's variables hold on the road of ObjText. -/
structure EnvT (w : World) : Prop where
  err : ErrT w
  pow : ∃ t f, w.heap[1]? = some (.cells (Lib.pow10Tab.map fun z => Value.int .u64 z).toArray t f)
theorem EnvT.keep {w w' : World} (h : EnvT w) (hb : Below w.heap.size w w') : EnvT w' := by
  refine ⟨h.err.keep hb, ?_⟩
  obtain ⟨t, f, hp⟩ := h.pow
  exact ⟨t, f, by rw [hb.block _ (Array.getElem?_eq_some_iff.1 hp).1]; exact hp⟩

theorem below_grow (w : World) (k : Nat) (os : Array Obj) : Below w.heap.size w (Sort.grow (w.drewN k) os) := by
  refine ⟨rfl, rfl, rfl, by simp [Sort.grow], fun j hj => ?_⟩
  have h1 : j < (w.drewN k).heap.size := hj
  simp only [Sort.grow]
  rw [Array.getElem?_append_left h1]
  rfl

theorem itoa_any (z : Int) (hz : -9223372036854775808 ≤ z ∧ z ≤ 9223372036854775807) (w : World) (he : EnvT w) :
    Calls Tryz.prog 17 #[.int .i64 z] w fun e w' => e = .returned (.string (strOf (numText z))) ∧ Below w.heap.size w w' := by
  obtain ⟨t, f, h⟩ := he.pow
  refine (Any.strconv_Itoa Tryz.laysM171 z hz.1 hz.2 w (tabIs_of (by kernel_rfl) h)).mono ?_
  rintro e w' ⟨rfl, k, os, rfl⟩
  exact ⟨by rw [itoa_str], below_grow w k os⟩

/-- A row of texts that is being filled. -/
def wordV (z : Int) : Value := .string (strOf (numText z))
def rowW (L : List Int) (n : Nat) : List Value := L.map wordV ++ List.replicate (n - L.length) (.string ⟨#[]⟩)
theorem rowW_nil (n : Nat) : rowW [] n = List.replicate n (.string ⟨#[]⟩) := by simp [rowW]
theorem rowW_all (L : List Int) : rowW L L.length = L.map wordV := by simp [rowW]
theorem rowW_set (l : List Int) (k : Nat) (h : k < l.length) : (rowW (l.take k) l.length).set k (wordV (l.getD k 0)) = rowW (l.take (k + 1)) l.length := by
  unfold rowW
  have hk : (l.take k).length = k := by rw [List.length_take]; omega
  have hk1 : (l.take (k + 1)).length = k + 1 := by rw [List.length_take]; omega
  rw [hk, hk1, List.set_append, if_neg (by rw [List.length_map, hk]; omega), List.length_map, hk, Nat.sub_self, List.take_succ_eq_append_getElem h]
  have e : l.length - k = (l.length - (k + 1)) + 1 := by omega
  rw [e, List.replicate_succ, List.set_cons_zero]
  simp only [List.getD, h, List.getElem?_eq_getElem, Option.getD_some, List.map_append, List.map_cons, List.map_nil, List.append_assoc, List.singleton_append]

theorem join_words (l : List Int) : Lib.join ((l.map fun z => strOf (numText z)).map (·.data.toList)) [44] = Lib.join (l.map Lib.itoa) [44] := by
  rw [List.map_map]
  congr 1
  apply List.map_congr_left
  intro z _
  show (strOf (numText z)).data.toList = _
  rw [← itoa_str]

theorem join_sep (l : List Int) : (⟨(Lib.join ((l.map fun z => strOf (numText z)).map (·.data.toList)) (ByteArray.mk #[44]).data.toList).toArray⟩ : ByteArray) = strOf (joinOf l) := by
  have e : (ByteArray.mk #[44]).data.toList = [44] := rfl
  rw [e, join_words, joinOf_str]

set_option maxHeartbeats 1000000 in
set_option maxRecDepth 100000 in
theorem partsText_any (a : Option Addr) (c : Nat) (l : List Int) (w : World) (he : EnvT w) (hr : ReadsI w a l) (hl : l.length ≤ 1000) (hz : ∀ z ∈ l, -1000000000 ≤ z ∧ z ≤ 1000000000) :
    Calls Tryz.prog 18 #[.slice a l.length c] w fun e w' => e = .returned (.string (strOf (joinOf l))) ∧ Below w.heap.size w w' := by
  have HJ : Hid (_ = _) := join_sep l
  have HJL : Hid ((Lib.join ((l.map fun z => strOf (numText z)).map (·.data.toList)) (ByteArray.mk #[44]).data.toList).length ≤ 140737488355328) := by
    have e : (ByteArray.mk #[44]).data.toList = [44] := rfl
    rw [Hid, e, join_words, joinOf_len]
    have := join_len l hz l.length (Nat.le_refl _)
    unfold joinOf
    omega
  obtain ⟨i0, hi, hz0, hz1, hz2⟩ := info_parts Tryz.infoStr
  go_enter Tryz.func18, Tryz.ntmps18
  go_wp2_with (at_make; refine wpList_make_full _ rfl _ _ 58 rfl w.heap.size 9 i0 (.string ⟨#[]⟩) 1 Tryz.underlying58 hi hz0 hz1 _ _ _ _ l.length rfl rfl rfl rfl (by rw [hz2]; omega) (by simp [maxLen]; omega) (Nat.le_refl _) ?_)
  intro w0 hown0 hgrow0
  have hown1 : w0.ownsRow w.heap.size 9 1 (.slice (some ⟨w.heap.size, 0, none⟩) l.length l.length) l.length (rowW (l.take 0) l.length) := by
    rw [List.take_zero, rowW_nil]
    simpa [Value.cells, toList_madeCells_one] using hown0
  have hb0 : Below w.heap.size w w0 := (Below.refl _ _).grown hgrow0 (Nat.le_refl _) (fun k h => by cases h)
  have hlt0 : w.heap.size < w0.heap.size := by
    rcases hown1.2 with ⟨hv, _⟩ | ⟨g, cap, cur, hv, _, hgg, _⟩
    · simp at hv
    · simp only [Value.slice.injEq, Option.some.injEq, Addr.mk.injEq] at hv
      have := (Array.getElem?_eq_some_iff.1 hgg).1
      omega
  clear hown0 hgrow0
  go_wp2
  go_loopw [11] (fun i wr => ∃ k : Nat, k ≤ l.length ∧ i = .int .i64 k ∧ Hid (wr.ownsRow w.heap.size 9 1 (.slice (some ⟨w.heap.size, 0, none⟩) l.length l.length) l.length (rowW (l.take k) l.length)) ∧ Below w.heap.size w wr ∧ w.heap.size < wr.heap.size)
    (fun i _ => l.length - (intOf i).toNat)
  case atStart => exact ⟨0, Nat.zero_le _, rfl, hown1, hb0, hlt0⟩
  case round =>
    obtain ⟨k, hk, rfl, hownH, hnx, hsz⟩ := hrel
    clear hown1 hb0 hlt0
    by_cases hlt : k < l.length
    · have hr' := hr.below hnx
      rcases hr'.cases with rfl | ⟨b, off, rfl, hpos, hcell⟩
      · simp at hlt
      have hc := hcell k hlt
      have hbz := hz (l.getD k 0) (by simp [List.getD, hlt])
      have HSET : Hid (_ = _) := rowW_set l k hlt
      have HW : Hid (wordV (l.getD k 0) = .string (strOf (numText (l.getD k 0)))) := rfl
      clear hcell
      generalize l.getD k 0 = z at *
      go_wp2_with fail
      refine (itoa_any z (by omega) wr (he.keep hnx)).mono ?_
      rintro e w2 ⟨rfl, hb2⟩
      have hown2 := ownsRow_block (w' := w2) hownH.out (fun j hj => hb2.block j (hownH.out.lt j hj).2)
      have hfz := hown2.frozenAt k
      obtain ⟨u, hct⟩ := own_cell hown2 k hlt
      have hb2' : Below w.heap.size w w2 := hnx.trans (hb2.mono (by omega))
      have hs2 := hb2.size
      have HS : Hid ((w2.setCell ⟨w.heap.size, k, none⟩ (.string (strOf (numText z)))).ownsRow w.heap.size 9 1 (.slice (some ⟨w.heap.size, 0, none⟩) l.length l.length) l.length (rowW (l.take (k + 1)) l.length)) := by
        have h1 := (hown2.stored k (.string (strOf (numText z)))).1
        rw [← HW.out, HSET.out] at h1
        rw [← HW.out]
        exact h1
      have HN : Hid (Below w.heap.size w (w2.setCell ⟨w.heap.size, k, none⟩ (.string (strOf (numText z)))) ∧ w.heap.size < (w2.setCell ⟨w.heap.size, k, none⟩ (.string (strOf (numText z)))).heap.size) := ⟨hb2'.setCell (Nat.le_refl _) _, by simp; omega⟩
      clear hown2 hb2'
      go_wp2
      go_roundw
      case rel => exact ⟨k + 1, by omega, by go_num, HS, HN.out.1, HN.out.2⟩
      case measure => simp [intOf]; omega
    · have hown : wr.ownsRow w.heap.size 9 1 (.slice (some ⟨w.heap.size, 0, none⟩) l.length l.length) l.length (l.map wordV) := by
        have h1 := hownH.out
        rw [List.take_of_length_le (by omega), rowW_all] at h1
        exact h1
      have hcells : ∀ (j : Nat) x, (l.map fun z => strOf (numText z))[j]? = some x → wr.cell? ⟨w.heap.size, 0 + j, none⟩ = some (.string x) := by
        intro j x hx
        rw [List.getElem?_map] at hx
        cases hj : l[j]? with
        | none => rw [hj] at hx; cases hx
        | some z =>
          rw [hj] at hx
          simp only [Option.map_some, Option.some.injEq] at hx
          have hjl : j < l.length := (List.getElem?_eq_some_iff.1 hj).1
          have := hown.cellAt j (by simpa using hjl)
          rw [Nat.zero_add, this, List.getElem?_map, hj]
          simp [wordV, hx]
      have hjoin := Any.strings_Join Tryz.lays156 Tryz.Builder_Extra_156 w.heap.size 0 l.length (l.map fun z => strOf (numText z)) (ByteArray.mk #[44]) wr hcells hsz (by rw [List.length_map]; omega) (by rw [List.length_map]; exact Nat.le_refl _) HJL.out
      rw [List.length_map, HJ.out] at hjoin
      clear hcells hown
      go_wp2_with fail
      refine hjoin.mono ?_
      rintro e w2 ⟨rfl, hb2⟩
      go_wp2
      go_ret
      exact ⟨rfl, hnx.trans (hb2.mono (by omega))⟩
end Go.Proofs.YtdibmepjbabnnabGreatDoor

/- The library's functions on the road of ParseObj; the walk of impl.parseNumber. -/
namespace Go.Proofs.YtdibmepjbabnnabGreatDoor
open Go.RowKit

/-- What the library's variables hold on the road of ParseObj. -/
structure EnvP (w : World) : Prop where
  text : EnvT w
  max : ∃ m : Int, w.cell? ⟨2, 0, none⟩ = some (.int .i64 m)
  syn : ∃ te pe, w.cell? ⟨3, 0, none⟩ = some (.iface te pe)
  rng : ∃ te pe, w.cell? ⟨4, 0, none⟩ = some (.iface te pe)
theorem EnvP.keep {w w' : World} (h : EnvP w) (hb : Below w.heap.size w w') : EnvP w' := by
  refine ⟨h.text.keep hb, ?_, ?_, ?_⟩
  · obtain ⟨m, hm⟩ := h.max
    exact ⟨m, by rw [hb.cell (p := ⟨_, 0, none⟩) (block_lt hm)]; exact hm⟩
  · obtain ⟨te, pe, hm⟩ := h.syn
    exact ⟨te, pe, by rw [hb.cell (p := ⟨_, 0, none⟩) (block_lt hm)]; exact hm⟩
  · obtain ⟨te, pe, hm⟩ := h.rng
    exact ⟨te, pe, by rw [hb.cell (p := ⟨_, 0, none⟩) (block_lt hm)]; exact hm⟩

/-- strings.Cut at one sign. -/
def CutAns (s : ByteArray) (c : UInt8) (A B : ByteArray) (f : Bool) : Prop :=
  (f = true ∧ cutOf (toI c) (sBytes s) = some (sBytes A, sBytes B)) ∨ (f = false ∧ cutOf (toI c) (sBytes s) = none)
theorem cutS_any (s : ByteArray) (c : UInt8) (w : World) (he : EnvP w) (hs : s.size ≤ 1048576) :
    Calls Tryz.prog 37 #[.string s, .string ⟨#[c]⟩] w fun e w' => ∃ A B f, e = .returned (.tuple #[.string A, .string B, .bool f]) ∧ CutAns s c A B f ∧ A.size ≤ s.size ∧ B.size ≤ s.size ∧ Below w.heap.size w w' := by
  obtain ⟨m, hm⟩ := he.max
  refine (Any.strings_Cut Tryz.lays145 s ⟨#[c]⟩ m w (by omega) hm).mono ?_
  rintro e w' ⟨rfl, n, rfl⟩
  have hsep : (ByteArray.mk #[c]).data.toList = [c] := rfl
  rw [hsep]
  rcases cut_bytes s c with ⟨A, B, h1, h2⟩ | ⟨h1, h2⟩
  · refine ⟨A, B, true, by rw [h2], .inl ⟨rfl, h1⟩, ?_, ?_, below_drewN (Below.refl _ _) n⟩
    · have := congrArg List.length (cutOf_sound _ _ _ _ h1)
      rw [sBytes_len, List.length_append, List.length_cons, sBytes_len, sBytes_len] at this
      omega
    · have := congrArg List.length (cutOf_sound _ _ _ _ h1)
      rw [sBytes_len, List.length_append, List.length_cons, sBytes_len, sBytes_len] at this
      omega
  · refine ⟨s, ⟨#[]⟩, false, by rw [h2], .inr ⟨rfl, h1⟩, Nat.le_refl _, Nat.zero_le _, below_drewN (Below.refl _ _) n⟩

theorem pNum_lib (s : ByteArray) : pNum (sBytes s) = match Lib.atoiAll s.data.toList with
    | .ok v => if numText v = sBytes s then some v else none
    | _ => none := by
  have e : (sBytes s).map b8 = s.data.toList := by rw [sBytes_toI, b8_toI]
  unfold pNum
  cases h : Lib.atoiAll s.data.toList <;> simp only [e, h]
theorem text_same (v : Int) (s : ByteArray) : (strOf (numText v)) = s ↔ numText v = sBytes s := by
  have hb : ∀ z ∈ numText v, 0 ≤ z ∧ z < 256 := by
    intro z hz
    rcases numText_sign v z hz with rfl | h
    · decide
    · omega
  have key : sBytes (strOf (numText v)) = numText v := by
    rw [strOf_b8, sBytes_mk, List.map_map]
    conv => rhs; rw [← List.map_id (numText v)]
    apply List.map_congr_left
    intro z hz
    have := hb z hz
    simp [toI, b8]
    omega
  constructor
  · intro h; rw [← h, key]
  · intro h; apply sBytes_inj; rw [key, h]

set_option maxHeartbeats 1000000 in
set_option maxRecDepth 100000 in
theorem parseNumber_any (s : ByteArray) (w : World) (he : EnvP w) (hs : s.size ≤ 1048576) : Calls Tryz.prog 38 #[.string s] w fun e w' => e = .returned (numAns (pNum (sBytes s))) ∧ Below w.heap.size w w' := by
  have HP := pNum_lib s
  generalize pNum (sBytes s) = X at *
  cases ha : Lib.atoiAll s.data.toList
  case ok v =>
    rw [ha] at HP
    simp only at HP
    have hat := Any.strconv_Atoi_ok Tryz.laysC172 s (by omega) v ha w
    have hbd := Lib.atoiAll_bounds ha
    have htx := text_same v s
    have hit := fun w' (g : EnvT w') => itoa_any v hbd w' g
    clear ha
    generalize strOf (numText v) = T at *
    by_cases hT : T = s
    · have HX : Hid (X = some v) := by rw [Hid, HP, if_pos (htx.1 hT)]
      have hTb : (T.toList == s.toList) = true := by rw [hT]; simp
      clear HP htx hT
      go_enter Tryz.func38, Tryz.ntmps38
      go_wp2_with fail
      refine hat.mono ?_
      rintro e w1 ⟨rfl, hw1⟩
      have hb1 : Below w.heap.size w w1 := by
        rcases hw1 with rfl | ⟨t, rfl⟩
        · exact Below.refl _ _
        · exact Lib.bytesWorld_below _ _ _
      clear hat hw1
      go_wp2_with fail
      refine (hit w1 (he.text.keep hb1)).mono ?_
      rintro e w2 ⟨rfl, hb2⟩
      clear hit
      go_wp2
      go_ret2
      exact ⟨by rw [HX.out]; rfl, hb1.trans (hb2.mono hb1.size)⟩
    · have HX : Hid (X = none) := by rw [Hid, HP, if_neg (fun h => hT (htx.2 h))]
      have hTb : (T.toList == s.toList) = false := by
        rw [beq_eq_false_iff_ne]
        intro e
        apply hT
        apply ByteArray.ext
        apply Array.ext'
        rw [ByteArray.toList_eq, ByteArray.toList_eq] at e
        exact e
      clear HP htx hT
      go_enter Tryz.func38, Tryz.ntmps38
      go_wp2_with fail
      refine hat.mono ?_
      rintro e w1 ⟨rfl, hw1⟩
      have hb1 : Below w.heap.size w w1 := by
        rcases hw1 with rfl | ⟨t, rfl⟩
        · exact Below.refl _ _
        · exact Lib.bytesWorld_below _ _ _
      clear hat hw1
      go_wp2_with fail
      refine (hit w1 (he.text.keep hb1)).mono ?_
      rintro e w2 ⟨rfl, hb2⟩
      clear hit
      go_wp2
      go_ret2
      exact ⟨by rw [HX.out]; rfl, hb1.trans (hb2.mono hb1.size)⟩
  all_goals
    rw [ha] at HP
    simp only at HP
    have HX : Hid (X = none) := HP
    have hat : Calls Tryz.prog 53 #[.string s] w fun e w' => ∃ N z, e = .returned (.tuple #[.int .i64 z, .iface 142 (.pointer (some ⟨N, 0, none⟩))]) ∧ Below w.heap.size w w' := by
      first
      | (obtain ⟨te, pe, hv⟩ := he.syn
         refine (Any.strconv_Atoi_syntax Tryz.laysC172 s (by omega) ha _ w hv (.inr ⟨te, pe, rfl⟩)).mono ?_
         rintro e w' ⟨N, rfl, _, _, hb⟩
         exact ⟨N, _, rfl, hb⟩)
      | (obtain ⟨te, pe, hv⟩ := he.rng
         refine (Any.strconv_Atoi_range Tryz.laysC172 s (by omega) ha _ w hv (.inr ⟨te, pe, rfl⟩)).mono ?_
         rintro e w' ⟨N, rfl, _, _, hb⟩
         exact ⟨N, _, rfl, hb⟩)
    clear ha HP
    go_enter Tryz.func38, Tryz.ntmps38
    go_wp2_with fail
    refine hat.mono ?_
    rintro e w1 ⟨N, z, rfl, hb1⟩
    clear hat
    go_wp2
    go_ret2
    exact ⟨by rw [HX.out]; rfl, hb1⟩
end Go.Proofs.YtdibmepjbabnnabGreatDoor

/- The walk of impl.parseParts. -/
namespace Go.Proofs.YtdibmepjbabnnabGreatDoor
open Go.RowKit

/-- What parseParts answers. -/
def WordsAns (w' : World) (lo : Nat) (x : Option (List Int)) (e : Ending) : Prop := match x with
  | some l => ∃ a' c', e = .returned (.tuple #[.slice a' l.length c', .nilIface]) ∧ OwnI w' lo w'.heap.size a' c' l
  | none => ∃ s, e = .returned (.tuple #[.slice none 0 0, .iface 61 (.agg #[.string s])])
theorem wordsAns_none {w' : World} {lo : Nat} {x : Option (List Int)} (h : x = none) (s : ByteArray) : WordsAns w' lo x (.returned (.tuple #[.slice none 0 0, .iface 61 (.agg #[.string s])])) := by
  subst h; exact ⟨s, rfl⟩
theorem wordsAns_some {w' : World} {lo : Nat} {x : Option (List Int)} {l : List Int} (h : x = some l) (a' : Option Addr) (c' n : Nat) (hn : n = l.length) (ho : OwnI w' lo w'.heap.size a' c' l) : WordsAns w' lo x (.returned (.tuple #[.slice a' n c', .nilIface])) := by
  subst h; subst hn; exact ⟨a', c', rfl, ho⟩

/-- What is still to be read, behind what was. -/
def onBy (L : List Int) : Option (List Int) → Option (List Int)
  | none => none
  | some l => some (L ++ l)
theorem onBy_nil (x : Option (List Int)) : onBy [] x = x := by cases x <;> rfl
theorem onBy_step (f : List Int → Option Int) (L : List Int) (ps : List (List Int)) (j : Nat) (hj : j < ps.length) (z : Int) (h : f ps[j] = some z) : onBy L (allBy f (ps.drop j)) = onBy (L ++ [z]) (allBy f (ps.drop (j + 1))) := by
  rw [List.drop_eq_getElem_cons hj, allBy, h]
  simp only
  cases allBy f (ps.drop (j + 1)) with
  | none => rfl
  | some l => simp [onBy]
theorem onBy_stop (f : List Int → Option Int) (L : List Int) (ps : List (List Int)) (j : Nat) (hj : j < ps.length) (h : f ps[j] = none) : onBy L (allBy f (ps.drop j)) = none := by
  rw [List.drop_eq_getElem_cons hj, allBy, h]; rfl

theorem splitS_any (s : ByteArray) (w : World) (he : EnvP w) (hs : s.size ≤ 1048576) :
    Calls Tryz.prog 54 #[.string s, .string ⟨#[44]⟩] w fun e w' => e = .returned (.slice (some ⟨w.heap.size, 0, none⟩) (Lib.countB s ⟨#[44]⟩ + 1) (Lib.countB s ⟨#[44]⟩ + 1)) ∧ w' = w.alloc (.cells ((Lib.splitB ⟨#[44]⟩ 0 (Lib.countB s ⟨#[44]⟩) s).map Value.string).toArray 9) := by
  obtain ⟨m, hm⟩ := he.max
  exact Any.strings_Split Tryz.lays146 (by kernel_rfl) s ⟨#[44]⟩ m w (by omega) hm (by decide)

set_option maxHeartbeats 2000000 in
set_option maxRecDepth 100000 in
theorem parseParts_any (s : ByteArray) (w : World) (he : EnvP w) (hs : s.size ≤ 1048576) :
    Calls Tryz.prog 39 #[.string s] w fun e w' => WordsAns w' w.heap.size (partsBy pNum (sBytes s)) e ∧ Below w.heap.size w w' := by
  have HX : Hid (partsBy pNum (sBytes s) = if sBytes s = [] then some [] else allBy pNum (splitOf 44 (sBytes s))) := rfl
  generalize partsBy pNum (sBytes s) = X at *
  by_cases h0 : sBytes s = []
  · have HE : Hid (X = some []) := by rw [Hid, HX.out, if_pos h0]
    have hse : s = ⟨#[]⟩ := sBytes_inj (by rw [h0]; rfl)
    have hsb : (s.toList == []) = true := by rw [hse, ByteArray.toList_eq]; rfl
    clear h0
    go_enter Tryz.func39, Tryz.ntmps39
    go_wp2
    go_ret2
    exact ⟨wordsAns_some HE.out _ _ _ rfl (ownI_nil _ _ _ (Nat.le_refl _)), Below.refl _ _⟩
  have hsb : (s.toList == []) = false := by
    rw [beq_eq_false_iff_ne]
    intro e
    apply h0
    rw [ByteArray.toList_eq] at e
    rw [sBytes_toI, e]; rfl
  have hsb2 : ¬ s.toList = [] := by simpa using hsb
  obtain ⟨hsp, hsl⟩ := split_bytes s 44
  have hspw := splitS_any s w he hs
  have hcnt := Lib.count_le s.data.toList [44]
  have hsize : s.data.toList.length = s.size := by simp
  have hcnt' : Lib.countB s ⟨#[44]⟩ + 1 ≤ s.size + 2 := by
    rw [hsize] at hcnt
    exact Nat.succ_le_succ hcnt
  clear hsize
  generalize hss : Lib.splitB ⟨#[44]⟩ 0 (Lib.countB s ⟨#[44]⟩) s = ss at *
  rw [← hsl] at hspw hcnt'
  have HX2 : Hid (onBy [] (allBy pNum ((ss.map sBytes).drop 0)) = X) := by
    rw [Hid, HX.out, if_neg h0, hsp, onBy_nil]; rfl
  have hssz : ∀ t ∈ ss, t.size ≤ 1048576 := by
    intro t ht
    have : sBytes t ∈ splitOf 44 (sBytes s) := by
      have h := List.mem_map_of_mem (f := sBytes) ht
      rw [hsp] at h
      exact h
    have := piece_len 44 (sBytes s) _ this
    rw [sBytes_len, sBytes_len] at this
    omega
  clear hsp hsl hss hcnt HX h0 hsb2
  obtain ⟨i0, hi, hz0, hz1, hz2⟩ := info_parts Tryz.infoInt
  have hbA : Below w.heap.size w (w.alloc (.cells (ss.map Value.string).toArray 9)) := (Below.refl _ _).alloc (Nat.le_refl _) _
  have hcA : ∀ (j : Nat) (hj : j < ss.length), (w.alloc (.cells (ss.map Value.string).toArray 9)).cell? ⟨w.heap.size, j, none⟩ = some (.string ss[j]) := fun j hj => by
    rw [World.cell?_alloc_at _ _ _ _ rfl, List.getElem?_toArray, List.getElem?_map, List.getElem?_eq_getElem hj]; rfl
  have hzA : w.heap.size < (w.alloc (.cells (ss.map Value.string).toArray 9)).heap.size := by simp
  have HWA : Hid (w.alloc (.cells (ss.map Value.string).toArray 9) = w.alloc (.cells (ss.map Value.string).toArray 9)) := rfl
  generalize hWA : w.alloc (.cells (ss.map Value.string).toArray 9) = W at *
  go_enter Tryz.func39, Tryz.ntmps39
  go_wp2_with fail
  refine hspw.mono ?_
  rintro e w1 ⟨rfl, rfl⟩
  clear hspw hWA HWA
  go_wp2_with (at_make; refine wpList_make_full _ rfl _ _ 24 rfl w1.heap.size 3 i0 (.int .i64 0) 1 Tryz.underlying24 hi hz0 hz1 _ _ _ _ ss.length rfl rfl rfl rfl (by rw [hz2]; omega) (by simp [maxLen]; omega) (Nat.le_refl _) ?_)
  intro w2 hown0 hgrow0
  have hown1 : w2.ownsRow w1.heap.size 3 1 (.slice (some ⟨w1.heap.size, 0, none⟩) ss.length ss.length) ss.length ((rowI [] ss.length).map (Value.int .i64)) := by
    rw [rowI_nil, List.map_replicate]
    simpa [Value.cells, toList_madeCells_one] using hown0
  have hb2 : Below w1.heap.size w1 w2 := (Below.refl _ _).grown hgrow0 (Nat.le_refl _) (fun k h => by cases h)
  clear hown0 hgrow0
  go_wp2
  go_loopw [19] (fun i wr => ∃ (L : List Int) (k : Nat), Hid (L.length = k) ∧ k ≤ ss.length ∧ i = .int .i64 k ∧ Hid (onBy L (allBy pNum ((ss.map sBytes).drop k)) = X) ∧ Hid (wr.ownsRow w1.heap.size 3 1 (.slice (some ⟨w1.heap.size, 0, none⟩) ss.length ss.length) ss.length ((rowI L ss.length).map (Value.int .i64))) ∧ Below w1.heap.size w1 wr ∧ w1.heap.size < wr.heap.size)
    (fun i _ => ss.length - (intOf i).toNat)
  case atStart =>
    refine ⟨[], 0, rfl, Nat.zero_le _, rfl, HX2, hown1, hb2, ?_⟩
    rcases hown1.2 with ⟨hv, _⟩ | ⟨g, cap, cur, hv, _, hgg, _⟩
    · simp at hv
    · simp only [Value.slice.injEq, Option.some.injEq, Addr.mk.injEq] at hv
      have := (Array.getElem?_eq_some_iff.1 hgg).1
      omega
  case round =>
    obtain ⟨L, k, hL, hk, rfl, hX, hownH, hnx, hlt1⟩ := hrel
    clear hown1 hb2 HX2
    by_cases hlt : k < ss.length
    · have hc : wr.cell? ⟨w.heap.size, k, none⟩ = some (.string ss[k]) := by
        rw [hnx.cell (p := ⟨w.heap.size, k, none⟩) (by show w.heap.size < w1.heap.size; omega)]; exact hcA k hlt
      have hsk := hssz ss[k] (List.getElem_mem hlt)
      have hpn := fun w' (g : EnvP w') => parseNumber_any ss[k] w' g hsk
      have hjm : k < (ss.map sBytes).length := by simpa using hlt
      have hjs : (ss.map sBytes)[k] = sBytes ss[k] := by simp
      cases hp : pNum (sBytes ss[k]) with
      | none =>
        have HXN : Hid (X = none) := by rw [Hid, ← hX.out, onBy_stop pNum L _ k hjm (by rw [hjs]; exact hp)]
        have HP : Hid (_ = _) := hp
        clear hp hjs
        generalize ss[k] = t at *
        go_wp2_with fail
        refine (hpn wr (he.keep (hbA.trans (hnx.mono hbA.size)))).mono ?_
        rintro e w3 ⟨rfl, hb3⟩
        rw [HP.out]
        simp only [numAns]
        go_wp2
        go_ret2
        exact ⟨wordsAns_none HXN.out _, hbA.trans ((hnx.trans (hb3.mono (by omega))).mono hbA.size)⟩
      | some z =>
        have HXS : Hid (onBy (L ++ [z]) (allBy pNum ((ss.map sBytes).drop (k + 1))) = X) := by rw [Hid, ← hX.out, onBy_step pNum L _ k hjm z (by rw [hjs]; exact hp)]
        have HP : Hid (_ = _) := hp
        have HLS : Hid ((L ++ [z]).length = k + 1) := by rw [Hid, List.length_append, hL.out]; rfl
        clear hp hjs
        generalize ss[k] = t at *
        go_wp2_with fail
        refine (hpn wr (he.keep (hbA.trans (hnx.mono hbA.size)))).mono ?_
        rintro e w3 ⟨rfl, hb3⟩
        rw [HP.out]
        simp only [numAns]
        have hs3 := hb3.size
        have hown3 := ownsRow_block (w' := w3) hownH.out (fun j hj => hb3.block j (hownH.out.lt j hj).2)
        have hfz := hown3.frozenAt k
        obtain ⟨u, hct⟩ := own_cell hown3 k hlt
        have hb3' : Below w1.heap.size w1 w3 := hnx.trans (hb3.mono (by omega))
        have HS : Hid ((w3.setCell ⟨w1.heap.size, k, none⟩ (.int .i64 z)).ownsRow w1.heap.size 3 1 (.slice (some ⟨w1.heap.size, 0, none⟩) ss.length ss.length) ss.length ((rowI (L ++ [z]) ss.length).map (Value.int .i64))) := by
          have h1 := (hown3.stored k (.int .i64 z)).1
          have h2 := rowI_set_map L ss.length z (by rw [hL.out]; exact hlt)
          rw [hL.out] at h2
          rw [h2] at h1
          exact h1
        have HN : Hid (Below w1.heap.size w1 (w3.setCell ⟨w1.heap.size, k, none⟩ (.int .i64 z)) ∧ w1.heap.size < (w3.setCell ⟨w1.heap.size, k, none⟩ (.int .i64 z)).heap.size) := ⟨hb3'.setCell (Nat.le_refl _) _, by simp; omega⟩
        clear hown3 hb3'
        go_wp2
        go_roundw
        case rel => exact ⟨L ++ [z], k + 1, HLS, by omega, by go_num, HXS, HS, HN.out.1, HN.out.2⟩
        case measure => simp [intOf]; omega
    · obtain rfl : k = ss.length := by omega
      have HXS : Hid (X = some L) := by
        rw [Hid, ← hX.out, List.drop_of_length_le (by simp)]
        simp [allBy, onBy]
      have HO : Hid (OwnI wr w.heap.size wr.heap.size (some ⟨w1.heap.size, 0, none⟩) ss.length L) := by
        have h1 := hownH.out
        have e : rowI L ss.length = L := by rw [← hL.out]; exact rowI_all L
        rw [e] at h1
        have h2 : OwnI wr w1.heap.size wr.heap.size (some ⟨w1.heap.size, 0, none⟩) ss.length L := by
          refine ⟨?_, Nat.le_refl _, ?_⟩
          · rw [hL.out]; exact h1
          · intro j hj; rw [hL.out] at hj; exact (h1.lt j hj).2
        exact h2.widen (by omega) (Nat.le_refl _) (Nat.le_refl _)
      go_wp2
      go_ret2
      exact ⟨wordsAns_some HXS.out _ _ _ hL.out.symm HO.out, hbA.trans (hnx.mono hbA.size)⟩
end Go.Proofs.YtdibmepjbabnnabGreatDoor

/- The walk of impl.readParts. -/
namespace Go.Proofs.YtdibmepjbabnnabGreatDoor
open Go.RowKit

/-- What readParts answers. -/
def PartsAns (w' : World) (lo : Nat) (x : Option (List Int × Nat)) (e : Ending) : Prop := match x with
  | some (l, q) => ∃ a' c', e = .returned (.tuple #[.slice a' l.length c', .int .i64 (q : Nat), .nilIface]) ∧ OwnI w' lo w'.heap.size a' c' l
  | none => ∃ s, e = .returned (.tuple #[.slice none 0 0, .int .i64 0, .iface 61 (.agg #[.string s])])
theorem partsAns_none {w' : World} {lo : Nat} {x : Option (List Int × Nat)} (h : x = none) (s : ByteArray) : PartsAns w' lo x (.returned (.tuple #[.slice none 0 0, .int .i64 0, .iface 61 (.agg #[.string s])])) := by
  subst h; exact ⟨s, rfl⟩
theorem partsAns_some {w' : World} {lo : Nat} {x : Option (List Int × Nat)} {l : List Int} {q : Nat} (h : x = some (l, q)) (a' : Option Addr) (c' n : Nat) (hn : n = l.length) (ho : OwnI w' lo w'.heap.size a' c' l) : PartsAns w' lo x (.returned (.tuple #[.slice a' n c', .int .i64 (q : Nat), .nilIface])) := by
  subst h; subst hn; exact ⟨a', c', rfl, ho⟩

theorem partsAt_none {zs : List Int} {p : Nat} (h : getAt zs (p : Int) = none) : partsAt zs p = none := by unfold partsAt; rw [h]
theorem partsAt_bad {zs : List Int} {p q : Nat} {n : Int} (h : getAt zs (p : Int) = some (n, q)) (hn : n < 0 ∨ 5 < n) : partsAt zs p = none := by
  unfold partsAt; rw [h]; simp only; rw [if_neg (by omega)]
theorem partsAt_good {zs : List Int} {p q m : Nat} (h : getAt zs (p : Int) = some ((m : Int), q)) (hm : m ≤ 5) : partsAt zs p = numsAt zs m q := by
  unfold partsAt; rw [h]; simp only; rw [if_pos (by omega), Int.toNat_natCast]

set_option maxHeartbeats 2000000 in
set_option maxRecDepth 100000 in
theorem readParts_any (a : Option Addr) (c : Nat) (zs : List Int) (p : Nat) (w : World) (hr : Reads w a zs) (hl : zs.length ≤ 70368744177664) (hcap : zs.length ≤ c) :
    Calls Tryz.prog 36 #[.slice a zs.length c, .int .i64 p] w fun e w' => PartsAns w' w.heap.size (partsAt zs p) e ∧ Below w.heap.size w w' := by
  cases hg : getAt zs (p : Int) with
  | none =>
    have HX : Hid (_ = _) := partsAt_none hg
    have HG : Hid (_ = _) := hg
    clear hg
    generalize partsAt zs p = X at *
    go_enter Tryz.func36, Tryz.ntmps36
    go_wp2_with fail
    refine (implGetInt_any a c zs p w hr hl hcap).mono ?_
    rintro e w' ⟨rfl, rfl⟩
    rw [HG.out]
    simp only [triple]
    go_wp2
    go_ret3
    exact ⟨partsAns_none HX.out _, Below.refl _ _⟩
  | some t =>
    obtain ⟨n, q⟩ := t
    by_cases hn0 : n < 0
    · have HX : Hid (_ = _) := partsAt_bad hg (.inl hn0)
      have HG : Hid (_ = _) := hg
      clear hg
      generalize partsAt zs p = X at *
      go_enter Tryz.func36, Tryz.ntmps36
      go_wp2_with fail
      refine (implGetInt_any a c zs p w hr hl hcap).mono ?_
      rintro e w' ⟨rfl, rfl⟩
      rw [HG.out]
      simp only [triple]
      go_wp2
      go_ret3
      exact ⟨partsAns_none HX.out _, Below.refl _ _⟩
    by_cases hn5 : 5 < n
    · have HX : Hid (_ = _) := partsAt_bad hg (.inr hn5)
      have HG : Hid (_ = _) := hg
      clear hg
      generalize partsAt zs p = X at *
      go_enter Tryz.func36, Tryz.ntmps36
      go_wp2_with fail
      refine (implGetInt_any a c zs p w hr hl hcap).mono ?_
      rintro e w' ⟨rfl, rfl⟩
      rw [HG.out]
      simp only [triple]
      go_wp2
      go_ret3
      exact ⟨partsAns_none HX.out _, Below.refl _ _⟩
    obtain ⟨m, rfl⟩ : ∃ m : Nat, n = (m : Int) := ⟨n.toNat, by omega⟩
    have hm5 : m ≤ 5 := by omega
    have HX : Hid (onTo [] (numsAt zs (m - 0) q) = partsAt zs p) := by rw [Hid, partsAt_good hg hm5, onTo_nil]; rfl
    have HG : Hid (_ = _) := hg
    clear hg
    generalize partsAt zs p = X at *
    obtain ⟨i0, hi, hz0, hz1, hz2⟩ := info_parts Tryz.infoInt
    go_enter Tryz.func36, Tryz.ntmps36
    go_wp2_with fail
    refine (implGetInt_any a c zs p w hr hl hcap).mono ?_
    rintro e w' ⟨rfl, rfl⟩
    rw [HG.out]
    simp only [triple]
    go_wp2_with (at_make; refine wpList_make_full _ rfl _ _ 24 rfl w'.heap.size 3 i0 (.int .i64 0) 1 Tryz.underlying24 hi hz0 hz1 _ _ _ _ m rfl rfl rfl rfl (by rw [hz2]; omega) (by simp [maxLen]; omega) (Nat.le_refl _) ?_)
    intro w0 hown0 hgrow0
    have hown1 : w0.ownsRow w'.heap.size 3 1 (.slice (some ⟨w'.heap.size, 0, none⟩) m m) m ((rowI [] m).map (Value.int .i64)) := by
      rw [rowI_nil, List.map_replicate]
      simpa [Value.cells, toList_madeCells_one] using hown0
    have hb0 : Below w'.heap.size w' w0 := (Below.refl _ _).grown hgrow0 (Nat.le_refl _) (fun k h => by cases h)
    clear hown0 hgrow0
    go_wp2
    go_loopw [1, 34] (fun at_ i wr => ∃ (L : List Int) (k r : Nat), Hid (L.length = k) ∧ k ≤ m ∧ i = .int .i64 k ∧ at_ = .int .i64 r ∧ Hid (onTo L (numsAt zs (m - k) r) = X) ∧ Hid (wr.ownsRow w'.heap.size 3 1 (.slice (some ⟨w'.heap.size, 0, none⟩) m m) m ((rowI L m).map (Value.int .i64))) ∧ Below w'.heap.size w' wr)
      (fun _ i _ => m - (intOf i).toNat)
    case atStart => exact ⟨[], 0, q, rfl, Nat.zero_le _, rfl, rfl, HX, hown1, hb0⟩
    case round =>
      obtain ⟨L, k, r, hL, hk, rfl, rfl, hX, hownH, hnx⟩ := hrel
      clear hown1 hb0 HX
      by_cases hlt : k < m
      · have hown := hownH.out
        have hfz := hown.frozenAt k
        obtain ⟨u, hct⟩ := own_cell hown k hlt
        cases hg : getAt zs (r : Int) with
        | none =>
          have HG2 : Hid (_ = _) := hg
          have HXN : Hid (X = none) := by
            have e : m - k = (m - k - 1) + 1 := by omega
            rw [Hid, ← hX.out, e, onTo_stop zs L _ r hg]
          have hbS : Below w'.heap.size w' (wr.setCell ⟨w'.heap.size, k, none⟩ (.int .i64 0)) := hnx.setCell (Nat.le_refl _) _
          have HBS : Hid (_) := hbS
          clear hg hown hbS
          go_wp2_with fail
          refine (implGetInt_any a c zs r wr (hr.below hnx) hl hcap).mono ?_
          rintro e w2 ⟨rfl, rfl⟩
          rw [HG2.out]
          simp only [triple]
          go_wp2
          go_ret3
          exact ⟨partsAns_none HXN.out _, HBS.out⟩
        | some t =>
          obtain ⟨z, r2⟩ := t
          have HG2 : Hid (_ = _) := hg
          have HXS : Hid (onTo (L ++ [z]) (numsAt zs (m - (k + 1)) r2) = X) := by
            have e : m - k = (m - (k + 1)) + 1 := by omega
            rw [Hid, ← hX.out, e, onTo_step zs L _ r r2 z hg]
          have HLS : Hid ((L ++ [z]).length = k + 1) := by rw [Hid, List.length_append, hL.out]; rfl
          have HS : Hid ((wr.setCell ⟨w'.heap.size, k, none⟩ (.int .i64 z)).ownsRow w'.heap.size 3 1 (.slice (some ⟨w'.heap.size, 0, none⟩) m m) m ((rowI (L ++ [z]) m).map (Value.int .i64))) := by
            have h1 := (hown.stored k (.int .i64 z)).1
            have h2 := rowI_set_map L m z (by rw [hL.out]; exact hlt)
            rw [hL.out] at h2
            rw [h2] at h1
            exact h1
          have HN : Hid (Below w'.heap.size w' (wr.setCell ⟨w'.heap.size, k, none⟩ (.int .i64 z))) := hnx.setCell (Nat.le_refl _) _
          clear hg hown
          go_wp2_with fail
          refine (implGetInt_any a c zs r wr (hr.below hnx) hl hcap).mono ?_
          rintro e w2 ⟨rfl, rfl⟩
          rw [HG2.out]
          simp only [triple]
          go_wp2
          go_roundw
          case rel => exact ⟨L ++ [z], k + 1, r2, HLS, by omega, by go_num, rfl, HXS, HS, HN.out⟩
          case measure => simp [intOf]; omega
      · obtain rfl : k = m := by omega
        have HXS : Hid (X = some (L, r)) := by rw [Hid, ← hX.out, Nat.sub_self, numsAt]; simp [onTo]
        have HO : Hid (OwnI wr w'.heap.size wr.heap.size (some ⟨w'.heap.size, 0, none⟩) k L) := by
          have h1 := hownH.out
          have e : rowI L k = L := by rw [← hL.out]; exact rowI_all L
          rw [e] at h1
          refine ⟨?_, Nat.le_refl _, ?_⟩
          · rw [hL.out]; exact h1
          · intro j hj; rw [hL.out] at hj; exact (h1.lt j hj).2
        go_wp2
        go_ret3
        exact ⟨partsAns_some HXS.out _ _ _ hL.out.symm HO.out, hnx⟩
end Go.Proofs.YtdibmepjbabnnabGreatDoor

/- When an object is right; the walks of impl.partsOk, impl.checkObj and impl.ObjOk. -/
namespace Go.Proofs.YtdibmepjbabnnabGreatDoor
open Go.RowKit

def partsB (l : List Int) (least most : Int) : Bool := decide (l.length ≤ 5) && l.all (fun z => inB z least most)
theorem partsB_at {l : List Int} {least most : Int} (j : Nat) (hj : j < l.length) (h : inB (l.getD j 0) least most = false) : partsB l least most = false := by
  have : (l.all (fun z => inB z least most)) = false := by
    rw [List.all_eq_false]
    exact ⟨l.getD j 0, by simp [List.getD, hj], by rw [h]; decide⟩
  simp [partsB, this]
theorem partsB_all {l : List Int} {least most : Int} (h : ∀ j, j < l.length → inB (l.getD j 0) least most = true) : partsB l least most = decide (l.length ≤ 5) := by
  have : (l.all (fun z => inB z least most)) = true := by
    rw [List.all_eq_true]
    intro z hz
    obtain ⟨j, hj, rfl⟩ := List.getElem_of_mem hz
    have := h j hj
    simpa [List.getD, hj] using this
  simp [partsB, this]
theorem okB_parts (o : ObjV) : okB o = (inB o.kind 1 99 && (partsB o.ints (-1000000) 1000000 && partsB o.refs 0 31)) := by
  unfold okB partsB
  cases inB o.kind 1 99 <;> cases decide (o.ints.length ≤ 5) <;> cases decide (o.refs.length ≤ 5) <;> cases o.ints.all (fun z => inB z (-1000000) 1000000) <;> simp

theorem inB_false {x l m : Int} (h : inB x l m = false) : x < l ∨ (¬ x < l ∧ m < x) := by simp [inB] at h; omega
theorem inB_true {x l m : Int} (h : inB x l m = true) : ¬ x < l ∧ ¬ m < x := by simp [inB] at h; omega

/-- What checkObj answers of what is right, and of what is not. -/
def IsErr (ok : Bool) (e : Ending) : Prop := (ok = true ∧ e = .returned .nilIface) ∨ (ok = false ∧ ∃ s, e = .returned (.iface 61 (.agg #[.string s])))
theorem isErr_ok {ok : Bool} (h : ok = true) : IsErr ok (.returned .nilIface) := .inl ⟨h, rfl⟩
theorem isErr_no {ok : Bool} (h : ok = false) (s : ByteArray) : IsErr ok (.returned (.iface 61 (.agg #[.string s]))) := .inr ⟨h, s, rfl⟩

set_option maxHeartbeats 400000 in
theorem partsOk_any (a : Option Addr) (c : Nat) (l : List Int) (least most : Int) (w : World) (hr : ReadsI w a l) (hl : l.length ≤ 140737488355328) :
    Calls Tryz.prog 34 #[.slice a l.length c, .int .i64 least, .int .i64 most] w fun e w' => e = .returned (.bool (partsB l least most)) ∧ w' = w := by
  go_enter Tryz.func34, Tryz.ntmps34
  go_wp2
  go_loop [11] (fun i => ∃ j : Nat, j ≤ l.length ∧ i = .int .i64 j ∧ Hid (∀ t, t < j → inB (l.getD t 0) least most = true)) (fun i => l.length - (intOf i).toNat)
  case atStart => exact ⟨0, by omega, rfl, fun t ht => by omega⟩
  case round =>
    obtain ⟨j, hj, rfl, hall⟩ := hrel
    by_cases hlt : j < l.length
    · rcases hr.cases with rfl | ⟨b, off, rfl, hpos, hcell⟩
      · simp at hlt
      have hc := hcell j hlt
      clear hcell
      cases hz : inB (l.getD j 0) least most with
      | false =>
        have HE : Hid (partsB l least most = false) := partsB_at j hlt hz
        have hz' := inB_false hz
        clear hz
        generalize l.getD j 0 = z at *
        rcases hz' with h1 | ⟨h1, h2⟩
        all_goals
          go_wp2
          go_ret
          exact ⟨ret_bool HE.out.symm, rfl⟩
      | true =>
        have HN : Hid (∀ t, t < j + 1 → inB (l.getD t 0) least most = true) := by
          intro t ht
          by_cases e : t = j
          · rw [e]; exact hz
          · exact hall.out t (by omega)
        obtain ⟨h1, h2⟩ := inB_true hz
        clear hz
        generalize l.getD j 0 = z at *
        go_wp2
        go_round
        case rel => exact ⟨j + 1, by omega, by go_num, HN⟩
        case measure => simp [intOf]; omega
    · have HE : Hid (partsB l least most = decide (l.length ≤ 5)) := partsB_all (fun t ht => hall.out t (by omega))
      go_wp2
      go_ret
      exact ⟨ret_bool (by rw [HE.out]; exact decide_eq_decide.2 (by omega)), rfl⟩

set_option maxHeartbeats 1000000 in
set_option maxRecDepth 100000 in
theorem checkObj_any (o : ObjV) (aI : Option Addr) (cI : Nat) (aR : Option Addr) (cR : Nat) (w : World) (hr : ReadsO w aI cI aR cR o) (hnI : o.ints.length ≤ 140737488355328) (hnR : o.refs.length ≤ 140737488355328) :
    Calls Tryz.prog 21 #[.agg #[.int .i64 o.kind, .slice aI o.ints.length cI, .slice aR o.refs.length cR]] w fun e w' => IsErr (okB o) e ∧ Below w.heap.size w w' := by
  have HOK := okB_parts o
  generalize okB o = OK at *
  obtain ⟨k, ints, refs⟩ := o
  obtain ⟨hI, hR, _, _⟩ := hr
  simp only at *
  obtain ⟨W, hW, b0, hbW, hsW⟩ := boxes1 w [.int .i64 k, .slice aI ints.length cI, .slice aR refs.length cR] 26
  have hI' := hI.below hbW
  have hR' := hR.below hbW
  have x0 := b0.cell 0 _ rfl
  have x1 := b0.cell 1 _ rfl
  have x2 := b0.cell 2 _ rfl
  cases hk : inB k 1 99 with
  | false =>
    have HF : Hid (OK = false) := by rw [Hid, HOK, hk, Bool.false_and]
    clear HOK
    have hz' := inB_false hk
    clear hk
    rcases hz' with h1 | ⟨h1, h2⟩
    all_goals
      go_enter Tryz.func21, Tryz.ntmps21
      go_wp2
      go_ret
      exact ⟨isErr_no HF.out _, hW.out ▸ hbW⟩
  | true =>
  rw [hk, Bool.true_and] at HOK
  obtain ⟨h1, h2⟩ := inB_true hk
  clear hk
  cases hp : partsB ints (-1000000) 1000000 with
  | false =>
    have HF : Hid (OK = false) := by rw [Hid, HOK, hp, Bool.false_and]
    clear HOK
    have HP : Hid (_ = _) := hp
    clear hp
    go_enter Tryz.func21, Tryz.ntmps21
    go_wp2_with fail
    rw [hW.out]
    refine (partsOk_any aI cI ints _ _ W hI' hnI).mono ?_
    rintro e w' ⟨rfl, rfl⟩
    rw [HP.out]
    go_wp2
    go_ret
    exact ⟨isErr_no HF.out _, hbW⟩
  | true =>
  rw [hp, Bool.true_and] at HOK
  have HP : Hid (_ = _) := hp
  clear hp
  cases hq : partsB refs 0 31 with
  | false =>
    have HF : Hid (OK = false) := by rw [Hid, HOK, hq]
    clear HOK
    have HQ : Hid (_ = _) := hq
    clear hq
    go_enter Tryz.func21, Tryz.ntmps21
    go_wp2_with fail
    rw [hW.out]
    refine (partsOk_any aI cI ints _ _ W hI' hnI).mono ?_
    rintro e w' ⟨rfl, rfl⟩
    rw [HP.out]
    go_wp2_with fail
    refine (partsOk_any aR cR refs _ _ _ hR' hnR).mono ?_
    rintro e w' ⟨rfl, rfl⟩
    rw [HQ.out]
    go_wp2
    go_ret
    exact ⟨isErr_no HF.out _, hbW⟩
  | true =>
    have HF : Hid (OK = true) := by rw [Hid, HOK, hq]
    clear HOK
    have HQ : Hid (_ = _) := hq
    clear hq
    go_enter Tryz.func21, Tryz.ntmps21
    go_wp2_with fail
    rw [hW.out]
    refine (partsOk_any aI cI ints _ _ W hI' hnI).mono ?_
    rintro e w' ⟨rfl, rfl⟩
    rw [HP.out]
    go_wp2_with fail
    refine (partsOk_any aR cR refs _ _ _ hR' hnR).mono ?_
    rintro e w' ⟨rfl, rfl⟩
    rw [HQ.out]
    go_wp2
    go_ret
    exact ⟨isErr_ok HF.out, hbW⟩

set_option maxHeartbeats 1000000 in
set_option maxRecDepth 100000 in
theorem implObjOk_any (o : ObjV) (aI : Option Addr) (cI : Nat) (aR : Option Addr) (cR : Nat) (w : World) (hg : ErrT w) (hr : ReadsO w aI cI aR cR o) (hnI : o.ints.length ≤ 140737488355328) (hnR : o.refs.length ≤ 140737488355328) :
    Calls Tryz.prog 9 #[.agg #[.int .i64 o.kind, .slice aI o.ints.length cI, .slice aR o.refs.length cR]] w fun e w' => e = .returned (.bool (okB o)) ∧ Below w.heap.size w w' := by
  obtain ⟨W, hW, b0, hbW, hsW⟩ := boxes1 w [.int .i64 o.kind, .slice aI o.ints.length cI, .slice aR o.refs.length cR] 26
  have hr' := hr.below hbW
  have hg' := hg.keep hbW
  have x0 := b0.cell 0 _ rfl
  have x1 := b0.cell 1 _ rfl
  have x2 := b0.cell 2 _ rfl
  go_enter Tryz.func9, Tryz.ntmps9
  go_wp2_with fail
  rw [hW.out]
  refine (checkObj_any o aI cI aR cR W hr' hnI hnR).mono ?_
  rintro e w1 ⟨he, hb1⟩
  have B1 : Below w.heap.size w w1 := hbW.trans (hb1.mono hbW.size)
  rcases he with ⟨hok, rfl⟩ | ⟨hok, s, rfl⟩
  · have HO : Hid (_ = _) := hok
    clear hok
    go_wp2_with fail
    refine (isNo_nil w1).mono ?_
    rintro e w2 ⟨rfl, hb2⟩
    go_wp2
    go_ret
    exact ⟨by rw [HO.out]; rfl, B1.trans (hb2.mono B1.size)⟩
  · have HO : Hid (_ = _) := hok
    clear hok
    go_wp2_with fail
    refine (isNo_hit s w1 (hg'.keep hb1)).mono ?_
    rintro e w2 ⟨rfl, hb2⟩
    go_wp2
    go_ret
    exact ⟨by rw [HO.out]; rfl, B1.trans (hb2.mono B1.size)⟩
end Go.Proofs.YtdibmepjbabnnabGreatDoor
