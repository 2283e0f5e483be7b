/- Plain mathematics: the texts of numbers as the library says them. -/
import Derived.Test.YtdibmepjbabnnacDoorObjTextSpec
import Derived.Lib.ItoaNum
import Derived.Lib.Join
namespace Go.Proofs.YtdibmepjbabnnacDoor
open Go.RowKit

def b8 (z : Int) : UInt8 := UInt8.ofNat z.toNat
theorem strOf_b8 (l : List Int) : strOf l = ⟨(l.map b8).toArray⟩ := rfl

theorem dec_lib (n : Nat) : (decOf n).map b8 = Lib.decDigits n := by
  induction n using Nat.strongRecOn with
  | _ n ih =>
    by_cases h : n < 10
    · rw [decOf_small n h, Lib.decDigits, dif_pos h]
      show [UInt8.ofNat (((48 + n : Nat) : Int)).toNat] = _
      rw [Int.toNat_natCast]
    · rw [decOf_big n h, Lib.decDigits, dif_neg h, List.map_append, ih (n / 10) (by omega)]
      congr 1
theorem num_lib (z : Int) : (numText z).map b8 = Lib.itoa z := by
  unfold numText Lib.itoa
  split
  · rw [List.map_cons, dec_lib, show (-z).toNat = z.natAbs from by omega]; rfl
  · exact dec_lib _
theorem itoa_str (z : Int) : (⟨(Lib.itoa z).toArray⟩ : ByteArray) = strOf (numText z) := by rw [strOf_b8, num_lib]

theorem join_snoc (xs : List (List UInt8)) (y sep : List UInt8) (h : xs ≠ []) : Lib.join (xs ++ [y]) sep = Lib.join xs sep ++ sep ++ y := by
  cases xs with
  | nil => exact absurd rfl h
  | cons x r =>
    rw [List.cons_append, Lib.join_cons, Lib.join_cons]
    simp [Lib.joinTail]
theorem join_lib (l : List Int) (k : Nat) (hk : k ≤ l.length) : (joinTo l k).map b8 = Lib.join ((l.take k).map Lib.itoa) [44] := by
  induction k with
  | zero => simp [joinTo, Lib.join_nil]
  | succ k ih =>
    have hlt : k < l.length := by omega
    rw [List.take_succ_eq_append_getElem hlt, List.map_append, List.map_cons, List.map_nil]
    have hg : l.getD k 0 = l[k] := by simp [List.getD, hlt]
    by_cases h0 : k = 0
    · subst h0
      simp only [joinTo, List.take_zero, List.map_nil, List.nil_append, if_true]
      rw [num_lib, hg, Lib.join_one]
    · rw [join_step l k (by omega), List.map_append, List.map_append, ih (by omega), num_lib, hg, join_snoc]
      · rfl
      · intro e
        have h := congrArg List.length e
        rw [List.length_map, List.length_take, List.length_nil] at h
        omega
theorem joinOf_str (l : List Int) : (⟨(Lib.join (l.map Lib.itoa) [44]).toArray⟩ : ByteArray) = strOf (joinOf l) := by
  rw [strOf_b8, joinOf, join_lib l l.length (Nat.le_refl _), List.take_length]
theorem joinOf_len (l : List Int) : (Lib.join (l.map Lib.itoa) [44]).length = (joinOf l).length := by
  have h := congrArg List.length (join_lib l l.length (Nat.le_refl _))
  rw [List.length_map, List.take_length] at h
  exact h.symm
end Go.Proofs.YtdibmepjbabnnacDoor
