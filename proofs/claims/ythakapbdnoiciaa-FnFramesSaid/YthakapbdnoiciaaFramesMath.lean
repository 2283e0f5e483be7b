/- Plain mathematics of FnFrames: a short body comes back of its frame; a byte that is another is told; cut, it ends. -/
import Derived.Test.YthakapbdnoiciaaUnfMath
import Derived.Test.YthakapbdnoiciaaCrcFlip
namespace Go.Proofs.Ythakapbdnoiciaa
open Go.RowKit

theorem put_short (n : Nat) (h : n ≤ 9) : putOf (n : Int) = [((2 * n : Nat) : Int)] := by
  have e : zig (n : Int) = 2 * n := by
    have hc : clampI (n : Int) = n := by unfold clampI; rw [if_neg (by omega), if_neg (by omega)]
    unfold zig; rw [hc, if_pos (by omega)]; omega
  unfold putOf
  rw [e, groups_small _ (by omega)]

theorem frame_short (y : List Int) (h : y.length ≤ 9) : frameOf y = ((2 * y.length : Nat) : Int) :: (y ++ four (crcOf y)) := by
  unfold frameOf
  rw [put_short _ h]
  simp

theorem four_len (x : Nat) : (four x).length = 4 := by simp [four, fourTo]

theorem get_short (n : Nat) (h : n ≤ 9) (T : List Int) : getAt (((2 * n : Nat) : Int) :: T) 0 = some ((n : Int), 1) := by
  have hl : lead (((2 * n : Nat) : Int) :: T) = 0 := by simp only [lead]; rw [if_neg (by omega)]
  unfold getAt
  rw [if_pos (by omega)]
  simp only [Int.toNat_zero, List.drop_zero]
  rw [getOf_some _ 0 hl (by simp) (by omega) (by omega) (by simp [valOf]; omega)]
  have hv : valOf (List.take (0 + 1) (((2 * n : Nat) : Int) :: T)) = 2 * n := by simp [valOf]; omega
  rw [hv]
  unfold unzig
  rw [if_pos (by omega)]
  simp

theorem four_inj (x y : Nat) (hx : x < 4294967296) (hy : y < 4294967296) (h : four x = four y) : x = y := by
  rw [four_eq, four_eq] at h
  simp only [List.cons.injEq, and_true] at h
  omega

theorem frames_back (y : List Int) (h : y.length ≤ 9) : unfOf (frameOf y ++ [7, 7]) 0 = (y, ((frameOf y).length : Int), 0) := by
  have hl := four_len (crcOf y)
  rw [frame_short y h]
  rw [List.cons_append]
  rw [unf_good _ 0 y.length 1 (get_short _ h _) (by simp; omega) (by
    simp only [List.append_assoc]
    rw [show 1 + y.length = y.length + 1 from by omega, List.drop_succ_cons, List.drop_left, List.drop_succ_cons, List.drop_zero, List.take_left, List.take_append_of_le_length (by omega), List.take_of_length_le (by omega)])]
  simp only [List.append_assoc, List.drop_succ_cons, List.drop_zero, List.take_left, Prod.mk.injEq, true_and, and_true]
  simp
  omega

theorem frames_cut (y : List Int) (h : y.length ≤ 9) (n : Nat) (hn : n < (frameOf y).length) : unfOf ((frameOf y).take n) 0 = ([], 0, 1) := by
  have hl := four_len (crcOf y)
  cases n with
  | zero =>
    simp only [List.take_zero]
    rw [unf_none [] 0 rfl]
    rfl
  | succ n =>
    rw [frame_short y h] at hn ⊢
    rw [List.take_succ_cons]
    exact unf_end _ 0 y.length 1 (get_short _ h _) (by simp at hn ⊢; omega)

theorem frames_turned (y : List Int) (hb : ∀ z ∈ y, 0 ≤ z ∧ z < 256) (h : y.length ≤ 9) (i : Nat) (hi : 1 ≤ i) (hi2 : i < (frameOf y).length) (v : Int) (hv : 0 ≤ v ∧ v < 256) (hne : v ≠ (frameOf y).getD i 0) : unfOf ((frameOf y).set i v) 0 = ([], 0, 2) := by
  have hl := four_len (crcOf y)
  have hlt : ∀ u : List Int, (∀ z ∈ u, 0 ≤ z ∧ z < 256) → crcOf u < 4294967296 := crcOf_lt
  obtain ⟨j, rfl⟩ : ∃ j, i = j + 1 := ⟨i - 1, by omega⟩
  rw [frame_short y h] at hi2 hne ⊢
  rw [List.set_cons_succ]
  simp only [List.length_cons, List.length_append, hl] at hi2
  simp only [List.getD_cons_succ] at hne
  have hlen : ((y ++ four (crcOf y)).set j v).length = y.length + 4 := by simp [hl]
  refine unf_sum _ 0 y.length 1 (get_short _ h _) (by simp [hl]) ?_
  rw [show 1 + y.length = y.length + 1 from by omega, List.drop_succ_cons, List.drop_succ_cons, List.drop_zero]
  by_cases hj : j < y.length
  · rw [List.set_append_left _ _ hj]
    have e : (y.set j v).length = y.length := by simp
    rw [← e, List.drop_left, List.take_left, List.take_of_length_le (by omega)]
    intro he
    have hb' : ∀ z ∈ y.set j v, 0 ≤ z ∧ z < 256 := by
      intro z hz
      rcases List.mem_or_eq_of_mem_set hz with h1 | h1
      · exact hb z h1
      · rw [h1]; exact hv
    have := four_inj _ _ (hlt y hb) (hlt _ hb') he
    refine crcOf_set y hb j hj v hv ?_ this.symm
    intro e2
    apply hne
    rw [e2]
    simp [List.getD, List.getElem?_append_left hj]
  · rw [List.set_append_right _ _ (by omega), List.drop_left, List.take_left, List.take_of_length_le (by simp [hl])]
    intro he
    apply hne
    have : ((four (crcOf y)).set (j - y.length) v).getD (j - y.length) 0 = v := by
      simp [List.getD]
      rw [List.getElem?_set_self (by omega)]; rfl
    rw [he] at this
    rw [← this]
    simp [List.getD, List.getElem?_append_right (show y.length ≤ j from by omega)]

theorem xor_bit_ne (z k : Nat) : z ^^^ (2 ^ k) ≠ z := by
  intro h
  have := congrArg (fun t => Nat.testBit t k) h
  simp [Nat.testBit_xor, Nat.testBit_two_pow_self] at this
end Go.Proofs.Ythakapbdnoiciaa
