/- Plain mathematics: the digits of a number. -/
import Derived.WalkKit
namespace Go.Proofs.YtdibmepjbabnnacDoor

/-- The digits of a number, in so many steps at most. -/
def decN : Nat → Nat → List Int
  | 0, n => [((48 + n : Nat) : Int)]
  | f + 1, n => if n < 10 then [((48 + n : Nat) : Int)] else decN f (n / 10) ++ [((48 + n % 10 : Nat) : Int)]
/-- The digits of a number. -/
def decOf (n : Nat) : List Int := decN n n
theorem decN_succ (f : Nat) : ∀ n, n ≤ f → decN f n = decN (f + 1) n := by
  induction f with
  | zero => intro n h; obtain rfl : n = 0 := by omega
            rfl
  | succ f ih =>
    intro n h
    unfold decN
    split
    · rfl
    · rw [ih (n / 10) (by omega)]
theorem decN_add (n d : Nat) : decN (n + d) n = decN n n := by
  induction d with
  | zero => rfl
  | succ d ih => rw [← ih, ← Nat.add_assoc, ← decN_succ (n + d) n (by omega)]
/-- A number's text, a minus ahead below 0. -/
def numText (z : Int) : List Int := if z < 0 then 45 :: decOf (-z).toNat else decOf z.toNat

theorem decOf_small (n : Nat) (h : n < 10) : decOf n = [((48 + n : Nat) : Int)] := by
  unfold decOf
  cases n with
  | zero => rfl
  | succ m => rw [decN, if_pos h]
theorem decOf_big (n : Nat) (h : ¬ n < 10) : decOf n = decOf (n / 10) ++ [((48 + n % 10 : Nat) : Int)] := by
  unfold decOf
  obtain ⟨m, rfl⟩ : ∃ m, n = m + 1 := ⟨n - 1, by omega⟩
  rw [decN, if_neg h]
  have e : m = (m + 1) / 10 + (m - (m + 1) / 10) := by omega
  have := decN_add ((m + 1) / 10) (m - (m + 1) / 10)
  rw [← e] at this
  rw [this]

theorem decOf_len (k : Nat) : ∀ n, n < 10 ^ (k + 1) → (decOf n).length ≤ k + 1 := by
  induction k with
  | zero => intro n h; rw [decOf_small n (by omega)]; simp
  | succ k ih =>
    intro n h
    by_cases h10 : n < 10
    · rw [decOf_small n h10]; simp
    · rw [decOf_big n h10]
      have := ih (n / 10) (by rw [Nat.pow_succ] at h; omega)
      simp; omega
end Go.Proofs.YtdibmepjbabnnacDoor
