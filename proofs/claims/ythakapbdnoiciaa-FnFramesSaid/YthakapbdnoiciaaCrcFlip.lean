/- A byte that is another makes another sum. -/
import Derived.Test.YthakapbdnoiciaaCrcMath
namespace Go.Proofs.Ythakapbdnoiciaa

theorem crcBit_top (x : Nat) (h : x < 4294967296) : (crcBit x).testBit 31 = decide (x % 2 = 1) := by
  have h1 : (x / 2).testBit 31 = false := Nat.testBit_lt_two_pow (by omega)
  unfold crcBit
  split
  · rename_i ho
    rw [Nat.testBit_xor, h1, decide_eq_true ho]
    decide
  · rename_i ho
    rw [h1, decide_eq_false ho]

theorem xor_right_inj (a b c : Nat) (h : a ^^^ c = b ^^^ c) : a = b := by
  have := congrArg (· ^^^ c) h
  simpa [Nat.xor_assoc] using this
theorem xor_left_inj (a b c : Nat) (h : c ^^^ a = c ^^^ b) : a = b := by
  rw [Nat.xor_comm c a, Nat.xor_comm c b] at h
  exact xor_right_inj _ _ _ h

theorem crcBit_inj (x y : Nat) (hx : x < 4294967296) (hy : y < 4294967296) (h : crcBit x = crcBit y) : x = y := by
  have hp : decide (x % 2 = 1) = decide (y % 2 = 1) := by rw [← crcBit_top x hx, ← crcBit_top y hy, h]
  by_cases ho : x % 2 = 1
  · have ho' : y % 2 = 1 := by simpa [ho] using hp
    unfold crcBit at h
    rw [if_pos ho, if_pos ho'] at h
    have := xor_right_inj _ _ _ h
    omega
  · have ho' : ¬ y % 2 = 1 := by simpa [ho] using hp
    unfold crcBit at h
    rw [if_neg ho, if_neg ho'] at h
    omega

theorem crcBits_inj (k x y : Nat) (hx : x < 4294967296) (hy : y < 4294967296) (h : crcBits k x = crcBits k y) : x = y := by
  induction k with
  | zero => exact h
  | succ k ih => exact ih (crcBit_inj _ _ (crcBits_lt k x hx) (crcBits_lt k y hy) h)

theorem crcByte_inj_state (x y c : Nat) (hx : x < 4294967296) (hy : y < 4294967296) (hc : c < 256) (h : crcByte x c = crcByte y c) : x = y :=
  xor_right_inj _ _ _ (crcBits_inj 8 _ _ (xor_byte_lt x c hx hc) (xor_byte_lt y c hy hc) h)
theorem crcByte_inj_byte (x c d : Nat) (hx : x < 4294967296) (hc : c < 256) (hd : d < 256) (h : crcByte x c = crcByte x d) : c = d :=
  xor_left_inj _ _ _ (crcBits_inj 8 _ _ (xor_byte_lt x c hx hc) (xor_byte_lt x d hx hd) h)

def crcFold (zs : List Int) (s : Nat) : Nat := zs.foldl (fun x c => crcByte x c.toNat) s

theorem crcFold_lt (zs : List Int) (hb : ∀ z ∈ zs, 0 ≤ z ∧ z < 256) (s : Nat) (hs : s < 4294967296) : crcFold zs s < 4294967296 := by
  induction zs generalizing s with
  | nil => exact hs
  | cons z r ih =>
    have hz := hb z (by simp)
    exact ih (fun y hy => hb y (by simp [hy])) _ (crcByte_lt _ _ hs (by omega))

theorem crcFold_inj (zs : List Int) (hb : ∀ z ∈ zs, 0 ≤ z ∧ z < 256) (s t : Nat) (hs : s < 4294967296) (ht : t < 4294967296) (h : crcFold zs s = crcFold zs t) : s = t := by
  induction zs generalizing s t with
  | nil => exact h
  | cons z r ih =>
    have hz := hb z (by simp)
    exact crcByte_inj_state _ _ z.toNat hs ht (by omega) (ih (fun y hy => hb y (by simp [hy])) _ _ (crcByte_lt _ _ hs (by omega)) (crcByte_lt _ _ ht (by omega)) h)

theorem crcFold_set (zs : List Int) (hb : ∀ z ∈ zs, 0 ≤ z ∧ z < 256) (i : Nat) (hi : i < zs.length) (c : Int) (hc : 0 ≤ c ∧ c < 256) (hne : c ≠ zs.getD i 0) (s : Nat) (hs : s < 4294967296) :
    crcFold (zs.set i c) s ≠ crcFold zs s := by
  induction zs generalizing i s with
  | nil => simp at hi
  | cons z r ih =>
    have hz := hb z (by simp)
    have hbr : ∀ y ∈ r, 0 ≤ y ∧ y < 256 := fun y hy => hb y (by simp [hy])
    cases i with
    | zero =>
      intro h
      have h1 : crcByte s c.toNat = crcByte s z.toNat := crcFold_inj r hbr _ _ (crcByte_lt _ _ hs (by omega)) (crcByte_lt _ _ hs (by omega)) h
      have h2 := crcByte_inj_byte _ _ _ hs (by omega) (by omega) h1
      simp at hne
      omega
    | succ i =>
      exact ih hbr i (by simpa using hi) (by simpa using hne) _ (crcByte_lt _ _ hs (by omega))

theorem crcOf_fold (zs : List Int) : crcOf zs = 4294967295 ^^^ crcFold zs 4294967295 := by
  unfold crcOf crcTo crcFold
  rw [List.take_of_length_le (Nat.le_refl _)]

theorem crcOf_set (zs : List Int) (hb : ∀ z ∈ zs, 0 ≤ z ∧ z < 256) (i : Nat) (hi : i < zs.length) (c : Int) (hc : 0 ≤ c ∧ c < 256) (hne : c ≠ zs.getD i 0) : crcOf (zs.set i c) ≠ crcOf zs := by
  intro h
  rw [crcOf_fold, crcOf_fold] at h
  exact crcFold_set zs hb i hi c hc hne _ (by omega) (xor_left_inj _ _ _ h)
end Go.Proofs.Ythakapbdnoiciaa
