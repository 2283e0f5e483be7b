/- Several texts in one, in their order. -/
import Derived.Test.YtnnehpimkdoeoaaPChainx12
import Derived.Deep.RegionHeld3
import Derived.WalkKit
/- The walk of spec.PutInt. -/
namespace Go.Proofs.Ytnnehpimkdoeoaa
open Go.RowKit

theorem i64_or128 (y : Int) (h0 : 0 ≤ y) (h1 : y < 128) : bits .or .i64 y 128 = y + 128 := by
  have hc : bits .or .i64 y 128 = bits .or .i64 128 y := by simp only [bits, BitVec.or_comm]
  have hw : ∀ n : Int, 0 ≤ n → n < 2 ^ 63 → IntKind.i64.wrap n = n := fun n _ _ => by rw [IntKind.wrap_i64]; omega
  rw [hc, bits_join .i64 63 (by decide) hw 7 128 y (by decide) (by decide) (by decide) h0 h1 (by omega)]
  omega

theorem group_byte (m : Nat) : bits .or .i64 (bits .and .i64 (m : Int) 127) 128 = (m : Int) % 128 + 128 := by
  rw [i64_and127, i64_or128 _ (by omega) (by omega)]

end Go.Proofs.Ytnnehpimkdoeoaa

/- The bytes of an object; the walks of spec.l2PutList and spec.PutObj. -/
namespace Go.Proofs.Ytnnehpimkdoeoaa
open Go.RowKit

def putList (l : List Int) : List Int := putOf l.length ++ l.flatMap putOf
def putObjOf (o : ObjV) : List Int := if okB o then (putOf o.kind ++ putList o.ints) ++ putList o.refs else []

theorem flat_len (l : List Int) : (l.flatMap putOf).length ≤ 65 * l.length := by
  induction l with
  | nil => simp
  | cons z r ih => have := (putOf_len z).2; simp only [List.flatMap_cons, List.length_append, List.length_cons]; omega
theorem putList_len (l : List Int) : (putList l).length ≤ 65 + 65 * l.length := by
  have := flat_len l
  have := (putOf_len l.length).2
  simp only [putList, List.length_append]; omega
theorem flat_take (l : List Int) (k : Nat) (h : k < l.length) : (l.take (k + 1)).flatMap putOf = (l.take k).flatMap putOf ++ putOf (l.getD k 0) := by
  rw [List.take_succ_eq_append_getElem h, List.flatMap_append]
  simp [List.getD, h]

end Go.Proofs.Ytnnehpimkdoeoaa

/- Plain mathematics of reading a number: how many groups say that more come, what they hold. -/
namespace Go.Proofs.Ytnnehpimkdoeoaa

/-- How many of the first bytes say that more come. -/
def lead : List Int → Nat
  | [] => 0
  | z :: r => if 128 ≤ z then lead r + 1 else 0
def valOf : List Int → Nat
  | [] => 0
  | z :: r => (z % 128).toNat + 128 * valOf r
def unzig (m : Nat) : Int := if m % 2 = 0 then ((m / 2 : Nat) : Int) else -((m / 2 : Nat) : Int) - 1
/-- The number whose bytes begin a list, and how many they are. -/
def getOf (L : List Int) : Option (Int × Nat) :=
  if lead L < L.length ∧ lead L < 6 ∧ ¬ (0 < lead L ∧ L.getD (lead L) 0 = 0) ∧ valOf (L.take (lead L + 1)) ≤ 2000000000000 then some (unzig (valOf (L.take (lead L + 1))), lead L + 1) else none
def getAt (zs : List Int) (p : Int) : Option (Int × Nat) := if 0 ≤ p then (getOf (zs.drop p.toNat)).map fun r => (r.1, p.toNat + r.2) else none

theorem lead_le (L : List Int) : lead L ≤ L.length := by
  induction L with
  | nil => simp [lead]
  | cons z r ih => unfold lead; split <;> simp <;> omega
theorem lead_ge (k : Nat) : ∀ L : List Int, k ≤ L.length → (∀ i, i < k → 128 ≤ L.getD i 0) → k ≤ lead L := by
  induction k with
  | zero => intro L _ _; omega
  | succ k ih =>
    intro L hl h
    cases L with
    | nil => simp at hl
    | cons z r =>
      have h0 := h 0 (by omega)
      simp at h0
      unfold lead
      rw [if_pos h0]
      have := ih r (by simp at hl; omega) (fun i hi => by have := h (i + 1) (by omega); simpa using this)
      omega
theorem lead_stop (k : Nat) : ∀ L : List Int, k < L.length → L.getD k 0 < 128 → lead L ≤ k := by
  induction k with
  | zero =>
    intro L hl h
    cases L with
    | nil => simp at hl
    | cons z r =>
      simp at h
      unfold lead
      rw [if_neg (by omega)]
      omega
  | succ k ih =>
    intro L hl h
    cases L with
    | nil => simp at hl
    | cons z r =>
      unfold lead
      split
      · have := ih r (by simp at hl; omega) (by simpa using h)
        omega
      · omega
theorem lead_eq (k : Nat) (L : List Int) (hl : k < L.length) (h : ∀ i, i < k → 128 ≤ L.getD i 0) (hs : L.getD k 0 < 128) : lead L = k := by
  have := lead_ge k L (by omega) h
  have := lead_stop k L hl hs
  omega

theorem valOf_snoc (L : List Int) (z : Int) : valOf (L ++ [z]) = valOf L + (z % 128).toNat * 128 ^ L.length := by
  induction L with
  | nil => simp [valOf]
  | cons y r ih =>
    simp only [List.cons_append, valOf, ih, List.length_cons]
    rw [Nat.pow_succ, Nat.mul_add, Nat.add_assoc]
    congr 1
    rw [Nat.mul_left_comm, Nat.mul_comm 128 (128 ^ r.length)]
theorem valOf_take (L : List Int) (k : Nat) (h : k < L.length) : valOf (L.take (k + 1)) = valOf (L.take k) + (L.getD k 0 % 128).toNat * 128 ^ k := by
  rw [List.take_succ_eq_append_getElem h, valOf_snoc]
  simp [List.getD, h]
  rw [Nat.min_eq_left (by omega)]
theorem valOf_lt (L : List Int) : valOf L < 128 ^ L.length := by
  induction L with
  | nil => simp [valOf]
  | cons z r ih =>
    simp only [valOf, List.length_cons, Nat.pow_succ]
    have : (z % 128).toNat < 128 := by omega
    omega
theorem valOf_take_lt (L : List Int) (k : Nat) (h : k ≤ 6) : valOf (L.take k) < 4398046511104 ∧ valOf (L.take k) < 128 ^ k := by
  have h1 := valOf_lt (L.take k)
  have h2 : (L.take k).length ≤ k := List.length_take_le _ _
  have h3 : (128 : Nat) ^ (L.take k).length ≤ 128 ^ k := Nat.pow_le_pow_right (by omega) h2
  have h4 : (128 : Nat) ^ k ≤ 128 ^ 6 := Nat.pow_le_pow_right (by omega) h
  have h5 : (128 : Nat) ^ 6 = 4398046511104 := by decide
  omega

theorem getOf_some (L : List Int) (k : Nat) (hk : lead L = k) (h1 : k < L.length) (h2 : k < 6) (h3 : ¬ (0 < k ∧ L.getD k 0 = 0)) (h4 : valOf (L.take (k + 1)) ≤ 2000000000000) :
    getOf L = some (unzig (valOf (L.take (k + 1))), k + 1) := by
  subst hk; unfold getOf; rw [if_pos ⟨h1, h2, h3, h4⟩]
theorem getOf_none (L : List Int) (h : lead L = L.length ∨ 6 ≤ lead L ∨ (0 < lead L ∧ L.getD (lead L) 0 = 0) ∨ 2000000000000 < valOf (L.take (lead L + 1))) : getOf L = none := by
  unfold getOf
  rw [if_neg]
  rintro ⟨h1, h2, h3, h4⟩
  rcases h with h | h | h | h
  · omega
  · omega
  · exact h3 h
  · omega

theorem unzig_bd (m : Nat) : (-1000000000000 ≤ unzig m ∧ unzig m ≤ 1000000000000) ↔ m ≤ 2000000000000 := by
  unfold unzig; split <;> omega

theorem getAt_bd (zs : List Int) (p n : Int) (k : Nat) (h : getAt zs p = some (n, k)) : k ≤ zs.length ∧ -1000000000000 ≤ n ∧ n ≤ 1000000000000 := by
  unfold getAt at h
  split at h
  · unfold getOf at h
    split at h
    · rename_i h1 h2
      simp only [Option.map_some, Option.some.injEq, Prod.mk.injEq] at h
      obtain ⟨rfl, rfl⟩ := h
      have hb := (unzig_bd _).2 h2.2.2.2
      have hl : (zs.drop p.toNat).length = zs.length - p.toNat := List.length_drop
      refine ⟨?_, hb.1, hb.2⟩
      omega
    · simp at h
  · simp at h

end Go.Proofs.Ytnnehpimkdoeoaa
