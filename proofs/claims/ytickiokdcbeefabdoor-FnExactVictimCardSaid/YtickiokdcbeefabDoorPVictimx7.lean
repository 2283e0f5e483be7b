/- Several texts in one, in their order. -/
import Derived.Test.YtickiokdcbeefabDoorPVictimx6
import Derived.Deep.RegionHeld3
import Derived.WalkKit
import Derived.Test.YtickiokdcbeefabDoorProg
import Derived.Test.YtickiokdcbeefabDoorPVictimx1
import Derived.Deep.QuietTactic
import Derived.BigQuiet
/- The walk of spec.PutInt. -/
namespace Go.Proofs.YtickiokdcbeefabDoor
open Go.RowKit

theorem i64_or128 (y : Int) (h0 : 0 ≤ y) (h1 : y < 128) : bits .or .i64 y 128 = y + 128 := by
  have hc : bits .or .i64 y 128 = bits .or .i64 128 y := by simp only [bits, BitVec.or_comm]
  have hw : ∀ n : Int, 0 ≤ n → n < 2 ^ 63 → IntKind.i64.wrap n = n := fun n _ _ => by rw [IntKind.wrap_i64]; omega
  rw [hc, bits_join .i64 63 (by decide) hw 7 128 y (by decide) (by decide) (by decide) h0 h1 (by omega)]
  omega

theorem group_byte (m : Nat) : bits .or .i64 (bits .and .i64 (m : Int) 127) 128 = (m : Int) % 128 + 128 := by
  rw [i64_and127, i64_or128 _ (by omega) (by omega)]

end Go.Proofs.YtickiokdcbeefabDoor

/- The bytes of an object; the walks of spec.l2PutList and spec.PutObj. -/
namespace Go.Proofs.YtickiokdcbeefabDoor
open Go.RowKit

def putList (l : List Int) : List Int := putOf l.length ++ l.flatMap putOf
def putObjOf (o : ObjV) : List Int := if okB o then (putOf o.kind ++ putList o.ints) ++ putList o.refs else []

theorem flat_len (l : List Int) : (l.flatMap putOf).length ≤ 65 * l.length := by
  induction l with
  | nil => simp
  | cons z r ih => have := (putOf_len z).2; simp only [List.flatMap_cons, List.length_append, List.length_cons]; omega
theorem putList_len (l : List Int) : (putList l).length ≤ 65 + 65 * l.length := by
  have := flat_len l
  have := (putOf_len l.length).2
  simp only [putList, List.length_append]; omega
theorem flat_take (l : List Int) (k : Nat) (h : k < l.length) : (l.take (k + 1)).flatMap putOf = (l.take k).flatMap putOf ++ putOf (l.getD k 0) := by
  rw [List.take_succ_eq_append_getElem h, List.flatMap_append]
  simp [List.getD, h]

end Go.Proofs.YtickiokdcbeefabDoor

/- Plain mathematics of reading a number: how many groups say that more come, what they hold. -/
namespace Go.Proofs.YtickiokdcbeefabDoor

/-- How many of the first bytes say that more come. -/
def lead : List Int → Nat
  | [] => 0
  | z :: r => if 128 ≤ z then lead r + 1 else 0
def valOf : List Int → Nat
  | [] => 0
  | z :: r => (z % 128).toNat + 128 * valOf r
def unzig (m : Nat) : Int := if m % 2 = 0 then ((m / 2 : Nat) : Int) else -((m / 2 : Nat) : Int) - 1
/-- The number whose bytes begin a list, and how many they are. -/
def getOf (L : List Int) : Option (Int × Nat) :=
  if lead L < L.length ∧ lead L < 6 ∧ ¬ (0 < lead L ∧ L.getD (lead L) 0 = 0) ∧ valOf (L.take (lead L + 1)) ≤ 2000000000000 then some (unzig (valOf (L.take (lead L + 1))), lead L + 1) else none
def getAt (zs : List Int) (p : Int) : Option (Int × Nat) := if 0 ≤ p then (getOf (zs.drop p.toNat)).map fun r => (r.1, p.toNat + r.2) else none

theorem lead_le (L : List Int) : lead L ≤ L.length := by
  induction L with
  | nil => simp [lead]
  | cons z r ih => unfold lead; split <;> simp <;> omega
theorem lead_ge (k : Nat) : ∀ L : List Int, k ≤ L.length → (∀ i, i < k → 128 ≤ L.getD i 0) → k ≤ lead L := by
  induction k with
  | zero => intro L _ _; omega
  | succ k ih =>
    intro L hl h
    cases L with
    | nil => simp at hl
    | cons z r =>
      have h0 := h 0 (by omega)
      simp at h0
      unfold lead
      rw [if_pos h0]
      have := ih r (by simp at hl; omega) (fun i hi => by have := h (i + 1) (by omega); simpa using this)
      omega
theorem lead_stop (k : Nat) : ∀ L : List Int, k < L.length → L.getD k 0 < 128 → lead L ≤ k := by
  induction k with
  | zero =>
    intro L hl h
    cases L with
    | nil => simp at hl
    | cons z r =>
      simp at h
      unfold lead
      rw [if_neg (by omega)]
      omega
  | succ k ih =>
    intro L hl h
    cases L with
    | nil => simp at hl
    | cons z r =>
      unfold lead
      split
      · have := ih r (by simp at hl; omega) (by simpa using h)
        omega
      · omega
theorem lead_eq (k : Nat) (L : List Int) (hl : k < L.length) (h : ∀ i, i < k → 128 ≤ L.getD i 0) (hs : L.getD k 0 < 128) : lead L = k := by
  have := lead_ge k L (by omega) h
  have := lead_stop k L hl hs
  omega

theorem valOf_snoc (L : List Int) (z : Int) : valOf (L ++ [z]) = valOf L + (z % 128).toNat * 128 ^ L.length := by
  induction L with
  | nil => simp [valOf]
  | cons y r ih =>
    simp only [List.cons_append, valOf, ih, List.length_cons]
    rw [Nat.pow_succ, Nat.mul_add, Nat.add_assoc]
    congr 1
    rw [Nat.mul_left_comm, Nat.mul_comm 128 (128 ^ r.length)]
theorem valOf_take (L : List Int) (k : Nat) (h : k < L.length) : valOf (L.take (k + 1)) = valOf (L.take k) + (L.getD k 0 % 128).toNat * 128 ^ k := by
  rw [List.take_succ_eq_append_getElem h, valOf_snoc]
  simp [List.getD, h]
  rw [Nat.min_eq_left (by omega)]
theorem valOf_lt (L : List Int) : valOf L < 128 ^ L.length := by
  induction L with
  | nil => simp [valOf]
  | cons z r ih =>
    simp only [valOf, List.length_cons, Nat.pow_succ]
    have : (z % 128).toNat < 128 := by omega
    omega
theorem valOf_take_lt (L : List Int) (k : Nat) (h : k ≤ 6) : valOf (L.take k) < 4398046511104 ∧ valOf (L.take k) < 128 ^ k := by
  have h1 := valOf_lt (L.take k)
  have h2 : (L.take k).length ≤ k := List.length_take_le _ _
  have h3 : (128 : Nat) ^ (L.take k).length ≤ 128 ^ k := Nat.pow_le_pow_right (by omega) h2
  have h4 : (128 : Nat) ^ k ≤ 128 ^ 6 := Nat.pow_le_pow_right (by omega) h
  have h5 : (128 : Nat) ^ 6 = 4398046511104 := by decide
  omega

theorem getOf_some (L : List Int) (k : Nat) (hk : lead L = k) (h1 : k < L.length) (h2 : k < 6) (h3 : ¬ (0 < k ∧ L.getD k 0 = 0)) (h4 : valOf (L.take (k + 1)) ≤ 2000000000000) :
    getOf L = some (unzig (valOf (L.take (k + 1))), k + 1) := by
  subst hk; unfold getOf; rw [if_pos ⟨h1, h2, h3, h4⟩]
theorem getOf_none (L : List Int) (h : lead L = L.length ∨ 6 ≤ lead L ∨ (0 < lead L ∧ L.getD (lead L) 0 = 0) ∨ 2000000000000 < valOf (L.take (lead L + 1))) : getOf L = none := by
  unfold getOf
  rw [if_neg]
  rintro ⟨h1, h2, h3, h4⟩
  rcases h with h | h | h | h
  · omega
  · omega
  · exact h3 h
  · omega

theorem unzig_bd (m : Nat) : (-1000000000000 ≤ unzig m ∧ unzig m ≤ 1000000000000) ↔ m ≤ 2000000000000 := by
  unfold unzig; split <;> omega

theorem getAt_bd (zs : List Int) (p n : Int) (k : Nat) (h : getAt zs p = some (n, k)) : k ≤ zs.length ∧ -1000000000000 ≤ n ∧ n ≤ 1000000000000 := by
  unfold getAt at h
  split at h
  · unfold getOf at h
    split at h
    · rename_i h1 h2
      simp only [Option.map_some, Option.some.injEq, Prod.mk.injEq] at h
      obtain ⟨rfl, rfl⟩ := h
      have hb := (unzig_bd _).2 h2.2.2.2
      have hl : (zs.drop p.toNat).length = zs.length - p.toNat := List.length_drop
      refine ⟨?_, hb.1, hb.2⟩
      omega
    · simp at h
  · simp at h

end Go.Proofs.YtickiokdcbeefabDoor

/- Plain mathematics of the sum: one bit, eight bits, a list of bytes; what stays below 2 to the 32. -/
namespace Go.Proofs.YtickiokdcbeefabDoor

def crcBit (x : Nat) : Nat := if x % 2 = 1 then (x / 2) ^^^ 3988292384 else x / 2
def crcBits : Nat → Nat → Nat
  | 0, x => x
  | k + 1, x => crcBit (crcBits k x)
def crcByte (x : Nat) (c : Nat) : Nat := crcBits 8 (x ^^^ c)
def crcTo (zs : List Int) (k : Nat) : Nat := (zs.take k).foldl (fun x c => crcByte x c.toNat) 4294967295
def crcOf (zs : List Int) : Nat := 4294967295 ^^^ crcTo zs zs.length

theorem crcBit_lt (x : Nat) (h : x < 4294967296) : crcBit x < 4294967296 := by
  unfold crcBit
  split
  · exact Nat.xor_lt_two_pow (n := 32) (by omega) (by omega)
  · omega

theorem crcBits_lt (k x : Nat) (h : x < 4294967296) : crcBits k x < 4294967296 := by
  induction k with
  | zero => exact h
  | succ k ih => exact crcBit_lt _ ih

theorem xor_byte_lt (x c : Nat) (h : x < 4294967296) (hc : c < 256) : x ^^^ c < 4294967296 :=
  Nat.xor_lt_two_pow (n := 32) (by omega) (by omega)

theorem crcByte_lt (x c : Nat) (h : x < 4294967296) (hc : c < 256) : crcByte x c < 4294967296 :=
  crcBits_lt 8 _ (xor_byte_lt x c h hc)

theorem crcTo_zero (zs : List Int) : crcTo zs 0 = 4294967295 := by simp [crcTo]

theorem crcTo_succ (zs : List Int) (k : Nat) (h : k < zs.length) : crcTo zs (k + 1) = crcByte (crcTo zs k) (zs.getD k 0).toNat := by
  unfold crcTo
  rw [List.take_succ_eq_append_getElem h, List.foldl_append]
  simp [h]

theorem crcTo_lt (zs : List Int) (hb : ∀ z ∈ zs, 0 ≤ z ∧ z < 256) (k : Nat) : crcTo zs k < 4294967296 := by
  induction k with
  | zero => rw [crcTo_zero]; omega
  | succ k ih =>
    by_cases h : k < zs.length
    · rw [crcTo_succ zs k h]
      have hm : zs.getD k 0 ∈ zs := by simp [List.getD, h]
      have := hb _ hm
      exact crcByte_lt _ _ ih (by omega)
    · have e : crcTo zs (k + 1) = crcTo zs k := by
        unfold crcTo
        rw [List.take_of_length_le (by omega), List.take_of_length_le (by omega)]
      rw [e]; exact ih

/-- xor of two numbers below 2 to the 32, as an int. -/
theorem i64_xor_nat (a b : Nat) (ha : a < 4294967296) (hb : b < 4294967296) : bits .xor .i64 (a : Int) (b : Int) = ((a ^^^ b : Nat) : Int) := by
  have h : a ^^^ b < 4294967296 := Nat.xor_lt_two_pow (n := 32) (by omega) (by omega)
  have ha' : a % 2 ^ IntKind.i64.bits = a := Nat.mod_eq_of_lt (by simp [IntKind.bits]; omega)
  have hb' : b % 2 ^ IntKind.i64.bits = b := Nat.mod_eq_of_lt (by simp [IntKind.bits]; omega)
  simp only [bits, BitVec.ofInt_natCast, BitVec.toNat_xor, BitVec.toNat_ofNat, ha', hb']
  rw [IntKind.wrap_i64]
  omega

theorem i64_and1 (n : Int) : bits .and .i64 n 1 = n % 2 := by
  have h1 : (BitVec.ofInt 64 1).toNat = 2 ^ 1 - 1 := by decide
  have key : (BitVec.ofInt 64 n &&& BitVec.ofInt 64 1).toNat = (n % ((2 ^ 64 : Nat) : Int)).toNat % 2 ^ 1 := by
    rw [BitVec.toNat_and, BitVec.toNat_ofInt, h1, Nat.and_two_pow_sub_one_eq_mod]
  show IntKind.i64.wrap ((BitVec.ofInt 64 n &&& BitVec.ofInt 64 1).toNat : Nat) = n % 2
  rw [key, IntKind.wrap_i64]
  omega

end Go.Proofs.YtickiokdcbeefabDoor

/- The walks of spec.l1In and spec.GetInt. -/
namespace Go.Proofs.YtickiokdcbeefabDoor
open Go.RowKit


/-- What GetInt answers. -/
def triple : Option (Int × Nat) → Value
  | some r => .tuple #[.int .i64 r.1, .int .i64 (r.2 : Nat), .bool true]
  | none => .tuple #[.int .i64 0, .int .i64 0, .bool false]

theorem getAt_neg (zs : List Int) (p : Int) (h : p < 0) : getAt zs p = none := by unfold getAt; rw [if_neg (by omega)]
theorem getAt_past (zs : List Int) (p : Int) (h : (zs.length : Int) ≤ p) : getAt zs p = none := by
  unfold getAt
  rw [if_pos (by omega), List.drop_of_length_le (by omega)]
  rfl
theorem getAt_nat (zs : List Int) (p : Nat) : getAt zs (p : Int) = (getOf (zs.drop p)).map fun r => (r.1, p + r.2) := by
  unfold getAt; rw [if_pos (by omega), Int.toNat_natCast]
theorem drop_getD (zs : List Int) (p i : Nat) : (zs.drop p).getD i 0 = zs.getD (p + i) 0 := by simp [List.getD]

theorem join_low (m c k : Nat) (hk : k < 6) (hm : m < 128 ^ k) (hc : c < 128) : bits .or .i64 (m : Int) ((c * 128 ^ k : Nat) : Int) = ((m + c * 128 ^ k : Nat) : Int) := by
  have hw : ∀ n : Int, 0 ≤ n → n < 2 ^ 63 → IntKind.i64.wrap n = n := fun n _ _ => by rw [IntKind.wrap_i64]; omega
  have hp : (128 : Nat) ^ k ≤ 128 ^ 5 := Nat.pow_le_pow_right (by omega) (by omega)
  have h5 : (128 : Nat) ^ 5 = 34359738368 := by decide
  have hb : c * 128 ^ k ≤ 127 * 34359738368 := Nat.mul_le_mul (by omega) (by omega)
  have e7 : (128 : Nat) ^ k = 2 ^ (7 * k) := by rw [Nat.pow_mul]
  have hcm : bits .or .i64 (m : Int) ((c * 128 ^ k : Nat) : Int) = bits .or .i64 ((c * 128 ^ k : Nat) : Int) (m : Int) := by simp only [bits, BitVec.or_comm]
  have hz : ((c * 128 ^ k : Nat) : Int) % 2 ^ (7 * k) = 0 := by
    have : (c * 128 ^ k) % 2 ^ (7 * k) = 0 := by rw [e7, Nat.mul_mod_left]
    exact_mod_cast this
  have hml : (m : Int) < 2 ^ (7 * k) := by rw [e7] at hm; exact_mod_cast hm
  rw [hcm, bits_join .i64 63 (by decide) hw (7 * k) _ _ (by omega) hz (by omega) (by omega) hml (by omega)]
  omega

theorem join_go (m c j v : Nat) (hk : j < 6) (hm : m < 128 ^ j) (hv : v = m + (c % 128) * 128 ^ j) : bits .or .i64 (m : Int) (wrap64 ((c : Int) % 128 * 2 ^ (7 * j))) = (v : Int) := by
  have e7 : (128 : Nat) ^ j = 2 ^ (7 * j) := by rw [Nat.pow_mul]
  have hp : (128 : Nat) ^ j ≤ 128 ^ 5 := Nat.pow_le_pow_right (by omega) (by omega)
  have h5 : (128 : Nat) ^ 5 = 34359738368 := by decide
  have hb : (c % 128) * 128 ^ j ≤ 127 * 34359738368 := Nat.mul_le_mul (by omega) (by omega)
  have e : ((c : Int) % 128 * 2 ^ (7 * j)) = (((c % 128) * 128 ^ j : Nat) : Int) := by
    rw [e7]; simp
  rw [e]
  have ew : wrap64 (((c % 128) * 128 ^ j : Nat) : Int) = (((c % 128) * 128 ^ j : Nat) : Int) := by unfold wrap64; omega
  rw [ew, join_low m (c % 128) j hk hm (by omega), hv]

theorem got_eq {zs : List Int} {q j v : Nat} {n : Int} (hA : getAt zs q = (getOf (zs.drop q)).map fun r => (r.1, q + r.2)) (hG : getOf (zs.drop q) = some (unzig v, j + 1)) (hn : unzig v = n) :
    Ending.returned (.tuple #[.int .i64 n, .int .i64 ((q : Int) + (j : Int) + 1), .bool true]) = .returned (triple (getAt zs q)) := by
  rw [hA, hG, hn]
  simp only [Option.map_some, triple]
  rw [show ((q + (j + 1) : Nat) : Int) = (q : Int) + (j : Int) + 1 from by omega]

theorem toNat_mod (z : Int) (c : Nat) (h : z = (c : Int)) : (z % 128).toNat = c % 128 := by omega

end Go.Proofs.YtickiokdcbeefabDoor

/- The walks of spec.l2Next and spec.l2List: a reader over bytes. -/
namespace Go.Proofs.YtickiokdcbeefabDoor
open Go.RowKit

/-- What the next number is, and where the reader is behind it: a place, and whether it is bad. -/
def nextOf (zs : List Int) (s : Int × Bool) : Int × (Int × Bool) := match s.2, getAt zs s.1 with
  | false, some r => (r.1, ((r.2 : Int), false))
  | _, _ => (0, (s.1, true))
/-- k more numbers, as long as it is not bad. -/
def numsOf (zs : List Int) : Nat → List Int → Int × Bool → List Int × (Int × Bool)
  | 0, l, s => (l, s)
  | k + 1, l, s => if s.2 then (l, s) else numsOf zs k (l ++ [(nextOf zs s).1]) (nextOf zs s).2
def badIf (b : Bool) (s : Int × Bool) : Int × Bool := (s.1, s.2 || b)
def listOf (zs : List Int) (most : Int) (s : Int × Bool) : List Int × (Int × Bool) :=
  numsOf zs (nextOf zs s).1.toNat [] (badIf (!inB (nextOf zs s).1 0 most) (nextOf zs s).2)

theorem nextOf_bad (zs : List Int) (p : Int) : nextOf zs (p, true) = (0, (p, true)) := by simp [nextOf]
theorem nextOf_none (zs : List Int) (p : Int) (h : getAt zs p = none) : nextOf zs (p, false) = (0, (p, true)) := by simp [nextOf, h]
theorem nextOf_some (zs : List Int) (p n : Int) (k : Nat) (h : getAt zs p = some (n, k)) : nextOf zs (p, false) = (n, ((k : Int), false)) := by simp [nextOf, h]

theorem numsOf_bad (zs : List Int) (k : Nat) (l : List Int) (p : Int) : numsOf zs k l (p, true) = (l, (p, true)) := by cases k <;> simp [numsOf]
theorem numsOf_zero (zs : List Int) (l : List Int) (s : Int × Bool) : numsOf zs 0 l s = (l, s) := rfl
theorem numsOf_step (zs : List Int) (k : Nat) (l : List Int) (p : Int) : numsOf zs (k + 1) l (p, false) = numsOf zs k (l ++ [(nextOf zs (p, false)).1]) (nextOf zs (p, false)).2 := by simp [numsOf]

end Go.Proofs.YtickiokdcbeefabDoor
