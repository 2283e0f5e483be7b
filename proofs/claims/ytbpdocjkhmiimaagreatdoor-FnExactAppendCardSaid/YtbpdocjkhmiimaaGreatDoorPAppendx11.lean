/- Several texts in one, in their order. -/
import Derived.Test.YtbpdocjkhmiimaaGreatDoorProg
import Derived.Test.YtbpdocjkhmiimaaGreatDoorPAppendx1
import Derived.Test.YtbpdocjkhmiimaaGreatDoorPAppendx10
import Derived.Test.YtbpdocjkhmiimaaGreatDoorPAppendx9
import Derived.Test.YtbpdocjkhmiimaaGreatDoorPAppendx2
import Derived.Deep.QuietTactic
import Derived.BigQuiet
/- The walks of spec.l1In and spec.GetInt. -/
namespace Go.Proofs.YtbpdocjkhmiimaaGreatDoor
open Go.RowKit


/-- What GetInt answers. -/
def triple : Option (Int × Nat) → Value
  | some r => .tuple #[.int .i64 r.1, .int .i64 (r.2 : Nat), .bool true]
  | none => .tuple #[.int .i64 0, .int .i64 0, .bool false]

theorem getAt_neg (zs : List Int) (p : Int) (h : p < 0) : getAt zs p = none := by unfold getAt; rw [if_neg (by omega)]
theorem getAt_past (zs : List Int) (p : Int) (h : (zs.length : Int) ≤ p) : getAt zs p = none := by
  unfold getAt
  rw [if_pos (by omega), List.drop_of_length_le (by omega)]
  rfl
theorem getAt_nat (zs : List Int) (p : Nat) : getAt zs (p : Int) = (getOf (zs.drop p)).map fun r => (r.1, p + r.2) := by
  unfold getAt; rw [if_pos (by omega), Int.toNat_natCast]
theorem drop_getD (zs : List Int) (p i : Nat) : (zs.drop p).getD i 0 = zs.getD (p + i) 0 := by simp [List.getD]

theorem join_low (m c k : Nat) (hk : k < 6) (hm : m < 128 ^ k) (hc : c < 128) : bits .or .i64 (m : Int) ((c * 128 ^ k : Nat) : Int) = ((m + c * 128 ^ k : Nat) : Int) := by
  have hw : ∀ n : Int, 0 ≤ n → n < 2 ^ 63 → IntKind.i64.wrap n = n := fun n _ _ => by rw [IntKind.wrap_i64]; omega
  have hp : (128 : Nat) ^ k ≤ 128 ^ 5 := Nat.pow_le_pow_right (by omega) (by omega)
  have h5 : (128 : Nat) ^ 5 = 34359738368 := by decide
  have hb : c * 128 ^ k ≤ 127 * 34359738368 := Nat.mul_le_mul (by omega) (by omega)
  have e7 : (128 : Nat) ^ k = 2 ^ (7 * k) := by rw [Nat.pow_mul]
  have hcm : bits .or .i64 (m : Int) ((c * 128 ^ k : Nat) : Int) = bits .or .i64 ((c * 128 ^ k : Nat) : Int) (m : Int) := by simp only [bits, BitVec.or_comm]
  have hz : ((c * 128 ^ k : Nat) : Int) % 2 ^ (7 * k) = 0 := by
    have : (c * 128 ^ k) % 2 ^ (7 * k) = 0 := by rw [e7, Nat.mul_mod_left]
    exact_mod_cast this
  have hml : (m : Int) < 2 ^ (7 * k) := by rw [e7] at hm; exact_mod_cast hm
  rw [hcm, bits_join .i64 63 (by decide) hw (7 * k) _ _ (by omega) hz (by omega) (by omega) hml (by omega)]
  omega

theorem join_go (m c j v : Nat) (hk : j < 6) (hm : m < 128 ^ j) (hv : v = m + (c % 128) * 128 ^ j) : bits .or .i64 (m : Int) (wrap64 ((c : Int) % 128 * 2 ^ (7 * j))) = (v : Int) := by
  have e7 : (128 : Nat) ^ j = 2 ^ (7 * j) := by rw [Nat.pow_mul]
  have hp : (128 : Nat) ^ j ≤ 128 ^ 5 := Nat.pow_le_pow_right (by omega) (by omega)
  have h5 : (128 : Nat) ^ 5 = 34359738368 := by decide
  have hb : (c % 128) * 128 ^ j ≤ 127 * 34359738368 := Nat.mul_le_mul (by omega) (by omega)
  have e : ((c : Int) % 128 * 2 ^ (7 * j)) = (((c % 128) * 128 ^ j : Nat) : Int) := by
    rw [e7]; simp
  rw [e]
  have ew : wrap64 (((c % 128) * 128 ^ j : Nat) : Int) = (((c % 128) * 128 ^ j : Nat) : Int) := by unfold wrap64; omega
  rw [ew, join_low m (c % 128) j hk hm (by omega), hv]

theorem got_eq {zs : List Int} {q j v : Nat} {n : Int} (hA : getAt zs q = (getOf (zs.drop q)).map fun r => (r.1, q + r.2)) (hG : getOf (zs.drop q) = some (unzig v, j + 1)) (hn : unzig v = n) :
    Ending.returned (.tuple #[.int .i64 n, .int .i64 ((q : Int) + (j : Int) + 1), .bool true]) = .returned (triple (getAt zs q)) := by
  rw [hA, hG, hn]
  simp only [Option.map_some, triple]
  rw [show ((q + (j + 1) : Nat) : Int) = (q : Int) + (j : Int) + 1 from by omega]

theorem toNat_mod (z : Int) (c : Nat) (h : z = (c : Int)) : (z % 128).toNat = c % 128 := by omega

end Go.Proofs.YtbpdocjkhmiimaaGreatDoor

/- The walks of spec.l2Next and spec.l2List: a reader over bytes. -/
namespace Go.Proofs.YtbpdocjkhmiimaaGreatDoor
open Go.RowKit

/-- What the next number is, and where the reader is behind it: a place, and whether it is bad. -/
def nextOf (zs : List Int) (s : Int × Bool) : Int × (Int × Bool) := match s.2, getAt zs s.1 with
  | false, some r => (r.1, ((r.2 : Int), false))
  | _, _ => (0, (s.1, true))
/-- k more numbers, as long as it is not bad. -/
def numsOf (zs : List Int) : Nat → List Int → Int × Bool → List Int × (Int × Bool)
  | 0, l, s => (l, s)
  | k + 1, l, s => if s.2 then (l, s) else numsOf zs k (l ++ [(nextOf zs s).1]) (nextOf zs s).2
def badIf (b : Bool) (s : Int × Bool) : Int × Bool := (s.1, s.2 || b)
def listOf (zs : List Int) (most : Int) (s : Int × Bool) : List Int × (Int × Bool) :=
  numsOf zs (nextOf zs s).1.toNat [] (badIf (!inB (nextOf zs s).1 0 most) (nextOf zs s).2)

theorem nextOf_bad (zs : List Int) (p : Int) : nextOf zs (p, true) = (0, (p, true)) := by simp [nextOf]
theorem nextOf_none (zs : List Int) (p : Int) (h : getAt zs p = none) : nextOf zs (p, false) = (0, (p, true)) := by simp [nextOf, h]
theorem nextOf_some (zs : List Int) (p n : Int) (k : Nat) (h : getAt zs p = some (n, k)) : nextOf zs (p, false) = (n, ((k : Int), false)) := by simp [nextOf, h]

theorem numsOf_bad (zs : List Int) (k : Nat) (l : List Int) (p : Int) : numsOf zs k l (p, true) = (l, (p, true)) := by cases k <;> simp [numsOf]
theorem numsOf_zero (zs : List Int) (l : List Int) (s : Int × Bool) : numsOf zs 0 l s = (l, s) := rfl
theorem numsOf_step (zs : List Int) (k : Nat) (l : List Int) (p : Int) : numsOf zs (k + 1) l (p, false) = numsOf zs k (l ++ [(nextOf zs (p, false)).1]) (nextOf zs (p, false)).2 := by simp [numsOf]

end Go.Proofs.YtbpdocjkhmiimaaGreatDoor

/- Plain mathematics: a number comes back of its bytes; cut, it does not. -/
namespace Go.Proofs.YtbpdocjkhmiimaaGreatDoor

theorem groups_ind (P : Nat → Prop) (small : ∀ m, m < 128 → P m) (big : ∀ m, 128 ≤ m → m < 2 ^ 64 → P (m / 128) → P m) : ∀ m, m < 2 ^ 64 → P m := by
  intro m
  induction m using Nat.strongRecOn with
  | _ m ih =>
    intro hm
    by_cases h : m < 128
    · exact small m h
    · exact big m (by omega) hm (ih (m / 128) (by omega) (by omega))

theorem groups_val (m : Nat) (hm : m < 2 ^ 64) : valOf (groups m) = m := by
  refine groups_ind (fun m => valOf (groups m) = m) ?_ ?_ m hm
  · intro m h; rw [groups_small m h]; simp only [valOf]; omega
  · intro m h1 h2 h3; rw [groups_big m h1 h2]; simp only [valOf, h3]; omega

theorem groups_lead (rest : List Int) (m : Nat) (hm : m < 2 ^ 64) : lead (groups m ++ rest) + 1 = (groups m).length := by
  refine groups_ind (fun m => lead (groups m ++ rest) + 1 = (groups m).length) ?_ ?_ m hm
  · intro m h; rw [groups_small m h]; simp only [List.cons_append, List.nil_append, lead]; rw [if_neg (by omega)]; rfl
  · intro m h1 h2 h3; rw [groups_big m h1 h2]; simp only [List.cons_append, lead]; rw [if_pos (by omega), h3]; rfl

theorem groups_cut (m : Nat) (hm : m < 2 ^ 64) : lead ((groups m).dropLast) = (groups m).dropLast.length := by
  refine groups_ind (fun m => lead ((groups m).dropLast) = (groups m).dropLast.length) ?_ ?_ m hm
  · intro m h; rw [groups_small m h]; rfl
  · intro m h1 h2 h3
    rw [groups_big m h1 h2]
    have hne : groups (m / 128) ≠ [] := by
      intro e
      have := (groups_len (m / 128)).1
      rw [e] at this
      simp at this
    rw [List.dropLast_cons_of_ne_nil hne]
    simp only [lead]
    rw [if_pos (by omega), h3]
    rfl

theorem groups_last (m : Nat) (hm : m < 2 ^ 64) : 0 < m → (groups m).getD ((groups m).length - 1) 0 ≠ 0 := by
  refine groups_ind (fun m => 0 < m → (groups m).getD ((groups m).length - 1) 0 ≠ 0) ?_ ?_ m hm
  · intro m h h0; rw [groups_small m h]; simp; omega
  · intro m h1 h2 h3 _
    have hl := (groups_len (m / 128)).1
    have h4 := h3 (by omega)
    rw [groups_big m h1 h2]
    have e : (((m % 128 + 128 : Nat) : Int) :: groups (m / 128)).length - 1 = ((groups (m / 128)).length - 1) + 1 := by simp; omega
    rw [e]
    simpa using h4

theorem groups_len_le (k : Nat) : ∀ m, m < 128 ^ (k + 1) → m < 2 ^ 64 → (groups m).length ≤ k + 1 := by
  induction k with
  | zero => intro m h _; rw [groups_small m (by omega)]; simp
  | succ k ih =>
    intro m h hm
    by_cases hs : m < 128
    · rw [groups_small m hs]; simp
    · rw [groups_big m (by omega) hm]
      have := ih (m / 128) (by rw [Nat.pow_succ] at h; omega) (by omega)
      simp; omega

theorem getOf_groups (rest : List Int) (m : Nat) (hm : m ≤ 2000000000000) : getOf (groups m ++ rest) = some (unzig m, (groups m).length) := by
  have h64 : m < 2 ^ 64 := by omega
  have hl := groups_lead rest m h64
  have h6 := groups_len_le 5 m (by omega) h64
  have h1 := (groups_len m).1
  have htake : (groups m ++ rest).take (lead (groups m ++ rest) + 1) = groups m := by rw [hl]; simp
  rw [getOf_some (groups m ++ rest) (lead (groups m ++ rest)) rfl (by rw [List.length_append]; omega) (by omega) ?_ (by rw [htake, groups_val m h64]; exact hm)]
  · rw [htake, groups_val m h64, hl]
  · rintro ⟨h0, hz⟩
    have hlt : lead (groups m ++ rest) < (groups m).length := by omega
    have hpos : 0 < m := by
      by_cases e : 128 ≤ m
      · omega
      · have := groups_small m (by omega)
        rw [this] at hl h0
        simp only [List.length_cons, List.length_nil] at hl
        omega
    have := groups_last m h64 hpos
    apply this
    have e : (groups m).length - 1 = lead (groups m ++ rest) := by omega
    rw [e, ← hz]
    simp [List.getD, List.getElem?_append, hlt]

theorem unzig_zig (n : Int) : unzig (zig n) = clampI n := by
  unfold unzig zig
  have := clampI_bd n
  split <;> split at * <;> omega

theorem back_int (zs rest : List Int) (n : Int) : getAt (zs ++ (putOf n ++ rest)) zs.length = some (clampI n, zs.length + (putOf n).length) := by
  rw [getAt_nat, List.drop_left]
  show Option.map _ (getOf (groups (zig n) ++ rest)) = _
  rw [getOf_groups rest (zig n) (zig_le n), unzig_zig]
  rfl

theorem cut_int (zs : List Int) (n : Int) : getAt ((zs ++ putOf n).take ((zs ++ putOf n).length - 1)) zs.length = none := by
  have hl := (putOf_len n).1
  have e : (zs ++ putOf n).take ((zs ++ putOf n).length - 1) = zs ++ (putOf n).dropLast := by
    rw [← List.dropLast_eq_take, List.dropLast_append_of_ne_nil]
    intro h; rw [h] at hl; simp at hl
  rw [e, getAt_nat, List.drop_left]
  show Option.map _ (getOf ((groups (zig n)).dropLast)) = _
  rw [getOf_none _ (.inl (groups_cut (zig n) (zig_lt n)))]
  rfl

end Go.Proofs.YtbpdocjkhmiimaaGreatDoor

/- Plain mathematics: an object comes back of its bytes, and of them alone. -/
namespace Go.Proofs.YtbpdocjkhmiimaaGreatDoor
open Go.RowKit

/-- What a reader reads of an object, and whether it is bad behind it. -/
def readO (zs : List Int) : ObjV × Bool :=
  (⟨(nextOf zs (0, false)).1, (listOf zs 5 (nextOf zs (0, false)).2).1, (listOf zs 5 (listOf zs 5 (nextOf zs (0, false)).2).2).1⟩, (listOf zs 5 (listOf zs 5 (nextOf zs (0, false)).2).2).2.2)

theorem clampI_small (n : Int) (h : -1000000 ≤ n ∧ n ≤ 1000000) : clampI n = n := by unfold clampI; rw [if_neg (by omega), if_neg (by omega)]

theorem next_back (pre rest : List Int) (n : Int) (h : -1000000 ≤ n ∧ n ≤ 1000000) : nextOf (pre ++ putOf n ++ rest) ((pre.length : Int), false) = (n, (((pre ++ putOf n).length : Int), false)) := by
  rw [List.append_assoc, nextOf_some _ _ (clampI n) (pre.length + (putOf n).length) (back_int pre rest n), clampI_small n h]
  simp

theorem nums_back (l : List Int) : ∀ (pre rest acc : List Int), (∀ z ∈ l, -1000000 ≤ z ∧ z ≤ 1000000) → numsOf (pre ++ l.flatMap putOf ++ rest) l.length acc ((pre.length : Int), false) = (acc ++ l, (((pre ++ l.flatMap putOf).length : Int), false)) := by
  induction l with
  | nil => intro pre rest acc _; simp [numsOf]
  | cons z r ih =>
    intro pre rest acc h
    have hz := h z (by simp)
    have e : pre ++ (z :: r).flatMap putOf ++ rest = (pre ++ putOf z) ++ r.flatMap putOf ++ rest := by simp
    have e2 : pre ++ (z :: r).flatMap putOf ++ rest = pre ++ putOf z ++ (r.flatMap putOf ++ rest) := by simp
    rw [List.length_cons, numsOf_step, e2, next_back pre _ z hz, ← e2, e]
    simp only
    rw [ih (pre ++ putOf z) rest (acc ++ [z]) (fun y hy => h y (by simp [hy]))]
    simp

theorem list_back (pre rest l : List Int) (hl : l.length ≤ 5) (h : ∀ z ∈ l, -1000000 ≤ z ∧ z ≤ 1000000) : listOf (pre ++ putList l ++ rest) 5 ((pre.length : Int), false) = (l, (((pre ++ putList l).length : Int), false)) := by
  have e : pre ++ putList l ++ rest = pre ++ putOf l.length ++ (l.flatMap putOf ++ rest) := by simp [putList]
  have e2 : pre ++ putList l ++ rest = (pre ++ putOf l.length) ++ l.flatMap putOf ++ rest := by simp [putList]
  have hn := next_back pre (l.flatMap putOf ++ rest) (l.length : Int) (by omega)
  rw [← e] at hn
  unfold listOf
  rw [hn]
  have hi : inB (l.length : Int) 0 5 = true := by unfold inB; rw [decide_eq_true_eq]; omega
  simp only [hi, badIf, Bool.not_true, Bool.or_false, Int.toNat_natCast]
  rw [e2, nums_back l (pre ++ putOf l.length) rest [] h]
  simp [putList]

theorem okB_bd {o : ObjV} (h : okB o = true) : (1 ≤ o.kind ∧ o.kind ≤ 99) ∧ o.ints.length ≤ 5 ∧ o.refs.length ≤ 5 ∧ (∀ z ∈ o.ints, -1000000 ≤ z ∧ z ≤ 1000000) ∧ (∀ z ∈ o.refs, 0 ≤ z ∧ z ≤ 31) := by
  simp [okB, inB] at h
  exact ⟨h.1, h.2.1, h.2.2.1, h.2.2.2.1, h.2.2.2.2⟩

theorem put_ok {o : ObjV} (h : okB o = true) : putObjOf o = (putOf o.kind ++ putList o.ints) ++ putList o.refs := by unfold putObjOf; rw [if_pos h]

theorem read_back (o : ObjV) (h : okB o = true) : readO (putObjOf o) = (o, false) := by
  obtain ⟨hk, h5, h6, hi, hr⟩ := okB_bd h
  rw [put_ok h]
  have e0 : putOf o.kind ++ putList o.ints ++ putList o.refs = [] ++ putOf o.kind ++ (putList o.ints ++ putList o.refs) := by simp
  have e2 : putOf o.kind ++ putList o.ints ++ putList o.refs = (putOf o.kind ++ putList o.ints) ++ putList o.refs ++ [] := by simp
  have n1 := next_back [] (putList o.ints ++ putList o.refs) o.kind (by omega)
  rw [← e0] at n1
  simp only [List.nil_append, List.length_nil, Int.natCast_zero] at n1
  have l1 := list_back (putOf o.kind) (putList o.refs) o.ints h5 hi
  have l2 := list_back (putOf o.kind ++ putList o.ints) [] o.refs h6 (fun z hz => by have := hr z hz; omega)
  rw [← e2] at l2
  unfold readO
  simp only [show ((0 : Int), false) = (((0 : Nat) : Int), false) from rfl] at *
  rw [n1, l1, l2]

theorem put_inj {o p : ObjV} (ho : okB o = true) (hp : okB p = true) (h : putObjOf o = putObjOf p) : o = p := by
  have h1 := read_back o ho
  rw [h, read_back p hp] at h1
  simpa using (Prod.mk.inj h1).1.symm

/-- The object whose bytes these are: a reader finds it, if there is one. -/
def getO (b : List Int) : Option ObjV := if (readO b).2 = false ∧ okB (readO b).1 = true ∧ putObjOf (readO b).1 = b then some (readO b).1 else none
theorem getO_read (b : List Int) : getO b = if (readO b).2 = false ∧ okB (readO b).1 = true ∧ putObjOf (readO b).1 = b then some (readO b).1 else none := rfl
theorem getO_some {b : List Int} {o : ObjV} (h1 : okB o = true) (h2 : putObjOf o = b) : getO b = some o := by
  have h := read_back o h1
  rw [h2] at h
  unfold getO
  rw [h]
  simp [h1, h2]
theorem getO_none {b : List Int} (h : ¬ ∃ o, okB o = true ∧ putObjOf o = b) : getO b = none := by
  unfold getO
  rw [if_neg]
  rintro ⟨_, h1, h2⟩
  exact h ⟨_, h1, h2⟩
theorem getO_ok {b : List Int} {o : ObjV} (h : getO b = some o) : okB o = true := by
  unfold getO at h
  split at h
  · rename_i hh
    simp only [Option.some.injEq] at h
    rw [← h]; exact hh.2.1
  · cases h

def noO : ObjV := ⟨0, [], []⟩
def getPair (b : List Int) : ObjV × Bool := match getO b with
  | some o => (o, true)
  | none => (noO, false)
end Go.Proofs.YtbpdocjkhmiimaaGreatDoor
