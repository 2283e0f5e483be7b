/- Several texts in one, in their order. -/
import Derived.Test.YtickiokdcbeefabDoorPVictimx6
import Derived.Test.YtickiokdcbeefabDoorPVictimx7
import Derived.Test.YtickiokdcbeefabDoorProg
import Derived.Test.YtickiokdcbeefabDoorPVictimx1
import Derived.WalkKit
import Derived.Test.YtickiokdcbeefabDoorPVictimx3
/- Plain mathematics: a number comes back of its bytes; cut, it does not. -/
namespace Go.Proofs.YtickiokdcbeefabDoor

theorem groups_ind (P : Nat → Prop) (small : ∀ m, m < 128 → P m) (big : ∀ m, 128 ≤ m → m < 2 ^ 64 → P (m / 128) → P m) : ∀ m, m < 2 ^ 64 → P m := by
  intro m
  induction m using Nat.strongRecOn with
  | _ m ih =>
    intro hm
    by_cases h : m < 128
    · exact small m h
    · exact big m (by omega) hm (ih (m / 128) (by omega) (by omega))

theorem groups_val (m : Nat) (hm : m < 2 ^ 64) : valOf (groups m) = m := by
  refine groups_ind (fun m => valOf (groups m) = m) ?_ ?_ m hm
  · intro m h; rw [groups_small m h]; simp only [valOf]; omega
  · intro m h1 h2 h3; rw [groups_big m h1 h2]; simp only [valOf, h3]; omega

theorem groups_lead (rest : List Int) (m : Nat) (hm : m < 2 ^ 64) : lead (groups m ++ rest) + 1 = (groups m).length := by
  refine groups_ind (fun m => lead (groups m ++ rest) + 1 = (groups m).length) ?_ ?_ m hm
  · intro m h; rw [groups_small m h]; simp only [List.cons_append, List.nil_append, lead]; rw [if_neg (by omega)]; rfl
  · intro m h1 h2 h3; rw [groups_big m h1 h2]; simp only [List.cons_append, lead]; rw [if_pos (by omega), h3]; rfl

theorem groups_cut (m : Nat) (hm : m < 2 ^ 64) : lead ((groups m).dropLast) = (groups m).dropLast.length := by
  refine groups_ind (fun m => lead ((groups m).dropLast) = (groups m).dropLast.length) ?_ ?_ m hm
  · intro m h; rw [groups_small m h]; rfl
  · intro m h1 h2 h3
    rw [groups_big m h1 h2]
    have hne : groups (m / 128) ≠ [] := by
      intro e
      have := (groups_len (m / 128)).1
      rw [e] at this
      simp at this
    rw [List.dropLast_cons_of_ne_nil hne]
    simp only [lead]
    rw [if_pos (by omega), h3]
    rfl

theorem groups_last (m : Nat) (hm : m < 2 ^ 64) : 0 < m → (groups m).getD ((groups m).length - 1) 0 ≠ 0 := by
  refine groups_ind (fun m => 0 < m → (groups m).getD ((groups m).length - 1) 0 ≠ 0) ?_ ?_ m hm
  · intro m h h0; rw [groups_small m h]; simp; omega
  · intro m h1 h2 h3 _
    have hl := (groups_len (m / 128)).1
    have h4 := h3 (by omega)
    rw [groups_big m h1 h2]
    have e : (((m % 128 + 128 : Nat) : Int) :: groups (m / 128)).length - 1 = ((groups (m / 128)).length - 1) + 1 := by simp; omega
    rw [e]
    simpa using h4

theorem groups_len_le (k : Nat) : ∀ m, m < 128 ^ (k + 1) → m < 2 ^ 64 → (groups m).length ≤ k + 1 := by
  induction k with
  | zero => intro m h _; rw [groups_small m (by omega)]; simp
  | succ k ih =>
    intro m h hm
    by_cases hs : m < 128
    · rw [groups_small m hs]; simp
    · rw [groups_big m (by omega) hm]
      have := ih (m / 128) (by rw [Nat.pow_succ] at h; omega) (by omega)
      simp; omega

theorem getOf_groups (rest : List Int) (m : Nat) (hm : m ≤ 2000000000000) : getOf (groups m ++ rest) = some (unzig m, (groups m).length) := by
  have h64 : m < 2 ^ 64 := by omega
  have hl := groups_lead rest m h64
  have h6 := groups_len_le 5 m (by omega) h64
  have h1 := (groups_len m).1
  have htake : (groups m ++ rest).take (lead (groups m ++ rest) + 1) = groups m := by rw [hl]; simp
  rw [getOf_some (groups m ++ rest) (lead (groups m ++ rest)) rfl (by rw [List.length_append]; omega) (by omega) ?_ (by rw [htake, groups_val m h64]; exact hm)]
  · rw [htake, groups_val m h64, hl]
  · rintro ⟨h0, hz⟩
    have hlt : lead (groups m ++ rest) < (groups m).length := by omega
    have hpos : 0 < m := by
      by_cases e : 128 ≤ m
      · omega
      · have := groups_small m (by omega)
        rw [this] at hl h0
        simp only [List.length_cons, List.length_nil] at hl
        omega
    have := groups_last m h64 hpos
    apply this
    have e : (groups m).length - 1 = lead (groups m ++ rest) := by omega
    rw [e, ← hz]
    simp [List.getD, List.getElem?_append, hlt]

theorem unzig_zig (n : Int) : unzig (zig n) = clampI n := by
  unfold unzig zig
  have := clampI_bd n
  split <;> split at * <;> omega

theorem back_int (zs rest : List Int) (n : Int) : getAt (zs ++ (putOf n ++ rest)) zs.length = some (clampI n, zs.length + (putOf n).length) := by
  rw [getAt_nat, List.drop_left]
  show Option.map _ (getOf (groups (zig n) ++ rest)) = _
  rw [getOf_groups rest (zig n) (zig_le n), unzig_zig]
  rfl

theorem cut_int (zs : List Int) (n : Int) : getAt ((zs ++ putOf n).take ((zs ++ putOf n).length - 1)) zs.length = none := by
  have hl := (putOf_len n).1
  have e : (zs ++ putOf n).take ((zs ++ putOf n).length - 1) = zs ++ (putOf n).dropLast := by
    rw [← List.dropLast_eq_take, List.dropLast_append_of_ne_nil]
    intro h; rw [h] at hl; simp at hl
  rw [e, getAt_nat, List.drop_left]
  show Option.map _ (getOf ((groups (zig n)).dropLast)) = _
  rw [getOf_none _ (.inl (groups_cut (zig n) (zig_lt n)))]
  rfl

end Go.Proofs.YtickiokdcbeefabDoor

/- Plain mathematics: an object comes back of its bytes, and of them alone. -/
namespace Go.Proofs.YtickiokdcbeefabDoor
open Go.RowKit

/-- What a reader reads of an object, and whether it is bad behind it. -/
def readO (zs : List Int) : ObjV × Bool :=
  (⟨(nextOf zs (0, false)).1, (listOf zs 5 (nextOf zs (0, false)).2).1, (listOf zs 5 (listOf zs 5 (nextOf zs (0, false)).2).2).1⟩, (listOf zs 5 (listOf zs 5 (nextOf zs (0, false)).2).2).2.2)

theorem clampI_small (n : Int) (h : -1000000 ≤ n ∧ n ≤ 1000000) : clampI n = n := by unfold clampI; rw [if_neg (by omega), if_neg (by omega)]

theorem next_back (pre rest : List Int) (n : Int) (h : -1000000 ≤ n ∧ n ≤ 1000000) : nextOf (pre ++ putOf n ++ rest) ((pre.length : Int), false) = (n, (((pre ++ putOf n).length : Int), false)) := by
  rw [List.append_assoc, nextOf_some _ _ (clampI n) (pre.length + (putOf n).length) (back_int pre rest n), clampI_small n h]
  simp

theorem nums_back (l : List Int) : ∀ (pre rest acc : List Int), (∀ z ∈ l, -1000000 ≤ z ∧ z ≤ 1000000) → numsOf (pre ++ l.flatMap putOf ++ rest) l.length acc ((pre.length : Int), false) = (acc ++ l, (((pre ++ l.flatMap putOf).length : Int), false)) := by
  induction l with
  | nil => intro pre rest acc _; simp [numsOf]
  | cons z r ih =>
    intro pre rest acc h
    have hz := h z (by simp)
    have e : pre ++ (z :: r).flatMap putOf ++ rest = (pre ++ putOf z) ++ r.flatMap putOf ++ rest := by simp
    have e2 : pre ++ (z :: r).flatMap putOf ++ rest = pre ++ putOf z ++ (r.flatMap putOf ++ rest) := by simp
    rw [List.length_cons, numsOf_step, e2, next_back pre _ z hz, ← e2, e]
    simp only
    rw [ih (pre ++ putOf z) rest (acc ++ [z]) (fun y hy => h y (by simp [hy]))]
    simp

theorem list_back (pre rest l : List Int) (hl : l.length ≤ 5) (h : ∀ z ∈ l, -1000000 ≤ z ∧ z ≤ 1000000) : listOf (pre ++ putList l ++ rest) 5 ((pre.length : Int), false) = (l, (((pre ++ putList l).length : Int), false)) := by
  have e : pre ++ putList l ++ rest = pre ++ putOf l.length ++ (l.flatMap putOf ++ rest) := by simp [putList]
  have e2 : pre ++ putList l ++ rest = (pre ++ putOf l.length) ++ l.flatMap putOf ++ rest := by simp [putList]
  have hn := next_back pre (l.flatMap putOf ++ rest) (l.length : Int) (by omega)
  rw [← e] at hn
  unfold listOf
  rw [hn]
  have hi : inB (l.length : Int) 0 5 = true := by unfold inB; rw [decide_eq_true_eq]; omega
  simp only [hi, badIf, Bool.not_true, Bool.or_false, Int.toNat_natCast]
  rw [e2, nums_back l (pre ++ putOf l.length) rest [] h]
  simp [putList]

theorem okB_bd {o : ObjV} (h : okB o = true) : (1 ≤ o.kind ∧ o.kind ≤ 99) ∧ o.ints.length ≤ 5 ∧ o.refs.length ≤ 5 ∧ (∀ z ∈ o.ints, -1000000 ≤ z ∧ z ≤ 1000000) ∧ (∀ z ∈ o.refs, 0 ≤ z ∧ z ≤ 31) := by
  simp [okB, inB] at h
  exact ⟨h.1, h.2.1, h.2.2.1, h.2.2.2.1, h.2.2.2.2⟩

theorem put_ok {o : ObjV} (h : okB o = true) : putObjOf o = (putOf o.kind ++ putList o.ints) ++ putList o.refs := by unfold putObjOf; rw [if_pos h]

theorem read_back (o : ObjV) (h : okB o = true) : readO (putObjOf o) = (o, false) := by
  obtain ⟨hk, h5, h6, hi, hr⟩ := okB_bd h
  rw [put_ok h]
  have e0 : putOf o.kind ++ putList o.ints ++ putList o.refs = [] ++ putOf o.kind ++ (putList o.ints ++ putList o.refs) := by simp
  have e2 : putOf o.kind ++ putList o.ints ++ putList o.refs = (putOf o.kind ++ putList o.ints) ++ putList o.refs ++ [] := by simp
  have n1 := next_back [] (putList o.ints ++ putList o.refs) o.kind (by omega)
  rw [← e0] at n1
  simp only [List.nil_append, List.length_nil, Int.natCast_zero] at n1
  have l1 := list_back (putOf o.kind) (putList o.refs) o.ints h5 hi
  have l2 := list_back (putOf o.kind ++ putList o.ints) [] o.refs h6 (fun z hz => by have := hr z hz; omega)
  rw [← e2] at l2
  unfold readO
  simp only [show ((0 : Int), false) = (((0 : Nat) : Int), false) from rfl] at *
  rw [n1, l1, l2]

theorem put_inj {o p : ObjV} (ho : okB o = true) (hp : okB p = true) (h : putObjOf o = putObjOf p) : o = p := by
  have h1 := read_back o ho
  rw [h, read_back p hp] at h1
  simpa using (Prod.mk.inj h1).1.symm

/-- The object whose bytes these are: a reader finds it, if there is one. -/
def getO (b : List Int) : Option ObjV := if (readO b).2 = false ∧ okB (readO b).1 = true ∧ putObjOf (readO b).1 = b then some (readO b).1 else none
theorem getO_read (b : List Int) : getO b = if (readO b).2 = false ∧ okB (readO b).1 = true ∧ putObjOf (readO b).1 = b then some (readO b).1 else none := rfl
theorem getO_some {b : List Int} {o : ObjV} (h1 : okB o = true) (h2 : putObjOf o = b) : getO b = some o := by
  have h := read_back o h1
  rw [h2] at h
  unfold getO
  rw [h]
  simp [h1, h2]
theorem getO_none {b : List Int} (h : ¬ ∃ o, okB o = true ∧ putObjOf o = b) : getO b = none := by
  unfold getO
  rw [if_neg]
  rintro ⟨_, h1, h2⟩
  exact h ⟨_, h1, h2⟩
theorem getO_ok {b : List Int} {o : ObjV} (h : getO b = some o) : okB o = true := by
  unfold getO at h
  split at h
  · rename_i hh
    simp only [Option.some.injEq] at h
    rw [← h]; exact hh.2.1
  · cases h

def noO : ObjV := ⟨0, [], []⟩
def getPair (b : List Int) : ObjV × Bool := match getO b with
  | some o => (o, true)
  | none => (noO, false)
end Go.Proofs.YtickiokdcbeefabDoor

/- Plain mathematics of reading an object number by number: what is read is just what is put. -/
namespace Go.Proofs.YtickiokdcbeefabDoor
open Go.RowKit

def Bytes (zs : List Int) : Prop := ∀ z ∈ zs, 0 ≤ z ∧ z < 256
theorem Bytes.drop {zs : List Int} (h : Bytes zs) (p : Nat) : Bytes (zs.drop p) := fun z hz => h z (List.mem_of_mem_drop hz)

theorem lead_at : ∀ L : List Int, lead L < L.length → L.getD (lead L) 0 < 128 := by
  intro L
  induction L with
  | nil => intro h; simp [lead] at h
  | cons z r ih =>
    intro h
    unfold lead at h ⊢
    split
    · rename_i hz
      rw [if_pos hz, List.length_cons] at h
      have := ih (by omega)
      simpa using this
    · simp; omega

/-- Bytes whose last group of several is not 0 are the groups of what they hold. -/
theorem groups_canon : ∀ L : List Int, Bytes L → lead L < L.length → lead L < 6 → ¬ (0 < lead L ∧ L.getD (lead L) 0 = 0) → groups (valOf (L.take (lead L + 1))) = L.take (lead L + 1) := by
  intro L
  induction L with
  | nil => intro _ h; simp [lead] at h
  | cons z r ih =>
    intro hb hl h6 h0
    have hz := hb z (by simp)
    by_cases hbig : 128 ≤ z
    · have hle : lead (z :: r) = lead r + 1 := by simp [lead, hbig]
      rw [hle] at hl h6 h0 ⊢
      simp only [List.length_cons] at hl
      have hr : Bytes r := fun y hy => hb y (by simp [hy])
      have hlast : r.getD (lead r) 0 ≠ 0 := by
        intro e
        exact h0 ⟨by omega, by simpa using e⟩
      have ihr := ih hr (by omega) (by omega) (fun h => hlast h.2)
      have hlt := lead_at r (by omega)
      have hge := bytes_at hr (lead r)
      have hvt := valOf_take r (lead r) (by omega)
      have hvb := (valOf_take_lt r (lead r + 1) (by omega)).1
      have hpow : 1 ≤ (128 : Nat) ^ lead r := by
        have := Nat.pow_le_pow_right (n := 128) (by omega) (Nat.zero_le (lead r))
        simpa using this
      have hm1 : 1 ≤ (r.getD (lead r) 0 % 128).toNat := by omega
      have hV : 1 ≤ valOf (r.take (lead r + 1)) := by
        rw [hvt]
        have : 1 * 1 ≤ (r.getD (lead r) 0 % 128).toNat * 128 ^ lead r := Nat.mul_le_mul hm1 hpow
        omega
      rw [List.take_succ_cons, valOf]
      generalize valOf (r.take (lead r + 1)) = V at *
      rw [groups_big _ (by omega) (by omega)]
      have e1 : ((z % 128).toNat + 128 * V) / 128 = V := by omega
      have e2 : ((((z % 128).toNat + 128 * V) % 128 + 128 : Nat) : Int) = z := by omega
      rw [e1, e2, ihr]
    · have hle : lead (z :: r) = 0 := by simp [lead]; omega
      rw [hle]
      simp only [Nat.zero_add, List.take_succ_cons, List.take_zero, valOf]
      rw [groups_small _ (by omega)]
      simp; omega

theorem zig_unzig (m : Nat) (h : m ≤ 2000000000000) : zig (unzig m) = m ∧ clampI (unzig m) = unzig m := by
  have hb := (unzig_bd m).2 h
  have hc : clampI (unzig m) = unzig m := by unfold clampI; rw [if_neg (by omega), if_neg (by omega)]
  refine ⟨?_, hc⟩
  unfold zig
  rw [hc]
  unfold unzig
  split <;> split <;> omega

theorem getOf_canon (L : List Int) (hb : Bytes L) (n : Int) (k : Nat) (h : getOf L = some (n, k)) : k = (putOf n).length ∧ L.take k = putOf n ∧ 1 ≤ k ∧ k ≤ L.length := by
  unfold getOf at h
  split at h
  · rename_i hh
    simp only [Option.some.injEq, Prod.mk.injEq] at h
    obtain ⟨rfl, rfl⟩ := h
    have hg := groups_canon L hb hh.1 hh.2.1 hh.2.2.1
    have hz := (zig_unzig _ hh.2.2.2).1
    have hp : putOf (unzig (valOf (L.take (lead L + 1)))) = L.take (lead L + 1) := by unfold putOf; rw [hz, hg]
    refine ⟨?_, hp.symm, by omega, by omega⟩
    rw [hp, List.length_take]; omega
  · cases h

theorem getAt_canon (zs : List Int) (hb : Bytes zs) (p : Nat) (n : Int) (q : Nat) (h : getAt zs (p : Int) = some (n, q)) : zs.drop p = putOf n ++ zs.drop q ∧ p < q ∧ q ≤ zs.length := by
  rw [getAt_nat] at h
  cases hg : getOf (zs.drop p) with
  | none => rw [hg] at h; cases h
  | some r =>
    obtain ⟨m, k⟩ := r
    rw [hg] at h
    simp only [Option.map_some, Option.some.injEq, Prod.mk.injEq] at h
    obtain ⟨rfl, rfl⟩ := h
    obtain ⟨hk, ht, h1, h2⟩ := getOf_canon _ (hb.drop p) m k hg
    rw [List.length_drop] at h2
    refine ⟨?_, by omega, by omega⟩
    rw [← ht, ← List.drop_drop, List.take_append_drop]

/-- So many numbers from a place on. -/
def numsAt (zs : List Int) : Nat → Nat → Option (List Int × Nat)
  | 0, p => some ([], p)
  | n + 1, p => match getAt zs (p : Int) with
    | none => none
    | some (x, q) => match numsAt zs n q with
      | none => none
      | some (l, r) => some (x :: l, r)
def partsAt (zs : List Int) (p : Nat) : Option (List Int × Nat) := match getAt zs (p : Int) with
  | none => none
  | some (n, q) => if 0 ≤ n ∧ n ≤ 5 then numsAt zs n.toNat q else none
def readAll (zs : List Int) : Option ObjV := match getAt zs 0 with
  | none => none
  | some (k, p) => match partsAt zs p with
    | none => none
    | some (is, q) => match partsAt zs q with
      | none => none
      | some (rs, r) => if r = zs.length then some ⟨k, is, rs⟩ else none

theorem numsAt_canon (zs : List Int) (hb : Bytes zs) (n : Nat) : ∀ (p : Nat) (l : List Int) (q : Nat), numsAt zs n p = some (l, q) → p ≤ zs.length → l.length = n ∧ zs.drop p = l.flatMap putOf ++ zs.drop q ∧ q ≤ zs.length := by
  induction n with
  | zero =>
    intro p l q h hp
    simp only [numsAt, Option.some.injEq, Prod.mk.injEq] at h
    obtain ⟨rfl, rfl⟩ := h
    exact ⟨rfl, by simp, hp⟩
  | succ n ih =>
    intro p l q h hp
    unfold numsAt at h
    cases hg : getAt zs (p : Int) with
    | none => rw [hg] at h; cases h
    | some r =>
      obtain ⟨x, q1⟩ := r
      rw [hg] at h
      simp only at h
      obtain ⟨hd, h1, h2⟩ := getAt_canon zs hb p x q1 hg
      cases hn : numsAt zs n q1 with
      | none => rw [hn] at h; cases h
      | some t =>
        obtain ⟨l1, q2⟩ := t
        rw [hn] at h
        simp only [Option.some.injEq, Prod.mk.injEq] at h
        obtain ⟨rfl, rfl⟩ := h
        obtain ⟨hl, hd2, h3⟩ := ih q1 l1 q2 hn h2
        refine ⟨by simp [hl], ?_, h3⟩
        rw [hd, hd2]; simp

theorem partsAt_canon (zs : List Int) (hb : Bytes zs) (p : Nat) (l : List Int) (q : Nat) (h : partsAt zs p = some (l, q)) : l.length ≤ 5 ∧ zs.drop p = putList l ++ zs.drop q ∧ q ≤ zs.length := by
  unfold partsAt at h
  cases hg : getAt zs (p : Int) with
  | none => rw [hg] at h; cases h
  | some r =>
    obtain ⟨n, q1⟩ := r
    rw [hg] at h
    simp only at h
    obtain ⟨hd, h1, h2⟩ := getAt_canon zs hb p n q1 hg
    split at h
    · rename_i h5
      obtain ⟨hl, hd2, h3⟩ := numsAt_canon zs hb _ q1 l q h h2
      refine ⟨by omega, ?_, h3⟩
      have e : (l.length : Int) = n := by omega
      rw [hd, hd2]; simp [putList, e]
    · cases h

theorem readAll_canon (zs : List Int) (hb : Bytes zs) (o : ObjV) (h : readAll zs = some o) : zs = (putOf o.kind ++ putList o.ints) ++ putList o.refs ∧ o.ints.length ≤ 5 ∧ o.refs.length ≤ 5 := by
  unfold readAll at h
  cases hg : getAt zs 0 with
  | none => rw [hg] at h; cases h
  | some r =>
    obtain ⟨k, p⟩ := r
    rw [hg] at h
    simp only at h
    obtain ⟨hd, h1, h2⟩ := getAt_canon zs hb 0 k p hg
    cases hp : partsAt zs p with
    | none => rw [hp] at h; cases h
    | some t =>
      obtain ⟨is, q⟩ := t
      rw [hp] at h
      simp only at h
      obtain ⟨hl1, hd1, h3⟩ := partsAt_canon zs hb p is q hp
      cases hq : partsAt zs q with
      | none => rw [hq] at h; cases h
      | some t =>
        obtain ⟨rs, r⟩ := t
        rw [hq] at h
        simp only at h
        obtain ⟨hl2, hd2, h4⟩ := partsAt_canon zs hb q rs r hq
        split at h
        · rename_i hr
          simp only [Option.some.injEq] at h
          subst h
          refine ⟨?_, hl1, hl2⟩
          simp only [List.drop_zero] at hd
          rw [hd, hd1, hd2, hr, List.drop_length]; simp
        · cases h

theorem getAt_back (pre rest : List Int) (n : Int) (h : -1000000 ≤ n ∧ n ≤ 1000000) : getAt (pre ++ putOf n ++ rest) (pre.length : Int) = some (n, (pre ++ putOf n).length) := by
  rw [List.append_assoc, back_int pre rest n, clampI_small n h]; simp

theorem numsAt_back (l : List Int) : ∀ (pre rest : List Int), (∀ z ∈ l, -1000000 ≤ z ∧ z ≤ 1000000) → numsAt (pre ++ l.flatMap putOf ++ rest) l.length pre.length = some (l, (pre ++ l.flatMap putOf).length) := by
  induction l with
  | nil => intro pre rest _; simp [numsAt]
  | cons z r ih =>
    intro pre rest h
    have hz := h z (by simp)
    have e : pre ++ (z :: r).flatMap putOf ++ rest = (pre ++ putOf z) ++ r.flatMap putOf ++ rest := by simp
    have e2 : pre ++ (z :: r).flatMap putOf ++ rest = pre ++ putOf z ++ (r.flatMap putOf ++ rest) := by simp
    rw [List.length_cons, numsAt, e2, getAt_back pre _ z hz]
    simp only
    rw [← e2, e, ih (pre ++ putOf z) rest (fun y hy => h y (by simp [hy]))]
    simp

theorem partsAt_back (pre rest l : List Int) (hl : l.length ≤ 5) (h : ∀ z ∈ l, -1000000 ≤ z ∧ z ≤ 1000000) : partsAt (pre ++ putList l ++ rest) pre.length = some (l, (pre ++ putList l).length) := by
  have e : pre ++ putList l ++ rest = pre ++ putOf l.length ++ (l.flatMap putOf ++ rest) := by simp [putList]
  have e2 : pre ++ putList l ++ rest = (pre ++ putOf l.length) ++ l.flatMap putOf ++ rest := by simp [putList]
  have hn := getAt_back pre (l.flatMap putOf ++ rest) (l.length : Int) (by omega)
  rw [← e] at hn
  unfold partsAt
  rw [hn]
  simp only
  rw [if_pos (by omega), Int.toNat_natCast, e2, numsAt_back l (pre ++ putOf l.length) rest h]
  simp [putList]

theorem readAll_back (o : ObjV) (h : okB o = true) : readAll (putObjOf o) = some o := by
  obtain ⟨hk, h5, h6, hi, hr⟩ := okB_bd h
  rw [put_ok h]
  have e0 : putOf o.kind ++ putList o.ints ++ putList o.refs = [] ++ putOf o.kind ++ (putList o.ints ++ putList o.refs) := by simp
  have e2 : putOf o.kind ++ putList o.ints ++ putList o.refs = (putOf o.kind ++ putList o.ints) ++ putList o.refs ++ [] := by simp
  have n1 := getAt_back [] (putList o.ints ++ putList o.refs) o.kind (by omega)
  rw [← e0] at n1
  simp only [List.nil_append, List.length_nil, Int.natCast_zero] at n1
  have l1 := partsAt_back (putOf o.kind) (putList o.refs) o.ints h5 hi
  have l2 := partsAt_back (putOf o.kind ++ putList o.ints) [] o.refs h6 (fun z hz => by have := hr z hz; omega)
  rw [← e2] at l2
  unfold readAll
  rw [n1]
  simp only
  rw [l1]
  simp only
  rw [l2]
  simp

/-- What is answered of bytes, by what is read of them. -/
theorem getPair_some (zs : List Int) (hb : Bytes zs) (o : ObjV) (h : readAll zs = some o) (hok : okB o = true) : getPair zs = (o, true) := by
  have e := (readAll_canon zs hb o h).1
  have : getO zs = some o := getO_some hok (by rw [put_ok hok]; exact e.symm)
  unfold getPair; rw [this]
theorem getPair_bad (zs : List Int) (o : ObjV) (h : readAll zs = some o) (hok : okB o = false) : getPair zs = (noO, false) := by
  have : getO zs = none := getO_none (by
    rintro ⟨p, hp, e⟩
    have := readAll_back p hp
    rw [e, h] at this
    simp only [Option.some.injEq] at this
    rw [this, hp] at hok
    cases hok)
  unfold getPair; rw [this]
theorem getPair_none (zs : List Int) (h : readAll zs = none) : getPair zs = (noO, false) := by
  have : getO zs = none := getO_none (by
    rintro ⟨p, hp, e⟩
    have := readAll_back p hp
    rw [e, h] at this
    cases this)
  unfold getPair; rw [this]

/-- A row that is being filled. -/
def rowI (L : List Int) (n : Nat) : List Int := L ++ List.replicate (n - L.length) 0
theorem rowI_len (L : List Int) (n : Nat) (h : L.length ≤ n) : (rowI L n).length = n := by simp [rowI]; omega
theorem rowI_nil (n : Nat) : rowI [] n = List.replicate n 0 := by simp [rowI]
theorem rowI_all (L : List Int) : rowI L L.length = L := by simp [rowI]
theorem rowI_set (L : List Int) (n : Nat) (z : Int) (h : L.length < n) : (rowI L n).set L.length z = rowI (L ++ [z]) n := by
  unfold rowI
  rw [List.set_append, if_neg (by omega)]
  have e : n - L.length = (n - (L ++ [z]).length) + 1 := by simp; omega
  rw [e, List.replicate_succ, Nat.sub_self, List.set_cons_zero]
  simp
theorem rowI_set_map (L : List Int) (n : Nat) (z : Int) (h : L.length < n) : ((rowI L n).map (Value.int .i64)).set L.length (.int .i64 z) = (rowI (L ++ [z]) n).map (Value.int .i64) := by
  rw [← rowI_set L n z h, List.map_set]
/-- What is still to be read, behind what was. -/
def onTo (L : List Int) : Option (List Int × Nat) → Option (List Int × Nat)
  | none => none
  | some (l, r) => some (L ++ l, r)
theorem onTo_nil (x : Option (List Int × Nat)) : onTo [] x = x := by cases x <;> rfl
theorem onTo_step (zs L : List Int) (n p q : Nat) (z : Int) (h : getAt zs (p : Int) = some (z, q)) : onTo L (numsAt zs (n + 1) p) = onTo (L ++ [z]) (numsAt zs n q) := by
  rw [numsAt, h]
  simp only
  cases numsAt zs n q with
  | none => rfl
  | some t => simp [onTo]
theorem onTo_stop (zs L : List Int) (n p : Nat) (h : getAt zs (p : Int) = none) : onTo L (numsAt zs (n + 1) p) = none := by
  rw [numsAt, h]; rfl
end Go.Proofs.YtickiokdcbeefabDoor

/- The walk of impl.crcByte. -/
namespace Go.Proofs.YtickiokdcbeefabDoor
open Go.RowKit



theorem crcBit_odd (x : Nat) (h : (x : Int) % 2 = 1) : crcBit x = x / 2 ^^^ 3988292384 := by
  unfold crcBit; rw [if_pos (by omega)]
theorem crcBit_even (x : Nat) (h : ¬ (x : Int) % 2 = 1) : crcBit x = x / 2 := by
  unfold crcBit; rw [if_neg (by omega)]

theorem crc_odd (x y : Nat) (hx : x < 4294967296) (h : (x : Int) % 2 = 1) (hy : y = crcBit x) : bits .xor .u32 ((x : Int) / 2) 3988292384 = (y : Int) := by
  rw [hy, crcBit_odd x h]
  have := u32_xor_nat (x / 2) 3988292384 (by omega) (by omega)
  rw [← this]
  rfl

theorem crc_even (x y : Nat) (h : ¬ (x : Int) % 2 = 1) (hy : y = crcBit x) : (x : Int) / 2 = (y : Int) := by
  rw [hy, crcBit_even x h]
  omega

end Go.Proofs.YtickiokdcbeefabDoor

/- The walk of impl.Crc: it comes to crcOf. -/
namespace Go.Proofs.YtickiokdcbeefabDoor
open Go.RowKit

theorem u32_max : IntKind.u32.max = ((4294967295 : Nat) : Int) := by simp [IntKind.max, IntKind.signed, IntKind.bits]

theorem crc_end (x y : Nat) (hx : x < 4294967296) (hy : y = 4294967295 ^^^ x) : wrap64 (bits .xor .u32 IntKind.u32.max (x : Int)) = (y : Int) := by
  rw [u32_max, u32_xor_nat _ _ (by omega) hx, hy]
  have : 4294967295 ^^^ x < 4294967296 := Nat.xor_lt_two_pow (n := 32) (by omega) (by omega)
  unfold wrap64
  omega

theorem crcOf_nil : crcOf [] = 4294967295 ^^^ 4294967295 := by simp [crcOf, crcTo]

end Go.Proofs.YtickiokdcbeefabDoor

/- The walk of impl.appendSum: four bytes of a sum, the lowest first. -/
namespace Go.Proofs.YtickiokdcbeefabDoor
open Go.RowKit

def sumByte (x k : Nat) : Int := ((x / 256 ^ k % 256 : Nat) : Int)
def fourTo (x k : Nat) : List Int := (List.range k).map (sumByte x)
def four (x : Nat) : List Int := fourTo x 4

theorem four_eq (x : Nat) : four x = [((x % 256 : Nat) : Int), ((x / 256 % 256 : Nat) : Int), ((x / 65536 % 256 : Nat) : Int), ((x / 16777216 % 256 : Nat) : Int)] := by
  simp [four, fourTo, List.range_succ, sumByte]
theorem fourTo_succ (x k : Nat) : fourTo x (k + 1) = fourTo x k ++ [sumByte x k] := by simp [fourTo, List.range_succ]
theorem fourTo_len (x k : Nat) : (fourTo x k).length = k := by simp [fourTo]
theorem sumByte_byte (x k : Nat) : 0 ≤ sumByte x k ∧ sumByte x k < 256 := by unfold sumByte; omega
theorem sumByte_eq (x k : Nat) : (x : Int) / 2 ^ (8 * k) % 256 = sumByte x k := by
  unfold sumByte
  rw [show (256 : Nat) ^ k = 2 ^ (8 * k) from by rw [Nat.pow_mul]]
  simp
theorem own_lit4 (w : World) (p q r s : Int) (h : ∀ z ∈ [p, q, r, s], 0 ≤ z ∧ z < 256) : OwnB (w.alloc (.cells #[.int .u8 p, .int .u8 q, .int .u8 r, .int .u8 s] 5)) w.heap.size (some ⟨w.heap.size, 0, none⟩) 4 [p, q, r, s] :=
  ⟨h, World.ownsRow_lit w _ 4 (Nat.le_refl _) (by simp [maxLen]) rfl⟩
theorem four_byte (x : Nat) : ∀ z ∈ four x, 0 ≤ z ∧ z < 256 := by rw [four_eq]; simp; omega

end Go.Proofs.YtickiokdcbeefabDoor
