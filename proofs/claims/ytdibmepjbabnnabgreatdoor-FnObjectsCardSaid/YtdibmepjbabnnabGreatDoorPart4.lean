/- Several texts in one, in their order. -/
import Derived.Test.YtdibmepjbabnnabGreatDoorPart3
import Derived.Test.YtdibmepjbabnnabGreatDoorPart2
import Derived.Deep.QuietTactic
import Derived.BigQuiet
import Derived.Test.YtdibmepjbabnnabGreatDoorProg
import Derived.Test.YtdibmepjbabnnabGreatDoorPart1
/- Plain mathematics of reading an object number by number: what is read is just what is put. -/
namespace Go.Proofs.YtdibmepjbabnnabGreatDoor
open Go.RowKit

def Bytes (zs : List Int) : Prop := ∀ z ∈ zs, 0 ≤ z ∧ z < 256
theorem Bytes.drop {zs : List Int} (h : Bytes zs) (p : Nat) : Bytes (zs.drop p) := fun z hz => h z (List.mem_of_mem_drop hz)

theorem lead_at : ∀ L : List Int, lead L < L.length → L.getD (lead L) 0 < 128 := by
  intro L
  induction L with
  | nil => intro h; simp [lead] at h
  | cons z r ih =>
    intro h
    unfold lead at h ⊢
    split
    · rename_i hz
      rw [if_pos hz, List.length_cons] at h
      have := ih (by omega)
      simpa using this
    · simp; omega

/-- Bytes whose last group of several is not 0 are the groups of what they hold. -/
theorem groups_canon : ∀ L : List Int, Bytes L → lead L < L.length → lead L < 6 → ¬ (0 < lead L ∧ L.getD (lead L) 0 = 0) → groups (valOf (L.take (lead L + 1))) = L.take (lead L + 1) := by
  intro L
  induction L with
  | nil => intro _ h; simp [lead] at h
  | cons z r ih =>
    intro hb hl h6 h0
    have hz := hb z (by simp)
    by_cases hbig : 128 ≤ z
    · have hle : lead (z :: r) = lead r + 1 := by simp [lead, hbig]
      rw [hle] at hl h6 h0 ⊢
      simp only [List.length_cons] at hl
      have hr : Bytes r := fun y hy => hb y (by simp [hy])
      have hlast : r.getD (lead r) 0 ≠ 0 := by
        intro e
        exact h0 ⟨by omega, by simpa using e⟩
      have ihr := ih hr (by omega) (by omega) (fun h => hlast h.2)
      have hlt := lead_at r (by omega)
      have hge := bytes_at hr (lead r)
      have hvt := valOf_take r (lead r) (by omega)
      have hvb := (valOf_take_lt r (lead r + 1) (by omega)).1
      have hpow : 1 ≤ (128 : Nat) ^ lead r := by
        have := Nat.pow_le_pow_right (n := 128) (by omega) (Nat.zero_le (lead r))
        simpa using this
      have hm1 : 1 ≤ (r.getD (lead r) 0 % 128).toNat := by omega
      have hV : 1 ≤ valOf (r.take (lead r + 1)) := by
        rw [hvt]
        have : 1 * 1 ≤ (r.getD (lead r) 0 % 128).toNat * 128 ^ lead r := Nat.mul_le_mul hm1 hpow
        omega
      rw [List.take_succ_cons, valOf]
      generalize valOf (r.take (lead r + 1)) = V at *
      rw [groups_big _ (by omega) (by omega)]
      have e1 : ((z % 128).toNat + 128 * V) / 128 = V := by omega
      have e2 : ((((z % 128).toNat + 128 * V) % 128 + 128 : Nat) : Int) = z := by omega
      rw [e1, e2, ihr]
    · have hle : lead (z :: r) = 0 := by simp [lead]; omega
      rw [hle]
      simp only [Nat.zero_add, List.take_succ_cons, List.take_zero, valOf]
      rw [groups_small _ (by omega)]
      simp; omega

theorem zig_unzig (m : Nat) (h : m ≤ 2000000000000) : zig (unzig m) = m ∧ clampI (unzig m) = unzig m := by
  have hb := (unzig_bd m).2 h
  have hc : clampI (unzig m) = unzig m := by unfold clampI; rw [if_neg (by omega), if_neg (by omega)]
  refine ⟨?_, hc⟩
  unfold zig
  rw [hc]
  unfold unzig
  split <;> split <;> omega

theorem getOf_canon (L : List Int) (hb : Bytes L) (n : Int) (k : Nat) (h : getOf L = some (n, k)) : k = (putOf n).length ∧ L.take k = putOf n ∧ 1 ≤ k ∧ k ≤ L.length := by
  unfold getOf at h
  split at h
  · rename_i hh
    simp only [Option.some.injEq, Prod.mk.injEq] at h
    obtain ⟨rfl, rfl⟩ := h
    have hg := groups_canon L hb hh.1 hh.2.1 hh.2.2.1
    have hz := (zig_unzig _ hh.2.2.2).1
    have hp : putOf (unzig (valOf (L.take (lead L + 1)))) = L.take (lead L + 1) := by unfold putOf; rw [hz, hg]
    refine ⟨?_, hp.symm, by omega, by omega⟩
    rw [hp, List.length_take]; omega
  · cases h

theorem getAt_canon (zs : List Int) (hb : Bytes zs) (p : Nat) (n : Int) (q : Nat) (h : getAt zs (p : Int) = some (n, q)) : zs.drop p = putOf n ++ zs.drop q ∧ p < q ∧ q ≤ zs.length := by
  rw [getAt_nat] at h
  cases hg : getOf (zs.drop p) with
  | none => rw [hg] at h; cases h
  | some r =>
    obtain ⟨m, k⟩ := r
    rw [hg] at h
    simp only [Option.map_some, Option.some.injEq, Prod.mk.injEq] at h
    obtain ⟨rfl, rfl⟩ := h
    obtain ⟨hk, ht, h1, h2⟩ := getOf_canon _ (hb.drop p) m k hg
    rw [List.length_drop] at h2
    refine ⟨?_, by omega, by omega⟩
    rw [← ht, ← List.drop_drop, List.take_append_drop]

/-- So many numbers from a place on. -/
def numsAt (zs : List Int) : Nat → Nat → Option (List Int × Nat)
  | 0, p => some ([], p)
  | n + 1, p => match getAt zs (p : Int) with
    | none => none
    | some (x, q) => match numsAt zs n q with
      | none => none
      | some (l, r) => some (x :: l, r)
def partsAt (zs : List Int) (p : Nat) : Option (List Int × Nat) := match getAt zs (p : Int) with
  | none => none
  | some (n, q) => if 0 ≤ n ∧ n ≤ 5 then numsAt zs n.toNat q else none
def readAll (zs : List Int) : Option ObjV := match getAt zs 0 with
  | none => none
  | some (k, p) => match partsAt zs p with
    | none => none
    | some (is, q) => match partsAt zs q with
      | none => none
      | some (rs, r) => if r = zs.length then some ⟨k, is, rs⟩ else none

theorem numsAt_canon (zs : List Int) (hb : Bytes zs) (n : Nat) : ∀ (p : Nat) (l : List Int) (q : Nat), numsAt zs n p = some (l, q) → p ≤ zs.length → l.length = n ∧ zs.drop p = l.flatMap putOf ++ zs.drop q ∧ q ≤ zs.length := by
  induction n with
  | zero =>
    intro p l q h hp
    simp only [numsAt, Option.some.injEq, Prod.mk.injEq] at h
    obtain ⟨rfl, rfl⟩ := h
    exact ⟨rfl, by simp, hp⟩
  | succ n ih =>
    intro p l q h hp
    unfold numsAt at h
    cases hg : getAt zs (p : Int) with
    | none => rw [hg] at h; cases h
    | some r =>
      obtain ⟨x, q1⟩ := r
      rw [hg] at h
      simp only at h
      obtain ⟨hd, h1, h2⟩ := getAt_canon zs hb p x q1 hg
      cases hn : numsAt zs n q1 with
      | none => rw [hn] at h; cases h
      | some t =>
        obtain ⟨l1, q2⟩ := t
        rw [hn] at h
        simp only [Option.some.injEq, Prod.mk.injEq] at h
        obtain ⟨rfl, rfl⟩ := h
        obtain ⟨hl, hd2, h3⟩ := ih q1 l1 q2 hn h2
        refine ⟨by simp [hl], ?_, h3⟩
        rw [hd, hd2]; simp

theorem partsAt_canon (zs : List Int) (hb : Bytes zs) (p : Nat) (l : List Int) (q : Nat) (h : partsAt zs p = some (l, q)) : l.length ≤ 5 ∧ zs.drop p = putList l ++ zs.drop q ∧ q ≤ zs.length := by
  unfold partsAt at h
  cases hg : getAt zs (p : Int) with
  | none => rw [hg] at h; cases h
  | some r =>
    obtain ⟨n, q1⟩ := r
    rw [hg] at h
    simp only at h
    obtain ⟨hd, h1, h2⟩ := getAt_canon zs hb p n q1 hg
    split at h
    · rename_i h5
      obtain ⟨hl, hd2, h3⟩ := numsAt_canon zs hb _ q1 l q h h2
      refine ⟨by omega, ?_, h3⟩
      have e : (l.length : Int) = n := by omega
      rw [hd, hd2]; simp [putList, e]
    · cases h

theorem readAll_canon (zs : List Int) (hb : Bytes zs) (o : ObjV) (h : readAll zs = some o) : zs = (putOf o.kind ++ putList o.ints) ++ putList o.refs ∧ o.ints.length ≤ 5 ∧ o.refs.length ≤ 5 := by
  unfold readAll at h
  cases hg : getAt zs 0 with
  | none => rw [hg] at h; cases h
  | some r =>
    obtain ⟨k, p⟩ := r
    rw [hg] at h
    simp only at h
    obtain ⟨hd, h1, h2⟩ := getAt_canon zs hb 0 k p hg
    cases hp : partsAt zs p with
    | none => rw [hp] at h; cases h
    | some t =>
      obtain ⟨is, q⟩ := t
      rw [hp] at h
      simp only at h
      obtain ⟨hl1, hd1, h3⟩ := partsAt_canon zs hb p is q hp
      cases hq : partsAt zs q with
      | none => rw [hq] at h; cases h
      | some t =>
        obtain ⟨rs, r⟩ := t
        rw [hq] at h
        simp only at h
        obtain ⟨hl2, hd2, h4⟩ := partsAt_canon zs hb q rs r hq
        split at h
        · rename_i hr
          simp only [Option.some.injEq] at h
          subst h
          refine ⟨?_, hl1, hl2⟩
          simp only [List.drop_zero] at hd
          rw [hd, hd1, hd2, hr, List.drop_length]; simp
        · cases h

theorem getAt_back (pre rest : List Int) (n : Int) (h : -1000000 ≤ n ∧ n ≤ 1000000) : getAt (pre ++ putOf n ++ rest) (pre.length : Int) = some (n, (pre ++ putOf n).length) := by
  rw [List.append_assoc, back_int pre rest n, clampI_small n h]; simp

theorem numsAt_back (l : List Int) : ∀ (pre rest : List Int), (∀ z ∈ l, -1000000 ≤ z ∧ z ≤ 1000000) → numsAt (pre ++ l.flatMap putOf ++ rest) l.length pre.length = some (l, (pre ++ l.flatMap putOf).length) := by
  induction l with
  | nil => intro pre rest _; simp [numsAt]
  | cons z r ih =>
    intro pre rest h
    have hz := h z (by simp)
    have e : pre ++ (z :: r).flatMap putOf ++ rest = (pre ++ putOf z) ++ r.flatMap putOf ++ rest := by simp
    have e2 : pre ++ (z :: r).flatMap putOf ++ rest = pre ++ putOf z ++ (r.flatMap putOf ++ rest) := by simp
    rw [List.length_cons, numsAt, e2, getAt_back pre _ z hz]
    simp only
    rw [← e2, e, ih (pre ++ putOf z) rest (fun y hy => h y (by simp [hy]))]
    simp

theorem partsAt_back (pre rest l : List Int) (hl : l.length ≤ 5) (h : ∀ z ∈ l, -1000000 ≤ z ∧ z ≤ 1000000) : partsAt (pre ++ putList l ++ rest) pre.length = some (l, (pre ++ putList l).length) := by
  have e : pre ++ putList l ++ rest = pre ++ putOf l.length ++ (l.flatMap putOf ++ rest) := by simp [putList]
  have e2 : pre ++ putList l ++ rest = (pre ++ putOf l.length) ++ l.flatMap putOf ++ rest := by simp [putList]
  have hn := getAt_back pre (l.flatMap putOf ++ rest) (l.length : Int) (by omega)
  rw [← e] at hn
  unfold partsAt
  rw [hn]
  simp only
  rw [if_pos (by omega), Int.toNat_natCast, e2, numsAt_back l (pre ++ putOf l.length) rest h]
  simp [putList]

theorem readAll_back (o : ObjV) (h : okB o = true) : readAll (putObjOf o) = some o := by
  obtain ⟨hk, h5, h6, hi, hr⟩ := okB_bd h
  rw [put_ok h]
  have e0 : putOf o.kind ++ putList o.ints ++ putList o.refs = [] ++ putOf o.kind ++ (putList o.ints ++ putList o.refs) := by simp
  have e2 : putOf o.kind ++ putList o.ints ++ putList o.refs = (putOf o.kind ++ putList o.ints) ++ putList o.refs ++ [] := by simp
  have n1 := getAt_back [] (putList o.ints ++ putList o.refs) o.kind (by omega)
  rw [← e0] at n1
  simp only [List.nil_append, List.length_nil, Int.natCast_zero] at n1
  have l1 := partsAt_back (putOf o.kind) (putList o.refs) o.ints h5 hi
  have l2 := partsAt_back (putOf o.kind ++ putList o.ints) [] o.refs h6 (fun z hz => by have := hr z hz; omega)
  rw [← e2] at l2
  unfold readAll
  rw [n1]
  simp only
  rw [l1]
  simp only
  rw [l2]
  simp

/-- What is answered of bytes, by what is read of them. -/
theorem getPair_some (zs : List Int) (hb : Bytes zs) (o : ObjV) (h : readAll zs = some o) (hok : okB o = true) : getPair zs = (o, true) := by
  have e := (readAll_canon zs hb o h).1
  have : getO zs = some o := getO_some hok (by rw [put_ok hok]; exact e.symm)
  unfold getPair; rw [this]
theorem getPair_bad (zs : List Int) (o : ObjV) (h : readAll zs = some o) (hok : okB o = false) : getPair zs = (noO, false) := by
  have : getO zs = none := getO_none (by
    rintro ⟨p, hp, e⟩
    have := readAll_back p hp
    rw [e, h] at this
    simp only [Option.some.injEq] at this
    rw [this, hp] at hok
    cases hok)
  unfold getPair; rw [this]
theorem getPair_none (zs : List Int) (h : readAll zs = none) : getPair zs = (noO, false) := by
  have : getO zs = none := getO_none (by
    rintro ⟨p, hp, e⟩
    have := readAll_back p hp
    rw [e, h] at this
    cases this)
  unfold getPair; rw [this]

/-- A row that is being filled. -/
def rowI (L : List Int) (n : Nat) : List Int := L ++ List.replicate (n - L.length) 0
theorem rowI_len (L : List Int) (n : Nat) (h : L.length ≤ n) : (rowI L n).length = n := by simp [rowI]; omega
theorem rowI_nil (n : Nat) : rowI [] n = List.replicate n 0 := by simp [rowI]
theorem rowI_all (L : List Int) : rowI L L.length = L := by simp [rowI]
theorem rowI_set (L : List Int) (n : Nat) (z : Int) (h : L.length < n) : (rowI L n).set L.length z = rowI (L ++ [z]) n := by
  unfold rowI
  rw [List.set_append, if_neg (by omega)]
  have e : n - L.length = (n - (L ++ [z]).length) + 1 := by simp; omega
  rw [e, List.replicate_succ, Nat.sub_self, List.set_cons_zero]
  simp
theorem rowI_set_map (L : List Int) (n : Nat) (z : Int) (h : L.length < n) : ((rowI L n).map (Value.int .i64)).set L.length (.int .i64 z) = (rowI (L ++ [z]) n).map (Value.int .i64) := by
  rw [← rowI_set L n z h, List.map_set]
/-- What is still to be read, behind what was. -/
def onTo (L : List Int) : Option (List Int × Nat) → Option (List Int × Nat)
  | none => none
  | some (l, r) => some (L ++ l, r)
theorem onTo_nil (x : Option (List Int × Nat)) : onTo [] x = x := by cases x <;> rfl
theorem onTo_step (zs L : List Int) (n p q : Nat) (z : Int) (h : getAt zs (p : Int) = some (z, q)) : onTo L (numsAt zs (n + 1) p) = onTo (L ++ [z]) (numsAt zs n q) := by
  rw [numsAt, h]
  simp only
  cases numsAt zs n q with
  | none => rfl
  | some t => simp [onTo]
theorem onTo_stop (zs L : List Int) (n p : Nat) (h : getAt zs (p : Int) = none) : onTo L (numsAt zs (n + 1) p) = none := by
  rw [numsAt, h]; rfl
end Go.Proofs.YtdibmepjbabnnabGreatDoor

/- The walks of spec.l2SameInts, spec.l2Same and spec.SameObj. -/
namespace Go.Proofs.YtdibmepjbabnnabGreatDoor
open Go.RowKit

theorem ne_at {xs ys : List Int} (j : Nat) (h : xs.getD j 0 ≠ ys.getD j 0) : decide (xs = ys) = false := by
  rw [decide_eq_false_iff_not]
  intro e
  exact h (by rw [e])
theorem ne_len {xs ys : List Int} (h : xs.length ≠ ys.length) : decide (xs = ys) = false := by
  rw [decide_eq_false_iff_not]
  intro e
  exact h (by rw [e])
theorem eq_all {xs ys : List Int} (hl : xs.length = ys.length) (h : ∀ t, t < xs.length → xs.getD t 0 = ys.getD t 0) : decide (xs = ys) = true := by
  rw [decide_eq_true_eq]
  apply List.ext_getElem hl
  intro i h1 h2
  have := h i h1
  simpa [List.getD, h1, h2] using this

def sameO (a b : ObjV) : Bool := decide (a.kind = b.kind) && (decide (a.ints = b.ints) && decide (a.refs = b.refs))

end Go.Proofs.YtdibmepjbabnnabGreatDoor

/- The walk of spec.l2Same. -/
namespace Go.Proofs.YtdibmepjbabnnabGreatDoor
open Go.RowKit

end Go.Proofs.YtdibmepjbabnnabGreatDoor

/- The walk of spec.GetObj. -/
namespace Go.Proofs.YtdibmepjbabnnabGreatDoor
open Go.RowKit

end Go.Proofs.YtdibmepjbabnnabGreatDoor

/- The walks of impl.unfoldSign and impl.joinGroups. -/
namespace Go.Proofs.YtdibmepjbabnnabGreatDoor
open Go.RowKit

theorem unzig_even (m : Nat) (h : (m : Int) % 2 = 0) : unzig m = (m : Int) / 2 := by unfold unzig; rw [if_pos (by omega)]; omega
theorem unzig_odd (m : Nat) (h : ¬ (m : Int) % 2 = 0) : unzig m = -((m : Int) / 2) - 1 := by unfold unzig; rw [if_neg (by omega)]; omega

set_option maxHeartbeats 400000 in
theorem unfoldSign_any (m : Nat) (w : World) (hm : m ≤ 4398046511104) :
    Calls Tryz.prog 67 #[.int .i64 m] w fun e w' => e = .returned (.int .i64 (unzig m)) ∧ w' = w := by
  by_cases ho : (m : Int) % 2 = 0
  · have HU : Hid (_ = _) := unzig_even m ho
    go_enter Tryz.func67, Tryz.ntmps67
    go_wp2
    go_ret
    exact ⟨ret_int HU.out.symm, rfl⟩
  · have HU : Hid (_ = _) := unzig_odd m ho
    have ho' : ((m : Int) % 2 == 0) = false := by simp; omega
    go_enter Tryz.func67, Tryz.ntmps67
    go_wp2
    go_ret
    exact ⟨ret_int HU.out.symm, rfl⟩

/-- May these groups be a number's? -/
def fits (G : List Int) : Prop := G.length ≤ 6 ∧ ¬ (1 < G.length ∧ G.getD (G.length - 1) 0 = 0)

theorem shl_go (c j : Nat) (hj : j < 6) : wrap64 ((c : Int) % 128 * 2 ^ (7 * j)) = (((c % 128) * 128 ^ j : Nat) : Int) ∧ (c % 128) * 128 ^ j ≤ 4398046511104 := by
  have e7 : (128 : Nat) ^ j = 2 ^ (7 * j) := by rw [Nat.pow_mul]
  have hp : (128 : Nat) ^ j ≤ 128 ^ 5 := Nat.pow_le_pow_right (by omega) (by omega)
  have h5 : (128 : Nat) ^ 5 = 34359738368 := by decide
  have hb : (c % 128) * 128 ^ j ≤ 127 * 34359738368 := Nat.mul_le_mul (by omega) (by omega)
  have e : ((c : Int) % 128 * 2 ^ (7 * j)) = (((c % 128) * 128 ^ j : Nat) : Int) := by
    rw [e7]; simp
  rw [e]
  constructor
  · unfold wrap64; omega
  · omega

set_option maxHeartbeats 400000 in
theorem joinGroups_no (a : Option Addr) (c : Nat) (G : List Int) (w : World) (hr : Reads w a G) (hl : G.length ≤ 6) (hf : ¬ fits G) :
    Calls Tryz.prog 66 #[.slice a G.length c] w fun e w' => e = .returned (.tuple #[.int .i64 0, .bool false]) ∧ w' = w := by
  have h2 : 1 < G.length ∧ G.getD (G.length - 1) 0 = 0 := by
    by_cases h : 1 < G.length ∧ G.getD (G.length - 1) 0 = 0
    · exact h
    · exact absurd ⟨by omega, h⟩ hf
  rcases hr.cases with rfl | ⟨b, off, rfl, hpos, hcell⟩
  · simp at h2
  have hc := hcell (G.length - 1) (by omega)
  rw [h2.2] at hc
  have h3 := h2.1
  have hgt : (0 : Int) < (G.length : Int) - 1 := by omega
  have hcc : w.cell? ⟨b, off + ((G.length : Int) - 1).toNat, none⟩ = some (.int .u8 0) := by
    rw [show ((G.length : Int) - 1).toNat = G.length - 1 from by omega]; exact hc
  clear hf h2 hcell
  go_enter Tryz.func66, Tryz.ntmps66
  go_wp2
  go_ret2
  exact ⟨rfl, rfl⟩

theorem join_end (m v : Nat) (h : m = v) : Ending.returned (.tuple #[.int .i64 (m : Int), .bool (decide ((m : Int) ≤ 2000000000000))]) = .returned (.tuple #[.int .i64 ((v : Nat) : Int), .bool (decide (v ≤ 2000000000000))]) := by
  subst h
  have e : decide ((m : Int) ≤ 2000000000000) = decide (m ≤ 2000000000000) := decide_eq_decide.2 (by omega)
  rw [e]

set_option maxHeartbeats 400000 in
theorem joinGroups_yes (a : Option Addr) (c : Nat) (G : List Int) (w : World) (hr : Reads w a G) (h1 : 1 ≤ G.length) (hf : fits G) :
    Calls Tryz.prog 66 #[.slice a G.length c] w fun e w' => e = .returned (.tuple #[.int .i64 (valOf G : Nat), .bool (decide (valOf G ≤ 2000000000000))]) ∧ w' = w := by
  have hby := hr.byte
  rcases hr.cases with rfl | ⟨b, off, rfl, hpos, hcell⟩
  · simp at h1
  obtain ⟨h6, h2⟩ := hf
  have hc := hcell (G.length - 1) (by omega)
  obtain ⟨hn, hn2⟩ := bytes_nat hby (G.length - 1)
  have hcc : w.cell? ⟨b, off + ((G.length : Int) - 1).toNat, none⟩ = some (.int .u8 ((G.getD (G.length - 1) 0).toNat : Int)) := by
    rw [show ((G.length : Int) - 1).toNat = G.length - 1 from by omega, ← hn]; exact hc
  have hcs : G.length < 2 ∨ (1 < G.length ∧ (((G.getD (G.length - 1) 0).toNat : Int) == 0) = false) := by
    by_cases e : 1 < G.length
    · refine .inr ⟨e, ?_⟩
      have : ¬ G.getD (G.length - 1) 0 = 0 := fun h => h2 ⟨e, h⟩
      simp only [beq_eq_false_iff_ne, ne_eq]
      omega
    · exact .inl (by omega)
  have HTA : Hid (valOf (G.take G.length) = valOf G) := by rw [Hid, List.take_of_length_le (Nat.le_refl _)]
  rw [hn] at hc
  generalize (G.getD (G.length - 1) 0).toNat = last at *
  clear hn h2
  rcases hcs with hlt | ⟨hgt, hnz⟩
  all_goals
    go_enter Tryz.func66, Tryz.ntmps66
    go_wp2
    go_loop [5, 22] (fun m i => ∃ k : Nat, k ≤ G.length ∧ i = .int .i64 k ∧ m = .int .i64 (valOf (G.take k) : Nat)) (fun _ i => G.length - (intOf i).toNat)
    case atStart => exact ⟨0, by omega, rfl, rfl⟩
    case round =>
      obtain ⟨k, hk, rfl, rfl⟩ := hrel
      have hm := (valOf_take_lt G k (by omega)).1
      by_cases hlt : k < G.length
      · have hck := hcell k hlt
        obtain ⟨hkn, hkn2⟩ := bytes_nat hby k
        have HV : Hid (_ = _) := valOf_take G k hlt
        rw [hkn] at hck
        have HT : Hid ((G.getD k 0 % 128).toNat = (G.getD k 0).toNat % 128) := by rw [Hid]; omega
        clear hkn hcell hby
        generalize (G.getD k 0).toNat = cc at *
        obtain ⟨hsh, hshl⟩ := shl_go cc k (by omega)
        have HV2 : Hid (valOf (G.take (k + 1)) = valOf (G.take k) + cc % 128 * 128 ^ k) := by rw [Hid, HV.out, HT.out]
        clear HV HT
        generalize cc % 128 * 128 ^ k = t at *
        generalize valOf (G.take k) = m at *
        go_wp2
        go_round
        case rel => exact ⟨k + 1, by omega, by go_num, by rw [HV2.out]; go_num⟩
        case measure => simp [intOf]; omega
      · have HE : Hid (valOf (G.take k) = valOf G) := by
          have e : k = G.length := by omega
          rw [e]; exact HTA
        generalize valOf (G.take k) = m at *
        go_wp2
        go_ret2
        exact ⟨join_end _ _ HE.out, rfl⟩
end Go.Proofs.YtdibmepjbabnnabGreatDoor

/- The walk of impl.countGroups. -/
namespace Go.Proofs.YtdibmepjbabnnabGreatDoor
open Go.RowKit

/-- How many groups are counted: those that say more, up to six, and one. -/
def countOf (L : List Int) : Nat := min (lead L) 6 + 1

theorem countOf_go (L : List Int) (j : Nat) (hj : j ≤ 6) (hl : j ≤ L.length) (hall : ∀ i, i < j → 128 ≤ L.getD i 0) (hs : j = 6 ∨ j = L.length ∨ (j < L.length ∧ L.getD j 0 < 128)) : countOf L = j + 1 := by
  have h1 := lead_ge j L hl hall
  have h2 := lead_le L
  unfold countOf
  rcases hs with h | h | ⟨h, h'⟩
  · omega
  · omega
  · have := lead_stop j L h h'
    omega

set_option maxHeartbeats 400000 in
set_option maxRecDepth 100000 in
theorem countGroups_any (a : Option Addr) (c : Nat) (zs : List Int) (w : World) (hr : Reads w a zs) (hl : zs.length ≤ 70368744177664) :
    Calls Tryz.prog 65 #[.slice a zs.length c] w fun e w' => e = .returned (.int .i64 (countOf zs : Nat)) ∧ w' = w := by
  have hby := hr.byte
  rcases hr.cases with rfl | ⟨b, off, rfl, hpos, hcell⟩
  · go_enter Tryz.func65, Tryz.ntmps65
    go_wp2
    refine wp_loop_rounds 1 ?_
    rw [rounds_succ]
    go_wp2
    go_ret
    exact ⟨rfl, rfl⟩
  go_enter Tryz.func65, Tryz.ntmps65
  go_wp2
  go_loop [3] (fun i => ∃ j : Nat, j ≤ 6 ∧ j ≤ zs.length ∧ i = .int .i64 ((j + 1 : Nat) : Int) ∧ Hid (∀ i, i < j → 128 ≤ zs.getD i 0)) (fun i => 7 - (intOf i).toNat)
  case atStart => exact ⟨0, by omega, by omega, rfl, fun i hi => by omega⟩
  case round =>
    obtain ⟨j, hj6, hjl, rfl, hall⟩ := hrel
    by_cases hm : (zs.length : Int) < 6
    all_goals
    by_cases h6 : j < 6
    · by_cases hlt : j < zs.length
      · have hc := hcell j hlt
        obtain ⟨hn, hn2⟩ := bytes_nat hby j
        have HCC : Hid (zs.getD j 0 = ((zs.getD j 0).toNat : Int)) := hn
        rw [hn] at hc
        clear hn
        generalize (zs.getD j 0).toNat = cc at *
        by_cases hcc : 128 ≤ cc
        · have HN : Hid (∀ i, i < j + 1 → 128 ≤ zs.getD i 0) := by
            intro i hi
            by_cases e : i = j
            · rw [e, HCC.out]; omega
            · exact hall.out i (by omega)
          clear hcell hby
          go_wp2
          go_round
          case rel => exact ⟨j + 1, by omega, by omega, by go_num, HN⟩
          case measure => simp [intOf]; omega
        · have HE : Hid (countOf zs = j + 1) := countOf_go zs j hj6 hjl hall.out (.inr (.inr ⟨hlt, by rw [HCC.out]; omega⟩))
          clear hcell hby
          go_wp2
          go_ret
          exact ⟨ret_int (by rw [HE.out]; omega), rfl⟩
      · have HE : Hid (countOf zs = j + 1) := countOf_go zs j hj6 hjl hall.out (.inr (.inl (by omega)))
        clear hcell hby
        go_wp2
        all_goals go_ret
        all_goals exact ⟨ret_int (by rw [HE.out]; omega), rfl⟩
    · have HE : Hid (countOf zs = j + 1) := countOf_go zs j hj6 hjl hall.out (.inl (by omega))
      clear hcell hby
      go_wp2
      all_goals go_ret
      all_goals exact ⟨ret_int (by rw [HE.out]; omega), rfl⟩
end Go.Proofs.YtdibmepjbabnnabGreatDoor

/- The walk of impl.scanInt. -/
namespace Go.Proofs.YtdibmepjbabnnabGreatDoor
open Go.RowKit

/-- What scanInt answers where there is a number. -/
def scanOk (r : Int × Nat) : Value := .tuple #[.int .i64 r.1, .int .i64 (r.2 : Nat), .int .i64 0]
/-- Why there is none: 1: the bytes end within fewer than six groups; 3: else. -/
def scanWhy (zs : List Int) (p : Int) : Int := if 0 ≤ p ∧ p ≤ zs.length ∧ lead (zs.drop p.toNat) = zs.length - p.toNat ∧ lead (zs.drop p.toNat) < 6 then 1 else 3
def scanOf (zs : List Int) (p : Int) : Value := match getAt zs p with
  | some r => scanOk r
  | none => .tuple #[.int .i64 0, .int .i64 0, .int .i64 (scanWhy zs p)]

theorem scan_none (zs : List Int) (p : Int) (h : getAt zs p = none) (c : Int) (hc : scanWhy zs p = c) : scanOf zs p = .tuple #[.int .i64 0, .int .i64 0, .int .i64 c] := by
  unfold scanOf; rw [h, hc]

theorem scan_got {zs : List Int} {q j v : Nat} (hA : getAt zs q = (getOf (zs.drop q)).map fun r => (r.1, q + r.2)) (hG : getOf (zs.drop q) = some (unzig v, j + 1)) :
    Ending.returned (.tuple #[.int .i64 (unzig v), .int .i64 ((q : Int) + (j : Int) + 1), .int .i64 0]) = .returned (scanOf zs q) := by
  unfold scanOf
  rw [hA, hG]
  simp only [Option.map_some, scanOk]
  rw [show ((q + (j + 1) : Nat) : Int) = (q : Int) + (j : Int) + 1 from by omega]

theorem reads_part {w : World} {b off : Nat} {zs : List Int} (hby : ∀ z ∈ zs, 0 ≤ z ∧ z < 256) (hcell : ∀ i, i < zs.length → w.cell? ⟨b, off + i, none⟩ = some (.int .u8 (zs.getD i 0))) (q k : Nat) (h : q + k ≤ zs.length) :
    Reads w (some ⟨b, off + q, none⟩) ((zs.drop q).take k) := by
  refine ⟨fun z hz => hby z (List.mem_of_mem_drop (List.mem_of_mem_take hz)), fun _ => ⟨b, off + q, rfl, fun i hi => ?_⟩⟩
  have hi' : i < k := by simp at hi; omega
  rw [Nat.add_assoc, hcell (q + i) (by omega)]
  have : ((zs.drop q).take k).getD i 0 = zs.getD (q + i) 0 := by simp [List.getD, hi']
  rw [this]

theorem reads_slice {w : World} {a : Option Addr} {zs : List Int} (hr : Reads w a zs) (q k : Nat) (h : q + k ≤ zs.length) : Reads w (a.map fun x => x.add q) ((zs.drop q).take k) := by
  rcases hr.cases with rfl | ⟨b, off, rfl, hpos, hcell⟩
  · exact ⟨by simp, by simp⟩
  · have := reads_part hr.byte hcell q k h
    have e : (⟨b, off, none⟩ : Addr).add q = ⟨b, off + q, none⟩ := by unfold Addr.add; split <;> simp_all
    rw [Option.map_some, e]
    exact this

theorem reads_from {w : World} {b off : Nat} {zs : List Int} (hby : ∀ z ∈ zs, 0 ≤ z ∧ z < 256) (hcell : ∀ i, i < zs.length → w.cell? ⟨b, off + i, none⟩ = some (.int .u8 (zs.getD i 0))) (q : Nat) (h : q ≤ zs.length) :
    Reads w (some ⟨b, off + q, none⟩) (zs.drop q) := by
  have := reads_part hby hcell q (zs.length - q) (by omega)
  rwa [List.take_of_length_le (by simp)] at this

set_option maxHeartbeats 1000000 in
set_option maxRecDepth 100000 in
theorem scanInt_any (a : Option Addr) (c : Nat) (zs : List Int) (p : Int) (w : World) (hr : Reads w a zs) (hl : zs.length ≤ 70368744177664) (hcap : zs.length ≤ c) :
    Calls Tryz.prog 51 #[.slice a zs.length c, .int .i64 p] w fun e w' => e = .returned (scanOf zs p) ∧ w' = w := by
  by_cases h0 : p < 0
  · have HG : Hid (_ = _) := scan_none zs p (getAt_neg zs p h0) 3 (by unfold scanWhy; rw [if_neg (by omega)])
    go_enter Tryz.func51, Tryz.ntmps51
    go_wp2
    go_ret3
    exact ⟨by rw [HG.out]; rfl, rfl⟩
  by_cases h1 : (zs.length : Int) < p
  · have HG : Hid (_ = _) := scan_none zs p (getAt_past zs p (by omega)) 3 (by unfold scanWhy; rw [if_neg (by omega)])
    go_enter Tryz.func51, Tryz.ntmps51
    go_wp2
    go_ret3
    exact ⟨by rw [HG.out]; rfl, rfl⟩
  obtain ⟨q, rfl⟩ := Int.eq_ofNat_of_zero_le (show 0 ≤ p from by omega)
  have hq : q ≤ zs.length := by omega
  have hby := hr.byte
  have HA : Hid (_ = _) := getAt_nat zs q
  have hLl : (zs.drop q).length = zs.length - q := List.length_drop
  clear h0 h1
  by_cases hck : c = q
  · have hle : (zs.length : Int) - (q : Int) < 1 := by omega
    have he : zs.drop q = [] := List.length_eq_zero_iff.1 (by omega)
    have HX : Hid (scanOf zs q = .tuple #[.int .i64 0, .int .i64 0, .int .i64 1]) := by
      refine scan_none zs q (by rw [HA.out, he]; rfl) 1 ?_
      unfold scanWhy
      rw [if_pos ⟨by omega, by omega, by rw [Int.toNat_natCast, he]; simp [lead]; omega, by rw [Int.toNat_natCast, he]; simp [lead]⟩]
    have hcg := countGroups_any a 0 [] w ⟨by simp, by simp⟩ (by simp)
    clear he HA hLl hby
    subst hck
    go_enter Tryz.func51, Tryz.ntmps51
    go_wp2_with fail
    refine hcg.mono ?_
    rintro e w' ⟨rfl, rfl⟩
    rw [show ((countOf [] : Nat) : Int) = 1 from rfl]
    go_wp2
    go_ret3
    exact ⟨by rw [HX.out]; rfl, rfl⟩
  have hrp : Reads w (a.map fun x => x.add q) (zs.drop q) := by
    have := reads_slice hr q (zs.length - q) (by omega)
    rwa [List.take_of_length_le (by omega)] at this
  have hcg := fun c' => countGroups_any (a.map fun x => x.add q) c' (zs.drop q) w hrp (by omega)
  rw [hLl] at hcg
  have HRS : Hid (∀ k, q + k ≤ zs.length → Reads w (a.map fun x => x.add q) ((zs.drop q).take k)) := fun k h => reads_slice hr q k h
  have HGT : Hid (6 < countOf (zs.drop q) → scanOf zs q = .tuple #[.int .i64 0, .int .i64 0, .int .i64 3]) := by
    intro h
    have h6 : 6 ≤ lead (zs.drop q) := by unfold countOf at h; omega
    refine scan_none zs q (by rw [HA.out, getOf_none _ (.inr (.inl h6))]; rfl) 3 ?_
    unfold scanWhy
    rw [if_neg]
    rintro ⟨_, _, _, h'⟩
    rw [Int.toNat_natCast] at h'
    omega
  have HEN : Hid (countOf (zs.drop q) ≤ 6 → zs.length - q < countOf (zs.drop q) → scanOf zs q = .tuple #[.int .i64 0, .int .i64 0, .int .i64 1]) := by
    intro h h'
    have hle := lead_le (zs.drop q)
    have h6 : lead (zs.drop q) = (zs.drop q).length := by unfold countOf at h h'; omega
    refine scan_none zs q (by rw [HA.out, getOf_none _ (.inl h6)]; rfl) 1 ?_
    unfold scanWhy
    rw [if_pos ⟨by omega, by omega, by rw [Int.toNat_natCast]; omega, by rw [Int.toNat_natCast]; unfold countOf at h; omega⟩]
  have HLD : Hid (countOf (zs.drop q) ≤ 6 → countOf (zs.drop q) ≤ zs.length - q → lead (zs.drop q) + 1 = countOf (zs.drop q)) := by
    intro h h'
    unfold countOf at h ⊢; omega
  have HPS : Hid (1 ≤ countOf (zs.drop q)) := by unfold countOf; rw [Hid]; omega
  generalize countOf (zs.drop q) = n at *
  by_cases h6 : 6 < n
  · have HX : Hid (_ = _) := HGT.out h6
    go_enter Tryz.func51, Tryz.ntmps51
    go_wp2_with fail
    refine (hcg _).mono ?_
    rintro e w' ⟨rfl, rfl⟩
    go_wp2
    go_ret3
    exact ⟨by rw [HX.out]; rfl, rfl⟩
  by_cases hen : zs.length - q < n
  · have HX : Hid (_ = _) := HEN.out (by omega) hen
    have hen' : (zs.length : Int) - (q : Int) < n := by omega
    go_enter Tryz.func51, Tryz.ntmps51
    go_wp2_with fail
    refine (hcg _).mono ?_
    rintro e w' ⟨rfl, rfl⟩
    go_wp2
    go_ret3
    exact ⟨by rw [HX.out]; rfl, rfl⟩
  obtain ⟨j, rfl⟩ : ∃ j, n = j + 1 := ⟨n - 1, by have := HPS.out; omega⟩
  have hen' : ¬ (zs.length : Int) - (q : Int) < ((j + 1 : Nat) : Int) := by omega
  have HLE : Hid (lead (zs.drop q) = j) := by have := HLD.out (by omega) (by omega); rw [Hid]; omega
  have hrG := HRS.out (j + 1) (by omega)
  have hgl : ((zs.drop q).take (j + 1)).length = j + 1 := by simp; omega
  have hgz : ((zs.drop q).take (j + 1)).getD j 0 = (zs.drop q).getD j 0 := by simp [List.getD]
  have HW : Hid (j < zs.length - q → scanWhy zs q = 3) := by intro hj; unfold scanWhy; rw [if_neg]; rintro ⟨_, _, h, _⟩; rw [Int.toNat_natCast, HLE.out] at h; omega
  have HN1 : Hid (getOf (zs.drop q) = none → scanOf zs q = .tuple #[.int .i64 0, .int .i64 0, .int .i64 3]) := fun h => scan_none zs q (by rw [HA.out, h]; rfl) 3 (HW.out (by omega))
  have HSm : Hid (_ → _ → _ → _ = _) := getOf_some (zs.drop q) j HLE.out (by omega)
  have HZ : Hid (_ → _) := getOf_none (zs.drop q)
  rw [HLE.out] at HZ
  have HQ : Hid (fits ((zs.drop q).take (j + 1)) ↔ ¬ (0 < j ∧ (zs.drop q).getD j 0 = 0)) := by
    unfold fits; rw [Hid, hgl, Nat.add_sub_cancel, hgz]
    constructor
    · rintro ⟨h1, h2⟩; exact fun h => h2 ⟨by omega, h.2⟩
    · rintro h2; exact ⟨by omega, fun h => h2 ⟨by omega, h.2⟩⟩
  have hv : valOf ((zs.drop q).take (j + 1)) < 4398046511104 := (valOf_take_lt (zs.drop q) (j + 1) (by omega)).1
  have HGL : Hid (j + 1 = ((zs.drop q).take (j + 1)).length) := by rw [Hid, hgl]
  have hg1 : 1 ≤ ((zs.drop q).take (j + 1)).length := by rw [hgl]; omega
  have hg2 : ((zs.drop q).take (j + 1)).length ≤ 6 := by rw [hgl]; omega
  clear hgl hgz HGT HEN HLD HRS HPS HW
  by_cases hfit : fits ((zs.drop q).take (j + 1))
  · have HB : Hid (_ → _) := HSm.out (by omega) (HQ.out.1 hfit)
    clear HSm HQ
    generalize (zs.drop q).take (j + 1) = G at *
    by_cases hbd : valOf G ≤ 2000000000000
    · have HG : Hid (_ = _) := HB.out hbd
      go_enter Tryz.func51, Tryz.ntmps51
      go_wp2_with fail
      refine (hcg _).mono ?_
      rintro e w' ⟨rfl, rfl⟩
      go_wp2_with fail
      rw [HGL.out]
      refine (joinGroups_yes _ _ G _ hrG hg1 hfit).mono ?_
      rintro e w' ⟨rfl, rfl⟩
      rw [decide_eq_true hbd]
      go_wp2_with fail
      refine (unfoldSign_any (valOf G) _ (by omega)).mono ?_
      rintro e w'' ⟨rfl, rfl⟩
      go_wp2
      go_ret3
      exact ⟨scan_got HA.out HG.out, rfl⟩
    · have HG : Hid (_ = _) := HN1.out (HZ.out (.inr (.inr (.inr (by omega)))))
      go_enter Tryz.func51, Tryz.ntmps51
      go_wp2_with fail
      refine (hcg _).mono ?_
      rintro e w' ⟨rfl, rfl⟩
      go_wp2_with fail
      rw [HGL.out]
      refine (joinGroups_yes _ _ G _ hrG hg1 hfit).mono ?_
      rintro e w' ⟨rfl, rfl⟩
      rw [decide_eq_false hbd]
      go_wp2
      go_ret3
      exact ⟨by rw [HG.out]; rfl, rfl⟩
  · have HG : Hid (_ = _) := HN1.out (HZ.out (by
      by_cases hz : 0 < j ∧ (zs.drop q).getD j 0 = 0
      · exact .inr (.inr (.inl hz))
      · exact absurd (HQ.out.2 hz) hfit))
    clear HSm HZ HQ HN1
    generalize (zs.drop q).take (j + 1) = G at *
    go_enter Tryz.func51, Tryz.ntmps51
    go_wp2_with fail
    refine (hcg _).mono ?_
    rintro e w' ⟨rfl, rfl⟩
    go_wp2_with fail
    rw [HGL.out]
    refine (joinGroups_no _ _ G _ hrG hg2 hfit).mono ?_
    rintro e w' ⟨rfl, rfl⟩
    go_wp2
    go_ret3
    exact ⟨by rw [HG.out]; rfl, rfl⟩
end Go.Proofs.YtdibmepjbabnnabGreatDoor

/- The walk of impl.GetInt, and of the exact law of GetInt. -/
namespace Go.Proofs.YtdibmepjbabnnabGreatDoor
open Go.RowKit

set_option maxHeartbeats 400000 in
theorem implGetInt_any (a : Option Addr) (c : Nat) (zs : List Int) (p : Int) (w : World) (hr : Reads w a zs) (hl : zs.length ≤ 70368744177664) (hcap : zs.length ≤ c) :
    Calls Tryz.prog 35 #[.slice a zs.length c, .int .i64 p] w fun e w' => e = .returned (triple (getAt zs p)) ∧ w' = w := by
  cases hg : getAt zs p with
  | some r =>
    obtain ⟨n, k⟩ := r
    have HS : Hid (scanOf zs p = _) := (show scanOf zs p = scanOk (n, k) from by unfold scanOf; rw [hg])
    clear hg
    go_enter Tryz.func35, Tryz.ntmps35
    go_wp2_with fail
    refine (scanInt_any a c zs p w hr hl hcap).mono ?_
    rintro e w' ⟨rfl, rfl⟩
    rw [HS.out]
    simp only [scanOk]
    go_wp2
    go_ret3
    exact ⟨rfl, rfl⟩
  | none =>
    have HS : Hid (scanOf zs p = _) := scan_none zs p hg _ rfl
    have hw : (scanWhy zs p == 0) = false := by unfold scanWhy; split <;> rfl
    clear hg
    generalize scanWhy zs p = y at *
    go_enter Tryz.func35, Tryz.ntmps35
    go_wp2_with fail
    refine (scanInt_any a c zs p w hr hl hcap).mono ?_
    rintro e w' ⟨rfl, rfl⟩
    rw [HS.out]
    go_wp2
    go_ret3
    exact ⟨rfl, rfl⟩
end Go.Proofs.YtdibmepjbabnnabGreatDoor

/- A box of three cells, filled. -/
namespace Go.Proofs.YtdibmepjbabnnabGreatDoor
open Go.RowKit

/-- The facts that a walk wants of a box of three cells. -/
theorem Box.three {w : World} {B : Nat} {x0 x1 x2 : Value} {t : TypeId} (b : Box w B [x0, x1, x2] t) :
    w.cell? ⟨B, 0, none⟩ = some x0 ∧ w.cell? ⟨B, 1, none⟩ = some x1 ∧ w.cell? ⟨B, 2, none⟩ = some x2 ∧ w.frozen? ⟨B, 0, none⟩ = false ∧ w.frozen? ⟨B, 1, none⟩ = false ∧ w.frozen? ⟨B, 2, none⟩ = false :=
  ⟨b.cell 0 _ rfl, b.cell 1 _ rfl, b.cell 2 _ rfl, b.frozen 0, b.frozen 1, b.frozen 2⟩

theorem box3_fill {w : World} {B : Nat} {x0 x1 x2 : Value} {t : TypeId} (b : Box w B [x0, x1, x2] t) (v0 v1 v2 : Value) :
    ∃ W, Hid (((w.setCell ⟨B, 0, none⟩ v0).setCell ⟨B, 1, none⟩ v1).setCell ⟨B, 2, none⟩ v2 = W) ∧ Box W B [v0, v1, v2] t ∧ Within B (B + 1) w W ∧ W.heap.size = w.heap.size := by
  refine ⟨_, rfl, ?_, ?_, ?_⟩
  · have := ((b.set 0 v0).set 1 v1).set 2 v2
    simpa only [List.set] using this
  · exact ((within_set w B 0 v0 (by omega)).trans (within_set _ B 1 v1 (by omega))).trans (within_set _ B 2 v2 (by omega))
  · simp
end Go.Proofs.YtdibmepjbabnnabGreatDoor

/- The walk of impl.SameObj. -/
namespace Go.Proofs.YtdibmepjbabnnabGreatDoor
open Go.RowKit

set_option maxHeartbeats 400000 in
theorem equalInts_any (a b : Option Addr) (ca cb : Nat) (xs ys : List Int) (w : World) (ha : ReadsI w a xs) (hb : ReadsI w b ys) (hl : xs.length ≤ 1099511627776) (hl2 : ys.length ≤ 1099511627776) :
    Calls Tryz.prog 25 #[.slice a xs.length ca, .slice b ys.length cb] w fun e w' => e = .returned (.bool (decide (xs = ys))) ∧ ∃ n, w' = w.drewN n := by
  by_cases hle : xs.length = ys.length
  case neg =>
    have HE : Hid (_ = _) := ne_len hle
    have hle' : ((xs.length : Int) == (ys.length : Int)) = false := by simp; omega
    go_enter Tryz.func25, Tryz.ntmps25
    go_wp2
    go_ret
    exact ⟨ret_bool HE.out.symm, 0, rfl⟩
  case pos =>
  have HL : Hid (xs.length = ys.length) := hle
  have hle' : ((xs.length : Int) == (ys.length : Int)) = true := by simp; omega
  rcases ha.cases with rfl | ⟨b1, o1, rfl, hpos, hc1⟩
  · obtain rfl : ys = [] := List.length_eq_zero_iff.1 (by simpa using hle.symm)
    have HE : Hid (decide (([] : List Int) = []) = true) := by simp [Hid]
    clear hle hle' HL
    go_enter Tryz.func25, Tryz.ntmps25
    go_wp2
    refine wp_loop_rounds 1 ?_
    rw [rounds_succ]
    go_wp2
    go_ret
    exact ⟨ret_bool HE.out.symm, 0, rfl⟩
  · rcases hb.cases with rfl | ⟨b2, o2, rfl, _, hc2⟩
    · simp at hle; simp [hle] at hpos
    · clear hle
      go_enter Tryz.func25, Tryz.ntmps25
      go_wp2
      go_loopw [13] (fun i wr => ∃ k : Nat, k ≤ xs.length ∧ i = .int .i64 k ∧ Hid (∀ t, t < k → xs.getD t 0 = ys.getD t 0) ∧ ∃ n, wr = w.drewN n) (fun i _ => xs.length - (intOf i).toNat)
      case atStart => exact ⟨0, Nat.zero_le _, rfl, fun t ht => by omega, 0, rfl⟩
      case round =>
        obtain ⟨k, hk, rfl, hall, n, rfl⟩ := hrel
        by_cases hlt : k < xs.length
        · have h1 := hc1 k hlt
          have h2 := hc2 k (by have := HL.out; omega)
          have hlt2 : (k : Int) < (ys.length : Int) := by have := HL.out; omega
          clear hc1 hc2
          by_cases hz : xs.getD k 0 = ys.getD k 0
          · have HN : Hid (∀ t, t < k + 1 → xs.getD t 0 = ys.getD t 0) := by
              intro t ht
              by_cases e : t = k
              · rw [e]; exact hz
              · exact hall.out t (by omega)
            rw [← hz] at h2
            clear hz
            generalize xs.getD k 0 = z at *
            go_wp2
            go_quiet (fail)
            go_wp2
            go_roundw
            case rel => exact ⟨k + 1, by omega, by go_num, HN, _, rfl⟩
            case measure => simp [intOf]; omega
          · have HE : Hid (_ = _) := ne_at k hz
            have hzb : (xs.getD k 0 == ys.getD k 0) = false := by simpa using hz
            clear hz
            generalize xs.getD k 0 = z at *
            generalize ys.getD k 0 = y at *
            go_wp2
            go_quiet (fail)
            go_wp2
            go_ret
            exact ⟨ret_bool HE.out.symm, n + nq, by first | rfl | simp⟩
        · have HE : Hid (_ = _) := eq_all HL.out (fun t ht => hall.out t (by omega))
          go_wp2
          go_ret
          exact ⟨ret_bool HE.out.symm, n, rfl⟩

set_option maxHeartbeats 1000000 in
set_option maxRecDepth 100000 in
theorem implSameObj_any (o p : ObjV) (aI : Option Addr) (cI : Nat) (aR : Option Addr) (cR : Nat) (bI : Option Addr) (dI : Nat) (bR : Option Addr) (dR : Nat) (w : World) (ha : ReadsO w aI cI aR cR o) (hb : ReadsO w bI dI bR dR p) (h1 : o.ints.length ≤ 1099511627776) (h2 : o.refs.length ≤ 1099511627776) (h3 : p.ints.length ≤ 1099511627776) (h4 : p.refs.length ≤ 1099511627776) :
    Calls Tryz.prog 12 #[.agg #[.int .i64 o.kind, .slice aI o.ints.length cI, .slice aR o.refs.length cR], .agg #[.int .i64 p.kind, .slice bI p.ints.length dI, .slice bR p.refs.length dR]] w fun e w' => e = .returned (.bool (sameO o p)) ∧ Below w.heap.size w w' := by
  obtain ⟨k, ints, refs⟩ := o
  obtain ⟨k', ints', refs'⟩ := p
  obtain ⟨haI, haR, _, _⟩ := ha
  obtain ⟨hbI, hbR, _, _⟩ := hb
  simp only at *
  obtain ⟨W, hW, b0, b1, hbW, hsW⟩ := boxes2 w [.int .i64 k, .slice aI ints.length cI, .slice aR refs.length cR] [.int .i64 k', .slice bI ints'.length dI, .slice bR refs'.length dR] 26 26
  by_cases hk : k = k'
  case neg =>
    have HE : Hid (sameO ⟨k, ints, refs⟩ ⟨k', ints', refs'⟩ = false) := by simp [Hid, sameO, hk]
    have hkb : (k == k') = false := by simpa using hk
    clear hk
    go_enter Tryz.func12, Tryz.ntmps12
    go_wp2
    go_ret
    exact ⟨ret_bool HE.out.symm, by rw [hW.out]; exact hbW⟩
  case pos =>
  subst hk
  have HE : Hid (sameO ⟨k, ints, refs⟩ ⟨k, ints', refs'⟩ = (decide (ints = ints') && decide (refs = refs'))) := by simp [Hid, sameO]
  go_enter Tryz.func12, Tryz.ntmps12
  go_wp2_with fail
  rw [hW.out]
  refine (equalInts_any aI bI cI dI ints ints' W (haI.below hbW) (hbI.below hbW) h1 h3).mono ?_
  rintro e w1 ⟨rfl, n1, rfl⟩
  have c0 := (b0.drewN n1).cell 2 _ rfl
  have c1 := (b1.drewN n1).cell 2 _ rfl
  have hb1 : Below w.heap.size w (W.drewN n1) := below_drewN hbW n1
  cases hd : decide (ints = ints') with
  | false =>
    rw [hd] at HE
    clear hd
    go_wp2
    go_ret
    exact ⟨ret_bool (by rw [HE.out]; rfl), hb1⟩
  | true =>
    rw [hd] at HE
    clear hd
    go_wp2_with fail
    refine (equalInts_any aR bR cR dR refs refs' (W.drewN n1) (haR.below hb1) (hbR.below hb1) h2 h4).mono ?_
    rintro e w2 ⟨rfl, n2, rfl⟩
    generalize decide (refs = refs') = D at *
    go_wp2
    go_ret
    exact ⟨ret_bool (by rw [HE.out]; rfl), below_drewN hbW (n1 + n2)⟩
end Go.Proofs.YtdibmepjbabnnabGreatDoor
