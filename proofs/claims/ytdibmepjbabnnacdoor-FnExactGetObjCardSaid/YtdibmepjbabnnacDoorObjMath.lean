/- Plain mathematics: an object comes back of its bytes, and of them alone. -/
import Derived.Test.YtdibmepjbabnnacDoorPutObjSpec
import Derived.Test.YtdibmepjbabnnacDoorReaderSpec
import Derived.Test.YtdibmepjbabnnacDoorBackMath
namespace Go.Proofs.YtdibmepjbabnnacDoor
open Go.RowKit

/-- What a reader reads of an object, and whether it is bad behind it. -/
def readO (zs : List Int) : ObjV × Bool :=
  (⟨(nextOf zs (0, false)).1, (listOf zs 5 (nextOf zs (0, false)).2).1, (listOf zs 5 (listOf zs 5 (nextOf zs (0, false)).2).2).1⟩, (listOf zs 5 (listOf zs 5 (nextOf zs (0, false)).2).2).2.2)

theorem clampI_small (n : Int) (h : -1000000 ≤ n ∧ n ≤ 1000000) : clampI n = n := by unfold clampI; rw [if_neg (by omega), if_neg (by omega)]

theorem next_back (pre rest : List Int) (n : Int) (h : -1000000 ≤ n ∧ n ≤ 1000000) : nextOf (pre ++ putOf n ++ rest) ((pre.length : Int), false) = (n, (((pre ++ putOf n).length : Int), false)) := by
  rw [List.append_assoc, nextOf_some _ _ (clampI n) (pre.length + (putOf n).length) (back_int pre rest n), clampI_small n h]
  simp

theorem nums_back (l : List Int) : ∀ (pre rest acc : List Int), (∀ z ∈ l, -1000000 ≤ z ∧ z ≤ 1000000) → numsOf (pre ++ l.flatMap putOf ++ rest) l.length acc ((pre.length : Int), false) = (acc ++ l, (((pre ++ l.flatMap putOf).length : Int), false)) := by
  induction l with
  | nil => intro pre rest acc _; simp [numsOf]
  | cons z r ih =>
    intro pre rest acc h
    have hz := h z (by simp)
    have e : pre ++ (z :: r).flatMap putOf ++ rest = (pre ++ putOf z) ++ r.flatMap putOf ++ rest := by simp
    have e2 : pre ++ (z :: r).flatMap putOf ++ rest = pre ++ putOf z ++ (r.flatMap putOf ++ rest) := by simp
    rw [List.length_cons, numsOf_step, e2, next_back pre _ z hz, ← e2, e]
    simp only
    rw [ih (pre ++ putOf z) rest (acc ++ [z]) (fun y hy => h y (by simp [hy]))]
    simp

theorem list_back (pre rest l : List Int) (hl : l.length ≤ 5) (h : ∀ z ∈ l, -1000000 ≤ z ∧ z ≤ 1000000) : listOf (pre ++ putList l ++ rest) 5 ((pre.length : Int), false) = (l, (((pre ++ putList l).length : Int), false)) := by
  have e : pre ++ putList l ++ rest = pre ++ putOf l.length ++ (l.flatMap putOf ++ rest) := by simp [putList]
  have e2 : pre ++ putList l ++ rest = (pre ++ putOf l.length) ++ l.flatMap putOf ++ rest := by simp [putList]
  have hn := next_back pre (l.flatMap putOf ++ rest) (l.length : Int) (by omega)
  rw [← e] at hn
  unfold listOf
  rw [hn]
  have hi : inB (l.length : Int) 0 5 = true := by unfold inB; rw [decide_eq_true_eq]; omega
  simp only [hi, badIf, Bool.not_true, Bool.or_false, Int.toNat_natCast]
  rw [e2, nums_back l (pre ++ putOf l.length) rest [] h]
  simp [putList]

theorem okB_bd {o : ObjV} (h : okB o = true) : (1 ≤ o.kind ∧ o.kind ≤ 99) ∧ o.ints.length ≤ 5 ∧ o.refs.length ≤ 5 ∧ (∀ z ∈ o.ints, -1000000 ≤ z ∧ z ≤ 1000000) ∧ (∀ z ∈ o.refs, 0 ≤ z ∧ z ≤ 31) := by
  simp [okB, inB] at h
  exact ⟨h.1, h.2.1, h.2.2.1, h.2.2.2.1, h.2.2.2.2⟩

theorem put_ok {o : ObjV} (h : okB o = true) : putObjOf o = (putOf o.kind ++ putList o.ints) ++ putList o.refs := by unfold putObjOf; rw [if_pos h]

theorem read_back (o : ObjV) (h : okB o = true) : readO (putObjOf o) = (o, false) := by
  obtain ⟨hk, h5, h6, hi, hr⟩ := okB_bd h
  rw [put_ok h]
  have e0 : putOf o.kind ++ putList o.ints ++ putList o.refs = [] ++ putOf o.kind ++ (putList o.ints ++ putList o.refs) := by simp
  have e2 : putOf o.kind ++ putList o.ints ++ putList o.refs = (putOf o.kind ++ putList o.ints) ++ putList o.refs ++ [] := by simp
  have n1 := next_back [] (putList o.ints ++ putList o.refs) o.kind (by omega)
  rw [← e0] at n1
  simp only [List.nil_append, List.length_nil, Int.natCast_zero] at n1
  have l1 := list_back (putOf o.kind) (putList o.refs) o.ints h5 hi
  have l2 := list_back (putOf o.kind ++ putList o.ints) [] o.refs h6 (fun z hz => by have := hr z hz; omega)
  rw [← e2] at l2
  unfold readO
  simp only [show ((0 : Int), false) = (((0 : Nat) : Int), false) from rfl] at *
  rw [n1, l1, l2]

theorem put_inj {o p : ObjV} (ho : okB o = true) (hp : okB p = true) (h : putObjOf o = putObjOf p) : o = p := by
  have h1 := read_back o ho
  rw [h, read_back p hp] at h1
  simpa using (Prod.mk.inj h1).1.symm

/-- The object whose bytes these are: a reader finds it, if there is one. -/
def getO (b : List Int) : Option ObjV := if (readO b).2 = false ∧ okB (readO b).1 = true ∧ putObjOf (readO b).1 = b then some (readO b).1 else none
theorem getO_read (b : List Int) : getO b = if (readO b).2 = false ∧ okB (readO b).1 = true ∧ putObjOf (readO b).1 = b then some (readO b).1 else none := rfl
theorem getO_some {b : List Int} {o : ObjV} (h1 : okB o = true) (h2 : putObjOf o = b) : getO b = some o := by
  have h := read_back o h1
  rw [h2] at h
  unfold getO
  rw [h]
  simp [h1, h2]
theorem getO_none {b : List Int} (h : ¬ ∃ o, okB o = true ∧ putObjOf o = b) : getO b = none := by
  unfold getO
  rw [if_neg]
  rintro ⟨_, h1, h2⟩
  exact h ⟨_, h1, h2⟩
theorem getO_ok {b : List Int} {o : ObjV} (h : getO b = some o) : okB o = true := by
  unfold getO at h
  split at h
  · rename_i hh
    simp only [Option.some.injEq] at h
    rw [← h]; exact hh.2.1
  · cases h

def noO : ObjV := ⟨0, [], []⟩
def getPair (b : List Int) : ObjV × Bool := match getO b with
  | some o => (o, true)
  | none => (noO, false)
end Go.Proofs.YtdibmepjbabnnacDoor
