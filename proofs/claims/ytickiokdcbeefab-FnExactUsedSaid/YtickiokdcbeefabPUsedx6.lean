/- Several texts in one, in their order. -/
import Derived.Test.YtickiokdcbeefabPUsedx1
import Derived.Deep.QuietTactic
import Derived.BigQuiet
import Derived.WalkKit
import Derived.Test.YtickiokdcbeefabProg
import Derived.Test.YtickiokdcbeefabPUsedx3
/- The walks of spec.l2SameInts, spec.l2Same and spec.SameObj. -/
namespace Go.Proofs.Ytickiokdcbeefab
open Go.RowKit

theorem ne_at {xs ys : List Int} (j : Nat) (h : xs.getD j 0 ≠ ys.getD j 0) : decide (xs = ys) = false := by
  rw [decide_eq_false_iff_not]
  intro e
  exact h (by rw [e])
theorem ne_len {xs ys : List Int} (h : xs.length ≠ ys.length) : decide (xs = ys) = false := by
  rw [decide_eq_false_iff_not]
  intro e
  exact h (by rw [e])
theorem eq_all {xs ys : List Int} (hl : xs.length = ys.length) (h : ∀ t, t < xs.length → xs.getD t 0 = ys.getD t 0) : decide (xs = ys) = true := by
  rw [decide_eq_true_eq]
  apply List.ext_getElem hl
  intro i h1 h2
  have := h i h1
  simpa [List.getD, h1, h2] using this

def sameO (a b : ObjV) : Bool := decide (a.kind = b.kind) && (decide (a.ints = b.ints) && decide (a.refs = b.refs))

end Go.Proofs.Ytickiokdcbeefab

/- Is a number within bounds? -/
namespace Go.Proofs.Ytickiokdcbeefab
def inB (x l m : Int) : Bool := decide (l ≤ x ∧ x ≤ m)
end Go.Proofs.Ytickiokdcbeefab

/- The walk of spec.l1In. -/
namespace Go.Proofs.Ytickiokdcbeefab
open Go.RowKit

end Go.Proofs.Ytickiokdcbeefab

/- When an object is right; the walk of spec.ObjOk. -/
namespace Go.Proofs.Ytickiokdcbeefab
open Go.RowKit

def okB (o : ObjV) : Bool := inB o.kind 1 99 && (decide (o.ints.length ≤ 5) && (decide (o.refs.length ≤ 5) && (o.ints.all (fun z => inB z (-1000000) 1000000) && o.refs.all (fun z => inB z 0 31))))

theorem okB_kind {o : ObjV} (h : inB o.kind 1 99 = false) : okB o = false := by simp [okB, h]
theorem okB_ints {o : ObjV} (h : ¬ o.ints.length ≤ 5) : okB o = false := by simp [okB, h]
theorem okB_refs {o : ObjV} (h : ¬ o.refs.length ≤ 5) : okB o = false := by simp [okB, h]
theorem okB_int {o : ObjV} (j : Nat) (hj : j < o.ints.length) (h : inB (o.ints.getD j 0) (-1000000) 1000000 = false) : okB o = false := by
  have : (o.ints.all (fun z => inB z (-1000000) 1000000)) = false := by
    rw [List.all_eq_false]
    exact ⟨o.ints.getD j 0, by simp [List.getD, hj], by rw [h]; decide⟩
  simp [okB, this]
theorem okB_ref {o : ObjV} (j : Nat) (hj : j < o.refs.length) (h : inB (o.refs.getD j 0) 0 31 = false) : okB o = false := by
  have : (o.refs.all (fun z => inB z 0 31)) = false := by
    rw [List.all_eq_false]
    exact ⟨o.refs.getD j 0, by simp [List.getD, hj], by rw [h]; decide⟩
  simp [okB, this]
theorem okB_true {o : ObjV} (h1 : inB o.kind 1 99 = true) (h2 : o.ints.length ≤ 5) (h3 : o.refs.length ≤ 5) (h4 : ∀ j, j < o.ints.length → inB (o.ints.getD j 0) (-1000000) 1000000 = true) (h5 : ∀ j, j < o.refs.length → inB (o.refs.getD j 0) 0 31 = true) : okB o = true := by
  have a4 : (o.ints.all (fun z => inB z (-1000000) 1000000)) = true := by
    rw [List.all_eq_true]
    intro z hz
    obtain ⟨j, hj, rfl⟩ := List.getElem_of_mem hz
    have := h4 j hj
    simpa [List.getD, hj] using this
  have a5 : (o.refs.all (fun z => inB z 0 31)) = true := by
    rw [List.all_eq_true]
    intro z hz
    obtain ⟨j, hj, rfl⟩ := List.getElem_of_mem hz
    have := h5 j hj
    simpa [List.getD, hj] using this
  simp [okB, h1, h2, h3, a4, a5]

end Go.Proofs.Ytickiokdcbeefab

/- Plain mathematics of numbers in bytes: groups of seven bits, the lowest first. -/
namespace Go.Proofs.Ytickiokdcbeefab

def groupsN : Nat → Nat → List Int
  | 0, m => [(m : Int)]
  | f + 1, m => if m < 128 then [(m : Int)] else ((m % 128 + 128 : Nat) : Int) :: groupsN f (m / 128)
def groups (m : Nat) : List Int := groupsN 64 m

theorem groupsN_stable (f : Nat) : ∀ m, m < 2 ^ f → groupsN f m = groupsN (f + 1) m := by
  induction f with
  | zero => intro m h; have : m = 0 := by omega
            subst this; rfl
  | succ f ih =>
    intro m h
    unfold groupsN
    split
    · rfl
    · rw [ih (m / 128) (by rw [Nat.pow_succ] at h; omega)]

theorem groups_small (m : Nat) (h : m < 128) : groups m = [(m : Int)] := by
  unfold groups groupsN; rw [if_pos h]
theorem groups_big (m : Nat) (h : 128 ≤ m) (hm : m < 2 ^ 64) : groups m = ((m % 128 + 128 : Nat) : Int) :: groups (m / 128) := by
  unfold groups
  have e : groupsN 64 m = ((m % 128 + 128 : Nat) : Int) :: groupsN 63 (m / 128) := by
    show groupsN (63 + 1) m = _
    rw [groupsN, if_neg (by omega)]
  rw [e, groupsN_stable 63 (m / 128) (by omega)]

theorem groupsN_byte (f : Nat) : ∀ m, m < 128 * 2 ^ f → ∀ z ∈ groupsN f m, 0 ≤ z ∧ z < 256 := by
  induction f with
  | zero => intro m h z hz; simp [groupsN] at hz; omega
  | succ f ih =>
    intro m h z hz
    unfold groupsN at hz
    split at hz
    · simp at hz; omega
    · rw [List.mem_cons] at hz
      rcases hz with rfl | hz
      · omega
      · exact ih (m / 128) (by rw [Nat.pow_succ] at h; omega) z hz
theorem groups_byte (m : Nat) (hm : m < 2 ^ 64) : ∀ z ∈ groups m, 0 ≤ z ∧ z < 256 := groupsN_byte 64 m (by omega)

theorem groupsN_len (f : Nat) : ∀ m, 1 ≤ (groupsN f m).length ∧ (groupsN f m).length ≤ f + 1 := by
  induction f with
  | zero => intro m; simp [groupsN]
  | succ f ih =>
    intro m
    unfold groupsN
    split
    · simp
    · have := ih (m / 128); simp; omega
theorem groups_len (m : Nat) : 1 ≤ (groups m).length ∧ (groups m).length ≤ 65 := groupsN_len 64 m

/-- A number beyond the greatest counts as that. -/
def clampI (n : Int) : Int := if n > 1000000000000 then 1000000000000 else if n < -1000000000000 then -1000000000000 else n
def zig (n : Int) : Nat := if 0 ≤ clampI n then (2 * clampI n).toNat else (-2 * clampI n - 1).toNat
def putOf (n : Int) : List Int := groups (zig n)

theorem clampI_bd (n : Int) : -1000000000000 ≤ clampI n ∧ clampI n ≤ 1000000000000 := by unfold clampI; split <;> (try split) <;> omega
theorem zig_le (n : Int) : zig n ≤ 2000000000000 := by
  have := clampI_bd n
  unfold zig; split <;> omega
theorem zig_lt (n : Int) : zig n < 2 ^ 64 := by have := zig_le n; omega
theorem zig_pos (n c : Int) (hc : c = clampI n) (h : 0 ≤ c) : ((zig n : Nat) : Int) = 2 * c := by subst hc; unfold zig; rw [if_pos h]; omega
theorem zig_neg (n c : Int) (hc : c = clampI n) (h : ¬ 0 ≤ c) : ((zig n : Nat) : Int) = -2 * c - 1 := by subst hc; unfold zig; rw [if_neg h]; omega
theorem putOf_byte (n : Int) : ∀ z ∈ putOf n, 0 ≤ z ∧ z < 256 := groups_byte _ (zig_lt n)
theorem putOf_len (n : Int) : 1 ≤ (putOf n).length ∧ (putOf n).length ≤ 65 := groups_len _

end Go.Proofs.Ytickiokdcbeefab

/- The walks of impl.appendGroups and impl.foldSign. -/
namespace Go.Proofs.Ytickiokdcbeefab
open Go.RowKit

theorem step_small (xs pre ys zs : List Int) (m m0 : Nat) (h : groups m0 = pre ++ groups m) (hs : m < 128) (hy : ys = xs ++ pre) (hz : zs = ys ++ [(m : Int)]) : zs = xs ++ groups m0 := by
  rw [hz, hy, h, groups_small m hs, List.append_assoc]
theorem step_big (pre : List Int) (m m0 : Nat) (h : groups m0 = pre ++ groups m) (hs : 128 ≤ m) (hm : m < 2 ^ 64) : groups m0 = (pre ++ [((m % 128 + 128 : Nat) : Int)]) ++ groups (m / 128) := by
  rw [h, groups_big m hs hm]; simp

end Go.Proofs.Ytickiokdcbeefab
