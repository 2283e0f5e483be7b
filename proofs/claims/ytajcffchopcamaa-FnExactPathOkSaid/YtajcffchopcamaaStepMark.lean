/- The walks of laws.markPathStepS and laws.heldPathStepS. -/
import Derived.Test.YtajcffchopcamaaStepWalk
namespace Go.Proofs.Ytajcffchopcamaa
open Go.RowKit

def markPh1 (k0 : Int) (i : Nat) : StepV := ⟨k0 + 2 * i, k0 + 2 * i + 1⟩
def marksPh (k0 : Int) (n : Nat) : List StepV := (List.range n).map fun i : Nat => markPh1 k0 i
theorem marksPh_len (k0 : Int) (n : Nat) : (marksPh k0 n).length = n := by simp [marksPh]
theorem marksPh_at (k0 : Int) (n i : Nat) (h : i < n) : (marksPh k0 n).getD i zeroPh = markPh1 k0 i := by simp [marksPh, List.getD, h]
theorem marksPh_succ (k0 : Int) (n : Nat) : marksPh k0 (n + 1) = marksPh k0 n ++ [markPh1 k0 n] := by simp [marksPh, List.range_succ]
def markedPh (k0 : Int) (xs : List StepV) (k : Nat) : List StepV := marksPh k0 k ++ xs.drop k
theorem markedPh_len (k0 : Int) (xs : List StepV) (k : Nat) (h : k ≤ xs.length) : (markedPh k0 xs k).length = xs.length := by simp [markedPh, marksPh_len]; omega
theorem markedPh_set (k0 : Int) (xs : List StepV) (k : Nat) (h : k < xs.length) : (markedPh k0 xs k).set k (markPh1 k0 k) = markedPh k0 xs (k + 1) := by
  unfold markedPh
  rw [List.set_append, if_neg (by rw [marksPh_len]; omega), marksPh_len, Nat.sub_self, marksPh_succ, List.drop_eq_getElem_cons h, List.set_cons_zero]
  simp
theorem markedPh_all (k0 : Int) (xs : List StepV) : markedPh k0 xs xs.length = marksPh k0 xs.length := by simp [markedPh]

end Go.Proofs.Ytajcffchopcamaa
