/- What jobs must be. -/
import Derived.Test.YtelagcpkbcdpdaaJobsWalk
import Derived.Test.YtelagcpkbcdpdaaInB
import Derived.Test.YtelagcpkbcdpdaaListMath
namespace Go.Proofs.Ytelagcpkbcdpdaa
open Go.RowKit

def opB (o : OpV) : Bool := if o.kd = 4 then (o.oid == 0 && o.num == 0) else (inB o.kd 1 3 && (inB o.oid 1 31 && inB o.num (-1000) 1000))
def opsB (l : List OpV) : Bool := decide (l.length ≤ 6) && l.all opB
def jobsB (L : List (List OpV)) : Bool := decide (L.length ≤ 4) && L.all opsB
theorem opsB_long {l : List OpV} (h : ¬ l.length ≤ 6) : opsB l = false := by simp [opsB, h]
theorem opsB_hit {l : List OpV} {k : Nat} (h : k < l.length) (h1 : opB (l.getD k zeroQ) = false) : opsB l = false := by rw [opsB, all_hit h h1, Bool.and_false]
theorem opsB_end {l : List OpV} {k : Nat} (h : ¬ k < l.length) (h0 : (l.take k).all opB = true) (hl : l.length ≤ 6) : opsB l = true := by rw [opsB, all_end h h0, Bool.and_true]; exact decide_eq_true hl
theorem jobsB_long {L : List (List OpV)} (h : ¬ L.length ≤ 4) : jobsB L = false := by simp [jobsB, h]
theorem jobsB_hit {L : List (List OpV)} {k : Nat} (h : k < L.length) (h1 : opsB (L.getD k []) = false) : jobsB L = false := by rw [jobsB, all_hit h h1, Bool.and_false]
theorem jobsB_end {L : List (List OpV)} {k : Nat} (h : ¬ k < L.length) (h0 : (L.take k).all opsB = true) (hl : L.length ≤ 4) : jobsB L = true := by rw [jobsB, all_end h h0, Bool.and_true]; exact decide_eq_true hl
theorem JobsShort.of_ops {js ks : List JobA} {n : Nat} (h : JobsShort js n) (he : opsJ ks = opsJ js) : JobsShort ks n := by
  refine ⟨by rw [← opsJ_len, he, opsJ_len]; exact h.len, fun j hj => ?_⟩
  have h1 : j.ops ∈ opsJ js := by rw [← he]; exact List.mem_map_of_mem hj
  obtain ⟨i, hi, e⟩ := List.mem_map.1 h1
  rw [← e]
  exact h.each i hi
theorem JobsShort.mono {js : List JobA} {n m : Nat} (h : JobsShort js n) (hm : n ≤ m) : JobsShort js m := ⟨Nat.le_trans h.len hm, fun j hj => Nat.le_trans (h.each j hj) hm⟩
end Go.Proofs.Ytelagcpkbcdpdaa
