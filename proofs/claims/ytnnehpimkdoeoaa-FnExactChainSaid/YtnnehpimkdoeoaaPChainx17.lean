/- Several texts in one, in their order. -/
import Derived.Test.YtnnehpimkdoeoaaPChainx12
import Derived.Test.YtnnehpimkdoeoaaPChainx16
import Derived.Test.YtnnehpimkdoeoaaProg
import Derived.Test.YtnnehpimkdoeoaaPChainx1
import Derived.Test.YtnnehpimkdoeoaaPChainx13
/- The walk of impl.putInts: b, and behind it the bytes of each number. -/
namespace Go.Proofs.Ytnnehpimkdoeoaa
open Go.RowKit

def putTo (ns : List Int) (k : Nat) : List Int := (ns.take k).flatMap putOf
theorem putTo_succ (ns : List Int) (k : Nat) (h : k < ns.length) : putTo ns (k + 1) = putTo ns k ++ putOf (ns.getD k 0) := by
  unfold putTo
  rw [List.take_succ_eq_append_getElem h, List.flatMap_append]
  simp [List.getD, h]
theorem putTo_all (ns : List Int) (k : Nat) (h : ns.length ≤ k) : putTo ns k = ns.flatMap putOf := by
  unfold putTo; rw [List.take_of_length_le h]
theorem putTo_len (ns : List Int) (k : Nat) : (putTo ns k).length ≤ 65 * k := by
  induction k with
  | zero => simp [putTo]
  | succ k ih =>
    by_cases h : k < ns.length
    · rw [putTo_succ ns k h, List.length_append]
      have := (putOf_len (ns.getD k 0)).2
      omega
    · rw [putTo_all ns _ (by omega), ← putTo_all ns k (by omega)]
      omega

end Go.Proofs.Ytnnehpimkdoeoaa

/- The walk of impl.Frame: it comes to frameOf. -/
namespace Go.Proofs.Ytnnehpimkdoeoaa
open Go.RowKit

def frameOf (zs : List Int) : List Int := (putOf zs.length ++ zs) ++ four (crcOf zs)

theorem crcOf_lt (zs : List Int) (h : ∀ z ∈ zs, 0 ≤ z ∧ z < 256) : crcOf zs < 4294967296 := by
  have := crcTo_lt zs h zs.length
  exact Nat.xor_lt_two_pow (n := 32) (by omega) (by omega)
theorem frameOf_len (zs : List Int) : (frameOf zs).length ≤ zs.length + 69 := by
  have := (putOf_len zs.length).2
  simp [frameOf, four, fourTo]; omega

theorem readsI_lit1 (w : World) (n : Int) (e : TypeId) : ReadsI (w.alloc (.cells #[.int .i64 n] e)) (some ⟨w.heap.size, 0, none⟩) [n] := by
  intro _
  refine ⟨_, _, rfl, fun i hi => ?_⟩
  simp at hi
  subst hi
  simp

theorem reads_nil (w : World) (a : Option Addr) : Reads w a [] := ⟨by simp, by simp⟩

end Go.Proofs.Ytnnehpimkdoeoaa

/- The walks of impl.unfoldSign and impl.joinGroups. -/
namespace Go.Proofs.Ytnnehpimkdoeoaa
open Go.RowKit

theorem unzig_even (m : Nat) (h : (m : Int) % 2 = 0) : unzig m = (m : Int) / 2 := by unfold unzig; rw [if_pos (by omega)]; omega
theorem unzig_odd (m : Nat) (h : ¬ (m : Int) % 2 = 0) : unzig m = -((m : Int) / 2) - 1 := by unfold unzig; rw [if_neg (by omega)]; omega

/-- May these groups be a number's? -/
def fits (G : List Int) : Prop := G.length ≤ 6 ∧ ¬ (1 < G.length ∧ G.getD (G.length - 1) 0 = 0)

theorem shl_go (c j : Nat) (hj : j < 6) : wrap64 ((c : Int) % 128 * 2 ^ (7 * j)) = (((c % 128) * 128 ^ j : Nat) : Int) ∧ (c % 128) * 128 ^ j ≤ 4398046511104 := by
  have e7 : (128 : Nat) ^ j = 2 ^ (7 * j) := by rw [Nat.pow_mul]
  have hp : (128 : Nat) ^ j ≤ 128 ^ 5 := Nat.pow_le_pow_right (by omega) (by omega)
  have h5 : (128 : Nat) ^ 5 = 34359738368 := by decide
  have hb : (c % 128) * 128 ^ j ≤ 127 * 34359738368 := Nat.mul_le_mul (by omega) (by omega)
  have e : ((c : Int) % 128 * 2 ^ (7 * j)) = (((c % 128) * 128 ^ j : Nat) : Int) := by
    rw [e7]; simp
  rw [e]
  constructor
  · unfold wrap64; omega
  · omega

theorem join_end (m v : Nat) (h : m = v) : Ending.returned (.tuple #[.int .i64 (m : Int), .bool (decide ((m : Int) ≤ 2000000000000))]) = .returned (.tuple #[.int .i64 ((v : Nat) : Int), .bool (decide (v ≤ 2000000000000))]) := by
  subst h
  have e : decide ((m : Int) ≤ 2000000000000) = decide (m ≤ 2000000000000) := decide_eq_decide.2 (by omega)
  rw [e]

end Go.Proofs.Ytnnehpimkdoeoaa
