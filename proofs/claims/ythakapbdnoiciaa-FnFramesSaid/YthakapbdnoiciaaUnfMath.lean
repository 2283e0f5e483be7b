/- What Unframe answers, in plain mathematics; four bytes and the sum that they hold. -/
import Derived.Test.YthakapbdnoiciaaFrame
import Derived.Test.YthakapbdnoiciaaScan
namespace Go.Proofs.Ythakapbdnoiciaa
open Go.RowKit

/-- The sum that the first k bytes hold, the lowest first. -/
def sumTo (zs : List Int) : Nat → Nat
  | 0 => 0
  | k + 1 => sumTo zs k + (zs.getD k 0).toNat * 256 ^ k

theorem sumTo_lt (zs : List Int) (hb : ∀ z ∈ zs, 0 ≤ z ∧ z < 256) (k : Nat) : sumTo zs k < 256 ^ k := by
  induction k with
  | zero => simp [sumTo]
  | succ k ih =>
    have := (bytes_nat hb k).2
    unfold sumTo
    rw [Nat.pow_succ]
    have h : (zs.getD k 0).toNat * 256 ^ k ≤ 255 * 256 ^ k := Nat.mul_le_mul_right _ (by omega)
    omega

theorem sumTo_four (zs : List Int) : sumTo zs 4 = (zs.getD 0 0).toNat + (zs.getD 1 0).toNat * 256 + (zs.getD 2 0).toNat * 65536 + (zs.getD 3 0).toNat * 16777216 := by
  simp [sumTo]

theorem take4 (zs : List Int) (h : 4 ≤ zs.length) : zs.take 4 = [zs.getD 0 0, zs.getD 1 0, zs.getD 2 0, zs.getD 3 0] := by
  match zs, h with
  | a :: b :: c :: d :: r, _ => simp

theorem sum_iff (zs : List Int) (hb : ∀ z ∈ zs, 0 ≤ z ∧ z < 256) (h : 4 ≤ zs.length) (x : Nat) (hx : x < 4294967296) : sumTo zs 4 = x ↔ zs.take 4 = four x := by
  rw [take4 zs h, four_eq, sumTo_four]
  have h0 := bytes_nat hb 0
  have h1 := bytes_nat hb 1
  have h2 := bytes_nat hb 2
  have h3 := bytes_nat hb 3
  generalize (zs.getD 0 0) = a at *
  generalize (zs.getD 1 0) = b at *
  generalize (zs.getD 2 0) = c at *
  generalize (zs.getD 3 0) = d at *
  simp only [List.cons.injEq, and_true]
  omega

/-- What Unframe answers: the body, the place, the code. -/
def unfOf (zs : List Int) (p : Int) : List Int × Int × Int := match getAt zs p with
  | none => ([], p, scanWhy zs p)
  | some r => if r.1 < 0 then ([], p, 3) else if (zs.length : Int) - (r.2 : Int) < r.1 + 4 then ([], p, 1) else
    if (zs.drop (r.2 + r.1.toNat)).take 4 = four (crcOf ((zs.drop r.2).take r.1.toNat)) then ((zs.drop r.2).take r.1.toNat, (r.2 : Int) + r.1 + 4, 0) else ([], p, 2)

/-- Its answer as a value: the slice at a. -/
def unfVal (a : Option Addr) (c : Nat) (r : List Int × Int × Int) : Value := .tuple #[.slice a r.1.length c, .int .i64 r.2.1, .int .i64 r.2.2]

theorem unf_none (zs : List Int) (p : Int) (h : getAt zs p = none) : unfOf zs p = ([], p, scanWhy zs p) := by unfold unfOf; rw [h]
theorem unf_neg (zs : List Int) (p n : Int) (k : Nat) (h : getAt zs p = some (n, k)) (hn : n < 0) : unfOf zs p = ([], p, 3) := by unfold unfOf; rw [h]; simp only; rw [if_pos hn]
theorem unf_end (zs : List Int) (p : Int) (m k : Nat) (h : getAt zs p = some ((m : Int), k)) (hn : (zs.length : Int) - (k : Int) < (m : Int) + 4) : unfOf zs p = ([], p, 1) := by
  unfold unfOf; rw [h]; simp only; rw [if_neg (by omega), if_pos hn]
theorem unf_sum (zs : List Int) (p : Int) (m k : Nat) (h : getAt zs p = some ((m : Int), k)) (hn : ¬ (zs.length : Int) - (k : Int) < (m : Int) + 4) (hs : ¬ (zs.drop (k + m)).take 4 = four (crcOf ((zs.drop k).take m))) : unfOf zs p = ([], p, 2) := by
  unfold unfOf; rw [h]; simp only; rw [if_neg (by omega), if_neg hn, Int.toNat_natCast, if_neg hs]
theorem unf_good (zs : List Int) (p : Int) (m k : Nat) (h : getAt zs p = some ((m : Int), k)) (hn : ¬ (zs.length : Int) - (k : Int) < (m : Int) + 4) (hs : (zs.drop (k + m)).take 4 = four (crcOf ((zs.drop k).take m))) : unfOf zs p = ((zs.drop k).take m, (k : Int) + (m : Int) + 4, 0) := by
  unfold unfOf; rw [h]; simp only; rw [if_neg (by omega), if_neg hn, Int.toNat_natCast, if_pos hs]

theorem own_none (w : World) (base : Nat) : OwnB w base none 0 [] := ⟨by simp, by simp, .inl ⟨rfl, rfl⟩⟩
end Go.Proofs.Ythakapbdnoiciaa
