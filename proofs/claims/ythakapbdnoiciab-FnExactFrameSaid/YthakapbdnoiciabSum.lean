/- The walk of impl.appendSum: four bytes of a sum, the lowest first. -/
import Derived.Test.YthakapbdnoiciabAppend
namespace Go.Proofs.Ythakapbdnoiciab
open Go.RowKit

def sumByte (x k : Nat) : Int := ((x / 256 ^ k % 256 : Nat) : Int)
def fourTo (x k : Nat) : List Int := (List.range k).map (sumByte x)
def four (x : Nat) : List Int := fourTo x 4

theorem four_eq (x : Nat) : four x = [((x % 256 : Nat) : Int), ((x / 256 % 256 : Nat) : Int), ((x / 65536 % 256 : Nat) : Int), ((x / 16777216 % 256 : Nat) : Int)] := by
  simp [four, fourTo, List.range_succ, sumByte]
theorem fourTo_succ (x k : Nat) : fourTo x (k + 1) = fourTo x k ++ [sumByte x k] := by simp [fourTo, List.range_succ]
theorem fourTo_len (x k : Nat) : (fourTo x k).length = k := by simp [fourTo]
theorem sumByte_byte (x k : Nat) : 0 ≤ sumByte x k ∧ sumByte x k < 256 := by unfold sumByte; omega
theorem sumByte_eq (x k : Nat) : (x : Int) / 2 ^ (8 * k) % 256 = sumByte x k := by
  unfold sumByte
  rw [show (256 : Nat) ^ k = 2 ^ (8 * k) from by rw [Nat.pow_mul]]
  simp
theorem own_lit4 (w : World) (p q r s : Int) (h : ∀ z ∈ [p, q, r, s], 0 ≤ z ∧ z < 256) : OwnB (w.alloc (.cells #[.int .u8 p, .int .u8 q, .int .u8 r, .int .u8 s] 5)) w.heap.size (some ⟨w.heap.size, 0, none⟩) 4 [p, q, r, s] :=
  ⟨h, World.ownsRow_lit w _ 4 (Nat.le_refl _) (by simp [maxLen]) rfl⟩
theorem four_byte (x : Nat) : ∀ z ∈ four x, 0 ≤ z ∧ z < 256 := by rw [four_eq]; simp; omega

set_option maxHeartbeats 400000 in
set_option maxRecDepth 100000 in
theorem appendSum_any (base : Nat) (a : Option Addr) (c : Nat) (xs : List Int) (x : Nat) (w : World) (hown : OwnB w base a c xs) (hl : xs.length ≤ 70368744177000) (hbase : base ≤ w.heap.size) :
    Calls Try.prog 20 #[.slice a xs.length c, .int .i64 x] w fun e w' => ∃ a' c' ys, e = .returned (.slice a' ys.length c') ∧ ys = xs ++ four x ∧ OwnB w' base a' c' ys ∧ Below base w w' := by
  go_enter Try.func20, Try.ntmps20
  go_wp2
  go_loopw [0, 6] (fun out i wr => ∃ (a' : Option Addr) (c' : Nat) (ys : List Int) (k : Nat), out = .slice a' ys.length c' ∧ i = .int .i64 k ∧ k ≤ 4 ∧ OwnB wr base a' c' ys ∧ Hid (ys = xs ++ fourTo x k) ∧ Below base w wr)
    (fun _ i _ => 4 - (intOf i).toNat)
  case atStart => exact ⟨a, c, xs, 0, rfl, rfl, by omega, hown, by simp [Hid, fourTo], Below.refl _ _⟩
  case round =>
    obtain ⟨a', c', ys, k, rfl, rfl, hk, ho, hy, hnx⟩ := hrel
    have hsz := hnx.size
    have hyl : ys.length ≤ 70368744177600 := by
      have e := congrArg List.length hy.out
      rw [List.length_append, fourTo_len] at e
      omega
    clear hown
    by_cases hlt : k < 4
    · have hb := sumByte_byte x k
      have HS : Hid (_ = _) := fourTo_succ x k
      have hz : 0 ≤ (x : Int) / 2 ^ (8 * k) % 256 ∧ (x : Int) / 2 ^ (8 * k) % 256 < 256 := by omega
      have HX : Hid (_ = _) := sumByte_eq x k
      clear hb
      go_wp2_with (at_builtin; refine append_bytes rfl _ _ rfl base a' c' ys rfl (ho.alloc _) _ _ [(x : Int) / 2 ^ (8 * k) % 256] rfl (reads_lit1 wr _ _ hz) (by intro h; cases h) (by simp; omega) (by simp; omega) ?_; intro a2 c2 y2 w2 hy2 ho2 hg2)
      go_roundw
      case rel => exact ⟨a2, c2, y2, k + 1, rfl, by go_num, by omega, ho2, by rw [Hid, hy2.out, hy.out, HX.out, HS.out, List.append_assoc], (hnx.alloc (by omega) _).grown hg2 (by simp; omega) (fun j hj => (ho.2.lt j hj).1)⟩
      case measure => simp [intOf]; omega
    · go_wp2
      go_ret
      exact ⟨a', c', ys, rfl, by rw [hy.out, show k = 4 from by omega]; rfl, ho, hnx⟩
end Go.Proofs.Ythakapbdnoiciab
