/- Several texts in one, in their order. -/
import Derived.Test.YtnnehpimkdoeoaaProg
import Derived.Test.YtnnehpimkdoeoaaPChainx14
import Derived.Test.YtnnehpimkdoeoaaPChainx1
import Derived.WalkKit
import Derived.Test.YtnnehpimkdoeoaaPChainx5
/- The walk of impl.crcByte. -/
namespace Go.Proofs.Ytnnehpimkdoeoaa
open Go.RowKit



theorem crcBit_odd (x : Nat) (h : (x : Int) % 2 = 1) : crcBit x = x / 2 ^^^ 3988292384 := by
  unfold crcBit; rw [if_pos (by omega)]
theorem crcBit_even (x : Nat) (h : ¬ (x : Int) % 2 = 1) : crcBit x = x / 2 := by
  unfold crcBit; rw [if_neg (by omega)]

theorem crc_odd (x y : Nat) (hx : x < 4294967296) (h : (x : Int) % 2 = 1) (hy : y = crcBit x) : bits .xor .u32 ((x : Int) / 2) 3988292384 = (y : Int) := by
  rw [hy, crcBit_odd x h]
  have := u32_xor_nat (x / 2) 3988292384 (by omega) (by omega)
  rw [← this]
  rfl

theorem crc_even (x y : Nat) (h : ¬ (x : Int) % 2 = 1) (hy : y = crcBit x) : (x : Int) / 2 = (y : Int) := by
  rw [hy, crcBit_even x h]
  omega

end Go.Proofs.Ytnnehpimkdoeoaa

/- The walk of impl.Crc: it comes to crcOf. -/
namespace Go.Proofs.Ytnnehpimkdoeoaa
open Go.RowKit

theorem u32_max : IntKind.u32.max = ((4294967295 : Nat) : Int) := by simp [IntKind.max, IntKind.signed, IntKind.bits]

theorem crc_end (x y : Nat) (hx : x < 4294967296) (hy : y = 4294967295 ^^^ x) : wrap64 (bits .xor .u32 IntKind.u32.max (x : Int)) = (y : Int) := by
  rw [u32_max, u32_xor_nat _ _ (by omega) hx, hy]
  have : 4294967295 ^^^ x < 4294967296 := Nat.xor_lt_two_pow (n := 32) (by omega) (by omega)
  unfold wrap64
  omega

theorem crcOf_nil : crcOf [] = 4294967295 ^^^ 4294967295 := by simp [crcOf, crcTo]

end Go.Proofs.Ytnnehpimkdoeoaa

/- The walk of impl.appendSum: four bytes of a sum, the lowest first. -/
namespace Go.Proofs.Ytnnehpimkdoeoaa
open Go.RowKit

def sumByte (x k : Nat) : Int := ((x / 256 ^ k % 256 : Nat) : Int)
def fourTo (x k : Nat) : List Int := (List.range k).map (sumByte x)
def four (x : Nat) : List Int := fourTo x 4

theorem four_eq (x : Nat) : four x = [((x % 256 : Nat) : Int), ((x / 256 % 256 : Nat) : Int), ((x / 65536 % 256 : Nat) : Int), ((x / 16777216 % 256 : Nat) : Int)] := by
  simp [four, fourTo, List.range_succ, sumByte]
theorem fourTo_succ (x k : Nat) : fourTo x (k + 1) = fourTo x k ++ [sumByte x k] := by simp [fourTo, List.range_succ]
theorem fourTo_len (x k : Nat) : (fourTo x k).length = k := by simp [fourTo]
theorem sumByte_byte (x k : Nat) : 0 ≤ sumByte x k ∧ sumByte x k < 256 := by unfold sumByte; omega
theorem sumByte_eq (x k : Nat) : (x : Int) / 2 ^ (8 * k) % 256 = sumByte x k := by
  unfold sumByte
  rw [show (256 : Nat) ^ k = 2 ^ (8 * k) from by rw [Nat.pow_mul]]
  simp
theorem own_lit4 (w : World) (p q r s : Int) (h : ∀ z ∈ [p, q, r, s], 0 ≤ z ∧ z < 256) : OwnB (w.alloc (.cells #[.int .u8 p, .int .u8 q, .int .u8 r, .int .u8 s] 5)) w.heap.size (some ⟨w.heap.size, 0, none⟩) 4 [p, q, r, s] :=
  ⟨h, World.ownsRow_lit w _ 4 (Nat.le_refl _) (by simp [maxLen]) rfl⟩
theorem four_byte (x : Nat) : ∀ z ∈ four x, 0 ≤ z ∧ z < 256 := by rw [four_eq]; simp; omega

end Go.Proofs.Ytnnehpimkdoeoaa
