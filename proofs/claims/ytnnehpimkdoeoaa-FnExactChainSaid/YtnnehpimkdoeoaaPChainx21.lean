/- Several texts in one, in their order. -/
import Derived.Test.YtnnehpimkdoeoaaPChainx16
import Derived.Test.YtnnehpimkdoeoaaPChainx17
import Derived.Test.YtnnehpimkdoeoaaPChainx13
/- The walk of spec.Crc: it comes to crcOf. -/
namespace Go.Proofs.Ytnnehpimkdoeoaa
open Go.RowKit

theorem i64_byte (c : Nat) (h : c < 256) : wrap64 (c : Int) = c := by unfold wrap64; omega

theorem spec_odd (x y : Nat) (hx : x < 4294967296) (h : (x : Int) % 2 = 1) (hy : y = crcBit x) : bits .xor .i64 ((x : Int) / 2) 3988292384 = (y : Int) := by
  rw [hy, crcBit_odd x h]
  have := i64_xor_nat (x / 2) 3988292384 (by omega) (by omega)
  rw [← this]
  rfl

theorem spec_end (x y : Nat) (hx : x < 4294967296) (hy : y = 4294967295 ^^^ x) : bits .xor .i64 (x : Int) 4294967295 = (y : Int) := by
  have := i64_xor_nat x 4294967295 hx (by omega)
  rw [hy, Nat.xor_comm, ← this]
  rfl

end Go.Proofs.Ytnnehpimkdoeoaa

/- The walk of spec.l1Four. -/
namespace Go.Proofs.Ytnnehpimkdoeoaa
open Go.RowKit

end Go.Proofs.Ytnnehpimkdoeoaa

/- The walk of spec.Frame: it comes to frameOf. -/
namespace Go.Proofs.Ytnnehpimkdoeoaa
open Go.RowKit

end Go.Proofs.Ytnnehpimkdoeoaa
