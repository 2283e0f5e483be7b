/- The walk of impl.crcByte. -/
import Derived.Test.YthakapbdnoiciabProg
import Derived.Test.YthakapbdnoiciabCrcMath
import Derived.Test.YthakapbdnoiciabReads
import Derived.WalkKit
namespace Go.Proofs.Ythakapbdnoiciab
open Go.RowKit



theorem crcBit_odd (x : Nat) (h : (x : Int) % 2 = 1) : crcBit x = x / 2 ^^^ 3988292384 := by
  unfold crcBit; rw [if_pos (by omega)]
theorem crcBit_even (x : Nat) (h : ¬ (x : Int) % 2 = 1) : crcBit x = x / 2 := by
  unfold crcBit; rw [if_neg (by omega)]

theorem crc_odd (x y : Nat) (hx : x < 4294967296) (h : (x : Int) % 2 = 1) (hy : y = crcBit x) : bits .xor .u32 ((x : Int) / 2) 3988292384 = (y : Int) := by
  rw [hy, crcBit_odd x h]
  have := u32_xor_nat (x / 2) 3988292384 (by omega) (by omega)
  rw [← this]
  rfl

theorem crc_even (x y : Nat) (h : ¬ (x : Int) % 2 = 1) (hy : y = crcBit x) : (x : Int) / 2 = (y : Int) := by
  rw [hy, crcBit_even x h]
  omega

set_option maxHeartbeats 400000 in
theorem crcByte_any (s c : Nat) (w : World) (hs : s < 4294967296) (hc : c < 256) :
    Calls Try.prog 16 #[.int .u32 s, .int .u8 c] w fun e w' => e = .returned (.int .u32 (crcByte s c : Nat)) ∧ w' = w := by
  go_enter Try.func16, Try.ntmps16
  go_wp2
  go_loop [0, 10] (fun x i => ∃ k : Nat, k ≤ 8 ∧ i = .int .i64 k ∧ x = .int .u32 (crcBits k (s ^^^ c) : Nat)) (fun _ i => 8 - (intOf i).toNat)
  case atStart => exact ⟨0, by omega, rfl, by rw [u32_xor_nat s c hs (by omega)]; rfl⟩
  case round =>
    obtain ⟨k, hk, rfl, rfl⟩ := hrel
    have hx := crcBits_lt k (s ^^^ c) (xor_byte_lt s c hs hc)
    have HS : Hid (crcBits (k + 1) (s ^^^ c) = crcBit (crcBits k (s ^^^ c))) := rfl
    have HC : Hid (crcByte s c = crcBits 8 (s ^^^ c)) := rfl
    generalize hgx : crcBits k (s ^^^ c) = x at *
    have HG : Hid (crcBits k (s ^^^ c) = x) := hgx
    clear hgx
    by_cases hlt : k < 8
    · by_cases ho : (x : Int) % 2 = 1
      all_goals
        go_wp2
        go_round
        case rel => exact ⟨k + 1, by omega, by go_num, val_int (by first | exact crc_odd x _ hx ho HS.out | exact crc_even x _ ho HS.out)⟩
        case measure => simp [intOf]; omega
    · have e8 : k = 8 := by omega
      have HX : Hid (crcByte s c = x) := by rw [Hid, HC.out, ← e8]; exact HG.out
      clear e8
      go_wp2
      go_ret
      exact ⟨ret_int (by rw [HX.out]), rfl⟩
end Go.Proofs.Ythakapbdnoiciab
