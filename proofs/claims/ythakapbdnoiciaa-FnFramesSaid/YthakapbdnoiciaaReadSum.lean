/- The walk of impl.readSum. -/
import Derived.Test.YthakapbdnoiciaaUnfMath
namespace Go.Proofs.Ythakapbdnoiciaa
open Go.RowKit

theorem shl8_go (c j : Nat) (hc : c < 256) (hj : j < 4) : wrap64 ((c : Int) * 2 ^ (8 * j)) = ((c * 256 ^ j : Nat) : Int) ∧ c * 256 ^ j ≤ 4294967296 := by
  have e7 : (256 : Nat) ^ j = 2 ^ (8 * j) := by rw [Nat.pow_mul]
  have hp : (256 : Nat) ^ j ≤ 256 ^ 3 := Nat.pow_le_pow_right (by omega) (by omega)
  have h5 : (256 : Nat) ^ 3 = 16777216 := by decide
  have hb : c * 256 ^ j ≤ 255 * 16777216 := Nat.mul_le_mul (by omega) (by omega)
  have e : ((c : Int) * 2 ^ (8 * j)) = ((c * 256 ^ j : Nat) : Int) := by
    rw [e7]; simp
  rw [e]
  constructor
  · unfold wrap64; omega
  · omega

theorem sumTo_le (zs : List Int) (hb : ∀ z ∈ zs, 0 ≤ z ∧ z < 256) (k : Nat) (hk : k ≤ 4) : sumTo zs k < 4294967296 := by
  have h1 := sumTo_lt zs hb k
  have h2 : (256 : Nat) ^ k ≤ 256 ^ 4 := Nat.pow_le_pow_right (by omega) hk
  have h3 : (256 : Nat) ^ 4 = 4294967296 := by decide
  omega

set_option maxHeartbeats 400000 in
theorem readSum_any (a : Option Addr) (c : Nat) (zs : List Int) (w : World) (hr : Reads w a zs) (hl : 4 ≤ zs.length) (hl2 : zs.length ≤ 70368744177664) :
    Calls Try.prog 37 #[.slice a zs.length c] w fun e w' => e = .returned (.int .i64 (sumTo zs 4 : Nat)) ∧ w' = w := by
  have hby := hr.byte
  rcases hr.cases with rfl | ⟨b, off, rfl, hpos, hcell⟩
  · simp at hl
  go_enter Try.func37, Try.ntmps37
  go_wp2
  go_loop [3, 5] (fun m i => ∃ k : Nat, k ≤ 4 ∧ i = .int .i64 k ∧ m = .int .i64 (sumTo zs k : Nat)) (fun _ i => 4 - (intOf i).toNat)
  case atStart => exact ⟨0, by omega, rfl, rfl⟩
  case round =>
    obtain ⟨k, hk, rfl, rfl⟩ := hrel
    have hm := sumTo_le zs hby k hk
    by_cases hlt : k < 4
    · have hck := hcell k (by omega)
      obtain ⟨hkn, hkn2⟩ := bytes_nat hby k
      have HV : Hid (sumTo zs (k + 1) = sumTo zs k + (zs.getD k 0).toNat * 256 ^ k) := rfl
      rw [hkn] at hck
      clear hkn hcell hby
      generalize (zs.getD k 0).toNat = cc at *
      obtain ⟨hsh, hshl⟩ := shl8_go cc k hkn2 hlt
      generalize cc * 256 ^ k = t at *
      generalize sumTo zs k = m at *
      go_wp2
      go_round
      case rel => exact ⟨k + 1, by omega, by go_num, by rw [HV.out]; go_num⟩
      case measure => simp [intOf]; omega
    · have HE : Hid (sumTo zs k = sumTo zs 4) := by rw [Hid, show k = 4 from by omega]
      generalize sumTo zs k = m at *
      go_wp2
      go_ret
      exact ⟨ret_int (by rw [HE.out]), rfl⟩
end Go.Proofs.Ythakapbdnoiciaa
