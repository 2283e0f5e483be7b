/- The walk of impl.Crc: it comes to crcOf. -/
import Derived.Test.YthakapbdnoiciabCrcByte
import Derived.Test.YthakapbdnoiciabReads
namespace Go.Proofs.Ythakapbdnoiciab
open Go.RowKit

theorem u32_max : IntKind.u32.max = ((4294967295 : Nat) : Int) := by simp [IntKind.max, IntKind.signed, IntKind.bits]

theorem crc_end (x y : Nat) (hx : x < 4294967296) (hy : y = 4294967295 ^^^ x) : wrap64 (bits .xor .u32 IntKind.u32.max (x : Int)) = (y : Int) := by
  rw [u32_max, u32_xor_nat _ _ (by omega) hx, hy]
  have : 4294967295 ^^^ x < 4294967296 := Nat.xor_lt_two_pow (n := 32) (by omega) (by omega)
  unfold wrap64
  omega

theorem crcOf_nil : crcOf [] = 4294967295 ^^^ 4294967295 := by simp [crcOf, crcTo]

set_option maxHeartbeats 400000 in
theorem implCrc_any (a : Option Addr) (cap : Nat) (zs : List Int) (w : World) (hr : Reads w a zs) (hl : zs.length ≤ 140737488351232) :
    Calls Try.prog 8 #[.slice a zs.length cap] w fun e w' => e = .returned (.int .i64 (crcOf zs : Nat)) ∧ w' = w := by
  have hb := hr.byte
  rcases hr.cases with rfl | ⟨b, off, rfl, hpos, hcell⟩
  · go_enter Try.func8, Try.ntmps8
    go_wp2
    refine wp_loop_rounds 1 ?_
    rw [rounds_succ]
    go_wp2
    go_ret
    exact ⟨ret_int (crc_end 4294967295 _ (by omega) crcOf_nil), rfl⟩
  · go_enter Try.func8, Try.ntmps8
    go_wp2
    go_loop [3, 8] (fun x i => ∃ k : Nat, k ≤ zs.length ∧ i = .int .i64 k ∧ x = .int .u32 (crcTo zs k : Nat)) (fun _ i => zs.length - (intOf i).toNat)
    case atStart => exact ⟨0, by omega, rfl, by rw [crcTo_zero]; rfl⟩
    case round =>
      obtain ⟨k, hk, rfl, rfl⟩ := hrel
      have hx := crcTo_lt zs hb k
      by_cases hlt : k < zs.length
      · have hc := hcell k hlt
        obtain ⟨hn, hn2⟩ := bytes_nat hb k
        have HS : Hid (crcTo zs (k + 1) = _) := crcTo_succ zs k hlt
        rw [hn] at hc
        clear hn hcell
        generalize (zs.getD k 0).toNat = c at *
        generalize crcTo zs k = x at *
        go_wp2_with (go_at_call 16; refine (crcByte_any _ _ _ hx hn2).mono ?_; rintro e w' ⟨rfl, rfl⟩)
        go_round
        case rel => exact ⟨k + 1, by omega, by go_num, by rw [HS.out]⟩
        case measure => simp [intOf]; omega
      · have HE : Hid (crcOf zs = 4294967295 ^^^ crcTo zs k) := by
          have e : k = zs.length := by omega
          rw [e]; rfl
        go_wp2
        go_ret
        exact ⟨ret_int (crc_end _ _ hx HE.out), rfl⟩
end Go.Proofs.Ythakapbdnoiciab
