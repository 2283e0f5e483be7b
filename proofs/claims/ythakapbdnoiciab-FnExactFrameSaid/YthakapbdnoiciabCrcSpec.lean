/- The walk of spec.Crc: it comes to crcOf. -/
import Derived.Test.YthakapbdnoiciabCrc
namespace Go.Proofs.Ythakapbdnoiciab
open Go.RowKit

theorem i64_byte (c : Nat) (h : c < 256) : wrap64 (c : Int) = c := by unfold wrap64; omega

theorem spec_odd (x y : Nat) (hx : x < 4294967296) (h : (x : Int) % 2 = 1) (hy : y = crcBit x) : bits .xor .i64 ((x : Int) / 2) 3988292384 = (y : Int) := by
  rw [hy, crcBit_odd x h]
  have := i64_xor_nat (x / 2) 3988292384 (by omega) (by omega)
  rw [← this]
  rfl

theorem spec_end (x y : Nat) (hx : x < 4294967296) (hy : y = 4294967295 ^^^ x) : bits .xor .i64 (x : Int) 4294967295 = (y : Int) := by
  have := i64_xor_nat x 4294967295 hx (by omega)
  rw [hy, Nat.xor_comm, ← this]
  rfl

set_option maxHeartbeats 400000 in
theorem specCrc_any (a : Option Addr) (cap : Nat) (zs : List Int) (w : World) (hr : Reads w a zs) (hl : zs.length ≤ 140737488351232) :
    Calls Try.prog 6 #[.slice a zs.length cap] w fun e w' => e = .returned (.int .i64 (crcOf zs : Nat)) ∧ w' = w := by
  have hb := hr.byte
  rcases hr.cases with rfl | ⟨b, off, rfl, hpos, hcell⟩
  · go_enter Try.func6, Try.ntmps6
    go_wp2
    refine wp_loop_rounds 1 ?_
    rw [rounds_succ]
    go_wp2
    go_ret
    exact ⟨ret_int (spec_end 4294967295 _ (by omega) crcOf_nil), rfl⟩
  · go_enter Try.func6, Try.ntmps6
    go_wp2
    go_loop [3, 4] (fun x i => ∃ k : Nat, k ≤ zs.length ∧ i = .int .i64 k ∧ x = .int .i64 (crcTo zs k : Nat)) (fun _ i => zs.length - (intOf i).toNat)
    case atStart => exact ⟨0, by omega, rfl, by rw [crcTo_zero]; rfl⟩
    case round =>
      obtain ⟨k, hk, rfl, rfl⟩ := hrel
      have hx := crcTo_lt zs hb k
      by_cases hlt : k < zs.length
      · have hc := hcell k hlt
        obtain ⟨hn, hn2⟩ := bytes_nat hb k
        have HS : Hid (crcTo zs (k + 1) = _) := crcTo_succ zs k hlt
        rw [hn] at hc
        clear hn hcell
        generalize (zs.getD k 0).toNat = c at *
        generalize crcTo zs k = x at *
        have HX : Hid (bits .xor .i64 (x : Int) (c : Int) = ((x ^^^ c : Nat) : Int)) := i64_xor_nat x c hx (by omega)
        have HL : Hid (x ^^^ c < 4294967296) := xor_byte_lt x c hx hn2
        have HB : Hid (crcByte x c = crcBits 8 (x ^^^ c)) := rfl
        generalize x ^^^ c = y at *
        go_wp2
        go_loop [3, 5] (fun v j => ∃ m : Nat, m ≤ 8 ∧ j = .int .i64 m ∧ v = .int .i64 (crcBits m y : Nat)) (fun _ j => 8 - (intOf j).toNat)
        case atStart => exact ⟨0, by omega, rfl, val_int HX.out⟩
        case round =>
          obtain ⟨m, hm, rfl, rfl⟩ := hrel
          have hz := crcBits_lt m y HL.out
          have HT : Hid (crcBits (m + 1) y = crcBit (crcBits m y)) := rfl
          have HM : Hid (m = 8 → crcBits m y = crcBits 8 y) := fun h => by rw [h]
          generalize crcBits m y = z at *
          by_cases hm8 : m < 8
          · have h1 := i64_and1 (z : Int)
            by_cases ho : (z : Int) % 2 = 1
            · rw [ho] at h1
              go_wp2
              go_round
              case rel => exact ⟨m + 1, by omega, by go_num, val_int (spec_odd z _ hz ho HT.out)⟩
              case measure => simp [intOf]; omega
            · rw [show (z : Int) % 2 = 0 from by omega] at h1
              go_wp2
              go_round
              case rel => exact ⟨m + 1, by omega, by go_num, val_int (crc_even z _ ho HT.out)⟩
              case measure => simp [intOf]; omega
          · have HV : Hid (crcTo zs (k + 1) = z) := by
              have e := HM.out (by omega)
              show _ = _
              rw [HS.out, HB.out, ← e]
            go_wp2
            go_round
            case rel => exact ⟨k + 1, by omega, by go_num, by rw [HV.out]⟩
            case measure => simp [intOf]; omega
      · have HE : Hid (crcOf zs = 4294967295 ^^^ crcTo zs k) := by
          have e : k = zs.length := by omega
          rw [e]; rfl
        go_wp2
        go_ret
        exact ⟨ret_int (spec_end _ _ hx HE.out), rfl⟩
end Go.Proofs.Ythakapbdnoiciab
