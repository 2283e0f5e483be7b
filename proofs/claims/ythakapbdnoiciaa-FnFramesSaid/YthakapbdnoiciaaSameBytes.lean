/- The walks of laws.sameBytes and laws.at. -/
import Derived.Test.YthakapbdnoiciaaProg
import Derived.Test.YthakapbdnoiciaaReads
import Derived.Deep.QuietTactic
import Derived.BigQuiet
namespace Go.Proofs.Ythakapbdnoiciaa
open Go.RowKit

set_option maxHeartbeats 400000 in
/-- Two slices that read alike are alike. -/
theorem sameBytes_same (a b : Option Addr) (ca cb : Nat) (zs : List Int) (w : World) (ha : Reads w a zs) (hb : Reads w b zs) (hl : zs.length ≤ 140737488351232) :
    Calls Try.prog 19 #[.slice a zs.length ca, .slice b zs.length cb] w fun e w' => e = .returned (.bool true) ∧ ∃ n, w' = w.drewN n := by
  rcases ha.cases with rfl | ⟨b1, o1, rfl, hpos, hc1⟩
  · go_enter Try.func19, Try.ntmps19
    go_wp2
    refine wp_loop_rounds 1 ?_
    rw [rounds_succ]
    go_wp2
    go_ret
    exact ⟨rfl, 0, rfl⟩
  · rcases hb.cases with rfl | ⟨b2, o2, rfl, _, hc2⟩
    · simp at hpos
    · go_enter Try.func19, Try.ntmps19
      go_wp2
      go_loopw [5] (fun i wr => ∃ k : Nat, k ≤ zs.length ∧ i = .int .i64 k ∧ ∃ n, wr = w.drewN n) (fun i _ => zs.length - (intOf i).toNat)
      case atStart => exact ⟨0, Nat.zero_le _, rfl, 0, rfl⟩
      case round =>
        obtain ⟨k, hk, rfl, n, rfl⟩ := hrel
        by_cases hlt : k < zs.length
        · have h1 := hc1 k hlt
          have h2 := hc2 k hlt
          clear hc1 hc2
          generalize zs.getD k 0 = z at *
          go_wp2
          go_quiet (fail)
          go_wp2
          go_roundw
          case rel => exact ⟨k + 1, by omega, by go_num, _, rfl⟩
          case measure => simp [intOf]; omega
        · go_wp2
          go_ret
          exact ⟨rfl, n, rfl⟩

theorem ret_natE {k : IntKind} {z : Int} (h : 0 ≤ z) : Ending.returned (.int k z) = .returned (.int k ((z.toNat : Nat) : Int)) := by rw [Int.toNat_of_nonneg h]

set_option maxHeartbeats 400000 in
theorem at_any (a : Option Addr) (c : Nat) (zs : List Int) (i : Nat) (w : World) (hr : Reads w a zs) (hl : zs.length ≤ 70368744177664) (hi : i ≤ 1000) :
    Calls Try.prog 20 #[.slice a zs.length c, .int .i64 i] w fun e w' => (∃ n : Nat, n < 256 ∧ e = .returned (.int .i64 n)) ∧ w' = w := by
  by_cases hlt : i < zs.length
  · have hby := bytes_at hr.byte i
    rcases hr.cases with rfl | ⟨b, off, rfl, hpos, hcell⟩
    · simp at hlt
    have hc := hcell i hlt
    clear hcell
    generalize zs.getD i 0 = z at *
    go_enter Try.func20, Try.ntmps20
    go_wp2
    go_ret
    exact ⟨⟨z.toNat, by omega, ret_natE hby.1⟩, rfl⟩
  · go_enter Try.func20, Try.ntmps20
    go_wp2
    go_ret
    exact ⟨⟨(((i : Int) * 31 + (zs.length : Int) * 7) % 256).toNat, by omega, ret_natE (by omega)⟩, rfl⟩
end Go.Proofs.Ythakapbdnoiciaa
