/- The walks of impl.appendGroups and impl.foldSign. -/
import Derived.Test.YtdibmepjbabnnabDoorPutMath
import Derived.Test.YtdibmepjbabnnabDoorAppend
namespace Go.Proofs.YtdibmepjbabnnabDoor
open Go.RowKit

theorem step_small (xs pre ys zs : List Int) (m m0 : Nat) (h : groups m0 = pre ++ groups m) (hs : m < 128) (hy : ys = xs ++ pre) (hz : zs = ys ++ [(m : Int)]) : zs = xs ++ groups m0 := by
  rw [hz, hy, h, groups_small m hs, List.append_assoc]
theorem step_big (pre : List Int) (m m0 : Nat) (h : groups m0 = pre ++ groups m) (hs : 128 ≤ m) (hm : m < 2 ^ 64) : groups m0 = (pre ++ [((m % 128 + 128 : Nat) : Int)]) ++ groups (m / 128) := by
  rw [h, groups_big m hs hm]; simp

set_option maxHeartbeats 400000 in
set_option maxRecDepth 100000 in
theorem appendGroups_any (base : Nat) (a : Option Addr) (c : Nat) (xs : List Int) (m0 : Nat) (w : World) (hown : OwnB w base a c xs) (hm0 : m0 ≤ 2000000000000) (hl : xs.length ≤ 70368744177000) (hbase : base ≤ w.heap.size) :
    Calls Tryd.prog 29 #[.slice a xs.length c, .int .i64 m0] w fun e w' => ∃ a' c' ys, e = .returned (.slice a' ys.length c') ∧ ys = xs ++ groups m0 ∧ OwnB w' base a' c' ys ∧ Below base w w' := by
  have hgl : Hid ((groups m0).length ≤ 65) := (groups_len m0).2
  go_enter Tryd.func29, Tryd.ntmps29
  go_wp2
  go_loopw [0, 1] (fun out mm wr => ∃ (a' : Option Addr) (c' : Nat) (ys pre : List Int) (m : Nat), out = .slice a' ys.length c' ∧ mm = .int .i64 m ∧ m ≤ m0 ∧ OwnB wr base a' c' ys ∧ Hid (ys = xs ++ pre) ∧ Hid (groups m0 = pre ++ groups m) ∧ Below base w wr)
    (fun _ mm _ => (intOf mm).toNat)
  case atStart => exact ⟨a, c, xs, [], m0, rfl, rfl, Nat.le_refl _, hown, by simp [Hid], by simp [Hid], Below.refl _ _⟩
  case round =>
    obtain ⟨a', c', ys, pre, m, rfl, rfl, hmm, ho, hy, hg, hnx⟩ := hrel
    have hyl : ys.length ≤ 70368744177663 := by
      have e := congrArg List.length hy.out
      have e2 := congrArg List.length hg.out
      have := (groups_len m).1
      have := hgl.out
      simp at e e2
      omega
    have hsz := hnx.size
    clear hown
    by_cases hlt : 128 ≤ m
    · have hz : 0 ≤ ((m : Int) % 128 + 128) ∧ ((m : Int) % 128 + 128) < 256 := by omega
      have HB := step_big pre m m0 hg.out hlt (by omega)
      have HH : Hid (_ = _) := HB
      clear HB
      go_wp2_with (at_builtin; (refine append_bytes rfl _ _ rfl base a' c' ys rfl (ho.alloc _) _ _ [(m : Int) % 128 + 128] rfl (reads_lit1 wr _ _ hz) (by intro h; cases h) (by simp; omega) (by simp; omega) ?_); intro a2 c2 zs w1 hy2 ho2 hg2)
      go_roundw
      case rel => exact ⟨a2, c2, zs, pre ++ [((m % 128 + 128 : Nat) : Int)], m / 128, rfl, rfl, by omega, ho2, by rw [Hid, hy2.out, hy.out, List.append_assoc]; rfl, HH.out, (hnx.alloc (by omega) _).grown hg2 (by simp; omega) (fun k hk => (ho.2.lt k hk).1)⟩
      case measure => simp [intOf]; omega
    · have hz : 0 ≤ (m : Int) ∧ (m : Int) < 256 := by omega
      have HH : Hid (_ = _) := step_small xs pre ys (ys ++ [(m : Int)]) m m0 hg.out (by omega) hy.out rfl
      go_wp2_with (at_builtin; (refine append_bytes rfl _ _ rfl base a' c' ys rfl (ho.alloc _) _ _ [(m : Int)] rfl (reads_lit1 wr _ _ hz) (by intro h; cases h) (by simp; omega) (by simp; omega) ?_); intro a2 c2 zs w1 hy2 ho2 hg2)
      go_ret
      exact ⟨a2, c2, zs, rfl, by rw [hy2.out]; exact HH.out, ho2, (hnx.alloc (by omega) _).grown hg2 (by simp; omega) (fun k hk => (ho.2.lt k hk).1)⟩

set_option maxHeartbeats 400000 in
theorem foldSign_any (n : Int) (w : World) :
    Calls Tryd.prog 30 #[.int .i64 n] w fun e w' => e = .returned (.int .i64 (zig n : Nat)) ∧ w' = w := by
  by_cases h1 : 1000000000000 < n
  · have HC : Hid ((1000000000000 : Int) = clampI n) := by unfold clampI; rw [Hid, if_pos h1]
    go_enter Tryd.func30, Tryd.ntmps30
    go_wp2
    go_ret
    exact ⟨ret_int (zig_pos n _ HC.out (by omega)).symm, rfl⟩
  · by_cases h2 : n < -1000000000000
    · have HC : Hid ((-1000000000000 : Int) = clampI n) := by unfold clampI; rw [Hid, if_neg h1, if_pos h2]
      go_enter Tryd.func30, Tryd.ntmps30
      go_wp2
      go_ret
      exact ⟨ret_int (zig_neg n _ HC.out (by omega)).symm, rfl⟩
    · have HC : Hid (n = clampI n) := by unfold clampI; rw [Hid, if_neg h1, if_neg h2]
      by_cases h3 : 0 ≤ n
      · go_enter Tryd.func30, Tryd.ntmps30
        go_wp2
        go_ret
        exact ⟨ret_int (zig_pos n _ HC.out (by omega)).symm, rfl⟩
      · go_enter Tryd.func30, Tryd.ntmps30
        go_wp2
        go_ret
        exact ⟨ret_int (zig_neg n _ HC.out (by omega)).symm, rfl⟩
end Go.Proofs.YtdibmepjbabnnabDoor
