/- The walk of spec.PutInt. -/
import Derived.Test.YtdibmepjbabnnacDoorGroups
namespace Go.Proofs.YtdibmepjbabnnacDoor
open Go.RowKit

theorem i64_or128 (y : Int) (h0 : 0 ≤ y) (h1 : y < 128) : bits .or .i64 y 128 = y + 128 := by
  have hc : bits .or .i64 y 128 = bits .or .i64 128 y := by simp only [bits, BitVec.or_comm]
  have hw : ∀ n : Int, 0 ≤ n → n < 2 ^ 63 → IntKind.i64.wrap n = n := fun n _ _ => by rw [IntKind.wrap_i64]; omega
  rw [hc, bits_join .i64 63 (by decide) hw 7 128 y (by decide) (by decide) (by decide) h0 h1 (by omega)]
  omega

theorem group_byte (m : Nat) : bits .or .i64 (bits .and .i64 (m : Int) 127) 128 = (m : Int) % 128 + 128 := by
  rw [i64_and127, i64_or128 _ (by omega) (by omega)]

set_option maxHeartbeats 800000 in
set_option maxRecDepth 100000 in
theorem specPutInt_any (a : Option Addr) (c : Nat) (zs : List Int) (n : Int) (w : World) (hr : Reads w a zs) (hc : a = none → c = 0) (hl : zs.length ≤ 70368744170000) :
    Calls Tryd.prog 44 #[.slice a zs.length c, .int .i64 n] w fun e w' => ∃ a' c' ys, e = .returned (.slice a' ys.length c') ∧ ys = zs ++ putOf n ∧ OwnB w' w.heap.size a' c' ys ∧ Below w.heap.size w w' := by
  have HC : Hid (a = none → c = 0) := hc
  clear hc
  have hzig := zig_le n
  have HGL : Hid ((groups (zig n)).length ≤ 65) := (groups_len _).2
  have HP : Hid (putOf n = groups (zig n)) := rfl
  have cs : (1000000000000 < n ∧ Hid (((zig n : Nat) : Int) = 2000000000000)) ∨ (n < -1000000000000 ∧ Hid (((zig n : Nat) : Int) = 1999999999999)) ∨
      (¬ 1000000000000 < n ∧ ¬ n < -1000000000000 ∧ 0 ≤ n ∧ Hid (((zig n : Nat) : Int) = 2 * n)) ∨ (¬ 1000000000000 < n ∧ ¬ n < -1000000000000 ∧ n < 0 ∧ Hid (((zig n : Nat) : Int) = -2 * n - 1)) := by
    by_cases h1 : 1000000000000 < n
    · exact .inl ⟨h1, by rw [Hid, zig_pos n 1000000000000 (by unfold clampI; rw [if_pos h1]) (by omega)]; omega⟩
    · by_cases h2 : n < -1000000000000
      · exact .inr (.inl ⟨h2, by rw [Hid, zig_neg n (-1000000000000) (by unfold clampI; rw [if_neg h1, if_pos h2]) (by omega)]; omega⟩)
      · by_cases h3 : 0 ≤ n
        · exact .inr (.inr (.inl ⟨h1, h2, h3, zig_pos n n (by unfold clampI; rw [if_neg h1, if_neg h2]) h3⟩))
        · exact .inr (.inr (.inr ⟨h1, h2, by omega, zig_neg n n (by unfold clampI; rw [if_neg h1, if_neg h2]) h3⟩))
  generalize zig n = m0 at *
  rcases cs with ⟨h1, HK⟩ | ⟨h1, HK⟩ | ⟨h1, h2, h3, HK⟩ | ⟨h1, h2, h3, HK⟩
  all_goals
    go_enter Tryd.func44, Tryd.ntmps44
    go_wp2_with (at_builtin; refine append_bytes rfl _ _ rfl w.heap.size _ _ [] rfl (own_lit0 w) a c zs rfl (hr.alloc _) HC.out (by simp; omega) (by simp) ?_; intro a1 c1 y1 w1 hy1 ho1 hg1)
    have hb1 : Below w.heap.size w w1 := ((Below.refl _ _).alloc (Nat.le_refl _) _).grown hg1 (by simp) (fun k hk => ((own_lit0 w).2.lt k hk).1)
    clear hg1 hr
    go_loopw [5, 6] (fun out mm wr => ∃ (a' : Option Addr) (c' : Nat) (ys pre : List Int) (m : Nat), out = .slice a' ys.length c' ∧ mm = .int .i64 m ∧ m ≤ m0 ∧ OwnB wr w.heap.size a' c' ys ∧ Hid (ys = zs ++ pre) ∧ Hid (groups m0 = pre ++ groups m) ∧ Below w.heap.size w wr)
      (fun _ mm _ => (intOf mm).toNat)
    case atStart => exact ⟨a1, c1, y1, [], m0, rfl, val_int HK.out.symm, Nat.le_refl _, ho1, by rw [Hid, hy1.out]; simp, by simp [Hid], hb1⟩
    case round =>
      obtain ⟨a', c', ys, pre, m, rfl, rfl, hmm, ho, hy, hg, hnx⟩ := hrel
      clear ho1 hb1 hy1 HK
      have hyl : ys.length ≤ 70368744177663 := by
        have e := congrArg List.length hy.out
        have e2 := congrArg List.length hg.out
        have := (groups_len m).1
        have := HGL.out
        simp at e e2
        omega
      have hsz := hnx.size
      by_cases hlt : 127 < m
      · have hz : 0 ≤ ((m : Int) % 128 + 128) ∧ ((m : Int) % 128 + 128) < 256 := by omega
        have HH : Hid (_ = _) := step_big pre m m0 hg.out (by omega) (by omega)
        have hgb := group_byte m
        go_wp2_with (at_builtin; refine append_bytes rfl _ _ rfl w.heap.size a' c' ys rfl (ho.alloc _) _ _ [(m : Int) % 128 + 128] rfl (reads_lit1 wr _ _ hz) (by intro h; cases h) (by simp; omega) (by simp; omega) ?_; intro a2 c2 y2 w2 hy2 ho2 hg2)
        go_roundw
        case rel => exact ⟨a2, c2, y2, pre ++ [((m % 128 + 128 : Nat) : Int)], m / 128, rfl, rfl, by omega, ho2, by rw [Hid, hy2.out, hy.out, List.append_assoc]; rfl, HH.out, (hnx.alloc (by omega) _).grown hg2 (by simp; omega) (fun k hk => (ho.2.lt k hk).1)⟩
        case measure => simp [intOf]; omega
      · have hz : 0 ≤ (m : Int) ∧ (m : Int) < 256 := by omega
        have HH : Hid (_ = _) := step_small zs pre ys (ys ++ [(m : Int)]) m m0 hg.out (by omega) hy.out rfl
        go_wp2_with (at_builtin; refine append_bytes rfl _ _ rfl w.heap.size a' c' ys rfl (ho.alloc _) _ _ [(m : Int)] rfl (reads_lit1 wr _ _ hz) (by intro h; cases h) (by simp; omega) (by simp; omega) ?_; intro a2 c2 y2 w2 hy2 ho2 hg2)
        go_ret
        exact ⟨a2, c2, y2, rfl, by rw [hy2.out, HP.out]; exact HH.out, ho2, (hnx.alloc (by omega) _).grown hg2 (by simp; omega) (fun k hk => (ho.2.lt k hk).1)⟩
end Go.Proofs.YtdibmepjbabnnacDoor
