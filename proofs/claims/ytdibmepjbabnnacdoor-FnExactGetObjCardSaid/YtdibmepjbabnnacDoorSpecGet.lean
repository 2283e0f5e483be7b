/- The walks of spec.l1In and spec.GetInt. -/
import Derived.Test.YtdibmepjbabnnacDoorProg
import Derived.Test.YtdibmepjbabnnacDoorReads
import Derived.Test.YtdibmepjbabnnacDoorGetMath
import Derived.Test.YtdibmepjbabnnacDoorCrcMath
import Derived.Test.YtdibmepjbabnnacDoorL1In
namespace Go.Proofs.YtdibmepjbabnnacDoor
open Go.RowKit


/-- What GetInt answers. -/
def triple : Option (Int × Nat) → Value
  | some r => .tuple #[.int .i64 r.1, .int .i64 (r.2 : Nat), .bool true]
  | none => .tuple #[.int .i64 0, .int .i64 0, .bool false]

theorem getAt_neg (zs : List Int) (p : Int) (h : p < 0) : getAt zs p = none := by unfold getAt; rw [if_neg (by omega)]
theorem getAt_past (zs : List Int) (p : Int) (h : (zs.length : Int) ≤ p) : getAt zs p = none := by
  unfold getAt
  rw [if_pos (by omega), List.drop_of_length_le (by omega)]
  rfl
theorem getAt_nat (zs : List Int) (p : Nat) : getAt zs (p : Int) = (getOf (zs.drop p)).map fun r => (r.1, p + r.2) := by
  unfold getAt; rw [if_pos (by omega), Int.toNat_natCast]
theorem drop_getD (zs : List Int) (p i : Nat) : (zs.drop p).getD i 0 = zs.getD (p + i) 0 := by simp [List.getD]

theorem join_low (m c k : Nat) (hk : k < 6) (hm : m < 128 ^ k) (hc : c < 128) : bits .or .i64 (m : Int) ((c * 128 ^ k : Nat) : Int) = ((m + c * 128 ^ k : Nat) : Int) := by
  have hw : ∀ n : Int, 0 ≤ n → n < 2 ^ 63 → IntKind.i64.wrap n = n := fun n _ _ => by rw [IntKind.wrap_i64]; omega
  have hp : (128 : Nat) ^ k ≤ 128 ^ 5 := Nat.pow_le_pow_right (by omega) (by omega)
  have h5 : (128 : Nat) ^ 5 = 34359738368 := by decide
  have hb : c * 128 ^ k ≤ 127 * 34359738368 := Nat.mul_le_mul (by omega) (by omega)
  have e7 : (128 : Nat) ^ k = 2 ^ (7 * k) := by rw [Nat.pow_mul]
  have hcm : bits .or .i64 (m : Int) ((c * 128 ^ k : Nat) : Int) = bits .or .i64 ((c * 128 ^ k : Nat) : Int) (m : Int) := by simp only [bits, BitVec.or_comm]
  have hz : ((c * 128 ^ k : Nat) : Int) % 2 ^ (7 * k) = 0 := by
    have : (c * 128 ^ k) % 2 ^ (7 * k) = 0 := by rw [e7, Nat.mul_mod_left]
    exact_mod_cast this
  have hml : (m : Int) < 2 ^ (7 * k) := by rw [e7] at hm; exact_mod_cast hm
  rw [hcm, bits_join .i64 63 (by decide) hw (7 * k) _ _ (by omega) hz (by omega) (by omega) hml (by omega)]
  omega

theorem join_go (m c j v : Nat) (hk : j < 6) (hm : m < 128 ^ j) (hv : v = m + (c % 128) * 128 ^ j) : bits .or .i64 (m : Int) (wrap64 ((c : Int) % 128 * 2 ^ (7 * j))) = (v : Int) := by
  have e7 : (128 : Nat) ^ j = 2 ^ (7 * j) := by rw [Nat.pow_mul]
  have hp : (128 : Nat) ^ j ≤ 128 ^ 5 := Nat.pow_le_pow_right (by omega) (by omega)
  have h5 : (128 : Nat) ^ 5 = 34359738368 := by decide
  have hb : (c % 128) * 128 ^ j ≤ 127 * 34359738368 := Nat.mul_le_mul (by omega) (by omega)
  have e : ((c : Int) % 128 * 2 ^ (7 * j)) = (((c % 128) * 128 ^ j : Nat) : Int) := by
    rw [e7]; simp
  rw [e]
  have ew : wrap64 (((c % 128) * 128 ^ j : Nat) : Int) = (((c % 128) * 128 ^ j : Nat) : Int) := by unfold wrap64; omega
  rw [ew, join_low m (c % 128) j hk hm (by omega), hv]

theorem got_eq {zs : List Int} {q j v : Nat} {n : Int} (hA : getAt zs q = (getOf (zs.drop q)).map fun r => (r.1, q + r.2)) (hG : getOf (zs.drop q) = some (unzig v, j + 1)) (hn : unzig v = n) :
    Ending.returned (.tuple #[.int .i64 n, .int .i64 ((q : Int) + (j : Int) + 1), .bool true]) = .returned (triple (getAt zs q)) := by
  rw [hA, hG, hn]
  simp only [Option.map_some, triple]
  rw [show ((q + (j + 1) : Nat) : Int) = (q : Int) + (j : Int) + 1 from by omega]

theorem toNat_mod (z : Int) (c : Nat) (h : z = (c : Int)) : (z % 128).toNat = c % 128 := by omega

set_option maxHeartbeats 1000000 in
set_option maxRecDepth 100000 in
theorem specGetInt_any (a : Option Addr) (c : Nat) (zs : List Int) (p : Int) (w : World) (hr : Reads w a zs) (hl : zs.length ≤ 70368744177664) :
    Calls Tryd.prog 41 #[.slice a zs.length c, .int .i64 p] w fun e w' => e = .returned (triple (getAt zs p)) ∧ w' = w := by
  by_cases h0 : p < 0
  · have HG : Hid (getAt zs p = none) := getAt_neg zs p h0
    go_enter Tryd.func41, Tryd.ntmps41
    go_wp2
    refine wp_loop_rounds 1 ?_
    rw [rounds_succ]
    go_wp2
    go_ret3
    exact ⟨by rw [HG.out]; rfl, rfl⟩
  by_cases h1 : (zs.length : Int) ≤ p
  · have HG : Hid (getAt zs p = none) := getAt_past zs p h1
    go_enter Tryd.func41, Tryd.ntmps41
    go_wp2
    refine wp_loop_rounds 1 ?_
    rw [rounds_succ]
    go_wp2
    go_ret3
    exact ⟨by rw [HG.out]; rfl, rfl⟩
  obtain ⟨q, rfl⟩ := Int.eq_ofNat_of_zero_le (show 0 ≤ p from by omega)
  have hq : q < zs.length := by omega
  have hby := hr.byte
  rcases hr.cases with rfl | ⟨b, off, rfl, hpos, hcell⟩
  · simp at hq
  have HA : Hid (_ = _) := getAt_nat zs q
  have hLl : (zs.drop q).length = zs.length - q := List.length_drop
  have HD : Hid (∀ i, (zs.drop q).getD i 0 = zs.getD (q + i) 0) := drop_getD zs q
  clear h0 h1
  go_enter Tryd.func41, Tryd.ntmps41
  go_wp2
  go_loop [7, 8] (fun m k => ∃ j : Nat, j ≤ 6 ∧ q + j ≤ zs.length ∧ k = .int .i64 j ∧ m = .int .i64 (valOf ((zs.drop q).take j) : Nat) ∧ Hid (∀ i, i < j → 128 ≤ (zs.drop q).getD i 0)) (fun _ k => 6 - (intOf k).toNat)
  case atStart => exact ⟨0, by omega, by omega, rfl, rfl, fun i hi => by omega⟩
  case round =>
    obtain ⟨j, hj, hjl, rfl, rfl, hall⟩ := hrel
    have hm := valOf_take_lt (zs.drop q) j hj
    by_cases h6 : j < 6
    · by_cases hlt : q + j < zs.length
      · have HV : Hid (_ = _) := valOf_take (zs.drop q) j (by omega)
        have hc := hcell (q + j) hlt
        obtain ⟨hn, hn2⟩ := bytes_nat hby (q + j)
        have HCC : Hid ((zs.drop q).getD j 0 = ((zs.getD (q + j) 0).toNat : Int)) := by rw [Hid, HD.out]; exact hn
        rw [hn] at hc
        clear hn hcell hby
        generalize (zs.getD (q + j) 0).toNat = cc at *
        have hand : bits .and .i64 (cc : Int) 127 = (cc : Int) % 128 := i64_and127 _
        by_cases hcc : 127 < cc
        · have HJ : Hid (_ = _) := join_go (valOf ((zs.drop q).take j)) cc j (valOf ((zs.drop q).take (j + 1))) h6 hm.2 (by rw [HV.out, toNat_mod _ _ HCC.out])
          have HN : Hid (∀ i, i < j + 1 → 128 ≤ (zs.drop q).getD i 0) := by
            intro i hi
            by_cases e : i = j
            · rw [e, HCC.out]; omega
            · exact hall.out i (by omega)
          generalize valOf ((zs.drop q).take j) = m at *
          go_wp2
          go_round
          case rel => exact ⟨j + 1, by omega, by omega, by go_num, val_int HJ.out, HN⟩
          case measure => simp [intOf]; omega
        · have hor := join_go (valOf ((zs.drop q).take j)) cc j (valOf ((zs.drop q).take (j + 1))) h6 hm.2 (by rw [HV.out, toNat_mod _ _ HCC.out])
          have HLE : Hid (lead (zs.drop q) = j) := lead_eq j _ (by omega) hall.out (by rw [HCC.out]; omega)
          have hv := (valOf_take_lt (zs.drop q) (j + 1) (by omega)).1
          have HS : Hid (_ → _ → _ = _) := getOf_some (zs.drop q) j HLE.out (by omega) h6
          have HZ : Hid (_ → _) := getOf_none (zs.drop q)
          rw [HLE.out, HCC.out] at HZ
          rw [HCC.out] at HS
          have hand1 := i64_and1 (valOf ((zs.drop q).take (j + 1)) : Int)
          have HU : Hid (_ ↔ _) := unzig_bd (valOf ((zs.drop q).take (j + 1)))
          have HUE : Hid (∀ m', m' % 2 = 0 → unzig m' = ((m' / 2 : Nat) : Int)) := fun m' h => by unfold unzig; rw [if_pos h]
          have HUO : Hid (∀ m', ¬ m' % 2 = 0 → unzig m' = -((m' / 2 : Nat) : Int) - 1) := fun m' h => by unfold unzig; rw [if_neg h]
          generalize valOf ((zs.drop q).take j) = m at *
          generalize valOf ((zs.drop q).take (j + 1)) = v at *
          by_cases hz : 0 < j ∧ cc = 0
          · obtain ⟨hz1, hz2⟩ := hz
            have HG : Hid (getOf (zs.drop q) = none) := HZ.out (.inr (.inr (.inl ⟨hz1, by omega⟩)))
            have hcz : ((cc : Int) == 0) = true := by simp [hz2]
            clear HS HZ HUE HUO HV hz2
            by_cases ho : (v : Int) % 2 = 0
            · rw [ho] at hand1
              go_wp2
              go_ret3
              exact ⟨by rw [HA.out, HG.out]; rfl, rfl⟩
            · rw [show (v : Int) % 2 = 1 from by omega] at hand1
              go_wp2
              go_ret3
              exact ⟨by rw [HA.out, HG.out]; rfl, rfl⟩
          · have hgd : j < 1 ∨ (0 < j ∧ ((cc : Int) == 0) = false) := by
              by_cases e : j = 0
              · exact .inl (by omega)
              · refine .inr ⟨by omega, ?_⟩
                have : ¬ cc = 0 := fun h => hz ⟨by omega, h⟩
                simp; omega
            have HNZ : Hid (¬ (0 < j ∧ ((cc : Nat) : Int) = 0)) := fun h => hz ⟨h.1, by omega⟩
            clear hz HV
            by_cases hbd : v ≤ 2000000000000
            · have HG : Hid (getOf (zs.drop q) = some (unzig v, j + 1)) := HS.out HNZ.out hbd
              by_cases ho : (v : Int) % 2 = 0
              · rw [ho] at hand1
                have HUV : Hid (unzig v = (v : Int) / 2) := by rw [Hid, HUE.out v (by omega)]; omega
                have hin : inB ((v : Int) / 2) (-1000000000000) 1000000000000 = true := by unfold inB; rw [decide_eq_true_eq]; omega
                clear HS HZ HU HUE HUO
                rcases hgd with hj0 | ⟨hj0, hcz⟩
                all_goals
                  go_wp2_with (go_at_call 42; refine (l1In_any _ _ _ _).mono ?_; rintro e w' ⟨rfl, rfl⟩)
                  go_ret3
                  exact ⟨got_eq HA.out HG.out HUV.out, rfl⟩
              · rw [show (v : Int) % 2 = 1 from by omega] at hand1
                have HUV : Hid (unzig v = -((v : Int) / 2) - 1) := by rw [Hid, HUO.out v (by omega)]; omega
                have hin : inB (-((v : Int) / 2) - 1) (-1000000000000) 1000000000000 = true := by unfold inB; rw [decide_eq_true_eq]; omega
                clear HS HZ HU HUE HUO
                rcases hgd with hj0 | ⟨hj0, hcz⟩
                all_goals
                  go_wp2_with (go_at_call 42; refine (l1In_any _ _ _ _).mono ?_; rintro e w' ⟨rfl, rfl⟩)
                  go_ret3
                  exact ⟨got_eq HA.out HG.out HUV.out, rfl⟩
            · have HG : Hid (getOf (zs.drop q) = none) := HZ.out (.inr (.inr (.inr (by omega))))
              by_cases ho : (v : Int) % 2 = 0
              · rw [ho] at hand1
                have hin : inB ((v : Int) / 2) (-1000000000000) 1000000000000 = false := by unfold inB; rw [decide_eq_false_iff_not]; omega
                clear HS HZ HU HUE HUO
                rcases hgd with hj0 | ⟨hj0, hcz⟩
                all_goals
                  go_wp2_with (go_at_call 42; refine (l1In_any _ _ _ _).mono ?_; rintro e w' ⟨rfl, rfl⟩)
                  go_ret3
                  exact ⟨by rw [HA.out, HG.out]; rfl, rfl⟩
              · rw [show (v : Int) % 2 = 1 from by omega] at hand1
                have hin : inB (-((v : Int) / 2) - 1) (-1000000000000) 1000000000000 = false := by unfold inB; rw [decide_eq_false_iff_not]; omega
                clear HS HZ HU HUE HUO
                rcases hgd with hj0 | ⟨hj0, hcz⟩
                all_goals
                  go_wp2_with (go_at_call 42; refine (l1In_any _ _ _ _).mono ?_; rintro e w' ⟨rfl, rfl⟩)
                  go_ret3
                  exact ⟨by rw [HA.out, HG.out]; rfl, rfl⟩
      · have HG : Hid (getOf (zs.drop q) = none) := getOf_none _ (.inl (by have := lead_ge j (zs.drop q) (by omega) hall.out; have := lead_le (zs.drop q); omega))
        go_wp2
        go_ret3
        exact ⟨by rw [HA.out, HG.out]; rfl, rfl⟩
    · have HG : Hid (getOf (zs.drop q) = none) := getOf_none _ (.inr (.inl (by have := lead_ge j (zs.drop q) (by omega) hall.out; omega)))
      go_wp2
      go_ret3
      exact ⟨by rw [HA.out, HG.out]; rfl, rfl⟩
end Go.Proofs.YtdibmepjbabnnacDoor
