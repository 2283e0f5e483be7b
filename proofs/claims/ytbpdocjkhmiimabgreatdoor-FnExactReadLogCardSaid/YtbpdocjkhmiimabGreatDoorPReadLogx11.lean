/- Several texts in one, in their order. -/
import Derived.Test.YtbpdocjkhmiimabGreatDoorProg
import Derived.Test.YtbpdocjkhmiimabGreatDoorPReadLogx1
import Derived.Test.YtbpdocjkhmiimabGreatDoorPReadLogx10
import Derived.Test.YtbpdocjkhmiimabGreatDoorPReadLogx9
import Derived.Test.YtbpdocjkhmiimabGreatDoorPReadLogx2
import Derived.Deep.QuietTactic
import Derived.BigQuiet
/- The walks of spec.l1In and spec.GetInt. -/
namespace Go.Proofs.YtbpdocjkhmiimabGreatDoor
open Go.RowKit


/-- What GetInt answers. -/
def triple : Option (Int × Nat) → Value
  | some r => .tuple #[.int .i64 r.1, .int .i64 (r.2 : Nat), .bool true]
  | none => .tuple #[.int .i64 0, .int .i64 0, .bool false]

theorem getAt_neg (zs : List Int) (p : Int) (h : p < 0) : getAt zs p = none := by unfold getAt; rw [if_neg (by omega)]
theorem getAt_past (zs : List Int) (p : Int) (h : (zs.length : Int) ≤ p) : getAt zs p = none := by
  unfold getAt
  rw [if_pos (by omega), List.drop_of_length_le (by omega)]
  rfl
theorem getAt_nat (zs : List Int) (p : Nat) : getAt zs (p : Int) = (getOf (zs.drop p)).map fun r => (r.1, p + r.2) := by
  unfold getAt; rw [if_pos (by omega), Int.toNat_natCast]
theorem drop_getD (zs : List Int) (p i : Nat) : (zs.drop p).getD i 0 = zs.getD (p + i) 0 := by simp [List.getD]

theorem join_low (m c k : Nat) (hk : k < 6) (hm : m < 128 ^ k) (hc : c < 128) : bits .or .i64 (m : Int) ((c * 128 ^ k : Nat) : Int) = ((m + c * 128 ^ k : Nat) : Int) := by
  have hw : ∀ n : Int, 0 ≤ n → n < 2 ^ 63 → IntKind.i64.wrap n = n := fun n _ _ => by rw [IntKind.wrap_i64]; omega
  have hp : (128 : Nat) ^ k ≤ 128 ^ 5 := Nat.pow_le_pow_right (by omega) (by omega)
  have h5 : (128 : Nat) ^ 5 = 34359738368 := by decide
  have hb : c * 128 ^ k ≤ 127 * 34359738368 := Nat.mul_le_mul (by omega) (by omega)
  have e7 : (128 : Nat) ^ k = 2 ^ (7 * k) := by rw [Nat.pow_mul]
  have hcm : bits .or .i64 (m : Int) ((c * 128 ^ k : Nat) : Int) = bits .or .i64 ((c * 128 ^ k : Nat) : Int) (m : Int) := by simp only [bits, BitVec.or_comm]
  have hz : ((c * 128 ^ k : Nat) : Int) % 2 ^ (7 * k) = 0 := by
    have : (c * 128 ^ k) % 2 ^ (7 * k) = 0 := by rw [e7, Nat.mul_mod_left]
    exact_mod_cast this
  have hml : (m : Int) < 2 ^ (7 * k) := by rw [e7] at hm; exact_mod_cast hm
  rw [hcm, bits_join .i64 63 (by decide) hw (7 * k) _ _ (by omega) hz (by omega) (by omega) hml (by omega)]
  omega

theorem join_go (m c j v : Nat) (hk : j < 6) (hm : m < 128 ^ j) (hv : v = m + (c % 128) * 128 ^ j) : bits .or .i64 (m : Int) (wrap64 ((c : Int) % 128 * 2 ^ (7 * j))) = (v : Int) := by
  have e7 : (128 : Nat) ^ j = 2 ^ (7 * j) := by rw [Nat.pow_mul]
  have hp : (128 : Nat) ^ j ≤ 128 ^ 5 := Nat.pow_le_pow_right (by omega) (by omega)
  have h5 : (128 : Nat) ^ 5 = 34359738368 := by decide
  have hb : (c % 128) * 128 ^ j ≤ 127 * 34359738368 := Nat.mul_le_mul (by omega) (by omega)
  have e : ((c : Int) % 128 * 2 ^ (7 * j)) = (((c % 128) * 128 ^ j : Nat) : Int) := by
    rw [e7]; simp
  rw [e]
  have ew : wrap64 (((c % 128) * 128 ^ j : Nat) : Int) = (((c % 128) * 128 ^ j : Nat) : Int) := by unfold wrap64; omega
  rw [ew, join_low m (c % 128) j hk hm (by omega), hv]

theorem got_eq {zs : List Int} {q j v : Nat} {n : Int} (hA : getAt zs q = (getOf (zs.drop q)).map fun r => (r.1, q + r.2)) (hG : getOf (zs.drop q) = some (unzig v, j + 1)) (hn : unzig v = n) :
    Ending.returned (.tuple #[.int .i64 n, .int .i64 ((q : Int) + (j : Int) + 1), .bool true]) = .returned (triple (getAt zs q)) := by
  rw [hA, hG, hn]
  simp only [Option.map_some, triple]
  rw [show ((q + (j + 1) : Nat) : Int) = (q : Int) + (j : Int) + 1 from by omega]

theorem toNat_mod (z : Int) (c : Nat) (h : z = (c : Int)) : (z % 128).toNat = c % 128 := by omega

set_option maxHeartbeats 1000000 in
set_option maxRecDepth 100000 in
theorem specGetInt_any (a : Option Addr) (c : Nat) (zs : List Int) (p : Int) (w : World) (hr : Reads w a zs) (hl : zs.length ≤ 70368744177664) :
    Calls Tryz.prog 61 #[.slice a zs.length c, .int .i64 p] w fun e w' => e = .returned (triple (getAt zs p)) ∧ w' = w := by
  by_cases h0 : p < 0
  · have HG : Hid (getAt zs p = none) := getAt_neg zs p h0
    go_enter Tryz.func61, Tryz.ntmps61
    go_wp2
    refine wp_loop_rounds 1 ?_
    rw [rounds_succ]
    go_wp2
    go_ret3
    exact ⟨by rw [HG.out]; rfl, rfl⟩
  by_cases h1 : (zs.length : Int) ≤ p
  · have HG : Hid (getAt zs p = none) := getAt_past zs p h1
    go_enter Tryz.func61, Tryz.ntmps61
    go_wp2
    refine wp_loop_rounds 1 ?_
    rw [rounds_succ]
    go_wp2
    go_ret3
    exact ⟨by rw [HG.out]; rfl, rfl⟩
  obtain ⟨q, rfl⟩ := Int.eq_ofNat_of_zero_le (show 0 ≤ p from by omega)
  have hq : q < zs.length := by omega
  have hby := hr.byte
  rcases hr.cases with rfl | ⟨b, off, rfl, hpos, hcell⟩
  · simp at hq
  have HA : Hid (_ = _) := getAt_nat zs q
  have hLl : (zs.drop q).length = zs.length - q := List.length_drop
  have HD : Hid (∀ i, (zs.drop q).getD i 0 = zs.getD (q + i) 0) := drop_getD zs q
  clear h0 h1
  go_enter Tryz.func61, Tryz.ntmps61
  go_wp2
  go_loop [7, 8] (fun m k => ∃ j : Nat, j ≤ 6 ∧ q + j ≤ zs.length ∧ k = .int .i64 j ∧ m = .int .i64 (valOf ((zs.drop q).take j) : Nat) ∧ Hid (∀ i, i < j → 128 ≤ (zs.drop q).getD i 0)) (fun _ k => 6 - (intOf k).toNat)
  case atStart => exact ⟨0, by omega, by omega, rfl, rfl, fun i hi => by omega⟩
  case round =>
    obtain ⟨j, hj, hjl, rfl, rfl, hall⟩ := hrel
    have hm := valOf_take_lt (zs.drop q) j hj
    by_cases h6 : j < 6
    · by_cases hlt : q + j < zs.length
      · have HV : Hid (_ = _) := valOf_take (zs.drop q) j (by omega)
        have hc := hcell (q + j) hlt
        obtain ⟨hn, hn2⟩ := bytes_nat hby (q + j)
        have HCC : Hid ((zs.drop q).getD j 0 = ((zs.getD (q + j) 0).toNat : Int)) := by rw [Hid, HD.out]; exact hn
        rw [hn] at hc
        clear hn hcell hby
        generalize (zs.getD (q + j) 0).toNat = cc at *
        have hand : bits .and .i64 (cc : Int) 127 = (cc : Int) % 128 := i64_and127 _
        by_cases hcc : 127 < cc
        · have HJ : Hid (_ = _) := join_go (valOf ((zs.drop q).take j)) cc j (valOf ((zs.drop q).take (j + 1))) h6 hm.2 (by rw [HV.out, toNat_mod _ _ HCC.out])
          have HN : Hid (∀ i, i < j + 1 → 128 ≤ (zs.drop q).getD i 0) := by
            intro i hi
            by_cases e : i = j
            · rw [e, HCC.out]; omega
            · exact hall.out i (by omega)
          generalize valOf ((zs.drop q).take j) = m at *
          go_wp2
          go_round
          case rel => exact ⟨j + 1, by omega, by omega, by go_num, val_int HJ.out, HN⟩
          case measure => simp [intOf]; omega
        · have hor := join_go (valOf ((zs.drop q).take j)) cc j (valOf ((zs.drop q).take (j + 1))) h6 hm.2 (by rw [HV.out, toNat_mod _ _ HCC.out])
          have HLE : Hid (lead (zs.drop q) = j) := lead_eq j _ (by omega) hall.out (by rw [HCC.out]; omega)
          have hv := (valOf_take_lt (zs.drop q) (j + 1) (by omega)).1
          have HS : Hid (_ → _ → _ = _) := getOf_some (zs.drop q) j HLE.out (by omega) h6
          have HZ : Hid (_ → _) := getOf_none (zs.drop q)
          rw [HLE.out, HCC.out] at HZ
          rw [HCC.out] at HS
          have hand1 := i64_and1 (valOf ((zs.drop q).take (j + 1)) : Int)
          have HU : Hid (_ ↔ _) := unzig_bd (valOf ((zs.drop q).take (j + 1)))
          have HUE : Hid (∀ m', m' % 2 = 0 → unzig m' = ((m' / 2 : Nat) : Int)) := fun m' h => by unfold unzig; rw [if_pos h]
          have HUO : Hid (∀ m', ¬ m' % 2 = 0 → unzig m' = -((m' / 2 : Nat) : Int) - 1) := fun m' h => by unfold unzig; rw [if_neg h]
          generalize valOf ((zs.drop q).take j) = m at *
          generalize valOf ((zs.drop q).take (j + 1)) = v at *
          by_cases hz : 0 < j ∧ cc = 0
          · obtain ⟨hz1, hz2⟩ := hz
            have HG : Hid (getOf (zs.drop q) = none) := HZ.out (.inr (.inr (.inl ⟨hz1, by omega⟩)))
            have hcz : ((cc : Int) == 0) = true := by simp [hz2]
            clear HS HZ HUE HUO HV hz2
            by_cases ho : (v : Int) % 2 = 0
            · rw [ho] at hand1
              go_wp2
              go_ret3
              exact ⟨by rw [HA.out, HG.out]; rfl, rfl⟩
            · rw [show (v : Int) % 2 = 1 from by omega] at hand1
              go_wp2
              go_ret3
              exact ⟨by rw [HA.out, HG.out]; rfl, rfl⟩
          · have hgd : j < 1 ∨ (0 < j ∧ ((cc : Int) == 0) = false) := by
              by_cases e : j = 0
              · exact .inl (by omega)
              · refine .inr ⟨by omega, ?_⟩
                have : ¬ cc = 0 := fun h => hz ⟨by omega, h⟩
                simp; omega
            have HNZ : Hid (¬ (0 < j ∧ ((cc : Nat) : Int) = 0)) := fun h => hz ⟨h.1, by omega⟩
            clear hz HV
            by_cases hbd : v ≤ 2000000000000
            · have HG : Hid (getOf (zs.drop q) = some (unzig v, j + 1)) := HS.out HNZ.out hbd
              by_cases ho : (v : Int) % 2 = 0
              · rw [ho] at hand1
                have HUV : Hid (unzig v = (v : Int) / 2) := by rw [Hid, HUE.out v (by omega)]; omega
                have hin : inB ((v : Int) / 2) (-1000000000000) 1000000000000 = true := by unfold inB; rw [decide_eq_true_eq]; omega
                clear HS HZ HU HUE HUO
                rcases hgd with hj0 | ⟨hj0, hcz⟩
                all_goals
                  go_wp2_with (go_at_call 42; refine (l1In_any _ _ _ _).mono ?_; rintro e w' ⟨rfl, rfl⟩)
                  go_ret3
                  exact ⟨got_eq HA.out HG.out HUV.out, rfl⟩
              · rw [show (v : Int) % 2 = 1 from by omega] at hand1
                have HUV : Hid (unzig v = -((v : Int) / 2) - 1) := by rw [Hid, HUO.out v (by omega)]; omega
                have hin : inB (-((v : Int) / 2) - 1) (-1000000000000) 1000000000000 = true := by unfold inB; rw [decide_eq_true_eq]; omega
                clear HS HZ HU HUE HUO
                rcases hgd with hj0 | ⟨hj0, hcz⟩
                all_goals
                  go_wp2_with (go_at_call 42; refine (l1In_any _ _ _ _).mono ?_; rintro e w' ⟨rfl, rfl⟩)
                  go_ret3
                  exact ⟨got_eq HA.out HG.out HUV.out, rfl⟩
            · have HG : Hid (getOf (zs.drop q) = none) := HZ.out (.inr (.inr (.inr (by omega))))
              by_cases ho : (v : Int) % 2 = 0
              · rw [ho] at hand1
                have hin : inB ((v : Int) / 2) (-1000000000000) 1000000000000 = false := by unfold inB; rw [decide_eq_false_iff_not]; omega
                clear HS HZ HU HUE HUO
                rcases hgd with hj0 | ⟨hj0, hcz⟩
                all_goals
                  go_wp2_with (go_at_call 42; refine (l1In_any _ _ _ _).mono ?_; rintro e w' ⟨rfl, rfl⟩)
                  go_ret3
                  exact ⟨by rw [HA.out, HG.out]; rfl, rfl⟩
              · rw [show (v : Int) % 2 = 1 from by omega] at hand1
                have hin : inB (-((v : Int) / 2) - 1) (-1000000000000) 1000000000000 = false := by unfold inB; rw [decide_eq_false_iff_not]; omega
                clear HS HZ HU HUE HUO
                rcases hgd with hj0 | ⟨hj0, hcz⟩
                all_goals
                  go_wp2_with (go_at_call 42; refine (l1In_any _ _ _ _).mono ?_; rintro e w' ⟨rfl, rfl⟩)
                  go_ret3
                  exact ⟨by rw [HA.out, HG.out]; rfl, rfl⟩
      · have HG : Hid (getOf (zs.drop q) = none) := getOf_none _ (.inl (by have := lead_ge j (zs.drop q) (by omega) hall.out; have := lead_le (zs.drop q); omega))
        go_wp2
        go_ret3
        exact ⟨by rw [HA.out, HG.out]; rfl, rfl⟩
    · have HG : Hid (getOf (zs.drop q) = none) := getOf_none _ (.inr (.inl (by have := lead_ge j (zs.drop q) (by omega) hall.out; omega)))
      go_wp2
      go_ret3
      exact ⟨by rw [HA.out, HG.out]; rfl, rfl⟩
end Go.Proofs.YtbpdocjkhmiimabGreatDoor

/- The walks of spec.l2Next and spec.l2List: a reader over bytes. -/
namespace Go.Proofs.YtbpdocjkhmiimabGreatDoor
open Go.RowKit

/-- What the next number is, and where the reader is behind it: a place, and whether it is bad. -/
def nextOf (zs : List Int) (s : Int × Bool) : Int × (Int × Bool) := match s.2, getAt zs s.1 with
  | false, some r => (r.1, ((r.2 : Int), false))
  | _, _ => (0, (s.1, true))
/-- k more numbers, as long as it is not bad. -/
def numsOf (zs : List Int) : Nat → List Int → Int × Bool → List Int × (Int × Bool)
  | 0, l, s => (l, s)
  | k + 1, l, s => if s.2 then (l, s) else numsOf zs k (l ++ [(nextOf zs s).1]) (nextOf zs s).2
def badIf (b : Bool) (s : Int × Bool) : Int × Bool := (s.1, s.2 || b)
def listOf (zs : List Int) (most : Int) (s : Int × Bool) : List Int × (Int × Bool) :=
  numsOf zs (nextOf zs s).1.toNat [] (badIf (!inB (nextOf zs s).1 0 most) (nextOf zs s).2)

/-- A reader over the bytes zs, at a slice a, lies in block B. -/
def RdAt (w : World) (B : Nat) (a : Option Addr) (c : Nat) (zs : List Int) (s : Int × Bool) : Prop := Box w B [.slice a zs.length c, .int .i64 s.1, .bool s.2] 95

theorem nextOf_bad (zs : List Int) (p : Int) : nextOf zs (p, true) = (0, (p, true)) := by simp [nextOf]
theorem nextOf_none (zs : List Int) (p : Int) (h : getAt zs p = none) : nextOf zs (p, false) = (0, (p, true)) := by simp [nextOf, h]
theorem nextOf_some (zs : List Int) (p n : Int) (k : Nat) (h : getAt zs p = some (n, k)) : nextOf zs (p, false) = (n, ((k : Int), false)) := by simp [nextOf, h]

theorem next_ret {w' : World} {B : Nat} {a : Option Addr} {c : Nat} {zs : List Int} {s : Int × Bool} {n p : Int} {b : Bool} (h : nextOf zs s = (n, (p, b))) (hb : Box w' B [.slice a zs.length c, .int .i64 p, .bool b] 95) :
    Ending.returned (.int .i64 n) = .returned (.int .i64 (nextOf zs s).1) ∧ RdAt w' B a c zs (nextOf zs s).2 := by rw [h]; exact ⟨rfl, hb⟩

set_option maxHeartbeats 1000000 in
set_option maxRecDepth 100000 in
theorem l2Next_any (B : Nat) (a : Option Addr) (c : Nat) (zs : List Int) (s : Int × Bool) (w : World) (hb : RdAt w B a c zs s) (hr : Reads w a zs) (hl : zs.length ≤ 70368744177664) :
    Calls Tryz.prog 63 #[.pointer (some ⟨B, 0, none⟩)] w fun e w' => (e = .returned (.int .i64 (nextOf zs s).1) ∧ RdAt w' B a c zs (nextOf zs s).2) ∧ Within B (B + 1) w w' := by
  obtain ⟨p, bad⟩ := s
  unfold RdAt at hb
  simp only at hb
  have x0 := hb.cell 0 _ rfl
  have x1 := hb.cell 1 _ rfl
  have x2 := hb.cell 2 _ rfl
  have f1 := hb.frozen 1
  have f2 := hb.frozen 2
  have hget := fun n => specGetInt_any a c zs p (w.drewN n) (hr.below (below_drewN (Below.refl _ _) n)) hl
  cases bad with
  | true =>
    have HN : Hid (_ = _) := nextOf_bad zs p
    cases hg : getAt zs p with
    | none =>
      rw [hg] at hget
      clear hg
      simp only [triple] at hget
      go_enter Tryz.func63, Tryz.ntmps63
      go_wp2
      go_quiet (first | (go_at_call 61; refine Calls.quiet_of_same (hget _)))
      have bS := (hb.drewN nq).set 2 (.bool true)
      simp only [List.set] at bS
      go_wp2
      go_ret
      exact ⟨next_ret HN.out bS, (Within.of_below (below_drewN (Below.refl _ _) nq)).trans (within_set _ B 2 _ (by omega))⟩
    | some r =>
      obtain ⟨n, k⟩ := r
      rw [hg] at hget
      clear hg
      simp only [triple] at hget
      go_enter Tryz.func63, Tryz.ntmps63
      go_wp2
      go_quiet (first | (go_at_call 61; refine Calls.quiet_of_same (hget _)))
      have bS := (hb.drewN nq).set 2 (.bool true)
      simp only [List.set] at bS
      go_wp2
      go_ret
      exact ⟨next_ret HN.out bS, (Within.of_below (below_drewN (Below.refl _ _) nq)).trans (within_set _ B 2 _ (by omega))⟩
  | false =>
    cases hg : getAt zs p with
    | none =>
      have HN : Hid (_ = _) := nextOf_none zs p hg
      rw [hg] at hget
      clear hg
      simp only [triple] at hget
      go_enter Tryz.func63, Tryz.ntmps63
      go_wp2
      go_quiet (first | (go_at_call 61; refine Calls.quiet_of_same (hget _)))
      have bS := (hb.drewN nq).set 2 (.bool true)
      simp only [List.set] at bS
      go_wp2
      go_ret
      exact ⟨next_ret HN.out bS, (Within.of_below (below_drewN (Below.refl _ _) nq)).trans (within_set _ B 2 _ (by omega))⟩
    | some r =>
      obtain ⟨n, k⟩ := r
      have HN : Hid (_ = _) := nextOf_some zs p n k hg
      rw [hg] at hget
      clear hg
      simp only [triple] at hget
      go_enter Tryz.func63, Tryz.ntmps63
      go_wp2
      go_quiet (first | (go_at_call 61; refine Calls.quiet_of_same (hget _)))
      have bS := (hb.drewN nq).set 1 (.int .i64 (k : Int))
      simp only [List.set] at bS
      go_wp2
      go_ret
      exact ⟨next_ret HN.out bS, (Within.of_below (below_drewN (Below.refl _ _) nq)).trans (within_set _ B 1 _ (by omega))⟩

theorem numsOf_bad (zs : List Int) (k : Nat) (l : List Int) (p : Int) : numsOf zs k l (p, true) = (l, (p, true)) := by cases k <;> simp [numsOf]
theorem numsOf_zero (zs : List Int) (l : List Int) (s : Int × Bool) : numsOf zs 0 l s = (l, s) := rfl
theorem numsOf_step (zs : List Int) (k : Nat) (l : List Int) (p : Int) : numsOf zs (k + 1) l (p, false) = numsOf zs k (l ++ [(nextOf zs (p, false)).1]) (nextOf zs (p, false)).2 := by simp [numsOf]

set_option maxHeartbeats 1000000 in
set_option maxRecDepth 100000 in
theorem l2List_any (B : Nat) (a : Option Addr) (c : Nat) (zs : List Int) (s : Int × Bool) (most : Int) (w : World) (hb : RdAt w B a c zs s) (hr : Reads w a zs) (hl : zs.length ≤ 70368744177664) (hm : most ≤ 1000) (hBr : zs ≠ [] → ∀ b off, a = some ⟨b, off, none⟩ → b ≠ B) :
    Calls Tryz.prog 119 #[.pointer (some ⟨B, 0, none⟩), .int .i64 most] w fun e w' => ∃ a' c' L, e = .returned (.slice a' L.length c') ∧ L.length ≤ 1000 ∧ Hid (L = (listOf zs most s).1) ∧ RdAt w' B a c zs (listOf zs most s).2 ∧ OwnI w' w.heap.size w'.heap.size a' c' L ∧ Within B (B + 1) w w' := by
  have HLO : Hid (listOf zs most s = numsOf zs (nextOf zs s).1.toNat [] (badIf (!inB (nextOf zs s).1 0 most) (nextOf zs s).2)) := rfl
  have hBlt := Box.lt hb
  have hkr : ∀ w', Within B (B + 1) w w' → Reads w' a zs := by
    intro w' hw
    refine ⟨hr.1, fun e => ?_⟩
    obtain ⟨b, off, ha, hc⟩ := hr.2 e
    refine ⟨b, off, ha, fun i hi => ?_⟩
    have hlt := block_lt (hc i hi)
    have hne := hBr e b off ha
    have := World.cell?_of_block (w := w) (w' := w') (a := ⟨b, off + i, none⟩) (hw.block b hlt (by omega))
    rw [this]
    exact hc i hi
  generalize hX : listOf zs most s = X at *
  clear hX
  go_enter Tryz.func119, Tryz.ntmps119
  go_wp2_with fail
  refine (l2Next_any B a c zs s w hb hr hl).mono ?_
  rintro e w1 ⟨⟨rfl, hb1⟩, hw1⟩
  generalize nextOf zs s = Y at *
  obtain ⟨n, p, bad⟩ := Y
  simp only [badIf] at *
  cases hin : inB n 0 most with
  | false =>
    have HI : Hid (_ = _) := hin
    have HX : Hid (X = ([], (p, true))) := by
      rw [Hid, HLO.out, hin]
      simp [numsOf_bad]
    clear hin
    have b1 : Box w1 B [.slice a zs.length c, .int .i64 p, .bool bad] 95 := hb1
    have f2 := b1.frozen 2
    have x2 := b1.cell 2 _ rfl
    have bS := b1.set 2 (.bool true)
    simp only [List.set] at bS
    have bT := bS.alloc (.cells #[] 3)
    have y2 := bT.cell 2 _ rfl
    have hwS : Within B (B + 1) w1 (w1.setCell ⟨B, 2, none⟩ (.bool true)) := within_set _ B 2 _ (by omega)
    have hlo := ownI_lit0 (w1.setCell ⟨B, 2, none⟩ (.bool true))
    have HH : Hid (Box ((w1.setCell ⟨B, 2, none⟩ (.bool true)).alloc (.cells #[] 3)) B [.slice a zs.length c, .int .i64 p, .bool true] 95 ∧ OwnI ((w1.setCell ⟨B, 2, none⟩ (.bool true)).alloc (.cells #[] 3)) w.heap.size ((w1.setCell ⟨B, 2, none⟩ (.bool true)).alloc (.cells #[] 3)).heap.size (some ⟨w1.heap.size, 0, none⟩) 0 [] ∧ Within B (B + 1) w ((w1.setCell ⟨B, 2, none⟩ (.bool true)).alloc (.cells #[] 3))) := by
      refine ⟨bT, ?_, (hw1.trans hwS).trans (Within.of_below ((Below.refl _ _).alloc (Nat.le_refl _) _))⟩
      have := hlo.widen (lo' := w.heap.size) (hi' := ((w1.setCell ⟨B, 2, none⟩ (.bool true)).alloc (.cells #[] 3)).heap.size) (by have := hw1.size; simp; omega) (by simp) (Nat.le_refl _)
      simpa using this
    clear bS bT hlo hwS
    go_wp2_with fail
    refine (l1In_any _ _ _ _).mono ?_
    rintro e w' ⟨rfl, rfl⟩
    rw [HI.out]
    go_wp2
    by_cases hn : 0 < n
    · refine wp_loop_rounds 1 ?_
      rw [rounds_succ]
      go_wp2
      go_ret
      obtain ⟨h1, h2, h3⟩ := HH.out
      exact ⟨_, 0, [], rfl, by simp, by rw [Hid, HX.out], by rw [HX.out]; exact h1, h2, h3⟩
    · have hd : decide ((0 : Int) < n) = false := decide_eq_false hn
      refine wp_loop_rounds 1 ?_
      rw [rounds_succ]
      go_wp2
      go_ret
      obtain ⟨h1, h2, h3⟩ := HH.out
      exact ⟨_, 0, [], rfl, by simp, by rw [Hid, HX.out], by rw [HX.out]; exact h1, h2, h3⟩
  | true =>
    have HI : Hid (_ = _) := hin
    have hnb : 0 ≤ n ∧ n ≤ most := by simpa [inB] using hin
    obtain ⟨N, rfl⟩ := Int.eq_ofNat_of_zero_le hnb.1
    have HX : Hid (X = numsOf zs N [] (p, bad)) := by
      rw [Hid, HLO.out, hin]
      simp
    clear hin HLO
    have hlo := (ownI_lit0 w1)
    go_wp2_with fail
    refine (l1In_any _ _ _ _).mono ?_
    rintro e w' ⟨rfl, rfl⟩
    rw [HI.out]
    go_wp2
    go_loopw [6, 7] (fun out i wr => ∃ (a' : Option Addr) (c' : Nat) (L : List Int) (j : Nat) (p' : Int) (bd : Bool), out = .slice a' L.length c' ∧ i = .int .i64 j ∧ j ≤ N ∧ L.length ≤ j ∧ OwnI wr w.heap.size wr.heap.size a' c' L ∧ RdAt wr B a c zs (p', bd) ∧ Hid (X = numsOf zs (N - j) L (p', bd)) ∧ Within B (B + 1) w wr) (fun _ i _ => N - (intOf i).toNat)
    case atStart => exact ⟨some ⟨w'.heap.size, 0, none⟩, 0, [], 0, p, bad, rfl, rfl, by omega, by simp, hlo.widen (by have := hw1.size; omega) (by simp) (Nat.le_refl _), Box.alloc hb1 _, HX, hw1.trans (Within.of_below ((Below.refl _ _).alloc (Nat.le_refl _) _))⟩
    case round =>
      obtain ⟨a', c', L, j, p', bd, rfl, rfl, hj, hLj, ho, hrd, hxx, hww⟩ := hrel
      have x2 := Box.cell hrd 2 _ rfl
      by_cases hlt : j < N
      · cases bd with
        | true =>
          have HE : Hid (X = (L, (p', true))) := by rw [Hid, hxx.out, numsOf_bad]
          simp only at x2
          go_wp2
          go_ret
          exact ⟨a', c', L, rfl, by omega, by rw [Hid, HE.out], by rw [HE.out]; exact hrd, ho, hww⟩
        | false =>
          simp only at x2
          have HST : Hid (X = numsOf zs (N - (j + 1)) (L ++ [(nextOf zs (p', false)).1]) (nextOf zs (p', false)).2) := by
            rw [Hid, hxx.out, show N - j = (N - (j + 1)) + 1 from by omega, numsOf_step]
          have hrx := hkr wr hww
          go_wp2_with fail
          refine (l2Next_any B a c zs (p', false) wr hrd hrx hl).mono ?_
          rintro e w2 ⟨⟨rfl, hb2⟩, hw2⟩
          generalize nextOf zs (p', false) = Z at *
          obtain ⟨m, p2, bd2⟩ := Z
          simp only at *
          have hwsz := hww.size
          have ho2 : OwnI w2 w.heap.size wr.heap.size a' c' L := ho.within hw2 (.inr (by omega))
          have ho2' := (ho2.below ((Below.refl _ _).alloc (Nat.le_refl _) (.cells #[.int .i64 m] 3)))
          have hs2 := hw2.size
          go_wp2_with (at_builtin; refine append_ints rfl _ _ rfl w.heap.size wr.heap.size a' c' L rfl ho2' _ _ [m] rfl (readsI_one w2 m _) (fun h => by cases h) (by simp; omega) (by simp; omega) ?_; intro a3 c3 y3 w3 hy3 ho3 hg3)
          go_roundw
          case rel =>
            have hwA : Within B (B + 1) w (w2.alloc (.cells #[.int .i64 m] 3)) := (hww.trans hw2).trans (Within.of_below ((Below.refl _ _).alloc (Nat.le_refl _) _))
            have hgb : ∀ k, (Value.slice a' L.length c').ownBlock = some k → w.heap.size ≤ k := fun k hk => (ho2.lt k hk).1
            have hw3 : Within B (B + 1) w w3 := ⟨hg3.os.trans hwA.os, hg3.tape.trans hwA.tape, hg3.output.trans hwA.output, Nat.le_trans hwA.size hg3.size, fun k hk hn => (hg3.block k (Nat.lt_of_lt_of_le hk hwA.size) (fun e => by have := hgb k e.symm; omega)).trans (hwA.block k hk hn)⟩
            have hbA : RdAt (w2.alloc (.cells #[.int .i64 m] 3)) B a c zs (p2, bd2) := Box.alloc hb2 _
            refine ⟨a3, c3, y3, j + 1, p2, bd2, rfl, by go_num, by omega, by rw [hy3.out]; simp; omega, ho3, Box.block hbA (hg3.block B (Box.lt hbA) (fun e => by have := hgb B e.symm; omega)), by rw [Hid, HST.out, hy3.out], hw3⟩
          case measure => simp [intOf]; omega
      · have HE : Hid (X = (L, (p', bd))) := by rw [Hid, hxx.out, show N - j = 0 from by omega, numsOf_zero]
        have hd : decide ((j : Int) < (N : Int)) = false := decide_eq_false (by omega)
        go_wp2
        go_ret
        exact ⟨a', c', L, rfl, by omega, by rw [Hid, HE.out], by rw [HE.out]; exact hrd, ho, hww⟩
end Go.Proofs.YtbpdocjkhmiimabGreatDoor

/- Plain mathematics: a number comes back of its bytes; cut, it does not. -/
namespace Go.Proofs.YtbpdocjkhmiimabGreatDoor

theorem groups_ind (P : Nat → Prop) (small : ∀ m, m < 128 → P m) (big : ∀ m, 128 ≤ m → m < 2 ^ 64 → P (m / 128) → P m) : ∀ m, m < 2 ^ 64 → P m := by
  intro m
  induction m using Nat.strongRecOn with
  | _ m ih =>
    intro hm
    by_cases h : m < 128
    · exact small m h
    · exact big m (by omega) hm (ih (m / 128) (by omega) (by omega))

theorem groups_val (m : Nat) (hm : m < 2 ^ 64) : valOf (groups m) = m := by
  refine groups_ind (fun m => valOf (groups m) = m) ?_ ?_ m hm
  · intro m h; rw [groups_small m h]; simp only [valOf]; omega
  · intro m h1 h2 h3; rw [groups_big m h1 h2]; simp only [valOf, h3]; omega

theorem groups_lead (rest : List Int) (m : Nat) (hm : m < 2 ^ 64) : lead (groups m ++ rest) + 1 = (groups m).length := by
  refine groups_ind (fun m => lead (groups m ++ rest) + 1 = (groups m).length) ?_ ?_ m hm
  · intro m h; rw [groups_small m h]; simp only [List.cons_append, List.nil_append, lead]; rw [if_neg (by omega)]; rfl
  · intro m h1 h2 h3; rw [groups_big m h1 h2]; simp only [List.cons_append, lead]; rw [if_pos (by omega), h3]; rfl

theorem groups_cut (m : Nat) (hm : m < 2 ^ 64) : lead ((groups m).dropLast) = (groups m).dropLast.length := by
  refine groups_ind (fun m => lead ((groups m).dropLast) = (groups m).dropLast.length) ?_ ?_ m hm
  · intro m h; rw [groups_small m h]; rfl
  · intro m h1 h2 h3
    rw [groups_big m h1 h2]
    have hne : groups (m / 128) ≠ [] := by
      intro e
      have := (groups_len (m / 128)).1
      rw [e] at this
      simp at this
    rw [List.dropLast_cons_of_ne_nil hne]
    simp only [lead]
    rw [if_pos (by omega), h3]
    rfl

theorem groups_last (m : Nat) (hm : m < 2 ^ 64) : 0 < m → (groups m).getD ((groups m).length - 1) 0 ≠ 0 := by
  refine groups_ind (fun m => 0 < m → (groups m).getD ((groups m).length - 1) 0 ≠ 0) ?_ ?_ m hm
  · intro m h h0; rw [groups_small m h]; simp; omega
  · intro m h1 h2 h3 _
    have hl := (groups_len (m / 128)).1
    have h4 := h3 (by omega)
    rw [groups_big m h1 h2]
    have e : (((m % 128 + 128 : Nat) : Int) :: groups (m / 128)).length - 1 = ((groups (m / 128)).length - 1) + 1 := by simp; omega
    rw [e]
    simpa using h4

theorem groups_len_le (k : Nat) : ∀ m, m < 128 ^ (k + 1) → m < 2 ^ 64 → (groups m).length ≤ k + 1 := by
  induction k with
  | zero => intro m h _; rw [groups_small m (by omega)]; simp
  | succ k ih =>
    intro m h hm
    by_cases hs : m < 128
    · rw [groups_small m hs]; simp
    · rw [groups_big m (by omega) hm]
      have := ih (m / 128) (by rw [Nat.pow_succ] at h; omega) (by omega)
      simp; omega

theorem getOf_groups (rest : List Int) (m : Nat) (hm : m ≤ 2000000000000) : getOf (groups m ++ rest) = some (unzig m, (groups m).length) := by
  have h64 : m < 2 ^ 64 := by omega
  have hl := groups_lead rest m h64
  have h6 := groups_len_le 5 m (by omega) h64
  have h1 := (groups_len m).1
  have htake : (groups m ++ rest).take (lead (groups m ++ rest) + 1) = groups m := by rw [hl]; simp
  rw [getOf_some (groups m ++ rest) (lead (groups m ++ rest)) rfl (by rw [List.length_append]; omega) (by omega) ?_ (by rw [htake, groups_val m h64]; exact hm)]
  · rw [htake, groups_val m h64, hl]
  · rintro ⟨h0, hz⟩
    have hlt : lead (groups m ++ rest) < (groups m).length := by omega
    have hpos : 0 < m := by
      by_cases e : 128 ≤ m
      · omega
      · have := groups_small m (by omega)
        rw [this] at hl h0
        simp only [List.length_cons, List.length_nil] at hl
        omega
    have := groups_last m h64 hpos
    apply this
    have e : (groups m).length - 1 = lead (groups m ++ rest) := by omega
    rw [e, ← hz]
    simp [List.getD, List.getElem?_append, hlt]

theorem unzig_zig (n : Int) : unzig (zig n) = clampI n := by
  unfold unzig zig
  have := clampI_bd n
  split <;> split at * <;> omega

theorem back_int (zs rest : List Int) (n : Int) : getAt (zs ++ (putOf n ++ rest)) zs.length = some (clampI n, zs.length + (putOf n).length) := by
  rw [getAt_nat, List.drop_left]
  show Option.map _ (getOf (groups (zig n) ++ rest)) = _
  rw [getOf_groups rest (zig n) (zig_le n), unzig_zig]
  rfl

theorem cut_int (zs : List Int) (n : Int) : getAt ((zs ++ putOf n).take ((zs ++ putOf n).length - 1)) zs.length = none := by
  have hl := (putOf_len n).1
  have e : (zs ++ putOf n).take ((zs ++ putOf n).length - 1) = zs ++ (putOf n).dropLast := by
    rw [← List.dropLast_eq_take, List.dropLast_append_of_ne_nil]
    intro h; rw [h] at hl; simp at hl
  rw [e, getAt_nat, List.drop_left]
  show Option.map _ (getOf ((groups (zig n)).dropLast)) = _
  rw [getOf_none _ (.inl (groups_cut (zig n) (zig_lt n)))]
  rfl

end Go.Proofs.YtbpdocjkhmiimabGreatDoor

/- Plain mathematics: an object comes back of its bytes, and of them alone. -/
namespace Go.Proofs.YtbpdocjkhmiimabGreatDoor
open Go.RowKit

/-- What a reader reads of an object, and whether it is bad behind it. -/
def readO (zs : List Int) : ObjV × Bool :=
  (⟨(nextOf zs (0, false)).1, (listOf zs 5 (nextOf zs (0, false)).2).1, (listOf zs 5 (listOf zs 5 (nextOf zs (0, false)).2).2).1⟩, (listOf zs 5 (listOf zs 5 (nextOf zs (0, false)).2).2).2.2)

theorem clampI_small (n : Int) (h : -1000000 ≤ n ∧ n ≤ 1000000) : clampI n = n := by unfold clampI; rw [if_neg (by omega), if_neg (by omega)]

theorem next_back (pre rest : List Int) (n : Int) (h : -1000000 ≤ n ∧ n ≤ 1000000) : nextOf (pre ++ putOf n ++ rest) ((pre.length : Int), false) = (n, (((pre ++ putOf n).length : Int), false)) := by
  rw [List.append_assoc, nextOf_some _ _ (clampI n) (pre.length + (putOf n).length) (back_int pre rest n), clampI_small n h]
  simp

theorem nums_back (l : List Int) : ∀ (pre rest acc : List Int), (∀ z ∈ l, -1000000 ≤ z ∧ z ≤ 1000000) → numsOf (pre ++ l.flatMap putOf ++ rest) l.length acc ((pre.length : Int), false) = (acc ++ l, (((pre ++ l.flatMap putOf).length : Int), false)) := by
  induction l with
  | nil => intro pre rest acc _; simp [numsOf]
  | cons z r ih =>
    intro pre rest acc h
    have hz := h z (by simp)
    have e : pre ++ (z :: r).flatMap putOf ++ rest = (pre ++ putOf z) ++ r.flatMap putOf ++ rest := by simp
    have e2 : pre ++ (z :: r).flatMap putOf ++ rest = pre ++ putOf z ++ (r.flatMap putOf ++ rest) := by simp
    rw [List.length_cons, numsOf_step, e2, next_back pre _ z hz, ← e2, e]
    simp only
    rw [ih (pre ++ putOf z) rest (acc ++ [z]) (fun y hy => h y (by simp [hy]))]
    simp

theorem list_back (pre rest l : List Int) (hl : l.length ≤ 5) (h : ∀ z ∈ l, -1000000 ≤ z ∧ z ≤ 1000000) : listOf (pre ++ putList l ++ rest) 5 ((pre.length : Int), false) = (l, (((pre ++ putList l).length : Int), false)) := by
  have e : pre ++ putList l ++ rest = pre ++ putOf l.length ++ (l.flatMap putOf ++ rest) := by simp [putList]
  have e2 : pre ++ putList l ++ rest = (pre ++ putOf l.length) ++ l.flatMap putOf ++ rest := by simp [putList]
  have hn := next_back pre (l.flatMap putOf ++ rest) (l.length : Int) (by omega)
  rw [← e] at hn
  unfold listOf
  rw [hn]
  have hi : inB (l.length : Int) 0 5 = true := by unfold inB; rw [decide_eq_true_eq]; omega
  simp only [hi, badIf, Bool.not_true, Bool.or_false, Int.toNat_natCast]
  rw [e2, nums_back l (pre ++ putOf l.length) rest [] h]
  simp [putList]

theorem okB_bd {o : ObjV} (h : okB o = true) : (1 ≤ o.kind ∧ o.kind ≤ 99) ∧ o.ints.length ≤ 5 ∧ o.refs.length ≤ 5 ∧ (∀ z ∈ o.ints, -1000000 ≤ z ∧ z ≤ 1000000) ∧ (∀ z ∈ o.refs, 0 ≤ z ∧ z ≤ 31) := by
  simp [okB, inB] at h
  exact ⟨h.1, h.2.1, h.2.2.1, h.2.2.2.1, h.2.2.2.2⟩

theorem put_ok {o : ObjV} (h : okB o = true) : putObjOf o = (putOf o.kind ++ putList o.ints) ++ putList o.refs := by unfold putObjOf; rw [if_pos h]

theorem read_back (o : ObjV) (h : okB o = true) : readO (putObjOf o) = (o, false) := by
  obtain ⟨hk, h5, h6, hi, hr⟩ := okB_bd h
  rw [put_ok h]
  have e0 : putOf o.kind ++ putList o.ints ++ putList o.refs = [] ++ putOf o.kind ++ (putList o.ints ++ putList o.refs) := by simp
  have e2 : putOf o.kind ++ putList o.ints ++ putList o.refs = (putOf o.kind ++ putList o.ints) ++ putList o.refs ++ [] := by simp
  have n1 := next_back [] (putList o.ints ++ putList o.refs) o.kind (by omega)
  rw [← e0] at n1
  simp only [List.nil_append, List.length_nil, Int.natCast_zero] at n1
  have l1 := list_back (putOf o.kind) (putList o.refs) o.ints h5 hi
  have l2 := list_back (putOf o.kind ++ putList o.ints) [] o.refs h6 (fun z hz => by have := hr z hz; omega)
  rw [← e2] at l2
  unfold readO
  simp only [show ((0 : Int), false) = (((0 : Nat) : Int), false) from rfl] at *
  rw [n1, l1, l2]

theorem put_inj {o p : ObjV} (ho : okB o = true) (hp : okB p = true) (h : putObjOf o = putObjOf p) : o = p := by
  have h1 := read_back o ho
  rw [h, read_back p hp] at h1
  simpa using (Prod.mk.inj h1).1.symm

/-- The object whose bytes these are: a reader finds it, if there is one. -/
def getO (b : List Int) : Option ObjV := if (readO b).2 = false ∧ okB (readO b).1 = true ∧ putObjOf (readO b).1 = b then some (readO b).1 else none
theorem getO_read (b : List Int) : getO b = if (readO b).2 = false ∧ okB (readO b).1 = true ∧ putObjOf (readO b).1 = b then some (readO b).1 else none := rfl
theorem getO_some {b : List Int} {o : ObjV} (h1 : okB o = true) (h2 : putObjOf o = b) : getO b = some o := by
  have h := read_back o h1
  rw [h2] at h
  unfold getO
  rw [h]
  simp [h1, h2]
theorem getO_none {b : List Int} (h : ¬ ∃ o, okB o = true ∧ putObjOf o = b) : getO b = none := by
  unfold getO
  rw [if_neg]
  rintro ⟨_, h1, h2⟩
  exact h ⟨_, h1, h2⟩
theorem getO_ok {b : List Int} {o : ObjV} (h : getO b = some o) : okB o = true := by
  unfold getO at h
  split at h
  · rename_i hh
    simp only [Option.some.injEq] at h
    rw [← h]; exact hh.2.1
  · cases h

def noO : ObjV := ⟨0, [], []⟩
def getPair (b : List Int) : ObjV × Bool := match getO b with
  | some o => (o, true)
  | none => (noO, false)
end Go.Proofs.YtbpdocjkhmiimabGreatDoor
