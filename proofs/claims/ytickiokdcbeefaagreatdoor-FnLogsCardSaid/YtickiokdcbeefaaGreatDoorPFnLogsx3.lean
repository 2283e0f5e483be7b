/- Several texts in one, in their order. -/
import Derived.Test.YtickiokdcbeefaaGreatDoorProg
import Derived.Test.YtickiokdcbeefaaGreatDoorPFnLogsx1
import Derived.Test.YtickiokdcbeefaaGreatDoorPFnLogsx2
import Derived.Deep.QuietTactic
import Derived.BigQuiet
import Derived.Deep.RegionHeld3
set_option maxHeartbeats 8000000
set_option maxRecDepth 100000
namespace Go.Proofs.YtickiokdcbeefaaGreatDoor
open Go.RowKit
theorem unzig_even (m : Nat) (h : (m : Int) % 2 = 0) : unzig m = (m : Int) / 2 := by unfold unzig; rw [if_pos (by omega)]; omega
theorem unzig_odd (m : Nat) (h : ¬ (m : Int) % 2 = 0) : unzig m = -((m : Int) / 2) - 1 := by unfold unzig; rw [if_neg (by omega)]; omega
theorem unfoldSign_any (m : Nat) (w : World) (hm : m ≤ 4398046511104) :
  Calls Tryz.prog 120 #[.int .i64 m] w fun e w' => e = .returned (.int .i64 (unzig m)) ∧ w' = w := by
 by_cases ho : (m : Int) % 2 = 0
 ·have HU : Hid (_ = _) := unzig_even m ho
  go_enter Tryz.func120, Tryz.ntmps120
  go_wp2
  go_ret
  exact ⟨ret_int HU.out.symm, rfl⟩
 ·have HU : Hid (_ = _) := unzig_odd m ho
  have ho' : ((m : Int) % 2 == 0) = false := by simp; omega
  go_enter Tryz.func120, Tryz.ntmps120
  go_wp2
  go_ret
  exact ⟨ret_int HU.out.symm, rfl⟩
def fits (G : List Int) : Prop := G.length ≤ 6 ∧ ¬ (1 < G.length ∧ G.getD (G.length - 1) 0 = 0)
theorem shl_go (c j : Nat) (hj : j < 6) : wrap64 ((c : Int) % 128 * 2 ^ (7 * j)) = (((c % 128) * 128 ^ j : Nat) : Int) ∧ (c % 128) * 128 ^ j ≤ 4398046511104 := by
 have e7 : (128 : Nat) ^ j = 2 ^ (7 * j) := by rw [Nat.pow_mul]
 have hp : (128 : Nat) ^ j ≤ 128 ^ 5 := Nat.pow_le_pow_right (by omega) (by omega)
 have h5 : (128 : Nat) ^ 5 = 34359738368 := by decide
 have hb : (c % 128) * 128 ^ j ≤ 127 * 34359738368 := Nat.mul_le_mul (by omega) (by omega)
 have e : ((c : Int) % 128 * 2 ^ (7 * j)) = (((c % 128) * 128 ^ j : Nat) : Int) := by
  rw [e7]; simp
 rw [e]
 constructor
 ·unfold wrap64; omega
 ·omega
theorem joinGroups_no (a : Option Addr) (c : Nat) (G : List Int) (w : World) (hr : Reads w a G) (hl : G.length ≤ 6) (hf : ¬ fits G) :
  Calls Tryz.prog 119 #[.slice a G.length c] w fun e w' => e = .returned (.tuple #[.int .i64 0, .bool false]) ∧ w' = w := by
 have h2 : 1 < G.length ∧ G.getD (G.length - 1) 0 = 0 := by
  by_cases h : 1 < G.length ∧ G.getD (G.length - 1) 0 = 0
  ·exact h
  ·exact absurd ⟨by omega, h⟩ hf
 rcases hr.cases with rfl | ⟨b, off, rfl, hpos, hcell⟩
 ·simp at h2
 have hc := hcell (G.length - 1) (by omega)
 rw [h2.2] at hc
 have h3 := h2.1
 have hgt : (0 : Int) < (G.length : Int) - 1 := by omega
 have hcc : w.cell? ⟨b, off + ((G.length : Int) - 1).toNat, none⟩ = some (.int .u8 0) := by
  rw [show ((G.length : Int) - 1).toNat = G.length - 1 from by omega]; exact hc
 clear hf h2 hcell
 go_enter Tryz.func119, Tryz.ntmps119
 go_wp2
 go_ret2
 exact ⟨rfl, rfl⟩
theorem join_end (m v : Nat) (h : m = v) : Ending.returned (.tuple #[.int .i64 (m : Int), .bool (decide ((m : Int) ≤ 2000000000000))]) = .returned (.tuple #[.int .i64 ((v : Nat) : Int), .bool (decide (v ≤ 2000000000000))]) := by
 subst h
 have e : decide ((m : Int) ≤ 2000000000000) = decide (m ≤ 2000000000000) := decide_eq_decide.2 (by omega)
 rw [e]
theorem joinGroups_yes (a : Option Addr) (c : Nat) (G : List Int) (w : World) (hr : Reads w a G) (h1 : 1 ≤ G.length) (hf : fits G) :
  Calls Tryz.prog 119 #[.slice a G.length c] w fun e w' => e = .returned (.tuple #[.int .i64 (valOf G : Nat), .bool (decide (valOf G ≤ 2000000000000))]) ∧ w' = w := by
 have hby := hr.byte
 rcases hr.cases with rfl | ⟨b, off, rfl, hpos, hcell⟩
 ·simp at h1
 obtain ⟨h6, h2⟩ := hf
 have hc := hcell (G.length - 1) (by omega)
 obtain ⟨hn, hn2⟩ := bytes_nat hby (G.length - 1)
 have hcc : w.cell? ⟨b, off + ((G.length : Int) - 1).toNat, none⟩ = some (.int .u8 ((G.getD (G.length - 1) 0).toNat : Int)) := by
  rw [show ((G.length : Int) - 1).toNat = G.length - 1 from by omega, ← hn]; exact hc
 have hcs : G.length < 2 ∨ (1 < G.length ∧ (((G.getD (G.length - 1) 0).toNat : Int) == 0) = false) := by
  by_cases e : 1 < G.length
  ·refine .inr ⟨e, ?_⟩
   have : ¬ G.getD (G.length - 1) 0 = 0 := fun h => h2 ⟨e, h⟩
   simp only [beq_eq_false_iff_ne, ne_eq]
   omega
  ·exact .inl (by omega)
 have HTA : Hid (valOf (G.take G.length) = valOf G) := by rw [Hid, List.take_of_length_le (Nat.le_refl _)]
 rw [hn] at hc
 generalize (G.getD (G.length - 1) 0).toNat = last at *
 clear hn h2
 rcases hcs with hlt | ⟨hgt, hnz⟩
 all_goals
  go_enter Tryz.func119, Tryz.ntmps119
  go_wp2
  go_loop [5, 22] (fun m i => ∃ k : Nat, k ≤ G.length ∧ i = .int .i64 k ∧ m = .int .i64 (valOf (G.take k) : Nat)) (fun _ i => G.length - (intOf i).toNat)
  case atStart => exact ⟨0, by omega, rfl, rfl⟩
  case round =>
   obtain ⟨k, hk, rfl, rfl⟩ := hrel
   have hm := (valOf_take_lt G k (by omega)).1
   by_cases hlt : k < G.length
   ·have hck := hcell k hlt
    obtain ⟨hkn, hkn2⟩ := bytes_nat hby k
    have HV : Hid (_ = _) := valOf_take G k hlt
    rw [hkn] at hck
    have HT : Hid ((G.getD k 0 % 128).toNat = (G.getD k 0).toNat % 128) := by rw [Hid]; omega
    clear hkn hcell hby
    generalize (G.getD k 0).toNat = cc at *
    obtain ⟨hsh, hshl⟩ := shl_go cc k (by omega)
    have HV2 : Hid (valOf (G.take (k + 1)) = valOf (G.take k) + cc % 128 * 128 ^ k) := by rw [Hid, HV.out, HT.out]
    clear HV HT
    generalize cc % 128 * 128 ^ k = t at *
    generalize valOf (G.take k) = m at *
    go_wp2
    go_round
    case rel => exact ⟨k + 1, by omega, by go_num, by rw [HV2.out]; go_num⟩
    case measure => simp [intOf]; omega
   ·have HE : Hid (valOf (G.take k) = valOf G) := by
     have e : k = G.length := by omega
     rw [e]; exact HTA
    generalize valOf (G.take k) = m at *
    go_wp2
    go_ret2
    exact ⟨join_end _ _ HE.out, rfl⟩
def countOf (L : List Int) : Nat := min (lead L) 6 + 1
theorem countOf_go (L : List Int) (j : Nat) (hj : j ≤ 6) (hl : j ≤ L.length) (hall : ∀ i, i < j → 128 ≤ L.getD i 0) (hs : j = 6 ∨ j = L.length ∨ (j < L.length ∧ L.getD j 0 < 128)) : countOf L = j + 1 := by
 have h1 := lead_ge j L hl hall
 have h2 := lead_le L
 unfold countOf
 rcases hs with h | h | ⟨h, h'⟩
 ·omega
 ·omega
 ·have := lead_stop j L h h'
  omega
theorem countGroups_any (a : Option Addr) (c : Nat) (zs : List Int) (w : World) (hr : Reads w a zs) (hl : zs.length ≤ 70368744177664) :
  Calls Tryz.prog 118 #[.slice a zs.length c] w fun e w' => e = .returned (.int .i64 (countOf zs : Nat)) ∧ w' = w := by
 have hby := hr.byte
 rcases hr.cases with rfl | ⟨b, off, rfl, hpos, hcell⟩
 ·go_enter Tryz.func118, Tryz.ntmps118
  go_wp2
  refine wp_loop_rounds 1 ?_
  rw [rounds_succ]
  go_wp2
  go_ret
  exact ⟨rfl, rfl⟩
 go_enter Tryz.func118, Tryz.ntmps118
 go_wp2
 go_loop [3] (fun i => ∃ j : Nat, j ≤ 6 ∧ j ≤ zs.length ∧ i = .int .i64 ((j + 1 : Nat) : Int) ∧ Hid (∀ i, i < j → 128 ≤ zs.getD i 0)) (fun i => 7 - (intOf i).toNat)
 case atStart => exact ⟨0, by omega, by omega, rfl, fun i hi => by omega⟩
 case round =>
  obtain ⟨j, hj6, hjl, rfl, hall⟩ := hrel
  by_cases hm : (zs.length : Int) < 6
  all_goals
  by_cases h6 : j < 6
  ·by_cases hlt : j < zs.length
   ·have hc := hcell j hlt
    obtain ⟨hn, hn2⟩ := bytes_nat hby j
    have HCC : Hid (zs.getD j 0 = ((zs.getD j 0).toNat : Int)) := hn
    rw [hn] at hc
    clear hn
    generalize (zs.getD j 0).toNat = cc at *
    by_cases hcc : 128 ≤ cc
    ·have HN : Hid (∀ i, i < j + 1 → 128 ≤ zs.getD i 0) := by
      intro i hi
      by_cases e : i = j
      ·rw [e, HCC.out]; omega
      ·exact hall.out i (by omega)
     clear hcell hby
     go_wp2
     go_round
     case rel => exact ⟨j + 1, by omega, by omega, by go_num, HN⟩
     case measure => simp [intOf]; omega
    ·have HE : Hid (countOf zs = j + 1) := countOf_go zs j hj6 hjl hall.out (.inr (.inr ⟨hlt, by rw [HCC.out]; omega⟩))
     clear hcell hby
     go_wp2
     go_ret
     exact ⟨ret_int (by rw [HE.out]; omega), rfl⟩
   ·have HE : Hid (countOf zs = j + 1) := countOf_go zs j hj6 hjl hall.out (.inr (.inl (by omega)))
    clear hcell hby
    go_wp2
    all_goals go_ret
    all_goals exact ⟨ret_int (by rw [HE.out]; omega), rfl⟩
  ·have HE : Hid (countOf zs = j + 1) := countOf_go zs j hj6 hjl hall.out (.inl (by omega))
   clear hcell hby
   go_wp2
   all_goals go_ret
   all_goals exact ⟨ret_int (by rw [HE.out]; omega), rfl⟩
def scanOk (r : Int × Nat) : Value := .tuple #[.int .i64 r.1, .int .i64 (r.2 : Nat), .int .i64 0]
def scanWhy (zs : List Int) (p : Int) : Int := if 0 ≤ p ∧ p ≤ zs.length ∧ lead (zs.drop p.toNat) = zs.length - p.toNat ∧ lead (zs.drop p.toNat) < 6 then 1 else 3
def scanOf (zs : List Int) (p : Int) : Value := match getAt zs p with
 | some r => scanOk r
 | none => .tuple #[.int .i64 0, .int .i64 0, .int .i64 (scanWhy zs p)]
theorem scan_none (zs : List Int) (p : Int) (h : getAt zs p = none) (c : Int) (hc : scanWhy zs p = c) : scanOf zs p = .tuple #[.int .i64 0, .int .i64 0, .int .i64 c] := by
 unfold scanOf; rw [h, hc]
theorem scan_got {zs : List Int} {q j v : Nat} (hA : getAt zs q = (getOf (zs.drop q)).map fun r => (r.1, q + r.2)) (hG : getOf (zs.drop q) = some (unzig v, j + 1)) :
  Ending.returned (.tuple #[.int .i64 (unzig v), .int .i64 ((q : Int) + (j : Int) + 1), .int .i64 0]) = .returned (scanOf zs q) := by
 unfold scanOf
 rw [hA, hG]
 simp only [Option.map_some, scanOk]
 rw [show ((q + (j + 1) : Nat) : Int) = (q : Int) + (j : Int) + 1 from by omega]
theorem reads_part {w : World} {b off : Nat} {zs : List Int} (hby : ∀ z ∈ zs, 0 ≤ z ∧ z < 256) (hcell : ∀ i, i < zs.length → w.cell? ⟨b, off + i, none⟩ = some (.int .u8 (zs.getD i 0))) (q k : Nat) (h : q + k ≤ zs.length) :
  Reads w (some ⟨b, off + q, none⟩) ((zs.drop q).take k) := by
 refine ⟨fun z hz => hby z (List.mem_of_mem_drop (List.mem_of_mem_take hz)), fun _ => ⟨b, off + q, rfl, fun i hi => ?_⟩⟩
 have hi' : i < k := by simp at hi; omega
 rw [Nat.add_assoc, hcell (q + i) (by omega)]
 have : ((zs.drop q).take k).getD i 0 = zs.getD (q + i) 0 := by simp [List.getD, hi']
 rw [this]
theorem reads_slice {w : World} {a : Option Addr} {zs : List Int} (hr : Reads w a zs) (q k : Nat) (h : q + k ≤ zs.length) : Reads w (a.map fun x => x.add q) ((zs.drop q).take k) := by
 rcases hr.cases with rfl | ⟨b, off, rfl, hpos, hcell⟩
 ·exact ⟨by simp, by simp⟩
 ·have := reads_part hr.byte hcell q k h
  have e : (⟨b, off, none⟩ : Addr).add q = ⟨b, off + q, none⟩ := by unfold Addr.add; split <;> simp_all
  rw [Option.map_some, e]
  exact this
theorem scanInt_any (a : Option Addr) (c : Nat) (zs : List Int) (p : Int) (w : World) (hr : Reads w a zs) (hl : zs.length ≤ 70368744177664) (hcap : zs.length ≤ c) :
  Calls Tryz.prog 103 #[.slice a zs.length c, .int .i64 p] w fun e w' => e = .returned (scanOf zs p) ∧ w' = w := by
 by_cases h0 : p < 0
 ·have HG : Hid (_ = _) := scan_none zs p (getAt_neg zs p h0) 3 (by unfold scanWhy; rw [if_neg (by omega)])
  go_enter Tryz.func103, Tryz.ntmps103
  go_wp2
  go_ret3
  exact ⟨by rw [HG.out]; rfl, rfl⟩
 by_cases h1 : (zs.length : Int) < p
 ·have HG : Hid (_ = _) := scan_none zs p (getAt_past zs p (by omega)) 3 (by unfold scanWhy; rw [if_neg (by omega)])
  go_enter Tryz.func103, Tryz.ntmps103
  go_wp2
  go_ret3
  exact ⟨by rw [HG.out]; rfl, rfl⟩
 obtain ⟨q, rfl⟩ := Int.eq_ofNat_of_zero_le (show 0 ≤ p from by omega)
 have hq : q ≤ zs.length := by omega
 have hby := hr.byte
 have HA : Hid (_ = _) := getAt_nat zs q
 have hLl : (zs.drop q).length = zs.length - q := List.length_drop
 clear h0 h1
 by_cases hck : c = q
 ·have hle : (zs.length : Int) - (q : Int) < 1 := by omega
  have he : zs.drop q = [] := List.length_eq_zero_iff.1 (by omega)
  have HX : Hid (scanOf zs q = .tuple #[.int .i64 0, .int .i64 0, .int .i64 1]) := by
   refine scan_none zs q (by rw [HA.out, he]; rfl) 1 ?_
   unfold scanWhy
   rw [if_pos ⟨by omega, by omega, by rw [Int.toNat_natCast, he]; simp [lead]; omega, by rw [Int.toNat_natCast, he]; simp [lead]⟩]
  have hcg := countGroups_any a 0 [] w ⟨by simp, by simp⟩ (by simp)
  clear he HA hLl hby
  subst hck
  go_enter Tryz.func103, Tryz.ntmps103
  go_wp2_with fail
  refine hcg.mono ?_
  rintro e w' ⟨rfl, rfl⟩
  rw [show ((countOf [] : Nat) : Int) = 1 from rfl]
  go_wp2
  go_ret3
  exact ⟨by rw [HX.out]; rfl, rfl⟩
 have hrp : Reads w (a.map fun x => x.add q) (zs.drop q) := by
  have := reads_slice hr q (zs.length - q) (by omega)
  rwa [List.take_of_length_le (by omega)] at this
 have hcg := fun c' => countGroups_any (a.map fun x => x.add q) c' (zs.drop q) w hrp (by omega)
 rw [hLl] at hcg
 have HRS : Hid (∀ k, q + k ≤ zs.length → Reads w (a.map fun x => x.add q) ((zs.drop q).take k)) := fun k h => reads_slice hr q k h
 have HGT : Hid (6 < countOf (zs.drop q) → scanOf zs q = .tuple #[.int .i64 0, .int .i64 0, .int .i64 3]) := by
  intro h
  have h6 : 6 ≤ lead (zs.drop q) := by unfold countOf at h; omega
  refine scan_none zs q (by rw [HA.out, getOf_none _ (.inr (.inl h6))]; rfl) 3 ?_
  unfold scanWhy
  rw [if_neg]
  rintro ⟨_, _, _, h'⟩
  rw [Int.toNat_natCast] at h'
  omega
 have HEN : Hid (countOf (zs.drop q) ≤ 6 → zs.length - q < countOf (zs.drop q) → scanOf zs q = .tuple #[.int .i64 0, .int .i64 0, .int .i64 1]) := by
  intro h h'
  have hle := lead_le (zs.drop q)
  have h6 : lead (zs.drop q) = (zs.drop q).length := by unfold countOf at h h'; omega
  refine scan_none zs q (by rw [HA.out, getOf_none _ (.inl h6)]; rfl) 1 ?_
  unfold scanWhy
  rw [if_pos ⟨by omega, by omega, by rw [Int.toNat_natCast]; omega, by rw [Int.toNat_natCast]; unfold countOf at h; omega⟩]
 have HLD : Hid (countOf (zs.drop q) ≤ 6 → countOf (zs.drop q) ≤ zs.length - q → lead (zs.drop q) + 1 = countOf (zs.drop q)) := by
  intro h h'
  unfold countOf at h ⊢; omega
 have HPS : Hid (1 ≤ countOf (zs.drop q)) := by unfold countOf; rw [Hid]; omega
 generalize countOf (zs.drop q) = n at *
 by_cases h6 : 6 < n
 ·have HX : Hid (_ = _) := HGT.out h6
  go_enter Tryz.func103, Tryz.ntmps103
  go_wp2_with fail
  refine (hcg _).mono ?_
  rintro e w' ⟨rfl, rfl⟩
  go_wp2
  go_ret3
  exact ⟨by rw [HX.out]; rfl, rfl⟩
 by_cases hen : zs.length - q < n
 ·have HX : Hid (_ = _) := HEN.out (by omega) hen
  have hen' : (zs.length : Int) - (q : Int) < n := by omega
  go_enter Tryz.func103, Tryz.ntmps103
  go_wp2_with fail
  refine (hcg _).mono ?_
  rintro e w' ⟨rfl, rfl⟩
  go_wp2
  go_ret3
  exact ⟨by rw [HX.out]; rfl, rfl⟩
 obtain ⟨j, rfl⟩ : ∃ j, n = j + 1 := ⟨n - 1, by have := HPS.out; omega⟩
 have hen' : ¬ (zs.length : Int) - (q : Int) < ((j + 1 : Nat) : Int) := by omega
 have HLE : Hid (lead (zs.drop q) = j) := by have := HLD.out (by omega) (by omega); rw [Hid]; omega
 have hrG := HRS.out (j + 1) (by omega)
 have hgl : ((zs.drop q).take (j + 1)).length = j + 1 := by simp; omega
 have hgz : ((zs.drop q).take (j + 1)).getD j 0 = (zs.drop q).getD j 0 := by simp [List.getD]
 have HW : Hid (j < zs.length - q → scanWhy zs q = 3) := by intro hj; unfold scanWhy; rw [if_neg]; rintro ⟨_, _, h, _⟩; rw [Int.toNat_natCast, HLE.out] at h; omega
 have HN1 : Hid (getOf (zs.drop q) = none → scanOf zs q = .tuple #[.int .i64 0, .int .i64 0, .int .i64 3]) := fun h => scan_none zs q (by rw [HA.out, h]; rfl) 3 (HW.out (by omega))
 have HSm : Hid (_ → _ → _ → _ = _) := getOf_some (zs.drop q) j HLE.out (by omega)
 have HZ : Hid (_ → _) := getOf_none (zs.drop q)
 rw [HLE.out] at HZ
 have HQ : Hid (fits ((zs.drop q).take (j + 1)) ↔ ¬ (0 < j ∧ (zs.drop q).getD j 0 = 0)) := by
  unfold fits; rw [Hid, hgl, Nat.add_sub_cancel, hgz]
  constructor
  ·rintro ⟨h1, h2⟩; exact fun h => h2 ⟨by omega, h.2⟩
  ·rintro h2; exact ⟨by omega, fun h => h2 ⟨by omega, h.2⟩⟩
 have hv : valOf ((zs.drop q).take (j + 1)) < 4398046511104 := (valOf_take_lt (zs.drop q) (j + 1) (by omega)).1
 have HGL : Hid (j + 1 = ((zs.drop q).take (j + 1)).length) := by rw [Hid, hgl]
 have hg1 : 1 ≤ ((zs.drop q).take (j + 1)).length := by rw [hgl]; omega
 have hg2 : ((zs.drop q).take (j + 1)).length ≤ 6 := by rw [hgl]; omega
 clear hgl hgz HGT HEN HLD HRS HPS HW
 by_cases hfit : fits ((zs.drop q).take (j + 1))
 ·have HB : Hid (_ → _) := HSm.out (by omega) (HQ.out.1 hfit)
  clear HSm HQ
  generalize (zs.drop q).take (j + 1) = G at *
  by_cases hbd : valOf G ≤ 2000000000000
  ·have HG : Hid (_ = _) := HB.out hbd
   go_enter Tryz.func103, Tryz.ntmps103
   go_wp2_with fail
   refine (hcg _).mono ?_
   rintro e w' ⟨rfl, rfl⟩
   go_wp2_with fail
   rw [HGL.out]
   refine (joinGroups_yes _ _ G _ hrG hg1 hfit).mono ?_
   rintro e w' ⟨rfl, rfl⟩
   rw [decide_eq_true hbd]
   go_wp2_with fail
   refine (unfoldSign_any (valOf G) _ (by omega)).mono ?_
   rintro e w'' ⟨rfl, rfl⟩
   go_wp2
   go_ret3
   exact ⟨scan_got HA.out HG.out, rfl⟩
  ·have HG : Hid (_ = _) := HN1.out (HZ.out (.inr (.inr (.inr (by omega)))))
   go_enter Tryz.func103, Tryz.ntmps103
   go_wp2_with fail
   refine (hcg _).mono ?_
   rintro e w' ⟨rfl, rfl⟩
   go_wp2_with fail
   rw [HGL.out]
   refine (joinGroups_yes _ _ G _ hrG hg1 hfit).mono ?_
   rintro e w' ⟨rfl, rfl⟩
   rw [decide_eq_false hbd]
   go_wp2
   go_ret3
   exact ⟨by rw [HG.out]; rfl, rfl⟩
 ·have HG : Hid (_ = _) := HN1.out (HZ.out (by
   by_cases hz : 0 < j ∧ (zs.drop q).getD j 0 = 0
   ·exact .inr (.inr (.inl hz))
   ·exact absurd (HQ.out.2 hz) hfit))
  clear HSm HZ HQ HN1
  generalize (zs.drop q).take (j + 1) = G at *
  go_enter Tryz.func103, Tryz.ntmps103
  go_wp2_with fail
  refine (hcg _).mono ?_
  rintro e w' ⟨rfl, rfl⟩
  go_wp2_with fail
  rw [HGL.out]
  refine (joinGroups_no _ _ G _ hrG hg2 hfit).mono ?_
  rintro e w' ⟨rfl, rfl⟩
  go_wp2
  go_ret3
  exact ⟨by rw [HG.out]; rfl, rfl⟩
def sumTo (zs : List Int) : Nat → Nat
 | 0 => 0
 | k + 1 => sumTo zs k + (zs.getD k 0).toNat * 256 ^ k
theorem sumTo_lt (zs : List Int) (hb : ∀ z ∈ zs, 0 ≤ z ∧ z < 256) (k : Nat) : sumTo zs k < 256 ^ k := by
 induction k with
 | zero => simp [sumTo]
 | succ k ih =>
  have := (bytes_nat hb k).2
  unfold sumTo
  rw [Nat.pow_succ]
  have h : (zs.getD k 0).toNat * 256 ^ k ≤ 255 * 256 ^ k := Nat.mul_le_mul_right _ (by omega)
  omega
theorem sumTo_four (zs : List Int) : sumTo zs 4 = (zs.getD 0 0).toNat + (zs.getD 1 0).toNat * 256 + (zs.getD 2 0).toNat * 65536 + (zs.getD 3 0).toNat * 16777216 := by
 simp [sumTo]
theorem take4 (zs : List Int) (h : 4 ≤ zs.length) : zs.take 4 = [zs.getD 0 0, zs.getD 1 0, zs.getD 2 0, zs.getD 3 0] := by
 match zs, h with
 | a :: b :: c :: d :: r, _ => simp
theorem sum_iff (zs : List Int) (hb : ∀ z ∈ zs, 0 ≤ z ∧ z < 256) (h : 4 ≤ zs.length) (x : Nat) (hx : x < 4294967296) : sumTo zs 4 = x ↔ zs.take 4 = four x := by
 rw [take4 zs h, four_eq, sumTo_four]
 have h0 := bytes_nat hb 0
 have h1 := bytes_nat hb 1
 have h2 := bytes_nat hb 2
 have h3 := bytes_nat hb 3
 generalize (zs.getD 0 0) = a at *
 generalize (zs.getD 1 0) = b at *
 generalize (zs.getD 2 0) = c at *
 generalize (zs.getD 3 0) = d at *
 simp only [List.cons.injEq, and_true]
 omega
def unfOf (zs : List Int) (p : Int) : List Int × Int × Int := match getAt zs p with
 | none => ([], p, scanWhy zs p)
 | some r => if r.1 < 0 then ([], p, 3) else if (zs.length : Int) - (r.2 : Int) < r.1 + 4 then ([], p, 1) else
  if (zs.drop (r.2 + r.1.toNat)).take 4 = four (crcOf ((zs.drop r.2).take r.1.toNat)) then ((zs.drop r.2).take r.1.toNat, (r.2 : Int) + r.1 + 4, 0) else ([], p, 2)
theorem unf_none (zs : List Int) (p : Int) (h : getAt zs p = none) : unfOf zs p = ([], p, scanWhy zs p) := by unfold unfOf; rw [h]
theorem unf_neg (zs : List Int) (p n : Int) (k : Nat) (h : getAt zs p = some (n, k)) (hn : n < 0) : unfOf zs p = ([], p, 3) := by unfold unfOf; rw [h]; simp only; rw [if_pos hn]
theorem unf_end (zs : List Int) (p : Int) (m k : Nat) (h : getAt zs p = some ((m : Int), k)) (hn : (zs.length : Int) - (k : Int) < (m : Int) + 4) : unfOf zs p = ([], p, 1) := by
 unfold unfOf; rw [h]; simp only; rw [if_neg (by omega), if_pos hn]
theorem unf_sum (zs : List Int) (p : Int) (m k : Nat) (h : getAt zs p = some ((m : Int), k)) (hn : ¬ (zs.length : Int) - (k : Int) < (m : Int) + 4) (hs : ¬ (zs.drop (k + m)).take 4 = four (crcOf ((zs.drop k).take m))) : unfOf zs p = ([], p, 2) := by
 unfold unfOf; rw [h]; simp only; rw [if_neg (by omega), if_neg hn, Int.toNat_natCast, if_neg hs]
theorem unf_good (zs : List Int) (p : Int) (m k : Nat) (h : getAt zs p = some ((m : Int), k)) (hn : ¬ (zs.length : Int) - (k : Int) < (m : Int) + 4) (hs : (zs.drop (k + m)).take 4 = four (crcOf ((zs.drop k).take m))) : unfOf zs p = ((zs.drop k).take m, (k : Int) + (m : Int) + 4, 0) := by
 unfold unfOf; rw [h]; simp only; rw [if_neg (by omega), if_neg hn, Int.toNat_natCast, if_pos hs]
theorem own_none (w : World) (base : Nat) : OwnB w base none 0 [] := ⟨by simp, by simp, .inl ⟨rfl, rfl⟩⟩
def Fit (ss : List SlotA) : Prop := ∀ s ∈ ss, s.v.o.ints.length ≤ 1099511627776 ∧ s.v.o.refs.length ≤ 1099511627776
def noS : SlotV := ⟨false, noO⟩
def slotB (s : SlotV) : Bool := if s.has then okB s.o else (decide (s.o.kind = 0) && (decide (s.o.ints.length = 0) && decide (s.o.refs.length = 0)))
def putSlotOf (s : SlotV) : List Int := if s.has then putOf (putObjOf s.o).length ++ putObjOf s.o else putOf 0
theorem slotB_has {s : SlotV} (h : s.has = true) : slotB s = okB s.o := by unfold slotB; rw [if_pos h]
theorem slotB_not {s : SlotV} (h : s.has = false) (hb : slotB s = true) : s = noS := by
 obtain ⟨b, k, i, r⟩ := s
 simp only at h
 subst h
 simp [slotB] at hb
 obtain ⟨rfl, rfl, rfl⟩ := hb
 rfl
theorem slotB_no : slotB noS = true := by rfl
theorem put_no : putObjOf noO = [] := by rfl
theorem putSlot_one {s : SlotV} (h : slotB s = true) : putSlotOf s = putOf (putObjOf s.o).length ++ putObjOf s.o := by
 unfold putSlotOf
 split
 ·rfl
 ·rename_i hh
  have e := slotB_not (by simpa using hh) h
  rw [e]
  simp [noS, put_no]
theorem putObj_len (o : ObjV) : (putObjOf o).length ≤ 1000 := by
 unfold putObjOf
 split
 ·rename_i h
  obtain ⟨_, h5, h6, _, _⟩ := okB_bd h
  have h1 := putList_len o.ints
  have h2 := putList_len o.refs
  have h3 := (putOf_len o.kind).2
  rw [List.length_append, List.length_append]
  omega
 ·simp
theorem putObj_byte (o : ObjV) : Bytes (putObjOf o) := by
 intro z hz
 unfold putObjOf at hz
 split at hz
 ·simp only [putList, List.mem_append, List.mem_flatMap] at hz
  rcases hz with (h | h | ⟨x, _, h⟩) | h | ⟨x, _, h⟩ <;> exact putOf_byte _ z h
 ·simp at hz
theorem putSlot_len (s : SlotV) : (putSlotOf s).length ≤ 1065 := by
 unfold putSlotOf
 have h1 := putObj_len s.o
 have h2 := (putOf_len ((putObjOf s.o).length : Int)).2
 have h3 := (putOf_len 0).2
 split
 ·rw [List.length_append]; omega
 ·omega
def slotAt (zs : List Int) (p : Nat) : Option (SlotV × Nat) := match getAt zs (p : Int) with
 | none => none
 | some (n, q) => if n < 0 ∨ (zs.length : Int) - (q : Int) < n then none else
  if n = 0 then some (noS, q) else
  if (getPair ((zs.drop q).take n.toNat)).2 then some (⟨true, (getPair ((zs.drop q).take n.toNat)).1⟩, q + n.toNat) else none
theorem getPair_true {zs : List Int} (h : (getPair zs).2 = true) : okB (getPair zs).1 = true ∧ putObjOf (getPair zs).1 = zs := by
 unfold getPair at h ⊢
 cases hg : getO zs with
 | none => rw [hg] at h; cases h
 | some o =>
  simp only
  refine ⟨getO_ok hg, ?_⟩
  unfold getO at hg
  split at hg
  ·rename_i hh
   simp only [Option.some.injEq] at hg
   rw [← hg]; exact hh.2.2
  ·cases hg
theorem getPair_put {o : ObjV} (h : okB o = true) : getPair (putObjOf o) = (o, true) := by unfold getPair; rw [getO_some h rfl]
theorem slotAt_canon (zs : List Int) (hb : Bytes zs) (p : Nat) (s : SlotV) (q : Nat) (h : slotAt zs p = some (s, q)) : slotB s = true ∧ zs.drop p = putSlotOf s ++ zs.drop q ∧ q ≤ zs.length := by
 unfold slotAt at h
 cases hg : getAt zs (p : Int) with
 | none => rw [hg] at h; cases h
 | some r =>
  obtain ⟨n, q1⟩ := r
  rw [hg] at h
  simp only at h
  obtain ⟨hd, h1, h2⟩ := getAt_canon zs hb p n q1 hg
  split at h
  ·cases h
  ·split at h
   ·rename_i hn
    simp only [Option.some.injEq, Prod.mk.injEq] at h
    obtain ⟨rfl, rfl⟩ := h
    subst hn
    exact ⟨slotB_no, by simpa [putSlotOf, noS] using hd, h2⟩
   ·split at h
    ·rename_i hn hz hp
     simp only [Option.some.injEq, Prod.mk.injEq] at h
     obtain ⟨rfl, rfl⟩ := h
     obtain ⟨g1, g2⟩ := getPair_true hp
     obtain ⟨m, rfl⟩ : ∃ m : Nat, n = (m : Int) := ⟨n.toNat, by omega⟩
     rw [Int.toNat_natCast] at *
     have hl : ((zs.drop q1).take m).length = m := by rw [List.length_take, List.length_drop]; omega
     refine ⟨by rw [slotB_has rfl]; exact g1, ?_, by omega⟩
     rw [hd]
     unfold putSlotOf
     rw [if_pos rfl]
     simp only
     rw [g2, hl, List.append_assoc]
     congr 1
     rw [← List.drop_drop, List.take_append_drop]
    ·cases h
theorem slotAt_back (pre rest : List Int) (s : SlotV) (h : slotB s = true) : slotAt (pre ++ putSlotOf s ++ rest) pre.length = some (s, (pre ++ putSlotOf s).length) := by
 have hl := putObj_len s.o
 rw [putSlot_one h]
 have e : pre ++ (putOf (putObjOf s.o).length ++ putObjOf s.o) ++ rest = pre ++ putOf (putObjOf s.o).length ++ (putObjOf s.o ++ rest) := by simp
 have hn := getAt_back pre (putObjOf s.o ++ rest) ((putObjOf s.o).length : Int) (by omega)
 rw [← e] at hn
 unfold slotAt
 rw [hn]
 simp only
 have hd : (pre ++ (putOf (putObjOf s.o).length ++ putObjOf s.o) ++ rest).drop (pre ++ putOf (putObjOf s.o).length).length = putObjOf s.o ++ rest := by rw [e, List.drop_left]
 rw [if_neg (by simp only [List.length_append]; omega), hd, Int.toNat_natCast, List.take_left]
 cases hh : s.has with
 | false =>
  have es := slotB_not hh h
  have ep : putObjOf s.o = [] := by rw [es]; rfl
  rw [if_pos (by rw [ep]; rfl), ep, es]
  simp
 | true =>
  rw [slotB_has hh] at h
  have hp : 1 ≤ (putObjOf s.o).length := by
   have := (putOf_len s.o.kind).1
   rw [put_ok h, List.length_append, List.length_append]; omega
  rw [if_neg (by omega), getPair_put h]
  simp only [if_true]
  obtain ⟨b, o⟩ := s
  simp only at hh ⊢
  subst hh
  simp [Nat.add_assoc]
def nextSlotOf (zs : List Int) (s : Int × Bool) : SlotV × (Int × Bool) :=
 if (nextOf zs s).2.2 = true ∨ (nextOf zs s).1 = 0 then (noS, (nextOf zs s).2) else
 if (nextOf zs s).1 < 0 ∨ (zs.length : Int) - (nextOf zs s).2.1 < (nextOf zs s).1 then (noS, ((nextOf zs s).2.1, true)) else
 (⟨true, (getPair ((zs.drop (nextOf zs s).2.1.toNat).take (nextOf zs s).1.toNat)).1⟩, ((nextOf zs s).2.1 + (nextOf zs s).1, !(getPair ((zs.drop (nextOf zs s).2.1.toNat).take (nextOf zs s).1.toNat)).2))
theorem nextSlot_back (pre rest : List Int) (s : SlotV) (h : slotB s = true) : nextSlotOf (pre ++ putSlotOf s ++ rest) ((pre.length : Int), false) = (s, (((pre ++ putSlotOf s).length : Int), false)) := by
 have hl := putObj_len s.o
 rw [putSlot_one h]
 have e : pre ++ (putOf (putObjOf s.o).length ++ putObjOf s.o) ++ rest = pre ++ putOf (putObjOf s.o).length ++ (putObjOf s.o ++ rest) := by simp
 have hn := next_back pre (putObjOf s.o ++ rest) ((putObjOf s.o).length : Int) (by omega)
 rw [← e] at hn
 have hd : (pre ++ (putOf (putObjOf s.o).length ++ putObjOf s.o) ++ rest).drop (pre ++ putOf (putObjOf s.o).length).length = putObjOf s.o ++ rest := by rw [e, List.drop_left]
 unfold nextSlotOf
 rw [hn]
 simp only [Int.toNat_natCast]
 rw [hd, List.take_left]
 cases hh : s.has with
 | false =>
  have es := slotB_not hh h
  have ep : putObjOf s.o = [] := by rw [es]; rfl
  rw [if_pos (by right; rw [ep]; rfl), ep, es]
  simp
 | true =>
  rw [slotB_has hh] at h
  have hp : 1 ≤ (putObjOf s.o).length := by
   have := (putOf_len s.o.kind).1
   rw [put_ok h, List.length_append, List.length_append]; omega
  rw [if_neg (fun hx => by rcases hx with hx | hx; exact absurd hx (by decide); omega), if_neg (by simp only [List.length_append]; omega), getPair_put h]
  obtain ⟨b, o⟩ := s
  simp only at hh ⊢
  subst hh
  simp
  omega
def isNo (v : SlotV) : Bool := if v.has then false else sameO v.o ⟨0, [], []⟩
theorem isNo_has {v : SlotV} (h : v.has = true) : isNo v = false := by unfold isNo; rw [if_pos h]
theorem isNo_not {v : SlotV} (h : v.has = false) : isNo v = sameO v.o ⟨0, [], []⟩ := by unfold isNo; rw [if_neg (by rw [h]; decide)]
theorem l3SameNone_any (s : SlotA) (w : World) (hr : s.reads w) (hl : Fit [s]) :
  Calls Tryz.prog 74 #[.agg s.cells.toArray, .agg #[.bool false, .int .i64 0, .slice none 0 0, .slice none 0 0]] w fun e w' => e = .returned (.bool (isNo s.v)) ∧ Below w.heap.size w w' := by
 obtain ⟨h1, h2⟩ := hl s (List.mem_singleton.2 rfl)
 obtain ⟨W, hW, b0, b1, hbW, hsW⟩ := boxes2 w s.cells [.bool false, .int .i64 0, .slice none 0 0, .slice none 0 0] 39 39
 have hr' : s.reads W := ReadsO.below hr hbW
 obtain ⟨⟨h, o⟩, aI, cI, aR, cR⟩ := s
 simp only [SlotA.cells, SlotA.reads] at *
 clear hsW
 cases h with
 | true =>
  have HE : Hid (isNo ⟨true, o⟩ = false) := isNo_has rfl
  generalize isNo ⟨true, o⟩ = R at *
  go_enter Tryz.func74, Tryz.ntmps74
  go_wp2
  go_ret
  exact ⟨ret_bool HE.out.symm, by rw [hW.out]; exact hbW⟩
 | false =>
  have C1 := specSameObj_any o ⟨0, [], []⟩ aI cI aR cR none 0 none 0 W hr' ⟨ReadsI.nil _ _, ReadsI.nil _ _, fun _ => rfl, fun _ => rfl⟩ h1 h2 (by simp) (by simp)
  simp only [List.length_nil] at C1
  have HE : Hid (isNo ⟨false, o⟩ = sameO o ⟨0, [], []⟩) := isNo_not rfl
  generalize isNo ⟨false, o⟩ = R at *
  generalize sameO o ⟨0, [], []⟩ = R2 at *
  go_enter Tryz.func74, Tryz.ntmps74
  go_wp2_with fail
  rw [hW.out]
  refine C1.mono ?_
  rintro e w1 ⟨rfl, hb1⟩
  go_wp2
  go_ret
  exact ⟨ret_bool HE.out.symm, hbW.trans (hb1.mono hbW.size)⟩
def zeroB (r : RecV) (tx oid bf next txs : Bool) : Bool := (tx || (decide (r.tx = 0) && decide (r.prev = 0))) && (oid || (decide (r.oid = 0) && isNo r.af)) && (bf || isNo r.bf) && (next || decide (r.next = 0)) && (txs || decide (r.txs.length = 0))
theorem l4Zero_check (r : RecA) (w : World) (hr : r.reads w) (hl : r.short 1099511627776) :
  Calls Tryz.prog 52 #[.agg r.cells.toArray, .bool false, .bool false, .bool false, .bool false, .bool true] w fun e w' => e = .returned (.bool (zeroB r.v false false false false true)) ∧ Below w.heap.size w w' := by
 obtain ⟨W, hW, b0, b1, hbW, hsW⟩ := boxes2 w r.cells [.bool false, .int .i64 0, .slice none 0 0, .slice none 0 0] 42 39
 have CB : ∀ u, Below w.heap.size w u → _ := fun u hu => l3SameNone_any r.bf u (ReadsO.below hr.bf hu) (fun s hs => by obtain rfl := List.mem_singleton.1 hs; exact hl.bf)
 have CA : ∀ u, Below w.heap.size w u → _ := fun u hu => l3SameNone_any r.af u (ReadsO.below hr.af hu) (fun s hs => by obtain rfl := List.mem_singleton.1 hs; exact hl.af)
 have HZ : Hid (zeroB r.v false false false false true = ((false || (decide (r.tx = 0) && decide (r.prev = 0))) && (false || (decide (r.oid = 0) && isNo r.af.v)) && (false || isNo r.bf.v) && (false || decide (r.next = 0)) && (true || decide (r.txs.length = 0)))) := rfl
 generalize zeroB r.v false false false false true = R at *
 simp only [RecA.cells] at *
 simp only [SlotA.cells] at CA CB
 clear hsW hr hl
 by_cases h_tx : r.tx = 0
 case neg =>
  have HR : Hid (R = false) := by rw [Hid, HZ.out]; simp [h_tx]
  have h_txb : (r.tx == 0) = false := by simp; exact h_tx
  clear HZ h_tx
  go_enter Tryz.func52, Tryz.ntmps52
  go_wp2
  rw [hW.out]
  go_ret
  exact ⟨ret_bool HR.out.symm, hbW⟩
 case pos =>
 by_cases h_prev : r.prev = 0
 case neg =>
  have HR : Hid (R = false) := by rw [Hid, HZ.out]; simp [h_tx, h_prev]
  have h_txb : (r.tx == 0) = true := by simp; exact h_tx
  have h_prevb : (r.prev == 0) = false := by simp; exact h_prev
  clear HZ h_tx h_prev
  go_enter Tryz.func52, Tryz.ntmps52
  go_wp2
  rw [hW.out]
  go_ret
  exact ⟨ret_bool HR.out.symm, hbW⟩
 case pos =>
 by_cases h_oid : r.oid = 0
 case neg =>
  have HR : Hid (R = false) := by rw [Hid, HZ.out]; simp [h_tx, h_prev, h_oid]
  have h_txb : (r.tx == 0) = true := by simp; exact h_tx
  have h_prevb : (r.prev == 0) = true := by simp; exact h_prev
  have h_oidb : (r.oid == 0) = false := by simp; exact h_oid
  clear HZ h_tx h_prev h_oid
  go_enter Tryz.func52, Tryz.ntmps52
  go_wp2
  rw [hW.out]
  go_ret
  exact ⟨ret_bool HR.out.symm, hbW⟩
 case pos =>
 by_cases h_af : isNo r.af.v = true
 case neg =>
  have HR : Hid (R = false) := by rw [Hid, HZ.out]; simp [h_tx, h_prev, h_oid, h_af]
  have h_txb : (r.tx == 0) = true := by simp; exact h_tx
  have h_prevb : (r.prev == 0) = true := by simp; exact h_prev
  have h_oidb : (r.oid == 0) = true := by simp; exact h_oid
  have h_afb : isNo r.af.v = false := by simpa using h_af
  clear HZ h_tx h_prev h_oid
  go_enter Tryz.func52, Tryz.ntmps52
  go_wp2_with fail
  rw [hW.out]
  clear hW
  refine (CA W hbW).mono ?_
  rintro e w_af ⟨rfl, hb_af⟩
  rw [h_afb]
  have B_af : Below w.heap.size w w_af := (hbW).trans (hb_af.mono (hbW).size)
  have b0_af := b0.below hb_af (b0).lt
  have b1_af := b1.below hb_af (b1).lt
  have x_af5 := b0_af.cell 5 _ rfl
  have x_af6 := b0_af.cell 6 _ rfl
  have x_af7 := b0_af.cell 7 _ rfl
  have x_af8 := b0_af.cell 8 _ rfl
  have x_af13 := b0_af.cell 13 _ rfl
  have x_af14 := b0_af.cell 14 _ rfl
  have y_af0 := b1_af.cell 0 _ rfl
  have y_af1 := b1_af.cell 1 _ rfl
  have y_af2 := b1_af.cell 2 _ rfl
  have y_af3 := b1_af.cell 3 _ rfl
  go_wp2
  go_ret
  exact ⟨ret_bool HR.out.symm, B_af⟩
 case pos =>
 by_cases h_bf : isNo r.bf.v = true
 case neg =>
  have HR : Hid (R = false) := by rw [Hid, HZ.out]; simp [h_tx, h_prev, h_oid, h_af, h_bf]
  have h_txb : (r.tx == 0) = true := by simp; exact h_tx
  have h_prevb : (r.prev == 0) = true := by simp; exact h_prev
  have h_oidb : (r.oid == 0) = true := by simp; exact h_oid
  have h_bfb : isNo r.bf.v = false := by simpa using h_bf
  clear HZ h_tx h_prev h_oid
  go_enter Tryz.func52, Tryz.ntmps52
  go_wp2_with fail
  rw [hW.out]
  clear hW
  refine (CA W hbW).mono ?_
  rintro e w_af ⟨rfl, hb_af⟩
  rw [h_af]
  have B_af : Below w.heap.size w w_af := (hbW).trans (hb_af.mono (hbW).size)
  have b0_af := b0.below hb_af (b0).lt
  have b1_af := b1.below hb_af (b1).lt
  have x_af5 := b0_af.cell 5 _ rfl
  have x_af6 := b0_af.cell 6 _ rfl
  have x_af7 := b0_af.cell 7 _ rfl
  have x_af8 := b0_af.cell 8 _ rfl
  have x_af13 := b0_af.cell 13 _ rfl
  have x_af14 := b0_af.cell 14 _ rfl
  have y_af0 := b1_af.cell 0 _ rfl
  have y_af1 := b1_af.cell 1 _ rfl
  have y_af2 := b1_af.cell 2 _ rfl
  have y_af3 := b1_af.cell 3 _ rfl
  go_wp2_with fail
  refine (CB w_af B_af).mono ?_
  rintro e w_bf ⟨rfl, hb_bf⟩
  rw [h_bfb]
  have B_bf : Below w.heap.size w w_bf := (B_af).trans (hb_bf.mono (B_af).size)
  have b0_bf := b0_af.below hb_bf (b0_af).lt
  have b1_bf := b1_af.below hb_bf (b1_af).lt
  have x_bf13 := b0_bf.cell 13 _ rfl
  have x_bf14 := b0_bf.cell 14 _ rfl
  go_wp2
  go_ret
  exact ⟨ret_bool HR.out.symm, B_bf⟩
 case pos =>
 by_cases h_next : r.next = 0
 case neg =>
  have HR : Hid (R = false) := by rw [Hid, HZ.out]; simp [h_tx, h_prev, h_oid, h_af, h_bf, h_next]
  have h_txb : (r.tx == 0) = true := by simp; exact h_tx
  have h_prevb : (r.prev == 0) = true := by simp; exact h_prev
  have h_oidb : (r.oid == 0) = true := by simp; exact h_oid
  have h_nextb : (r.next == 0) = false := by simp; exact h_next
  clear HZ h_tx h_prev h_oid h_next
  go_enter Tryz.func52, Tryz.ntmps52
  go_wp2_with fail
  rw [hW.out]
  clear hW
  refine (CA W hbW).mono ?_
  rintro e w_af ⟨rfl, hb_af⟩
  rw [h_af]
  have B_af : Below w.heap.size w w_af := (hbW).trans (hb_af.mono (hbW).size)
  have b0_af := b0.below hb_af (b0).lt
  have b1_af := b1.below hb_af (b1).lt
  have x_af5 := b0_af.cell 5 _ rfl
  have x_af6 := b0_af.cell 6 _ rfl
  have x_af7 := b0_af.cell 7 _ rfl
  have x_af8 := b0_af.cell 8 _ rfl
  have x_af13 := b0_af.cell 13 _ rfl
  have x_af14 := b0_af.cell 14 _ rfl
  have y_af0 := b1_af.cell 0 _ rfl
  have y_af1 := b1_af.cell 1 _ rfl
  have y_af2 := b1_af.cell 2 _ rfl
  have y_af3 := b1_af.cell 3 _ rfl
  go_wp2_with fail
  refine (CB w_af B_af).mono ?_
  rintro e w_bf ⟨rfl, hb_bf⟩
  rw [h_bf]
  have B_bf : Below w.heap.size w w_bf := (B_af).trans (hb_bf.mono (B_af).size)
  have b0_bf := b0_af.below hb_bf (b0_af).lt
  have b1_bf := b1_af.below hb_bf (b1_af).lt
  have x_bf13 := b0_bf.cell 13 _ rfl
  have x_bf14 := b0_bf.cell 14 _ rfl
  go_wp2
  go_ret
  exact ⟨ret_bool HR.out.symm, B_bf⟩
 case pos =>
 have HR : Hid (R = true) := by rw [Hid, HZ.out]; simp [h_tx, h_prev, h_oid, h_af, h_bf, h_next]
 have h_txb : (r.tx == 0) = true := by simp; exact h_tx
 have h_prevb : (r.prev == 0) = true := by simp; exact h_prev
 have h_oidb : (r.oid == 0) = true := by simp; exact h_oid
 have h_nextb : (r.next == 0) = true := by simp; exact h_next
 clear HZ h_tx h_prev h_oid h_next
 go_enter Tryz.func52, Tryz.ntmps52
 go_wp2_with fail
 rw [hW.out]
 clear hW
 refine (CA W hbW).mono ?_
 rintro e w_af ⟨rfl, hb_af⟩
 rw [h_af]
 have B_af : Below w.heap.size w w_af := (hbW).trans (hb_af.mono (hbW).size)
 have b0_af := b0.below hb_af (b0).lt
 have b1_af := b1.below hb_af (b1).lt
 have x_af5 := b0_af.cell 5 _ rfl
 have x_af6 := b0_af.cell 6 _ rfl
 have x_af7 := b0_af.cell 7 _ rfl
 have x_af8 := b0_af.cell 8 _ rfl
 have x_af13 := b0_af.cell 13 _ rfl
 have x_af14 := b0_af.cell 14 _ rfl
 have y_af0 := b1_af.cell 0 _ rfl
 have y_af1 := b1_af.cell 1 _ rfl
 have y_af2 := b1_af.cell 2 _ rfl
 have y_af3 := b1_af.cell 3 _ rfl
 go_wp2_with fail
 refine (CB w_af B_af).mono ?_
 rintro e w_bf ⟨rfl, hb_bf⟩
 rw [h_bf]
 have B_bf : Below w.heap.size w w_bf := (B_af).trans (hb_bf.mono (B_af).size)
 have b0_bf := b0_af.below hb_bf (b0_af).lt
 have b1_bf := b1_af.below hb_bf (b1_af).lt
 have x_bf13 := b0_bf.cell 13 _ rfl
 have x_bf14 := b0_bf.cell 14 _ rfl
 go_wp2
 go_ret
 exact ⟨ret_bool HR.out.symm, B_bf⟩
theorem l4Zero_set (r : RecA) (w : World) (hr : r.reads w) (hl : r.short 1099511627776) :
  Calls Tryz.prog 52 #[.agg r.cells.toArray, .bool true, .bool true, .bool true, .bool false, .bool false] w fun e w' => e = .returned (.bool (zeroB r.v true true true false false)) ∧ Below w.heap.size w w' := by
 obtain ⟨W, hW, b0, b1, hbW, hsW⟩ := boxes2 w r.cells [.bool false, .int .i64 0, .slice none 0 0, .slice none 0 0] 42 39
 have CB : ∀ u, Below w.heap.size w u → _ := fun u hu => l3SameNone_any r.bf u (ReadsO.below hr.bf hu) (fun s hs => by obtain rfl := List.mem_singleton.1 hs; exact hl.bf)
 have CA : ∀ u, Below w.heap.size w u → _ := fun u hu => l3SameNone_any r.af u (ReadsO.below hr.af hu) (fun s hs => by obtain rfl := List.mem_singleton.1 hs; exact hl.af)
 have HZ : Hid (zeroB r.v true true true false false = ((true || (decide (r.tx = 0) && decide (r.prev = 0))) && (true || (decide (r.oid = 0) && isNo r.af.v)) && (true || isNo r.bf.v) && (false || decide (r.next = 0)) && (false || decide (r.txs.length = 0)))) := rfl
 generalize zeroB r.v true true true false false = R at *
 simp only [RecA.cells] at *
 simp only [SlotA.cells] at CA CB
 clear hsW hr hl
 by_cases h_next : r.next = 0
 case neg =>
  have HR : Hid (R = false) := by rw [Hid, HZ.out]; simp [h_next]
  have h_nextb : (r.next == 0) = false := by simp; exact h_next
  clear HZ h_next
  go_enter Tryz.func52, Tryz.ntmps52
  go_wp2
  rw [hW.out]
  go_ret
  exact ⟨ret_bool HR.out.symm, hbW⟩
 case pos =>
 by_cases h_txs : r.txs.length = 0
 case neg =>
  have HR : Hid (R = false) := by rw [Hid, HZ.out]; simp [h_next, h_txs]
  have h_nextb : (r.next == 0) = true := by simp; exact h_next
  have h_txsb : ((r.txs.length : Int) == 0) = false := by simp; exact fun e => h_txs (by rw [e]; rfl)
  clear HZ h_next h_txs
  go_enter Tryz.func52, Tryz.ntmps52
  go_wp2
  rw [hW.out]
  go_ret
  exact ⟨ret_bool HR.out.symm, hbW⟩
 case pos =>
 have HR : Hid (R = true) := by rw [Hid, HZ.out]; simp [h_next, h_txs]
 have h_nextb : (r.next == 0) = true := by simp; exact h_next
 have h_txsb : ((r.txs.length : Int) == 0) = true := by simp; exact List.length_eq_zero_iff.1 h_txs
 clear HZ h_next h_txs
 go_enter Tryz.func52, Tryz.ntmps52
 go_wp2
 rw [hW.out]
 go_ret
 exact ⟨ret_bool HR.out.symm, hbW⟩
theorem l4Zero_back (r : RecA) (w : World) (hr : r.reads w) (hl : r.short 1099511627776) :
  Calls Tryz.prog 52 #[.agg r.cells.toArray, .bool true, .bool true, .bool false, .bool true, .bool false] w fun e w' => e = .returned (.bool (zeroB r.v true true false true false)) ∧ Below w.heap.size w w' := by
 obtain ⟨W, hW, b0, b1, hbW, hsW⟩ := boxes2 w r.cells [.bool false, .int .i64 0, .slice none 0 0, .slice none 0 0] 42 39
 have CB : ∀ u, Below w.heap.size w u → _ := fun u hu => l3SameNone_any r.bf u (ReadsO.below hr.bf hu) (fun s hs => by obtain rfl := List.mem_singleton.1 hs; exact hl.bf)
 have CA : ∀ u, Below w.heap.size w u → _ := fun u hu => l3SameNone_any r.af u (ReadsO.below hr.af hu) (fun s hs => by obtain rfl := List.mem_singleton.1 hs; exact hl.af)
 have HZ : Hid (zeroB r.v true true false true false = ((true || (decide (r.tx = 0) && decide (r.prev = 0))) && (true || (decide (r.oid = 0) && isNo r.af.v)) && (false || isNo r.bf.v) && (true || decide (r.next = 0)) && (false || decide (r.txs.length = 0)))) := rfl
 generalize zeroB r.v true true false true false = R at *
 simp only [RecA.cells] at *
 simp only [SlotA.cells] at CA CB
 clear hsW hr hl
 by_cases h_bf : isNo r.bf.v = true
 case neg =>
  have HR : Hid (R = false) := by rw [Hid, HZ.out]; simp [h_bf]
  have h_bfb : isNo r.bf.v = false := by simpa using h_bf
  clear HZ 
  go_enter Tryz.func52, Tryz.ntmps52
  go_wp2_with fail
  rw [hW.out]
  clear hW
  refine (CB W hbW).mono ?_
  rintro e w_bf ⟨rfl, hb_bf⟩
  rw [h_bfb]
  have B_bf : Below w.heap.size w w_bf := (hbW).trans (hb_bf.mono (hbW).size)
  have b0_bf := b0.below hb_bf (b0).lt
  have b1_bf := b1.below hb_bf (b1).lt
  have x_bf13 := b0_bf.cell 13 _ rfl
  have x_bf14 := b0_bf.cell 14 _ rfl
  go_wp2
  go_ret
  exact ⟨ret_bool HR.out.symm, B_bf⟩
 case pos =>
 by_cases h_txs : r.txs.length = 0
 case neg =>
  have HR : Hid (R = false) := by rw [Hid, HZ.out]; simp [h_bf, h_txs]
  have h_txsb : ((r.txs.length : Int) == 0) = false := by simp; exact fun e => h_txs (by rw [e]; rfl)
  clear HZ h_txs
  go_enter Tryz.func52, Tryz.ntmps52
  go_wp2_with fail
  rw [hW.out]
  clear hW
  refine (CB W hbW).mono ?_
  rintro e w_bf ⟨rfl, hb_bf⟩
  rw [h_bf]
  have B_bf : Below w.heap.size w w_bf := (hbW).trans (hb_bf.mono (hbW).size)
  have b0_bf := b0.below hb_bf (b0).lt
  have b1_bf := b1.below hb_bf (b1).lt
  have x_bf13 := b0_bf.cell 13 _ rfl
  have x_bf14 := b0_bf.cell 14 _ rfl
  go_wp2
  go_ret
  exact ⟨ret_bool HR.out.symm, B_bf⟩
 case pos =>
 have HR : Hid (R = true) := by rw [Hid, HZ.out]; simp [h_bf, h_txs]
 have h_txsb : ((r.txs.length : Int) == 0) = true := by simp; exact List.length_eq_zero_iff.1 h_txs
 clear HZ h_txs
 go_enter Tryz.func52, Tryz.ntmps52
 go_wp2_with fail
 rw [hW.out]
 clear hW
 refine (CB W hbW).mono ?_
 rintro e w_bf ⟨rfl, hb_bf⟩
 rw [h_bf]
 have B_bf : Below w.heap.size w w_bf := (hbW).trans (hb_bf.mono (hbW).size)
 have b0_bf := b0.below hb_bf (b0).lt
 have b1_bf := b1.below hb_bf (b1).lt
 have x_bf13 := b0_bf.cell 13 _ rfl
 have x_bf14 := b0_bf.cell 14 _ rfl
 go_wp2
 go_ret
 exact ⟨ret_bool HR.out.symm, B_bf⟩
theorem l4Zero_end (r : RecA) (w : World) (hr : r.reads w) (hl : r.short 1099511627776) :
  Calls Tryz.prog 52 #[.agg r.cells.toArray, .bool true, .bool false, .bool false, .bool false, .bool false] w fun e w' => e = .returned (.bool (zeroB r.v true false false false false)) ∧ Below w.heap.size w w' := by
 obtain ⟨W, hW, b0, b1, hbW, hsW⟩ := boxes2 w r.cells [.bool false, .int .i64 0, .slice none 0 0, .slice none 0 0] 42 39
 have CB : ∀ u, Below w.heap.size w u → _ := fun u hu => l3SameNone_any r.bf u (ReadsO.below hr.bf hu) (fun s hs => by obtain rfl := List.mem_singleton.1 hs; exact hl.bf)
 have CA : ∀ u, Below w.heap.size w u → _ := fun u hu => l3SameNone_any r.af u (ReadsO.below hr.af hu) (fun s hs => by obtain rfl := List.mem_singleton.1 hs; exact hl.af)
 have HZ : Hid (zeroB r.v true false false false false = ((true || (decide (r.tx = 0) && decide (r.prev = 0))) && (false || (decide (r.oid = 0) && isNo r.af.v)) && (false || isNo r.bf.v) && (false || decide (r.next = 0)) && (false || decide (r.txs.length = 0)))) := rfl
 generalize zeroB r.v true false false false false = R at *
 simp only [RecA.cells] at *
 simp only [SlotA.cells] at CA CB
 clear hsW hr hl
 by_cases h_oid : r.oid = 0
 case neg =>
  have HR : Hid (R = false) := by rw [Hid, HZ.out]; simp [h_oid]
  have h_oidb : (r.oid == 0) = false := by simp; exact h_oid
  clear HZ h_oid
  go_enter Tryz.func52, Tryz.ntmps52
  go_wp2
  rw [hW.out]
  go_ret
  exact ⟨ret_bool HR.out.symm, hbW⟩
 case pos =>
 by_cases h_af : isNo r.af.v = true
 case neg =>
  have HR : Hid (R = false) := by rw [Hid, HZ.out]; simp [h_oid, h_af]
  have h_oidb : (r.oid == 0) = true := by simp; exact h_oid
  have h_afb : isNo r.af.v = false := by simpa using h_af
  clear HZ h_oid
  go_enter Tryz.func52, Tryz.ntmps52
  go_wp2_with fail
  rw [hW.out]
  clear hW
  refine (CA W hbW).mono ?_
  rintro e w_af ⟨rfl, hb_af⟩
  rw [h_afb]
  have B_af : Below w.heap.size w w_af := (hbW).trans (hb_af.mono (hbW).size)
  have b0_af := b0.below hb_af (b0).lt
  have b1_af := b1.below hb_af (b1).lt
  have x_af5 := b0_af.cell 5 _ rfl
  have x_af6 := b0_af.cell 6 _ rfl
  have x_af7 := b0_af.cell 7 _ rfl
  have x_af8 := b0_af.cell 8 _ rfl
  have x_af13 := b0_af.cell 13 _ rfl
  have x_af14 := b0_af.cell 14 _ rfl
  have y_af0 := b1_af.cell 0 _ rfl
  have y_af1 := b1_af.cell 1 _ rfl
  have y_af2 := b1_af.cell 2 _ rfl
  have y_af3 := b1_af.cell 3 _ rfl
  go_wp2
  go_ret
  exact ⟨ret_bool HR.out.symm, B_af⟩
 case pos =>
 by_cases h_bf : isNo r.bf.v = true
 case neg =>
  have HR : Hid (R = false) := by rw [Hid, HZ.out]; simp [h_oid, h_af, h_bf]
  have h_oidb : (r.oid == 0) = true := by simp; exact h_oid
  have h_bfb : isNo r.bf.v = false := by simpa using h_bf
  clear HZ h_oid
  go_enter Tryz.func52, Tryz.ntmps52
  go_wp2_with fail
  rw [hW.out]
  clear hW
  refine (CA W hbW).mono ?_
  rintro e w_af ⟨rfl, hb_af⟩
  rw [h_af]
  have B_af : Below w.heap.size w w_af := (hbW).trans (hb_af.mono (hbW).size)
  have b0_af := b0.below hb_af (b0).lt
  have b1_af := b1.below hb_af (b1).lt
  have x_af5 := b0_af.cell 5 _ rfl
  have x_af6 := b0_af.cell 6 _ rfl
  have x_af7 := b0_af.cell 7 _ rfl
  have x_af8 := b0_af.cell 8 _ rfl
  have x_af13 := b0_af.cell 13 _ rfl
  have x_af14 := b0_af.cell 14 _ rfl
  have y_af0 := b1_af.cell 0 _ rfl
  have y_af1 := b1_af.cell 1 _ rfl
  have y_af2 := b1_af.cell 2 _ rfl
  have y_af3 := b1_af.cell 3 _ rfl
  go_wp2_with fail
  refine (CB w_af B_af).mono ?_
  rintro e w_bf ⟨rfl, hb_bf⟩
  rw [h_bfb]
  have B_bf : Below w.heap.size w w_bf := (B_af).trans (hb_bf.mono (B_af).size)
  have b0_bf := b0_af.below hb_bf (b0_af).lt
  have b1_bf := b1_af.below hb_bf (b1_af).lt
  have x_bf13 := b0_bf.cell 13 _ rfl
  have x_bf14 := b0_bf.cell 14 _ rfl
  go_wp2
  go_ret
  exact ⟨ret_bool HR.out.symm, B_bf⟩
 case pos =>
 by_cases h_next : r.next = 0
 case neg =>
  have HR : Hid (R = false) := by rw [Hid, HZ.out]; simp [h_oid, h_af, h_bf, h_next]
  have h_oidb : (r.oid == 0) = true := by simp; exact h_oid
  have h_nextb : (r.next == 0) = false := by simp; exact h_next
  clear HZ h_oid h_next
  go_enter Tryz.func52, Tryz.ntmps52
  go_wp2_with fail
  rw [hW.out]
  clear hW
  refine (CA W hbW).mono ?_
  rintro e w_af ⟨rfl, hb_af⟩
  rw [h_af]
  have B_af : Below w.heap.size w w_af := (hbW).trans (hb_af.mono (hbW).size)
  have b0_af := b0.below hb_af (b0).lt
  have b1_af := b1.below hb_af (b1).lt
  have x_af5 := b0_af.cell 5 _ rfl
  have x_af6 := b0_af.cell 6 _ rfl
  have x_af7 := b0_af.cell 7 _ rfl
  have x_af8 := b0_af.cell 8 _ rfl
  have x_af13 := b0_af.cell 13 _ rfl
  have x_af14 := b0_af.cell 14 _ rfl
  have y_af0 := b1_af.cell 0 _ rfl
  have y_af1 := b1_af.cell 1 _ rfl
  have y_af2 := b1_af.cell 2 _ rfl
  have y_af3 := b1_af.cell 3 _ rfl
  go_wp2_with fail
  refine (CB w_af B_af).mono ?_
  rintro e w_bf ⟨rfl, hb_bf⟩
  rw [h_bf]
  have B_bf : Below w.heap.size w w_bf := (B_af).trans (hb_bf.mono (B_af).size)
  have b0_bf := b0_af.below hb_bf (b0_af).lt
  have b1_bf := b1_af.below hb_bf (b1_af).lt
  have x_bf13 := b0_bf.cell 13 _ rfl
  have x_bf14 := b0_bf.cell 14 _ rfl
  go_wp2
  go_ret
  exact ⟨ret_bool HR.out.symm, B_bf⟩
 case pos =>
 by_cases h_txs : r.txs.length = 0
 case neg =>
  have HR : Hid (R = false) := by rw [Hid, HZ.out]; simp [h_oid, h_af, h_bf, h_next, h_txs]
  have h_oidb : (r.oid == 0) = true := by simp; exact h_oid
  have h_nextb : (r.next == 0) = true := by simp; exact h_next
  have h_txsb : ((r.txs.length : Int) == 0) = false := by simp; exact fun e => h_txs (by rw [e]; rfl)
  clear HZ h_oid h_next h_txs
  go_enter Tryz.func52, Tryz.ntmps52
  go_wp2_with fail
  rw [hW.out]
  clear hW
  refine (CA W hbW).mono ?_
  rintro e w_af ⟨rfl, hb_af⟩
  rw [h_af]
  have B_af : Below w.heap.size w w_af := (hbW).trans (hb_af.mono (hbW).size)
  have b0_af := b0.below hb_af (b0).lt
  have b1_af := b1.below hb_af (b1).lt
  have x_af5 := b0_af.cell 5 _ rfl
  have x_af6 := b0_af.cell 6 _ rfl
  have x_af7 := b0_af.cell 7 _ rfl
  have x_af8 := b0_af.cell 8 _ rfl
  have x_af13 := b0_af.cell 13 _ rfl
  have x_af14 := b0_af.cell 14 _ rfl
  have y_af0 := b1_af.cell 0 _ rfl
  have y_af1 := b1_af.cell 1 _ rfl
  have y_af2 := b1_af.cell 2 _ rfl
  have y_af3 := b1_af.cell 3 _ rfl
  go_wp2_with fail
  refine (CB w_af B_af).mono ?_
  rintro e w_bf ⟨rfl, hb_bf⟩
  rw [h_bf]
  have B_bf : Below w.heap.size w w_bf := (B_af).trans (hb_bf.mono (B_af).size)
  have b0_bf := b0_af.below hb_bf (b0_af).lt
  have b1_bf := b1_af.below hb_bf (b1_af).lt
  have x_bf13 := b0_bf.cell 13 _ rfl
  have x_bf14 := b0_bf.cell 14 _ rfl
  go_wp2
  go_ret
  exact ⟨ret_bool HR.out.symm, B_bf⟩
 case pos =>
 have HR : Hid (R = true) := by rw [Hid, HZ.out]; simp [h_oid, h_af, h_bf, h_next, h_txs]
 have h_oidb : (r.oid == 0) = true := by simp; exact h_oid
 have h_nextb : (r.next == 0) = true := by simp; exact h_next
 have h_txsb : ((r.txs.length : Int) == 0) = true := by simp; exact List.length_eq_zero_iff.1 h_txs
 clear HZ h_oid h_next h_txs
 go_enter Tryz.func52, Tryz.ntmps52
 go_wp2_with fail
 rw [hW.out]
 clear hW
 refine (CA W hbW).mono ?_
 rintro e w_af ⟨rfl, hb_af⟩
 rw [h_af]
 have B_af : Below w.heap.size w w_af := (hbW).trans (hb_af.mono (hbW).size)
 have b0_af := b0.below hb_af (b0).lt
 have b1_af := b1.below hb_af (b1).lt
 have x_af5 := b0_af.cell 5 _ rfl
 have x_af6 := b0_af.cell 6 _ rfl
 have x_af7 := b0_af.cell 7 _ rfl
 have x_af8 := b0_af.cell 8 _ rfl
 have x_af13 := b0_af.cell 13 _ rfl
 have x_af14 := b0_af.cell 14 _ rfl
 have y_af0 := b1_af.cell 0 _ rfl
 have y_af1 := b1_af.cell 1 _ rfl
 have y_af2 := b1_af.cell 2 _ rfl
 have y_af3 := b1_af.cell 3 _ rfl
 go_wp2_with fail
 refine (CB w_af B_af).mono ?_
 rintro e w_bf ⟨rfl, hb_bf⟩
 rw [h_bf]
 have B_bf : Below w.heap.size w w_bf := (B_af).trans (hb_bf.mono (B_af).size)
 have b0_bf := b0_af.below hb_bf (b0_af).lt
 have b1_bf := b1_af.below hb_bf (b1_af).lt
 have x_bf13 := b0_bf.cell 13 _ rfl
 have x_bf14 := b0_bf.cell 14 _ rfl
 go_wp2
 go_ret
 exact ⟨ret_bool HR.out.symm, B_bf⟩
def liveOk (lsn : Int) (ls : List LiveV) : Nat → Bool
 | 0 => inB (ls.getD 0 zeroL).tx 1 1000 && inB (ls.getD 0 zeroL).last 1 (lsn - 1)
 | k + 1 => inB (ls.getD (k + 1) zeroL).tx 1 1000 && inB (ls.getD (k + 1) zeroL).last 1 (lsn - 1) && decide ((ls.getD k zeroL).tx < (ls.getD (k + 1) zeroL).tx)
def livesB (lsn : Int) (ls : List LiveV) : Bool := (List.range ls.length).all (liveOk lsn ls) && decide (ls.length ≤ 20)
theorem livesB_no {lsn : Int} {ls : List LiveV} (k : Nat) (hk : k < ls.length) (h : liveOk lsn ls k = false) : livesB lsn ls = false := by
 have : (List.range ls.length).all (liveOk lsn ls) = false := by
  rw [List.all_eq_false]
  exact ⟨k, List.mem_range.2 hk, by rw [h]; decide⟩
 simp [livesB, this]
theorem livesB_all {lsn : Int} {ls : List LiveV} (h : ∀ k, k < ls.length → liveOk lsn ls k = true) : livesB lsn ls = decide (ls.length ≤ 20) := by
 have : (List.range ls.length).all (liveOk lsn ls) = true := by
  rw [List.all_eq_true]
  exact fun k hk => h k (List.mem_range.1 hk)
 simp [livesB, this]
theorem l4Lives_any (r : RecA) (w : World) (hr : ReadsL w r.aL r.txs) (hl : r.txs.length ≤ 1099511627776) (hn : 1 ≤ r.lsn ∧ r.lsn ≤ 1000000) :
  Calls Tryz.prog 53 #[.agg r.cells.toArray] w fun e w' => e = .returned (.bool (livesB r.lsn r.txs)) ∧ Below w.heap.size w w' := by
 obtain ⟨W, hW, b0, hbW, hsW⟩ := boxes1 w r.cells 42
 have HNO : Hid (∀ k, k < r.txs.length → liveOk r.lsn r.txs k = false → livesB r.lsn r.txs = false) := fun k hk h => livesB_no k hk h
 have HAL : Hid ((∀ k, k < r.txs.length → liveOk r.lsn r.txs k = true) → livesB r.lsn r.txs = decide (r.txs.length ≤ 20)) := fun h => livesB_all h
 generalize livesB r.lsn r.txs = R at *
 have hc0 := b0.cell 0 _ rfl
 have hc14 := b0.cell 14 _ rfl
 simp only [RecA.cells] at hW ⊢
 clear hsW b0
 generalize r.lsn = lsn at *
 generalize r.txs = ls at *
 generalize r.aL = aL at *
 have hr' := hr.below hbW
 clear hr
 go_enter Tryz.func53, Tryz.ntmps53
 go_wp2_with fail
 rw [hW.out]
 clear hW
 go_loopw [3] (fun i wr => ∃ k : Nat, k ≤ ls.length ∧ i = .int .i64 k ∧ Hid (∀ j, j < k → liveOk lsn ls j = true) ∧ Below W.heap.size W wr) (fun i _ => ls.length - (intOf i).toNat)
 case atStart => exact ⟨0, Nat.zero_le _, rfl, fun j hj => by omega, Below.refl _ _⟩
 case round =>
  obtain ⟨k, hk, rfl, hall, hbl⟩ := hrel
  have hbm : Below w.heap.size w wr := hbW.trans (hbl.mono hbW.size)
  have r0 := (hbl.cell (block_lt hc0)).trans hc0
  have r14 := (hbl.cell (block_lt hc14)).trans hc14
  have hrr := hr'.below hbl
  clear hc0 hc14 hr'
  by_cases hlt : k < ls.length
  ·obtain ⟨b, off, rfl, hcell⟩ := hrr (by intro e; rw [e] at hlt; simp at hlt)
   obtain ⟨c0, c1, _⟩ := hcell k hlt
   cases k with
   | zero =>
    clear hcell
    simp only [Nat.zero_mul, Nat.add_zero] at c0 c1
    have HL : Hid (liveOk lsn ls 0 = (inB (ls.getD 0 zeroL).tx 1 1000 && inB (ls.getD 0 zeroL).last 1 (lsn - 1))) := rfl
    generalize ls.getD 0 zeroL = z at *
    cases h1 : inB z.tx 1 1000 with
    | false =>
     have HR : Hid (R = false) := HNO.out 0 hlt (by rw [HL.out, h1]; rfl)
     clear HL HNO HAL
     go_wp2
     go_quiet ((go_at_call 27; exact Calls.quiet_of_same (l1In_any _ _ _ _)))
     go_wp2
     go_ret
     exact ⟨ret_bool HR.out.symm, by first | exact below_drewN hbm _ | exact hbm⟩
    | true =>
     cases h2 : inB z.last 1 (lsn - 1) with
     | false =>
      have HR : Hid (R = false) := HNO.out 0 hlt (by rw [HL.out, h1, h2]; rfl)
      clear HL HNO HAL
      go_wp2
      go_quiet ((go_at_call 27; exact Calls.quiet_of_same (l1In_any _ _ _ _)))
      go_wp2
      go_ret
      exact ⟨ret_bool HR.out.symm, by first | exact below_drewN hbm _ | exact hbm⟩
     | true =>
      have HR : Hid (∀ j, j < 1 → liveOk lsn ls j = true) := fun j hj => by
       obtain rfl : j = 0 := by omega
       rw [HL.out, h1, h2]
       rfl
      clear HL HNO HAL
      go_wp2
      go_quiet ((go_at_call 27; exact Calls.quiet_of_same (l1In_any _ _ _ _)))
      go_wp2
      go_roundw
      case rel => exact ⟨1, by omega, by go_num, HR, by first | exact below_drewN hbl _ | exact hbl⟩
      case measure => simp [intOf]; omega
   | succ j =>
    obtain ⟨d0, _, _⟩ := hcell j (by omega)
    clear hcell
    have HL : Hid (liveOk lsn ls (j + 1) = (inB (ls.getD (j + 1) zeroL).tx 1 1000 && inB (ls.getD (j + 1) zeroL).last 1 (lsn - 1) && decide ((ls.getD j zeroL).tx < (ls.getD (j + 1) zeroL).tx))) := rfl
    generalize ls.getD (j + 1) zeroL = z at *
    generalize ls.getD j zeroL = p at *
    cases h1 : inB z.tx 1 1000 with
    | false =>
     have HR : Hid (R = false) := HNO.out (j + 1) hlt (by rw [HL.out, h1]; rfl)
     clear HL HNO HAL
     go_wp2
     go_quiet ((go_at_call 27; exact Calls.quiet_of_same (l1In_any _ _ _ _)))
     go_wp2
     go_ret
     exact ⟨ret_bool HR.out.symm, by first | exact below_drewN hbm _ | exact hbm⟩
    | true =>
     cases h2 : inB z.last 1 (lsn - 1) with
     | false =>
      have HR : Hid (R = false) := HNO.out (j + 1) hlt (by rw [HL.out, h1, h2]; rfl)
      clear HL HNO HAL
      go_wp2
      go_quiet ((go_at_call 27; exact Calls.quiet_of_same (l1In_any _ _ _ _)))
      go_wp2
      go_ret
      exact ⟨ret_bool HR.out.symm, by first | exact below_drewN hbm _ | exact hbm⟩
     | true =>
      by_cases h3 : p.tx < z.tx
      case neg =>
       have HR : Hid (R = false) := HNO.out (j + 1) hlt (by rw [HL.out, h1, h2, decide_eq_false h3]; rfl)
       have h3b : decide (z.tx ≤ p.tx) = true := by simpa using h3
       clear HL HNO HAL
       go_wp2
       go_quiet ((go_at_call 27; exact Calls.quiet_of_same (l1In_any _ _ _ _)))
       go_wp2
       go_ret
       exact ⟨ret_bool HR.out.symm, by first | exact below_drewN hbm _ | exact hbm⟩
      case pos =>
       have HR : Hid (∀ i, i < j + 1 + 1 → liveOk lsn ls i = true) := fun i hi => by
        by_cases e : i = j + 1
        ·rw [e, HL.out, h1, h2, decide_eq_true h3]; rfl
        ·exact hall.out i (by omega)
       have h3b : decide (z.tx ≤ p.tx) = false := by simpa using h3
       clear HL HNO HAL
       go_wp2
       go_quiet ((go_at_call 27; exact Calls.quiet_of_same (l1In_any _ _ _ _)))
       go_wp2
       go_roundw
       case rel => exact ⟨j + 1 + 1, by omega, by go_num, HR, by first | exact below_drewN hbl _ | exact hbl⟩
       case measure => simp [intOf]; omega
  ·have HR : Hid (R = decide ((ls.length : Int) ≤ 20)) := by
    rw [Hid, HAL.out (fun j hj => hall.out j (by omega))]
    simp only [decide_eq_decide]
    omega
   clear HNO HAL
   go_wp2
   go_ret
   exact ⟨ret_bool HR.out.symm, hbm⟩
theorem Box.pslot {w : World} {B : Nat} {v : Value} {ss : List SlotA} {t : TypeId} (b : Box w B (v :: cellsS ss) t) (k : Nat) (hk : k < ss.length) :
  w.cell? ⟨B, 1 + k * 4, none⟩ = some (.bool (ss.getD k zeroS).v.has) ∧ w.cell? ⟨B, 1 + k * 4 + 1, none⟩ = some (.int .i64 (ss.getD k zeroS).v.o.kind) ∧
  w.cell? ⟨B, 1 + k * 4 + 2, none⟩ = some (.slice (ss.getD k zeroS).aI (ss.getD k zeroS).v.o.ints.length (ss.getD k zeroS).cI) ∧ w.cell? ⟨B, 1 + k * 4 + 3, none⟩ = some (.slice (ss.getD k zeroS).aR (ss.getD k zeroS).v.o.refs.length (ss.getD k zeroS).cR) ∧
  (∀ i, w.frozen? ⟨B, i, none⟩ = false) := by
 have key : ∀ j, j < 4 → (v :: cellsS ss)[1 + k * 4 + j]? = (ss.getD k zeroS).cells[j]? := fun j hj => by
  rw [show 1 + k * 4 + j = (k * 4 + j) + 1 by omega, List.getElem?_cons_succ]
  exact cellsS_at ss k j hk hj
 exact ⟨b.cell _ _ (key 0 (by omega)), b.cell _ _ (key 1 (by omega)), b.cell _ _ (key 2 (by omega)), b.cell _ _ (key 3 (by omega)), fun i => b.frozen i⟩
theorem slotB_of (o : ObjV) (a b c : Bool) (h1 : decide (o.kind = 0) = a) (h2 : decide (o.ints.length = 0) = b) (h3 : decide (o.refs.length = 0) = c) : slotB ⟨false, o⟩ = (a && (b && c)) := by
 rw [← h1, ← h2, ← h3]; rfl
theorem l3Slot_any (s : SlotA) (w : World) (hr : s.reads w) (hl : Fit [s]) :
  Calls Tryz.prog 51 #[.agg s.cells.toArray] w fun e w' => e = .returned (.bool (slotB s.v)) ∧ Below w.heap.size w w' := by
 obtain ⟨h1, h2⟩ := hl s (List.mem_singleton.2 rfl)
 obtain ⟨W, hW, b0, hbW, hsW⟩ := boxes1 w s.cells 39
 have hr' : s.reads W := ReadsO.below hr hbW
 obtain ⟨⟨h, o⟩, aI, cI, aR, cR⟩ := s
 simp only [SlotA.cells, SlotA.reads] at *
 cases h with
 | true =>
  have C1 := specObjOk_any o aI cI aR cR W hr' (by omega) (by omega)
  have HE : Hid (slotB ⟨true, o⟩ = okB o) := slotB_has rfl
  generalize slotB ⟨true, o⟩ = R at *
  go_enter Tryz.func51, Tryz.ntmps51
  go_wp2_with fail
  rw [hW.out]
  refine C1.mono ?_
  rintro e w1 ⟨rfl, hb1⟩
  go_wp2
  go_ret
  exact ⟨ret_bool HE.out.symm, hbW.trans (hb1.mono hbW.size)⟩
 | false =>
  have HE := slotB_of o
  generalize slotB ⟨false, o⟩ = R at *
  obtain ⟨k, ints, refs⟩ := o
  obtain ⟨x0, x1, x2, x3, _⟩ := b0.four
  simp only at *
  by_cases hk : k = 0
  case neg =>
   have HR : Hid (R = false) := HE false _ _ (decide_eq_false hk) rfl rfl
   have hkb : (k == 0) = false := by simpa using hk
   clear HE hk
   go_enter Tryz.func51, Tryz.ntmps51
   go_wp2
   go_ret
   exact ⟨ret_bool HR.out.symm, by rw [hW.out]; exact hbW⟩
  case pos =>
  subst hk
  by_cases hi : ints.length = 0
  case neg =>
   have HR : Hid (R = false) := HE true false _ (decide_eq_true rfl) (decide_eq_false hi) rfl
   have hib : ((ints.length : Int) == 0) = false := by simp; exact fun e => hi (by rw [e]; rfl)
   clear HE hi
   go_enter Tryz.func51, Tryz.ntmps51
   go_wp2
   go_ret
   exact ⟨ret_bool HR.out.symm, by rw [hW.out]; exact hbW⟩
  case pos =>
  by_cases hj : refs.length = 0
  case neg =>
   have HR : Hid (R = false) := HE true true false (decide_eq_true rfl) (decide_eq_true hi) (decide_eq_false hj)
   have hib : ((ints.length : Int) == 0) = true := by simp; exact List.length_eq_zero_iff.1 hi
   have hjb : ((refs.length : Int) == 0) = false := by simp; exact fun e => hj (by rw [e]; rfl)
   clear HE hi hj
   go_enter Tryz.func51, Tryz.ntmps51
   go_wp2
   go_ret
   exact ⟨ret_bool HR.out.symm, by rw [hW.out]; exact hbW⟩
  case pos =>
   have HR : Hid (R = true) := HE true true true (decide_eq_true rfl) (decide_eq_true hi) (decide_eq_true hj)
   have hib : ((ints.length : Int) == 0) = true := by simp; exact List.length_eq_zero_iff.1 hi
   have hjb : ((refs.length : Int) == 0) = true := by simp; exact List.length_eq_zero_iff.1 hj
   clear HE hi hj
   go_enter Tryz.func51, Tryz.ntmps51
   go_wp2
   go_ret
   exact ⟨ret_bool HR.out.symm, by rw [hW.out]; exact hbW⟩
def okR (r : RecV) : Bool :=
 inB r.lsn 1 1000000 && (slotB r.bf && (slotB r.af &&
  (if r.kind == 6 then zeroB r false false false false true && livesB r.lsn r.txs
   else inB r.tx 1 1000 && (inB r.prev 0 (r.lsn - 1) &&
   (if r.kind == 1 then zeroB r true true true false false && inB r.oid 1 31
    else if r.kind == 4 then zeroB r true true false true false && (inB r.oid 1 31 && inB r.next 0 (r.lsn - 1))
    else if r.kind == 2 then zeroB r true false false false false
    else if r.kind == 3 then zeroB r true false false false false
    else if r.kind == 5 then zeroB r true false false false false
    else false)))))
theorem inB_both {x l m : Int} (h : inB x l m = true) : l ≤ x ∧ x ≤ m := by simpa [inB] using h
theorem fifteen {w : World} {B : Nat} {x0 x1 x2 x3 x4 x5 x6 x7 x8 x9 x10 x11 x12 x13 x14 : Value} {t : TypeId} (b : Box w B [x0, x1, x2, x3, x4, x5, x6, x7, x8, x9, x10, x11, x12, x13, x14] t) :
  w.cell? ⟨B, 0, none⟩ = some x0 ∧ w.cell? ⟨B, 1, none⟩ = some x1 ∧ w.cell? ⟨B, 2, none⟩ = some x2 ∧ w.cell? ⟨B, 3, none⟩ = some x3 ∧ w.cell? ⟨B, 4, none⟩ = some x4 ∧ w.cell? ⟨B, 5, none⟩ = some x5 ∧ w.cell? ⟨B, 6, none⟩ = some x6 ∧ w.cell? ⟨B, 7, none⟩ = some x7 ∧ w.cell? ⟨B, 8, none⟩ = some x8 ∧ w.cell? ⟨B, 9, none⟩ = some x9 ∧ w.cell? ⟨B, 10, none⟩ = some x10 ∧ w.cell? ⟨B, 11, none⟩ = some x11 ∧ w.cell? ⟨B, 12, none⟩ = some x12 ∧ w.cell? ⟨B, 13, none⟩ = some x13 ∧ w.cell? ⟨B, 14, none⟩ = some x14 :=
 ⟨b.cell 0 _ rfl, b.cell 1 _ rfl, b.cell 2 _ rfl, b.cell 3 _ rfl, b.cell 4 _ rfl, b.cell 5 _ rfl, b.cell 6 _ rfl, b.cell 7 _ rfl, b.cell 8 _ rfl, b.cell 9 _ rfl, b.cell 10 _ rfl, b.cell 11 _ rfl, b.cell 12 _ rfl, b.cell 13 _ rfl, b.cell 14 _ rfl⟩
theorem specRecOk_any (r : RecA) (w : World) (hr : r.reads w) (hl : r.short 1099511627776) :
  Calls Tryz.prog 28 #[.agg r.cells.toArray] w fun e w' => e = .returned (.bool (okR r.v)) ∧ Below w.heap.size w w' := by
 obtain ⟨W, hW, b0, hbW, hsW⟩ := boxes1 w r.cells 42
 have HB : Hid (∀ u, Below w.heap.size w u → Calls _ _ _ _ _) := fun u hu => l3Slot_any r.bf u (ReadsO.below hr.bf hu) (fun s hs => by obtain rfl := List.mem_singleton.1 hs; exact hl.bf)
 have HA : Hid (∀ u, Below w.heap.size w u → Calls _ _ _ _ _) := fun u hu => l3Slot_any r.af u (ReadsO.below hr.af hu) (fun s hs => by obtain rfl := List.mem_singleton.1 hs; exact hl.af)
 have HC : Hid (∀ u, Below w.heap.size w u → Calls _ _ _ _ _) := fun u hu => l4Zero_check r u (hr.below hu) hl
 have HS : Hid (∀ u, Below w.heap.size w u → Calls _ _ _ _ _) := fun u hu => l4Zero_set r u (hr.below hu) hl
 have HK : Hid (∀ u, Below w.heap.size w u → Calls _ _ _ _ _) := fun u hu => l4Zero_back r u (hr.below hu) hl
 have HE : Hid (∀ u, Below w.heap.size w u → Calls _ _ _ _ _) := fun u hu => l4Zero_end r u (hr.below hu) hl
 have HL : Hid (∀ u, Below w.heap.size w u → 1 ≤ r.lsn ∧ r.lsn ≤ 1000000 → Calls _ _ _ _ _) := fun u hu hn => l4Lives_any r u (hr.txs.below hu) hl.txs hn
 have HX : Hid (∀ u, Below W.heap.size W u → Box u w.heap.size r.cells 42) := fun u hu => b0.below hu b0.lt
 have HZ : Hid (okR r.v = (inB r.lsn 1 1000000 && (slotB r.bf.v && (slotB r.af.v &&
  (if r.kind == 6 then zeroB r.v false false false false true && livesB r.lsn r.txs
   else inB r.tx 1 1000 && (inB r.prev 0 (r.lsn - 1) &&
   (if r.kind == 1 then zeroB r.v true true true false false && inB r.oid 1 31
    else if r.kind == 4 then zeroB r.v true true false true false && (inB r.oid 1 31 && inB r.next 0 (r.lsn - 1))
    else if r.kind == 2 then zeroB r.v true false false false false
    else if r.kind == 3 then zeroB r.v true false false false false
    else if r.kind == 5 then zeroB r.v true false false false false
    else false)))))) ) := rfl
 generalize okR r.v = R at *
 clear hsW hr hl b0
 simp only [RecA.cells, SlotA.cells] at *
 go_enter Tryz.func28, Tryz.ntmps28
 go_wp2_with fail
 rw [hW.out]
 clear hW
 obtain ⟨x0, x1, x2, x3, x4, x5, x6, x7, x8, x9, x10, x11, x12, x13, x14⟩ := fifteen (HX.out W (Below.refl _ _))
 have BW : Below W.heap.size W W := Below.refl _ _
 refine (l1In_any _ _ _ W).mono ?_
 rintro e u ⟨rfl, hu⟩
 rw [hu]
 clear hu u
 cases h0 : inB r.lsn 1 1000000 with
 | false =>
  have HR : Hid (R = false) := by rw [Hid, HZ.out]; simp [h0]
  clear HZ
  go_wp2
  go_ret
  exact ⟨ret_bool HR.out.symm, hbW⟩
 | true =>
  have hn := inB_both h0
  go_wp2_with fail
  refine (HB.out W hbW).mono ?_
  clear x0 x1 x2 x3 x4 x5 x6 x7 x8 x9 x10 x11 x12 x13 x14
  rintro e u1 ⟨rfl, hb_u1⟩
  have b_u1 : Below w.heap.size w u1 := (hbW).trans (hb_u1.mono (hbW).size)
  have l_u1 : Below W.heap.size W u1 := (BW).trans (hb_u1.mono (BW).size)
  obtain ⟨x0, x1, x2, x3, x4, x5, x6, x7, x8, x9, x10, x11, x12, x13, x14⟩ := fifteen (HX.out u1 l_u1)
  clear hb_u1
  cases h1 : slotB r.bf.v with
  | false =>
   have HR : Hid (R = false) := by rw [Hid, HZ.out]; simp [h0, h1]
   clear HZ
   go_wp2
   go_ret
   exact ⟨ret_bool HR.out.symm, b_u1⟩
  | true =>
   go_wp2_with fail
   refine (HA.out u1 b_u1).mono ?_
   clear x0 x1 x2 x3 x4 x5 x6 x7 x8 x9 x10 x11 x12 x13 x14
   rintro e u2 ⟨rfl, hb_u2⟩
   have b_u2 : Below w.heap.size w u2 := (b_u1).trans (hb_u2.mono (b_u1).size)
   have l_u2 : Below W.heap.size W u2 := (l_u1).trans (hb_u2.mono (l_u1).size)
   obtain ⟨x0, x1, x2, x3, x4, x5, x6, x7, x8, x9, x10, x11, x12, x13, x14⟩ := fifteen (HX.out u2 l_u2)
   clear hb_u2
   cases h2 : slotB r.af.v with
   | false =>
    have HR : Hid (R = false) := by rw [Hid, HZ.out]; simp [h0, h1, h2]
    clear HZ
    go_wp2
    go_ret
    exact ⟨ret_bool HR.out.symm, b_u2⟩
   | true =>
    cases hk6 : (r.kind == 6) with
    | true =>
     go_wp2_with fail
     refine (HC.out u2 b_u2).mono ?_
     clear x0 x1 x2 x3 x4 x5 x6 x7 x8 x9 x10 x11 x12 x13 x14
     rintro e u3 ⟨rfl, hb_u3⟩
     have b_u3 : Below w.heap.size w u3 := (b_u2).trans (hb_u3.mono (b_u2).size)
     have l_u3 : Below W.heap.size W u3 := (l_u2).trans (hb_u3.mono (l_u2).size)
     obtain ⟨x0, x1, x2, x3, x4, x5, x6, x7, x8, x9, x10, x11, x12, x13, x14⟩ := fifteen (HX.out u3 l_u3)
     clear hb_u3
     cases h3 : zeroB r.v false false false false true with
     | false =>
      have HR : Hid (R = false) := by rw [Hid, HZ.out]; simp [h0, h1, h2, hk6, h3]
      clear HZ
      go_wp2
      go_ret
      exact ⟨ret_bool HR.out.symm, b_u3⟩
     | true =>
      go_wp2_with fail
      refine (HL.out u3 b_u3 hn).mono ?_
      clear x0 x1 x2 x3 x4 x5 x6 x7 x8 x9 x10 x11 x12 x13 x14
      rintro e u4 ⟨rfl, hb_u4⟩
      have b_u4 : Below w.heap.size w u4 := (b_u3).trans (hb_u4.mono (b_u3).size)
      have l_u4 : Below W.heap.size W u4 := (l_u3).trans (hb_u4.mono (l_u3).size)
      obtain ⟨x0, x1, x2, x3, x4, x5, x6, x7, x8, x9, x10, x11, x12, x13, x14⟩ := fifteen (HX.out u4 l_u4)
      clear hb_u4
      cases h4 : livesB r.lsn r.txs with
      | false =>
       have HR : Hid (R = false) := by rw [Hid, HZ.out]; simp [h0, h1, h2, hk6, h3, h4]
       clear HZ
       go_wp2
       go_ret
       exact ⟨ret_bool HR.out.symm, b_u4⟩
      | true =>
       have HR : Hid (R = true) := by rw [Hid, HZ.out]; simp [h0, h1, h2, hk6, h3, h4]
       clear HZ
       go_wp2
       go_ret
       exact ⟨ret_bool HR.out.symm, b_u4⟩
    | false =>
     go_wp2_with fail
     refine (l1In_any _ _ _ u2).mono ?_
     rintro e v ⟨rfl, hv⟩
     rw [hv]
     clear hv v
     cases h3 : inB r.tx 1 1000 with
     | false =>
      have HR : Hid (R = false) := by rw [Hid, HZ.out]; simp [h0, h1, h2, hk6, h3]
      clear HZ
      go_wp2
      go_ret
      exact ⟨ret_bool HR.out.symm, b_u2⟩
     | true =>
      go_wp2_with fail
      refine (l1In_any _ _ _ u2).mono ?_
      rintro e v ⟨rfl, hv⟩
      rw [hv]
      clear hv v
      cases h4 : inB r.prev 0 (r.lsn - 1) with
      | false =>
       have HR : Hid (R = false) := by rw [Hid, HZ.out]; simp [h0, h1, h2, hk6, h3, h4]
       clear HZ
       go_wp2
       go_ret
       exact ⟨ret_bool HR.out.symm, b_u2⟩
      | true =>
       cases hk1 : (r.kind == 1) with
       | true =>
        go_wp2_with fail
        refine (HS.out u2 b_u2).mono ?_
        clear x0 x1 x2 x3 x4 x5 x6 x7 x8 x9 x10 x11 x12 x13 x14
        rintro e u3 ⟨rfl, hb_u3⟩
        have b_u3 : Below w.heap.size w u3 := (b_u2).trans (hb_u3.mono (b_u2).size)
        have l_u3 : Below W.heap.size W u3 := (l_u2).trans (hb_u3.mono (l_u2).size)
        obtain ⟨x0, x1, x2, x3, x4, x5, x6, x7, x8, x9, x10, x11, x12, x13, x14⟩ := fifteen (HX.out u3 l_u3)
        clear hb_u3
        cases h5 : zeroB r.v true true true false false with
        | false =>
         have HR : Hid (R = false) := by rw [Hid, HZ.out]; simp [h0, h1, h2, hk6, h3, h4, hk1, h5]
         clear HZ
         go_wp2
         go_ret
         exact ⟨ret_bool HR.out.symm, b_u3⟩
        | true =>
         go_wp2_with fail
         refine (l1In_any _ _ _ u3).mono ?_
         rintro e v ⟨rfl, hv⟩
         rw [hv]
         clear hv v
         cases h6 : inB r.oid 1 31 with
         | false =>
          have HR : Hid (R = false) := by rw [Hid, HZ.out]; simp [h0, h1, h2, hk6, h3, h4, hk1, h5, h6]
          clear HZ
          go_wp2
          go_ret
          exact ⟨ret_bool HR.out.symm, b_u3⟩
         | true =>
          have HR : Hid (R = true) := by rw [Hid, HZ.out]; simp [h0, h1, h2, hk6, h3, h4, hk1, h5, h6]
          clear HZ
          go_wp2
          go_ret
          exact ⟨ret_bool HR.out.symm, b_u3⟩
       | false =>
        cases hk4 : (r.kind == 4) with
        | true =>
         go_wp2_with fail
         refine (HK.out u2 b_u2).mono ?_
         clear x0 x1 x2 x3 x4 x5 x6 x7 x8 x9 x10 x11 x12 x13 x14
         rintro e u3 ⟨rfl, hb_u3⟩
         have b_u3 : Below w.heap.size w u3 := (b_u2).trans (hb_u3.mono (b_u2).size)
         have l_u3 : Below W.heap.size W u3 := (l_u2).trans (hb_u3.mono (l_u2).size)
         obtain ⟨x0, x1, x2, x3, x4, x5, x6, x7, x8, x9, x10, x11, x12, x13, x14⟩ := fifteen (HX.out u3 l_u3)
         clear hb_u3
         cases h5 : zeroB r.v true true false true false with
         | false =>
          have HR : Hid (R = false) := by rw [Hid, HZ.out]; simp [h0, h1, h2, hk6, h3, h4, hk1, hk4, h5]
          clear HZ
          go_wp2
          go_ret
          exact ⟨ret_bool HR.out.symm, b_u3⟩
         | true =>
          go_wp2_with fail
          refine (l1In_any _ _ _ u3).mono ?_
          rintro e v ⟨rfl, hv⟩
          rw [hv]
          clear hv v
          cases h6 : inB r.oid 1 31 with
          | false =>
           have HR : Hid (R = false) := by rw [Hid, HZ.out]; simp [h0, h1, h2, hk6, h3, h4, hk1, hk4, h5, h6]
           clear HZ
           go_wp2
           go_ret
           exact ⟨ret_bool HR.out.symm, b_u3⟩
          | true =>
           go_wp2_with fail
           refine (l1In_any _ _ _ u3).mono ?_
           rintro e v ⟨rfl, hv⟩
           rw [hv]
           clear hv v
           cases h7 : inB r.next 0 (r.lsn - 1) with
           | false =>
            have HR : Hid (R = false) := by rw [Hid, HZ.out]; simp [h0, h1, h2, hk6, h3, h4, hk1, hk4, h5, h6, h7]
            clear HZ
            go_wp2
            go_ret
            exact ⟨ret_bool HR.out.symm, b_u3⟩
           | true =>
            have HR : Hid (R = true) := by rw [Hid, HZ.out]; simp [h0, h1, h2, hk6, h3, h4, hk1, hk4, h5, h6, h7]
            clear HZ
            go_wp2
            go_ret
            exact ⟨ret_bool HR.out.symm, b_u3⟩
        | false =>
         cases hk2 : (r.kind == 2) with
         | true =>
          go_wp2_with fail
          refine (HE.out u2 b_u2).mono ?_
          clear x0 x1 x2 x3 x4 x5 x6 x7 x8 x9 x10 x11 x12 x13 x14
          rintro e u3 ⟨rfl, hb_u3⟩
          have b_u3 : Below w.heap.size w u3 := (b_u2).trans (hb_u3.mono (b_u2).size)
          have l_u3 : Below W.heap.size W u3 := (l_u2).trans (hb_u3.mono (l_u2).size)
          obtain ⟨x0, x1, x2, x3, x4, x5, x6, x7, x8, x9, x10, x11, x12, x13, x14⟩ := fifteen (HX.out u3 l_u3)
          clear hb_u3
          cases h5 : zeroB r.v true false false false false with
          | false =>
           have HR : Hid (R = false) := by rw [Hid, HZ.out]; simp [h0, h1, h2, hk6, h3, h4, hk1, hk4, hk2, h5]
           clear HZ
           go_wp2
           go_ret
           exact ⟨ret_bool HR.out.symm, b_u3⟩
          | true =>
           have HR : Hid (R = true) := by rw [Hid, HZ.out]; simp [h0, h1, h2, hk6, h3, h4, hk1, hk4, hk2, h5]
           clear HZ
           go_wp2
           go_ret
           exact ⟨ret_bool HR.out.symm, b_u3⟩
         | false =>
          cases hk3 : (r.kind == 3) with
          | true =>
           go_wp2_with fail
           refine (HE.out u2 b_u2).mono ?_
           clear x0 x1 x2 x3 x4 x5 x6 x7 x8 x9 x10 x11 x12 x13 x14
           rintro e u3 ⟨rfl, hb_u3⟩
           have b_u3 : Below w.heap.size w u3 := (b_u2).trans (hb_u3.mono (b_u2).size)
           have l_u3 : Below W.heap.size W u3 := (l_u2).trans (hb_u3.mono (l_u2).size)
           obtain ⟨x0, x1, x2, x3, x4, x5, x6, x7, x8, x9, x10, x11, x12, x13, x14⟩ := fifteen (HX.out u3 l_u3)
           clear hb_u3
           cases h5 : zeroB r.v true false false false false with
           | false =>
            have HR : Hid (R = false) := by rw [Hid, HZ.out]; simp [h0, h1, h2, hk6, h3, h4, hk1, hk4, hk2, hk3, h5]
            clear HZ
            go_wp2
            go_ret
            exact ⟨ret_bool HR.out.symm, b_u3⟩
           | true =>
            have HR : Hid (R = true) := by rw [Hid, HZ.out]; simp [h0, h1, h2, hk6, h3, h4, hk1, hk4, hk2, hk3, h5]
            clear HZ
            go_wp2
            go_ret
            exact ⟨ret_bool HR.out.symm, b_u3⟩
          | false =>
           cases hk5 : (r.kind == 5) with
           | true =>
            go_wp2_with fail
            refine (HE.out u2 b_u2).mono ?_
            clear x0 x1 x2 x3 x4 x5 x6 x7 x8 x9 x10 x11 x12 x13 x14
            rintro e u3 ⟨rfl, hb_u3⟩
            have b_u3 : Below w.heap.size w u3 := (b_u2).trans (hb_u3.mono (b_u2).size)
            have l_u3 : Below W.heap.size W u3 := (l_u2).trans (hb_u3.mono (l_u2).size)
            obtain ⟨x0, x1, x2, x3, x4, x5, x6, x7, x8, x9, x10, x11, x12, x13, x14⟩ := fifteen (HX.out u3 l_u3)
            clear hb_u3
            cases h5 : zeroB r.v true false false false false with
            | false =>
             have HR : Hid (R = false) := by rw [Hid, HZ.out]; simp [h0, h1, h2, hk6, h3, h4, hk1, hk4, hk2, hk3, hk5, h5]
             clear HZ
             go_wp2
             go_ret
             exact ⟨ret_bool HR.out.symm, b_u3⟩
            | true =>
             have HR : Hid (R = true) := by rw [Hid, HZ.out]; simp [h0, h1, h2, hk6, h3, h4, hk1, hk4, hk2, hk3, hk5, h5]
             clear HZ
             go_wp2
             go_ret
             exact ⟨ret_bool HR.out.symm, b_u3⟩
           | false =>
            have HR : Hid (R = false) := by rw [Hid, HZ.out]; simp [h0, h1, h2, hk6, h3, h4, hk1, hk4, hk2, hk3, hk5]
            clear HZ
            go_wp2
            go_ret
            exact ⟨ret_bool HR.out.symm, b_u2⟩
theorem l3PutSlot_any (a : Option Addr) (c : Nat) (xs : List Int) (s : SlotA) (w : World) (hx : Reads w a xs) (hc : a = none → c = 0) (hr : s.reads w) (hl : Fit [s]) (hxl : xs.length ≤ 1000000) :
  Calls Tryz.prog 37 #[.slice a xs.length c, .agg s.cells.toArray] w fun e w' => ∃ a' c' ys, e = .returned (.slice a' ys.length c') ∧ Hid (ys = xs ++ putSlotOf s.v) ∧ OwnB w' w.heap.size a' c' ys ∧ Below w.heap.size w w' := by
 obtain ⟨h1, h2⟩ := hl s (List.mem_singleton.2 rfl)
 obtain ⟨W, hW, b0, hbW, hsW⟩ := boxes1 w s.cells 39
 have C1 := specPutObj_any s.v.o s.aI s.cI s.aR s.cR W (ReadsO.below hr hbW) (by omega) (by omega)
 have HT : Hid (s.v.has = true → putSlotOf s.v = putOf (putObjOf s.v.o).length ++ putObjOf s.v.o) := fun h => by unfold putSlotOf; rw [if_pos h]
 have HF : Hid (s.v.has = false → putSlotOf s.v = putOf 0) := fun h => by unfold putSlotOf; rw [if_neg (by rw [h]; decide)]
 have hpl := putObj_len s.v.o
 have HC : Hid (a = none → c = 0) := hc
 generalize putSlotOf s.v = R at *
 simp only [SlotA.cells] at *
 clear hc
 cases hh : s.v.has with
 | false =>
  have HR : Hid (_ = _) := HF.out hh
  rw [hh] at hW
  clear hh HT HF C1
  go_enter Tryz.func37, Tryz.ntmps37
  go_wp2_with fail
  rw [hW.out]
  refine (specPutInt_any a c xs 0 W (hx.below hbW) HC.out (by omega)).mono ?_
  rintro e w1 ⟨a1, c1, y1, rfl, hy1, ho1, hb1⟩
  have HY : Hid (y1 = xs ++ R) := by rw [Hid, hy1, HR.out]
  clear hy1
  go_wp2
  go_ret
  exact ⟨a1, c1, y1, rfl, HY, ho1.base hbW.size, hbW.trans (hb1.mono hbW.size)⟩
 | true =>
  have HR : Hid (_ = _) := HT.out hh
  rw [hh] at hW
  clear hh HT HF
  go_enter Tryz.func37, Tryz.ntmps37
  go_wp2_with fail
  rw [hW.out]
  refine C1.mono ?_
  clear C1
  rintro e w1 ⟨a1, c1, y1, rfl, HY1, ho1, hb1⟩
  have B1 : Below w.heap.size w w1 := hbW.trans (hb1.mono hbW.size)
  have hyl : y1.length ≤ 1000 := by rw [HY1.out]; exact hpl
  go_wp2_with fail
  refine (specPutInt_any a c xs y1.length w1 (hx.below B1) HC.out (by omega)).mono ?_
  rintro e w2 ⟨a2, c2, y2, rfl, hy2, ho2, hb2⟩
  have HY2 : Hid (y2 = xs ++ putOf y1.length) := hy2
  have hyl2 : y2.length ≤ 1000100 := by have := (putOf_len (y1.length : Int)).2; rw [HY2.out, List.length_append]; omega
  have B2 : Below w.heap.size w w2 := B1.trans (hb2.mono B1.size)
  have ho2' := ho2.base B1.size
  have hr12 := ho1.reads.below hb2
  have hnc := ho1.nocap
  have HNC : Hid (_) := hnc
  have hs2 := B2.size
  clear hy2 hnc
  go_wp2_with (at_builtin; refine append_bytes rfl _ _ rfl w.heap.size a2 c2 y2 rfl ho2' a1 c1 y1 rfl hr12 HNC.out (by omega) hs2 ?_; intro a3 c3 y3 w3 hy3 ho3 hg3)
  have HY : Hid (y3 = xs ++ R) := by rw [Hid, hy3.out, HY2.out, HR.out, HY1.out]; simp only [List.append_assoc]
  go_ret
  exact ⟨a3, c3, y3, rfl, HY, ho3, B2.grown hg3 hs2 (fun k hk => (ho2'.2.lt k hk).1)⟩
def putLive (l : LiveV) : List Int := (putOf l.tx ++ putOf l.last) ++ putOf (if l.aborts then 1 else 0)
def headR (r : RecV) : List Int := [r.lsn, r.tx, r.prev, r.kind, r.oid, r.next]
def bodyR (r : RecV) : List Int := ((((headR r).flatMap putOf ++ putSlotOf r.bf) ++ putSlotOf r.af) ++ putOf r.txs.length) ++ r.txs.flatMap putLive
def putRecOf (r : RecV) : List Int := if okR r then bodyR r else []
theorem putRec_ok {r : RecV} (h : okR r = true) : putRecOf r = bodyR r := by unfold putRecOf; rw [if_pos h]
theorem putRec_no {r : RecV} (h : okR r = false) : putRecOf r = [] := by unfold putRecOf; rw [if_neg (by rw [h]; decide)]
theorem flatN_len (ns : List Int) : (ns.flatMap putOf).length ≤ ns.length * 65 := by
 induction ns with
 | nil => simp
 | cons n r ih => have := (putOf_len n).2; simp only [List.flatMap_cons, List.length_append, List.length_cons]; omega
theorem putLive_len (l : LiveV) : (putLive l).length ≤ 195 := by
 have h1 := (putOf_len l.tx).2
 have h2 := (putOf_len l.last).2
 have h3 := (putOf_len (if l.aborts then 1 else 0)).2
 simp only [putLive, List.length_append]
 omega
theorem flatL_len (ls : List LiveV) : (ls.flatMap putLive).length ≤ ls.length * 195 := by
 induction ls with
 | nil => simp
 | cons n r ih => have := putLive_len n; simp only [List.flatMap_cons, List.length_append, List.length_cons]; omega
theorem flatL_step (ls : List LiveV) (k : Nat) (h : k < ls.length) : (ls.take (k + 1)).flatMap putLive = (ls.take k).flatMap putLive ++ putLive (ls.getD k zeroL) := by
 rw [List.take_add_one, List.flatMap_append]
 simp [List.getD, h]
theorem flatI_step (ns : List Int) (k : Nat) (h : k < ns.length) : (ns.take (k + 1)).flatMap putOf = (ns.take k).flatMap putOf ++ putOf (ns.getD k 0) := by
 rw [List.take_add_one, List.flatMap_append]
 simp [List.getD, h]
theorem okR_txs {r : RecV} (h : okR r = true) : r.txs.length ≤ 20 := by
 unfold okR at h
 simp only [Bool.and_eq_true] at h
 have h4 := h.2.2.2
 by_cases h6 : r.kind == 6
 ·rw [if_pos h6] at h4
  simp [livesB] at h4
  exact h4.2.2
 ·rw [if_neg h6] at h4
  have h5 := (Bool.and_eq_true _ _ ▸ (Bool.and_eq_true _ _ ▸ h4).2).2
  have hz : ∀ a b c d, zeroB r a b c d false = true → r.txs.length ≤ 20 := by
   intro a b c d hz
   simp only [zeroB, Bool.and_eq_true, Bool.false_or, decide_eq_true_eq] at hz
   omega
  split at h5
  ·exact hz _ _ _ _ (Bool.and_eq_true _ _ ▸ h5).1
  ·split at h5
   ·exact hz _ _ _ _ (Bool.and_eq_true _ _ ▸ h5).1
   ·split at h5
    ·exact hz _ _ _ _ h5
    ·split at h5
     ·exact hz _ _ _ _ h5
     ·split at h5
      ·exact hz _ _ _ _ h5
      ·exact absurd h5 (by decide)
theorem specPutRec_any (r : RecA) (w : World) (hr : r.reads w) (hl : r.short 1099511627776) :
  Calls Tryz.prog 15 #[.agg r.cells.toArray] w fun e w' => ∃ a' c' ys, e = .returned (.slice a' ys.length c') ∧ Hid (ys = putRecOf r.v) ∧ OwnB w' w.heap.size a' c' ys ∧ Below w.heap.size w w' := by
 obtain ⟨W, hW, b0, hbW, hsW⟩ := boxes1 w r.cells 42
 have C1 := specRecOk_any r W (hr.below hbW) hl
 have HPT : Hid (okR r.v = true → putRecOf r.v = bodyR r.v) := fun h => putRec_ok h
 have HPF : Hid (okR r.v = false → putRecOf r.v = []) := fun h => putRec_no h
 have HT20 : Hid (okR r.v = true → r.txs.length ≤ 20) := fun h => okR_txs h
 generalize putRecOf r.v = R at *
 have HCL : Hid (r.cells = _) := rfl
 simp only [RecA.cells] at *
 clear hsW
 go_enter Tryz.func15, Tryz.ntmps15
 go_wp2_with fail
 rw [hW.out]
 clear hW
 refine C1.mono ?_
 clear C1
 rintro e w1 ⟨rfl, hb1⟩
 have B1 : Below w.heap.size w w1 := hbW.trans (hb1.mono hbW.size)
 have b1 := b0.below hb1 b0.lt
 clear b0 hb1 hbW
 cases hok : okR r.v with
 | false =>
  have HR : Hid (R = []) := HPF.out hok
  clear hok HPT HPF HT20
  go_wp2
  go_ret
  exact ⟨_, 0, [], rfl, HR.out.symm, (own_lit0 w1).base B1.size, B1.alloc B1.size _⟩
 | true =>
  have HR : Hid (R = bodyR r.v) := HPT.out hok
  have h20 := HT20.out hok
  clear hok HPT HPF HT20
  obtain ⟨W2, hW2, c0, c1, hb2, hs2⟩ := boxes2 w1 [] [.int .i64 r.lsn, .int .i64 r.tx, .int .i64 r.prev, .int .i64 r.kind, .int .i64 r.oid, .int .i64 r.next] 5 3
  have x0 := (b1.alloc (.cells #[] 5)).cell 0 _ rfl
  have x1 := (b1.alloc (.cells #[] 5)).cell 1 _ rfl
  have x2 := (b1.alloc (.cells #[] 5)).cell 2 _ rfl
  have x3 := (b1.alloc (.cells #[] 5)).cell 3 _ rfl
  have x4 := (b1.alloc (.cells #[] 5)).cell 4 _ rfl
  have x13 := (b1.alloc (.cells #[] 5)).cell 13 _ rfl
  have b2 := b1.below hb2 b1.lt
  have B2 : Below w.heap.size w W2 := B1.trans (hb2.mono B1.size)
  have ho2 : OwnB W2 w.heap.size (some ⟨w1.heap.size, 0, none⟩) 0 [] := by
   have h1 := (own_lit0 w1).below (w' := W2) (by rw [← hW2.out]; exact (Below.refl _ _).alloc (Nat.le_refl _) _)
   exact h1.base B1.size
  go_wp2_with fail
  rw [hW2.out]
  clear hW2 x0 x1 x2 x3 x4 x13
  have HN : Hid (headR r.v = [r.lsn, r.tx, r.prev, r.kind, r.oid, r.next]) := rfl
  generalize hns : headR r.v = ns at *
  have c1' : Box W2 (w1.heap.size + 1) (ns.map (Value.int .i64)) 3 := by rw [HN.out]; exact c1
  have hn6 : Hid (ns.length = 6) := by rw [HN.out]; rfl
  clear c1 c0 HN HCL
  go_loopw [3, 5] (fun b i wr => ∃ (a' : Option Addr) (c' : Nat) (ys : List Int) (k : Nat), b = .slice a' ys.length c' ∧ i = .int .i64 k ∧ k ≤ 6 ∧ Hid (ys = (ns.take k).flatMap putOf) ∧ OwnB wr w.heap.size a' c' ys ∧ Below W2.heap.size W2 wr)
   (fun _ i _ => 6 - (intOf i).toNat)
  case atStart => exact ⟨_, 0, [], 0, rfl, rfl, by omega, rfl, ho2, Below.refl _ _⟩
  case round =>
   obtain ⟨a', c', ys, k, rfl, rfl, hk, hy, ho, hbx⟩ := hrel
   clear ho2
   have hbl : Below w.heap.size w wr := B2.trans (hbx.mono B2.size)
   have hyl : ys.length ≤ 1000 := by
    have h1 := flatN_len (ns.take k)
    rw [hy.out]
    rw [List.length_take] at h1
    omega
   by_cases hlt : k < 6
   ·have hkl : k < ns.length := by rw [hn6.out]; exact hlt
    have cr := (c1'.below hbx c1'.lt).cell k (.int .i64 (ns.getD k 0)) (by simp [List.getD, hkl])
    have hi0 : (0 : Int) ≤ (k : Int) := by omega
    have hi4 : (k : Int) < 6 := by omega
    have HF : Hid (_ = _) := flatI_step ns k hkl
    generalize ns.getD k 0 = z at *
    have C := specPutInt_any a' c' ys z wr ho.reads ho.nocap (by omega)
    clear hkl
    go_wp2_with fail
    refine C.mono ?_
    clear C
    rintro e w4 ⟨a4, c4, y4, rfl, hy4, ho4, hb4⟩
    have HY : Hid (y4 = (ns.take (k + 1)).flatMap putOf) := by rw [Hid, hy4, hy.out, HF.out]
    clear hy4
    go_wp2_with fail
    go_roundw
    case rel => exact ⟨a4, c4, y4, k + 1, rfl, by go_num, by omega, HY, ho4.base hbl.size, hbx.trans (hb4.mono hbx.size)⟩
    case measure => simp [intOf]; omega
   ·obtain rfl : k = 6 := by omega
    have hkk : ¬ ((6 : Nat) : Int) < 6 := by omega
    have HY0 : Hid (ys = ns.flatMap putOf) := by rw [Hid, hy.out, List.take_of_length_le (by rw [hn6.out]; omega)]
    have br := b2.below hbx b2.lt
    have hltr := br.lt
    have HRB : Hid (∀ u, Below w.heap.size w u → r.bf.reads u) := fun u hu => ReadsO.below hr.bf hu
    have HRA : Hid (∀ u, Below w.heap.size w u → r.af.reads u) := fun u hu => ReadsO.below hr.af hu
    have HFB : Hid (Fit [r.bf]) := fun s hs => by obtain rfl := List.mem_singleton.1 hs; exact hl.bf
    have HFA : Hid (Fit [r.af]) := fun s hs => by obtain rfl := List.mem_singleton.1 hs; exact hl.af
    have HP1 : Hid (_ ≤ _) := putSlot_len r.bf.v
    have HP2 : Hid (_ ≤ _) := putSlot_len r.af.v
    have hkeep : ∀ u, Below wr.heap.size wr u → u.cell? ⟨w.heap.size, 5, none⟩ = some (.bool r.bf.v.has) ∧ u.cell? ⟨w.heap.size, 6, none⟩ = some (.int .i64 r.bf.v.o.kind) ∧ u.cell? ⟨w.heap.size, 7, none⟩ = some (.slice r.bf.aI r.bf.v.o.ints.length r.bf.cI) ∧ u.cell? ⟨w.heap.size, 8, none⟩ = some (.slice r.bf.aR r.bf.v.o.refs.length r.bf.cR) ∧ u.cell? ⟨w.heap.size, 9, none⟩ = some (.bool r.af.v.has) ∧ u.cell? ⟨w.heap.size, 10, none⟩ = some (.int .i64 r.af.v.o.kind) ∧ u.cell? ⟨w.heap.size, 11, none⟩ = some (.slice r.af.aI r.af.v.o.ints.length r.af.cI) ∧ u.cell? ⟨w.heap.size, 12, none⟩ = some (.slice r.af.aR r.af.v.o.refs.length r.af.cR) ∧ u.cell? ⟨w.heap.size, 14, none⟩ = some (.slice r.aL r.txs.length r.cL) :=
     fun u hh => ⟨(br.below hh hltr).cell 5 _ rfl, (br.below hh hltr).cell 6 _ rfl, (br.below hh hltr).cell 7 _ rfl, (br.below hh hltr).cell 8 _ rfl, (br.below hh hltr).cell 9 _ rfl, (br.below hh hltr).cell 10 _ rfl, (br.below hh hltr).cell 11 _ rfl, (br.below hh hltr).cell 12 _ rfl, (br.below hh hltr).cell 14 _ rfl⟩
    have hh := hkeep wr (Below.refl _ _)
    go_wp2_with fail
    go_region_held3 (fun u => u.cell? ⟨w.heap.size, 5, none⟩ = some (.bool r.bf.v.has) ∧ u.cell? ⟨w.heap.size, 6, none⟩ = some (.int .i64 r.bf.v.o.kind) ∧ u.cell? ⟨w.heap.size, 7, none⟩ = some (.slice r.bf.aI r.bf.v.o.ints.length r.bf.cI) ∧ u.cell? ⟨w.heap.size, 8, none⟩ = some (.slice r.bf.aR r.bf.v.o.refs.length r.bf.cR) ∧ u.cell? ⟨w.heap.size, 9, none⟩ = some (.bool r.af.v.has) ∧ u.cell? ⟨w.heap.size, 10, none⟩ = some (.int .i64 r.af.v.o.kind) ∧ u.cell? ⟨w.heap.size, 11, none⟩ = some (.slice r.af.aI r.af.v.o.ints.length r.af.cI) ∧ u.cell? ⟨w.heap.size, 12, none⟩ = some (.slice r.af.aR r.af.v.o.refs.length r.af.cR) ∧ u.cell? ⟨w.heap.size, 14, none⟩ = some (.slice r.aL r.txs.length r.cL))
     (first | exact hkeep _ hw5 | exact hkeep _ hw4 | exact hkeep _ hw3 | go_keep | fail)
     (first
     | (go_at_call_of 37 (Value.slice a' ys.length c'); refine (l3PutSlot_any a' c' ys r.bf _ (ho.reads.below (Below.refl _ _).drew) ho.nocap (HRB.out _ hbl.drew) HFB.out (by omega)).mono ?_; rintro e w3 ⟨a3, c3, y3, rfl, HY3, ho3, hb3⟩; have hw3 : Below wr.heap.size wr w3 := ((Below.refl wr.heap.size wr).drew).trans (hb3.mono (Nat.le_refl _)); have hl3 : y3.length ≤ 3000 := (by have := HP1.out; rw [HY3.out, List.length_append]; omega))
     | (go_at_call_of 37 (Value.slice a3 y3.length c3); refine (l3PutSlot_any a3 c3 y3 r.af w3 ho3.reads ho3.nocap (HRA.out _ (hbl.trans (hw3.mono hbl.size))) HFA.out (by omega)).mono ?_; rintro e w4 ⟨a4, c4, y4, rfl, HY4, ho4, hb4⟩; have hw4 : Below wr.heap.size wr w4 := hw3.trans (hb4.mono hw3.size); have hl4 : y4.length ≤ 5000 := (by have := HP2.out; rw [HY4.out, List.length_append]; omega))
     | (go_at_call_of 36 (Value.slice a4 y4.length c4); refine (specPutInt_any a4 c4 y4 r.txs.length w4 ho4.reads ho4.nocap (by omega)).mono ?_; rintro e w5 ⟨a5, c5, y5, rfl, hy5, ho5, hb5⟩; have hw5 : Below wr.heap.size wr w5 := hw4.trans (hb5.mono hw4.size); have HY5 : Hid (_ = _) := hy5; clear hy5)
     | fail)
    have B5 : Below w.heap.size w w5 := hbl.trans (hw5.mono hbl.size)
    have b5 := br.below hw5 hltr
    have ho5' : OwnB w5 w.heap.size a5 c5 y5 := ho5.base (Nat.le_trans hbl.size hw4.size)
    obtain ⟨H, hH⟩ : ∃ H, Hid (H = ((ns.flatMap putOf ++ putSlotOf r.bf.v) ++ putSlotOf r.af.v) ++ putOf r.txs.length) := ⟨_, rfl⟩
    have HY : Hid (y5 = H) := by rw [Hid, HY5.out, HY4.out, HY3.out, HY0.out, hH.out]
    have HRR : Hid (R = H ++ r.txs.flatMap putLive) := by rw [Hid, HR.out, hH.out, ← hns]; rfl
    have hHl : H.length ≤ 6000 := by
     have h1 := (putOf_len (r.txs.length : Int)).2
     rw [← HY.out, HY5.out, List.length_append]
     omega
    have hrt := hr.txs
    clear HY5 HY4 HY3 HY0 hH HR hns hn6 hh hkeep ho5 ho4 ho3 hb5 hb4 hb3 hw5 hw4 hw3 hl3 hl4 HP1 HP2 HFA HFB HRA HRB br hltr hbl hbx ho hy hyl hkk c1' b1 b2 B1 B2 hb2 hs2 hl hr hk hlt
    go_wp2_with fail
    go_loopw [3, 6] (fun b i wr => ∃ (a' : Option Addr) (c' : Nat) (ys : List Int) (k : Nat), b = .slice a' ys.length c' ∧ i = .int .i64 k ∧ k ≤ r.txs.length ∧ Hid (ys = H ++ (r.txs.take k).flatMap putLive) ∧ OwnB wr w.heap.size a' c' ys ∧ Below w5.heap.size w5 wr)
     (fun _ i _ => r.txs.length - (intOf i).toNat)
    case atStart => exact ⟨a5, c5, y5, 0, rfl, rfl, by omega, by rw [Hid, HY.out]; simp, ho5', Below.refl _ _⟩
    case round =>
    obtain ⟨a', c', ys, k, rfl, rfl, hk, hy, ho, hbx⟩ := hrel
    clear HY ho5'
    have hbl : Below w.heap.size w wr := B5.trans (hbx.mono B5.size)
    have br := b5.below hbx b5.lt
    have hltr := br.lt
    have d14 := br.cell 14 _ rfl
    have hyl : ys.length ≤ 100000 := by
     have h1 := flatL_len (r.txs.take k)
     rw [hy.out, List.length_append]
     rw [List.length_take] at h1
     omega
    by_cases hlt : k < r.txs.length
    ·obtain ⟨bk, off, haL, hcell⟩ := (hrt.below hbl) (by intro e; rw [e] at hlt; simp at hlt)
     obtain ⟨d0, d1, d2⟩ := hcell k hlt
     have HF : Hid (_ = _) := flatL_step r.txs k hlt
     generalize r.txs.getD k zeroL = z at *
     rw [haL] at d14
     have hkeep : ∀ u, Below wr.heap.size wr u → u.cell? ⟨w.heap.size, 14, none⟩ = some (.slice (some ⟨bk, off, none⟩) r.txs.length r.cL) ∧ u.cell? ⟨bk, off + k * 3, none⟩ = some (.int .i64 z.tx) ∧ u.cell? ⟨bk, off + k * 3 + 1, none⟩ = some (.int .i64 z.last) := fun u hu => ⟨(hu.cell (block_lt d14)).trans d14, (hu.cell (block_lt d0)).trans d0, (hu.cell (block_lt d1)).trans d1⟩
     have hh := hkeep wr (Below.refl _ _)
     clear hcell br b5 haL hrt
     cases hza : z.aborts with
     | false =>
      have HF2 : Hid ((r.txs.take (k + 1)).flatMap putLive = (r.txs.take k).flatMap putLive ++ ((putOf z.tx ++ putOf z.last) ++ putOf 0)) := by rw [Hid, HF.out, putLive, hza]; rfl
      rw [hza] at d2
      clear HF
      go_wp2_with fail
      go_region_held3 (fun u => u.cell? ⟨w.heap.size, 14, none⟩ = some (.slice (some ⟨bk, off, none⟩) r.txs.length r.cL) ∧ u.cell? ⟨bk, off + k * 3, none⟩ = some (.int .i64 z.tx) ∧ u.cell? ⟨bk, off + k * 3 + 1, none⟩ = some (.int .i64 z.last))
       (first | exact hkeep _ hw8 | exact hkeep _ hw7 | exact hkeep _ hw6 | go_keep | fail)
       (first
       | (go_at_call_of 36 (Value.slice a' ys.length c'); refine (specPutInt_any a' c' ys z.tx _ (ho.reads.below (Below.refl _ _).drew) ho.nocap (by omega)).mono ?_; rintro e w6 ⟨a6, c6, y6, rfl, hy6, ho6, hb6⟩; have hw6 : Below wr.heap.size wr w6 := ((Below.refl wr.heap.size wr).drew).trans (hb6.mono (Nat.le_refl _)); have hl6 : y6.length ≤ 200000 := (by have := (putOf_len z.tx).2; rw [hy6, List.length_append]; omega); have HY6 : Hid (_ = _) := hy6; clear hy6)
       | (go_at_call_of 36 (Value.slice a6 y6.length c6); refine (specPutInt_any a6 c6 y6 z.last w6 ho6.reads ho6.nocap (by omega)).mono ?_; rintro e w7 ⟨a7, c7, y7, rfl, hy7, ho7, hb7⟩; have hw7 : Below wr.heap.size wr w7 := hw6.trans (hb7.mono hw6.size); have hl7 : y7.length ≤ 300000 := (by have := (putOf_len z.last).2; rw [hy7, List.length_append]; omega); have HY7 : Hid (_ = _) := hy7; clear hy7)
       | (go_at_call_of 36 (Value.slice a7 y7.length c7); refine (specPutInt_any a7 c7 y7 0 w7 ho7.reads ho7.nocap (by omega)).mono ?_; rintro e w8 ⟨a8, c8, y8, rfl, hy8, ho8, hb8⟩; have hw8 : Below wr.heap.size wr w8 := hw7.trans (hb8.mono hw7.size); have HY8 : Hid (_ = _) := hy8; clear hy8)
       | fail)
      all_goals
       have HY9 : Hid (y8 = H ++ (r.txs.take (k + 1)).flatMap putLive) := by rw [Hid, HY8.out, HY7.out, HY6.out, hy.out, HF2.out]; simp only [List.append_assoc]
       go_wp2_with fail
       go_roundw
       case rel => exact ⟨a8, c8, y8, k + 1, rfl, by go_num, by omega, HY9, ho8.base (Nat.le_trans hbl.size hw7.size), hbx.trans (hw8.mono hbx.size)⟩
       case measure => simp [intOf]; omega
     | true =>
      have HF2 : Hid ((r.txs.take (k + 1)).flatMap putLive = (r.txs.take k).flatMap putLive ++ ((putOf z.tx ++ putOf z.last) ++ putOf 1)) := by rw [Hid, HF.out, putLive, hza]; rfl
      rw [hza] at d2
      clear HF
      go_wp2_with fail
      go_region_held3 (fun u => u.cell? ⟨w.heap.size, 14, none⟩ = some (.slice (some ⟨bk, off, none⟩) r.txs.length r.cL) ∧ u.cell? ⟨bk, off + k * 3, none⟩ = some (.int .i64 z.tx) ∧ u.cell? ⟨bk, off + k * 3 + 1, none⟩ = some (.int .i64 z.last))
       (first | exact hkeep _ hw8 | exact hkeep _ hw7 | exact hkeep _ hw6 | go_keep | fail)
       (first
       | (go_at_call_of 36 (Value.slice a' ys.length c'); refine (specPutInt_any a' c' ys z.tx _ (ho.reads.below (Below.refl _ _).drew) ho.nocap (by omega)).mono ?_; rintro e w6 ⟨a6, c6, y6, rfl, hy6, ho6, hb6⟩; have hw6 : Below wr.heap.size wr w6 := ((Below.refl wr.heap.size wr).drew).trans (hb6.mono (Nat.le_refl _)); have hl6 : y6.length ≤ 200000 := (by have := (putOf_len z.tx).2; rw [hy6, List.length_append]; omega); have HY6 : Hid (_ = _) := hy6; clear hy6)
       | (go_at_call_of 36 (Value.slice a6 y6.length c6); refine (specPutInt_any a6 c6 y6 z.last w6 ho6.reads ho6.nocap (by omega)).mono ?_; rintro e w7 ⟨a7, c7, y7, rfl, hy7, ho7, hb7⟩; have hw7 : Below wr.heap.size wr w7 := hw6.trans (hb7.mono hw6.size); have hl7 : y7.length ≤ 300000 := (by have := (putOf_len z.last).2; rw [hy7, List.length_append]; omega); have HY7 : Hid (_ = _) := hy7; clear hy7)
       | (go_at_call_of 36 (Value.slice a7 y7.length c7); refine (specPutInt_any a7 c7 y7 1 w7 ho7.reads ho7.nocap (by omega)).mono ?_; rintro e w8 ⟨a8, c8, y8, rfl, hy8, ho8, hb8⟩; have hw8 : Below wr.heap.size wr w8 := hw7.trans (hb8.mono hw7.size); have HY8 : Hid (_ = _) := hy8; clear hy8)
       | fail)
      all_goals
       have HY9 : Hid (y8 = H ++ (r.txs.take (k + 1)).flatMap putLive) := by rw [Hid, HY8.out, HY7.out, HY6.out, hy.out, HF2.out]; simp only [List.append_assoc]
       go_wp2_with fail
       go_roundw
       case rel => exact ⟨a8, c8, y8, k + 1, rfl, by go_num, by omega, HY9, ho8.base (Nat.le_trans hbl.size hw7.size), hbx.trans (hw8.mono hbx.size)⟩
       case measure => simp [intOf]; omega
    ·have HE : Hid (ys = R) := by rw [Hid, hy.out, HRR.out, List.take_of_length_le (by omega)]
     go_wp2
     go_ret
     exact ⟨a', c', ys, rfl, HE, ho, hbl⟩
theorem liveOk_bd {lsn : Int} {ls : List LiveV} {k : Nat} (h : liveOk lsn ls k = true) : (1 ≤ (ls.getD k zeroL).tx ∧ (ls.getD k zeroL).tx ≤ 1000) ∧ (1 ≤ (ls.getD k zeroL).last ∧ (ls.getD k zeroL).last < lsn) := by
 cases k with
 | zero => simp only [liveOk, inB, Bool.and_eq_true, decide_eq_true_eq] at h; omega
 | succ k => simp only [liveOk, inB, Bool.and_eq_true, decide_eq_true_eq] at h; omega
theorem livesB_bd {lsn : Int} {ls : List LiveV} (h : livesB lsn ls = true) : ls.length ≤ 20 ∧ ∀ t ∈ ls, (1 ≤ t.tx ∧ t.tx ≤ 1000) ∧ (1 ≤ t.last ∧ t.last < lsn) := by
 simp only [livesB, Bool.and_eq_true, List.all_eq_true, List.mem_range, decide_eq_true_eq] at h
 refine ⟨h.2, fun t ht => ?_⟩
 obtain ⟨k, hk, e⟩ := List.getElem_of_mem ht
 have := liveOk_bd (h.1 k hk)
 rw [show ls.getD k zeroL = t by simp [List.getD, hk, e]] at this
 exact this
structure Bd (r : RecV) : Prop where
 lsn : 1 ≤ r.lsn ∧ r.lsn ≤ 1000000
 bf : slotB r.bf = true
 af : slotB r.af = true
 tx : 0 ≤ r.tx ∧ r.tx ≤ 1000
 prev : 0 ≤ r.prev ∧ r.prev < r.lsn
 kind : 1 ≤ r.kind ∧ r.kind ≤ 6
 oid : 0 ≤ r.oid ∧ r.oid ≤ 31
 next : 0 ≤ r.next ∧ r.next < r.lsn
 txs : r.txs.length ≤ 20
 each : ∀ t ∈ r.txs, (1 ≤ t.tx ∧ t.tx ≤ 1000) ∧ (1 ≤ t.last ∧ t.last < r.lsn)
theorem okR_bd {r : RecV} (h : okR r = true) : Bd r := by
 have h20 := okR_txs h
 unfold okR at h
 simp only [Bool.and_eq_true] at h
 obtain ⟨h1, h2, h3, h4⟩ := h
 simp only [inB, decide_eq_true_eq] at h1
 have hno : ∀ a b c d, zeroB r a b c d false = true → ∀ t ∈ r.txs, (1 ≤ t.tx ∧ t.tx ≤ 1000) ∧ (1 ≤ t.last ∧ t.last < r.lsn) := by
  intro a b c d hz t ht
  simp only [zeroB, Bool.and_eq_true, Bool.false_or, decide_eq_true_eq] at hz
  have := List.length_eq_zero_iff.1 hz.2
  rw [this] at ht; cases ht
 split at h4
 ·rename_i hk
  simp only [Bool.and_eq_true] at h4
  obtain ⟨hz, hl⟩ := h4
  obtain ⟨_, he⟩ := livesB_bd hl
  simp only [zeroB, Bool.and_eq_true, Bool.false_or, Bool.true_or, decide_eq_true_eq, beq_iff_eq] at hz hk
  exact ⟨h1, h2, h3, by omega, by omega, by omega, by omega, by omega, h20, he⟩
 ·simp only [Bool.and_eq_true, inB, decide_eq_true_eq] at h4
  obtain ⟨h5, h6, h7⟩ := h4
  split at h7
  ·rename_i hk
   simp only [Bool.and_eq_true, decide_eq_true_eq] at h7
   obtain ⟨hz, ho⟩ := h7
   have he := hno _ _ _ _ hz
   simp only [zeroB, Bool.and_eq_true, Bool.false_or, Bool.true_or, decide_eq_true_eq, beq_iff_eq] at hz hk
   exact ⟨h1, h2, h3, by omega, by omega, by omega, by omega, by omega, h20, he⟩
  ·split at h7
   ·rename_i hk
    simp only [Bool.and_eq_true, decide_eq_true_eq] at h7
    obtain ⟨hz, ho, hx⟩ := h7
    have he := hno _ _ _ _ hz
    simp only [beq_iff_eq] at hk
    exact ⟨h1, h2, h3, by omega, by omega, by omega, by omega, by omega, h20, he⟩
   ·have fin : zeroB r true false false false false = true → (1 ≤ r.kind ∧ r.kind ≤ 6) → Bd r := fun hz hk => by
     have he := hno _ _ _ _ hz
     simp only [zeroB, Bool.and_eq_true, Bool.false_or, Bool.true_or, decide_eq_true_eq] at hz
     exact ⟨h1, h2, h3, by omega, by omega, by omega, by omega, by omega, h20, he⟩
    split at h7
    ·rename_i hk; exact fin h7 (by simp only [beq_iff_eq] at hk; omega)
    ·split at h7
     ·rename_i hk; exact fin h7 (by simp only [beq_iff_eq] at hk; omega)
     ·split at h7
      ·rename_i hk; exact fin h7 (by simp only [beq_iff_eq] at hk; omega)
      ·cases h7
def liveAt (zs : List Int) (p : Nat) : Option (LiveV × Nat) := match numsAt zs 3 p with
 | some ([a, b, f], q) => if f = 0 then some (⟨a, b, false⟩, q) else if f = 1 then some (⟨a, b, true⟩, q) else none
 | _ => none
def livesAt (zs : List Int) : Nat → Nat → Option (List LiveV × Nat)
 | 0, p => some ([], p)
 | k + 1, p => match liveAt zs p with
  | none => none
  | some (t, q) => match livesAt zs k q with
   | none => none
   | some (l, r) => some (t :: l, r)
def countAt (zs : List Int) (p : Nat) : Option (List LiveV × Nat) := match getAt zs (p : Int) with
 | none => none
 | some (n, q) => if 0 ≤ n ∧ n ≤ 20 then livesAt zs n.toNat q else none
def readR (zs : List Int) : Option RecV := match numsAt zs 6 0 with
 | some ([n, t, v, k, o, x], p) => match slotAt zs p with
  | none => none
  | some (b, q) => match slotAt zs q with
   | none => none
   | some (a, s) => match countAt zs s with
    | none => none
    | some (l, e) => if e = zs.length then some ⟨n, t, v, k, o, b, a, x, l⟩ else none
 | _ => none
theorem liveAt_canon (zs : List Int) (hb : Bytes zs) (p : Nat) (t : LiveV) (q : Nat) (h : liveAt zs p = some (t, q)) (hp : p ≤ zs.length) : zs.drop p = putLive t ++ zs.drop q ∧ q ≤ zs.length := by
 unfold liveAt at h
 split at h
 ·rename_i a b f r hn
  obtain ⟨_, hd, hq⟩ := numsAt_canon zs hb 3 p _ _ hn hp
  split at h
  ·simp only [Option.some.injEq, Prod.mk.injEq] at h
   rename_i hf
   obtain ⟨rfl, rfl⟩ := h
   refine ⟨?_, hq⟩
   rw [hd, hf]
   simp [putLive]
  ·split at h
   ·simp only [Option.some.injEq, Prod.mk.injEq] at h
    rename_i hf
    obtain ⟨rfl, rfl⟩ := h
    refine ⟨?_, hq⟩
    rw [hd, hf]
    simp [putLive]
   ·cases h
 ·cases h
theorem livesAt_canon (zs : List Int) (hb : Bytes zs) (k : Nat) : ∀ (p : Nat) (l : List LiveV) (q : Nat), livesAt zs k p = some (l, q) → p ≤ zs.length → l.length = k ∧ zs.drop p = l.flatMap putLive ++ zs.drop q ∧ q ≤ zs.length := by
 induction k with
 | zero =>
  intro p l q h hp
  simp only [livesAt, Option.some.injEq, Prod.mk.injEq] at h
  obtain ⟨rfl, rfl⟩ := h
  exact ⟨rfl, by simp, hp⟩
 | succ k ih =>
  intro p l q h hp
  simp only [livesAt] at h
  split at h
  ·cases h
  ·rename_i t q1 h1
   obtain ⟨hd, hn⟩ := liveAt_canon zs hb p t q1 h1 hp
   split at h
   ·cases h
   ·rename_i l1 q2 h2
    simp only [Option.some.injEq, Prod.mk.injEq] at h
    obtain ⟨rfl, rfl⟩ := h
    obtain ⟨hl, hd2, h3⟩ := ih q1 l1 q2 h2 hn
    exact ⟨by simp [hl], by rw [hd, hd2]; simp, h3⟩
theorem countAt_canon (zs : List Int) (hb : Bytes zs) (p : Nat) (l : List LiveV) (q : Nat) (h : countAt zs p = some (l, q)) : zs.drop p = putOf l.length ++ l.flatMap putLive ++ zs.drop q ∧ q ≤ zs.length := by
 unfold countAt at h
 split at h
 ·cases h
 ·rename_i n r hg
  obtain ⟨hd, h1, h2⟩ := getAt_canon zs hb p n r hg
  split at h
  ·rename_i hn
   obtain ⟨hl, hd2, h3⟩ := livesAt_canon zs hb _ r l q h h2
   refine ⟨?_, h3⟩
   rw [hd, hd2, show (l.length : Int) = n by omega]
   simp
  ·cases h
theorem readR_canon (zs : List Int) (hb : Bytes zs) (r : RecV) (h : readR zs = some r) : zs = bodyR r := by
 unfold readR at h
 split at h
 ·rename_i n t v k o x p hn
  obtain ⟨_, hd, hp⟩ := numsAt_canon zs hb 6 0 _ _ hn (Nat.zero_le _)
  rw [List.drop_zero] at hd
  split at h
  ·cases h
  ·rename_i b q h1
   obtain ⟨_, hd1, hq⟩ := slotAt_canon zs hb p b q h1
   split at h
   ·cases h
   ·rename_i a s h2
    obtain ⟨_, hd2, hs⟩ := slotAt_canon zs hb q a s h2
    split at h
    ·cases h
    ·rename_i l e h3
     obtain ⟨hd3, he⟩ := countAt_canon zs hb s l e h3
     split at h
     ·rename_i hee
      simp only [Option.some.injEq] at h
      subst h
      conv => lhs; rw [hd, hd1, hd2, hd3, hee, List.drop_length]
      simp [bodyR, headR]
     ·cases h
 ·cases h
theorem readR_slots (zs : List Int) (hb : Bytes zs) (r : RecV) (h : readR zs = some r) : slotB r.bf = true ∧ slotB r.af = true ∧ r.txs.length ≤ 20 := by
 unfold readR at h
 split at h
 ·rename_i n t v k o x p hn
  split at h
  ·cases h
  ·rename_i b q h1
   obtain ⟨hb1, _, hq⟩ := slotAt_canon zs hb p b q h1
   split at h
   ·cases h
   ·rename_i a s h2
    obtain ⟨hb2, _, hs⟩ := slotAt_canon zs hb q a s h2
    split at h
    ·cases h
    ·rename_i l e h3
     split at h
     ·simp only [Option.some.injEq] at h
      subst h
      refine ⟨hb1, hb2, ?_⟩
      unfold countAt at h3
      split at h3
      ·cases h3
      ·rename_i n r hg
       obtain ⟨_, _, h2⟩ := getAt_canon zs hb s n r hg
       split at h3
       ·rename_i hn
        obtain ⟨hl, _⟩ := livesAt_canon zs hb _ r l e h3 h2
        simp only
        omega
       ·cases h3
     ·cases h
 ·cases h
theorem liveAt_back (pre rest : List Int) (t : LiveV) (h : (1 ≤ t.tx ∧ t.tx ≤ 1000) ∧ (1 ≤ t.last ∧ t.last < 1000000)) : liveAt (pre ++ putLive t ++ rest) pre.length = some (t, (pre ++ putLive t).length) := by
 obtain ⟨a, b, f⟩ := t
 have e : putLive ⟨a, b, f⟩ = [a, b, if f then 1 else 0].flatMap putOf := by simp [putLive]
 simp only at h
 have := numsAt_back [a, b, if f then 1 else 0] pre rest (by
  intro z hz
  simp only [List.mem_cons, List.not_mem_nil, or_false] at hz
  rcases hz with rfl | rfl | rfl
  ·omega
  ·omega
  ·split <;> omega)
 rw [e]
 unfold liveAt
 rw [show (3 : Nat) = [a, b, if f then (1 : Int) else 0].length from rfl, this]
 cases f <;> simp
theorem livesAt_back (l : List LiveV) : ∀ (pre rest : List Int), (∀ t ∈ l, (1 ≤ t.tx ∧ t.tx ≤ 1000) ∧ (1 ≤ t.last ∧ t.last < 1000000)) → livesAt (pre ++ l.flatMap putLive ++ rest) l.length pre.length = some (l, (pre ++ l.flatMap putLive).length) := by
 induction l with
 | nil => intro pre rest _; simp [livesAt]
 | cons z r ih =>
  intro pre rest h
  have hz := h z (by simp)
  have e : pre ++ (z :: r).flatMap putLive ++ rest = (pre ++ putLive z) ++ r.flatMap putLive ++ rest := by simp
  have e2 : pre ++ (z :: r).flatMap putLive ++ rest = pre ++ putLive z ++ (r.flatMap putLive ++ rest) := by simp
  rw [List.length_cons, livesAt, e2, liveAt_back pre _ z hz]
  simp only
  rw [← e2, e, ih (pre ++ putLive z) rest (fun y hy => h y (by simp [hy]))]
  simp
theorem readR_eq {zs : List Int} {n t v k o x : Int} {p q s : Nat} {b a : SlotV} {l : List LiveV} (h0 : numsAt zs 6 0 = some ([n, t, v, k, o, x], p)) (h1 : slotAt zs p = some (b, q)) (h2 : slotAt zs q = some (a, s)) (h3 : countAt zs s = some (l, zs.length)) : readR zs = some ⟨n, t, v, k, o, b, a, x, l⟩ := by
 unfold readR
 rw [h0]; simp only
 rw [h1]; simp only
 rw [h2]; simp only
 rw [h3]; simp only
 rw [if_pos trivial]
theorem readR_back (r : RecV) (h : okR r = true) : readR (bodyR r) = some r := by
 have d := okR_bd h
 have e0 : bodyR r = [] ++ (headR r).flatMap putOf ++ (putSlotOf r.bf ++ putSlotOf r.af ++ putOf r.txs.length ++ r.txs.flatMap putLive) := by simp [bodyR]
 have h0 := numsAt_back (headR r) [] (putSlotOf r.bf ++ putSlotOf r.af ++ putOf r.txs.length ++ r.txs.flatMap putLive) (by
  intro z hz
  simp only [headR, List.mem_cons, List.not_mem_nil, or_false] at hz
  have := d.lsn; have := d.tx; have := d.prev; have := d.kind; have := d.oid; have := d.next
  rcases hz with rfl | rfl | rfl | rfl | rfl | rfl <;> omega)
 rw [← e0] at h0
 have e1 : bodyR r = (headR r).flatMap putOf ++ putSlotOf r.bf ++ (putSlotOf r.af ++ putOf r.txs.length ++ r.txs.flatMap putLive) := by simp [bodyR]
 have h1 := slotAt_back ((headR r).flatMap putOf) (putSlotOf r.af ++ putOf r.txs.length ++ r.txs.flatMap putLive) r.bf d.bf
 rw [← e1] at h1
 have e2 : bodyR r = ((headR r).flatMap putOf ++ putSlotOf r.bf) ++ putSlotOf r.af ++ (putOf r.txs.length ++ r.txs.flatMap putLive) := by simp [bodyR]
 have h2 := slotAt_back ((headR r).flatMap putOf ++ putSlotOf r.bf) (putOf r.txs.length ++ r.txs.flatMap putLive) r.af d.af
 rw [← e2] at h2
 have e3 : bodyR r = ((headR r).flatMap putOf ++ putSlotOf r.bf ++ putSlotOf r.af) ++ putOf r.txs.length ++ r.txs.flatMap putLive := by simp [bodyR]
 have d20 := d.txs
 have h3 := getAt_back ((headR r).flatMap putOf ++ putSlotOf r.bf ++ putSlotOf r.af) (r.txs.flatMap putLive) (r.txs.length : Int) (by omega)
 rw [← e3] at h3
 have e4 : bodyR r = (((headR r).flatMap putOf ++ putSlotOf r.bf ++ putSlotOf r.af) ++ putOf r.txs.length) ++ r.txs.flatMap putLive ++ [] := by simp [bodyR]
 have h4 := livesAt_back r.txs (((headR r).flatMap putOf ++ putSlotOf r.bf ++ putSlotOf r.af) ++ putOf r.txs.length) [] (fun t ht => by have := d.each t ht; have := d.lsn; omega)
 rw [← e4] at h4
 have hc : countAt (bodyR r) ((headR r).flatMap putOf ++ putSlotOf r.bf ++ putSlotOf r.af).length = some (r.txs, (bodyR r).length) := by
  unfold countAt
  rw [h3]
  simp only
  rw [if_pos (by omega), Int.toNat_natCast, h4]
  conv => rhs; rw [e4]
  simp
 exact readR_eq (n := r.lsn) (t := r.tx) (v := r.prev) (k := r.kind) (o := r.oid) (x := r.next) h0 h1 h2 hc
def liveNext (zs : List Int) (s : Int × Bool) : LiveV × (Int × Bool) :=
 (⟨(nextOf zs s).1, (nextOf zs (nextOf zs s).2).1, (nextOf zs (nextOf zs (nextOf zs s).2).2).1 == 1⟩, (nextOf zs (nextOf zs (nextOf zs s).2).2).2)
def livesOf (zs : List Int) : Nat → List LiveV → Int × Bool → List LiveV × (Int × Bool)
 | 0, l, s => (l, s)
 | k + 1, l, s => if s.2 then (l, s) else livesOf zs k (l ++ [(liveNext zs s).1]) (liveNext zs s).2
def stR (zs : List Int) : Nat → Int × Bool
 | 0 => (0, false)
 | k + 1 => (nextOf zs (stR zs k)).2
def valR (zs : List Int) (k : Nat) : Int := (nextOf zs (stR zs k)).1
def sB (zs : List Int) : SlotV × (Int × Bool) := nextSlotOf zs (stR zs 6)
def sA (zs : List Int) : SlotV × (Int × Bool) := nextSlotOf zs (sB zs).2
def sN (zs : List Int) : Int × (Int × Bool) := nextOf zs (sA zs).2
def sL (zs : List Int) : List LiveV × (Int × Bool) := livesOf zs (min (sN zs).1.toNat 30) [] (sN zs).2
def recR (zs : List Int) : RecV := ⟨valR zs 0, valR zs 1, valR zs 2, valR zs 3, valR zs 4, (sB zs).1, (sA zs).1, valR zs 5, (sL zs).1⟩
theorem liveNext_back (pre rest : List Int) (t : LiveV) (h : (1 ≤ t.tx ∧ t.tx ≤ 1000) ∧ (1 ≤ t.last ∧ t.last < 1000000)) : liveNext (pre ++ putLive t ++ rest) ((pre.length : Int), false) = (t, (((pre ++ putLive t).length : Int), false)) := by
 obtain ⟨a, b, f⟩ := t
 simp only at h
 have hf : -1000000 ≤ (if f then (1 : Int) else 0) ∧ (if f then (1 : Int) else 0) ≤ 1000000 := by split <;> omega
 have e1 : pre ++ putLive ⟨a, b, f⟩ ++ rest = pre ++ putOf a ++ (putOf b ++ putOf (if f then 1 else 0) ++ rest) := by simp [putLive]
 have e2 : pre ++ putLive ⟨a, b, f⟩ ++ rest = (pre ++ putOf a) ++ putOf b ++ (putOf (if f then 1 else 0) ++ rest) := by simp [putLive]
 have e3 : pre ++ putLive ⟨a, b, f⟩ ++ rest = (pre ++ putOf a ++ putOf b) ++ putOf (if f then 1 else 0) ++ rest := by simp [putLive]
 have n1 := next_back pre (putOf b ++ putOf (if f then 1 else 0) ++ rest) a (by omega)
 have n2 := next_back (pre ++ putOf a) (putOf (if f then 1 else 0) ++ rest) b (by omega)
 have n3 := next_back (pre ++ putOf a ++ putOf b) rest (if f then 1 else 0) hf
 rw [← e1] at n1
 rw [← e2] at n2
 rw [← e3] at n3
 unfold liveNext
 rw [n1]; simp only
 rw [n2]; simp only
 rw [n3]
 cases f <;> simp [putLive]
theorem livesOf_back (l : List LiveV) : ∀ (pre rest : List Int) (acc : List LiveV), (∀ t ∈ l, (1 ≤ t.tx ∧ t.tx ≤ 1000) ∧ (1 ≤ t.last ∧ t.last < 1000000)) → livesOf (pre ++ l.flatMap putLive ++ rest) l.length acc ((pre.length : Int), false) = (acc ++ l, (((pre ++ l.flatMap putLive).length : Int), false)) := by
 induction l with
 | nil => intro pre rest acc _; simp [livesOf]
 | cons z r ih =>
  intro pre rest acc h
  have hz := h z (by simp)
  have e : pre ++ (z :: r).flatMap putLive ++ rest = (pre ++ putLive z) ++ r.flatMap putLive ++ rest := by simp
  have e2 : pre ++ (z :: r).flatMap putLive ++ rest = pre ++ putLive z ++ (r.flatMap putLive ++ rest) := by simp
  rw [List.length_cons, livesOf, e2, liveNext_back pre _ z hz]
  simp only [Bool.false_eq_true, if_false]
  rw [← e2, e, ih (pre ++ putLive z) rest _ (fun y hy => h y (by simp [hy]))]
  simp
theorem stR_back (l : List Int) (rest : List Int) (h : ∀ z ∈ l, -1000000 ≤ z ∧ z ≤ 1000000) : ∀ k, k ≤ l.length → stR (l.flatMap putOf ++ rest) k = ((((l.take k).flatMap putOf).length : Int), false) := by
 intro k
 induction k with
 | zero => intro _; simp [stR]
 | succ k ih =>
  intro hk
  have hi := ih (by omega)
  have hz : l.getD k 0 ∈ l := by simp [List.getD, show k < l.length by omega]
  have e : l.flatMap putOf ++ rest = (l.take k).flatMap putOf ++ putOf (l.getD k 0) ++ ((l.drop (k + 1)).flatMap putOf ++ rest) := by
   conv => lhs; rw [← List.take_append_drop (k + 1) l]
   rw [List.flatMap_append, flatI_step l k (by omega)]
   simp
  have n := next_back ((l.take k).flatMap putOf) ((l.drop (k + 1)).flatMap putOf ++ rest) (l.getD k 0) (h _ hz)
  rw [← e] at n
  rw [stR, hi, n, flatI_step l k (by omega)]
theorem valR_back (l : List Int) (rest : List Int) (h : ∀ z ∈ l, -1000000 ≤ z ∧ z ≤ 1000000) (k : Nat) (hk : k < l.length) : valR (l.flatMap putOf ++ rest) k = l.getD k 0 := by
 have hi := stR_back l rest h k (by omega)
 have hz : l.getD k 0 ∈ l := by simp [List.getD, hk]
 have e : l.flatMap putOf ++ rest = (l.take k).flatMap putOf ++ putOf (l.getD k 0) ++ ((l.drop (k + 1)).flatMap putOf ++ rest) := by
  conv => lhs; rw [← List.take_append_drop (k + 1) l]
  rw [List.flatMap_append, flatI_step l k hk]
  simp
 have n := next_back ((l.take k).flatMap putOf) ((l.drop (k + 1)).flatMap putOf ++ rest) (l.getD k 0) (h _ hz)
 rw [← e] at n
 rw [valR, hi, n]
theorem recR_back (r : RecV) (h : okR r = true) : recR (bodyR r) = r ∧ (sL (bodyR r)).2.2 = false := by
 have d := okR_bd h
 have hz : ∀ z ∈ headR r, -1000000 ≤ z ∧ z ≤ 1000000 := by
  intro z hz
  simp only [headR, List.mem_cons, List.not_mem_nil, or_false] at hz
  have := d.lsn; have := d.tx; have := d.prev; have := d.kind; have := d.oid; have := d.next
  rcases hz with rfl | rfl | rfl | rfl | rfl | rfl <;> omega
 have e0 : bodyR r = (headR r).flatMap putOf ++ (putSlotOf r.bf ++ putSlotOf r.af ++ putOf r.txs.length ++ r.txs.flatMap putLive) := by simp [bodyR]
 have h6 := stR_back (headR r) (putSlotOf r.bf ++ putSlotOf r.af ++ putOf r.txs.length ++ r.txs.flatMap putLive) hz 6 (Nat.le_refl _)
 have hv := valR_back (headR r) (putSlotOf r.bf ++ putSlotOf r.af ++ putOf r.txs.length ++ r.txs.flatMap putLive) hz
 rw [← e0] at h6 hv
 rw [show (headR r).take 6 = headR r from rfl] at h6
 have e1 : bodyR r = (headR r).flatMap putOf ++ putSlotOf r.bf ++ (putSlotOf r.af ++ putOf r.txs.length ++ r.txs.flatMap putLive) := by simp [bodyR]
 have h1 := nextSlot_back ((headR r).flatMap putOf) (putSlotOf r.af ++ putOf r.txs.length ++ r.txs.flatMap putLive) r.bf d.bf
 rw [← e1] at h1
 have hB := (congrArg (nextSlotOf (bodyR r)) h6).trans h1
 change sB (bodyR r) = _ at hB
 have e2 : bodyR r = ((headR r).flatMap putOf ++ putSlotOf r.bf) ++ putSlotOf r.af ++ (putOf r.txs.length ++ r.txs.flatMap putLive) := by simp [bodyR]
 have h2 := nextSlot_back ((headR r).flatMap putOf ++ putSlotOf r.bf) (putOf r.txs.length ++ r.txs.flatMap putLive) r.af d.af
 rw [← e2] at h2
 have hA := (congrArg (fun z => nextSlotOf (bodyR r) z.2) hB).trans h2
 change sA (bodyR r) = _ at hA
 have e3 : bodyR r = ((headR r).flatMap putOf ++ putSlotOf r.bf ++ putSlotOf r.af) ++ putOf r.txs.length ++ r.txs.flatMap putLive := by simp [bodyR]
 have d20 := d.txs
 have h3 := next_back ((headR r).flatMap putOf ++ putSlotOf r.bf ++ putSlotOf r.af) (r.txs.flatMap putLive) (r.txs.length : Int) (by omega)
 rw [← e3] at h3
 have hN := (congrArg (fun z => nextOf (bodyR r) z.2) hA).trans h3
 change sN (bodyR r) = _ at hN
 have e4 : bodyR r = (((headR r).flatMap putOf ++ putSlotOf r.bf ++ putSlotOf r.af) ++ putOf r.txs.length) ++ r.txs.flatMap putLive ++ [] := by simp [bodyR]
 have h4 := livesOf_back r.txs (((headR r).flatMap putOf ++ putSlotOf r.bf ++ putSlotOf r.af) ++ putOf r.txs.length) [] [] (fun t ht => by have := d.each t ht; have := d.lsn; omega)
 rw [← e4] at h4
 have hm : min (r.txs.length : Int).toNat 30 = r.txs.length := by rw [Int.toNat_natCast]; exact Nat.min_eq_left (by omega)
 have hL : sL (bodyR r) = livesOf (bodyR r) r.txs.length [] ((((headR r).flatMap putOf ++ putSlotOf r.bf ++ putSlotOf r.af ++ putOf r.txs.length).length : Int), false) := by
  unfold sL
  rw [hN]
  simp only [hm]
 rw [h4] at hL
 constructor
 ·unfold recR
  rw [hv 0 (show 0 < 6 by decide), hv 1 (show 1 < 6 by decide), hv 2 (show 2 < 6 by decide), hv 3 (show 3 < 6 by decide), hv 4 (show 4 < 6 by decide), hv 5 (show 5 < 6 by decide), hB, hA, hL]
  rfl
 ·rw [hL]
def getR (zs : List Int) : Option RecV := if (sL zs).2.2 = false ∧ okR (recR zs) = true ∧ putRecOf (recR zs) = zs then some (recR zs) else none
def noR : RecV := ⟨0, 0, 0, 0, 0, noS, noS, 0, []⟩
def pairR (zs : List Int) : RecV × Bool := match getR zs with
 | some x => (x, true)
 | none => (noR, false)
theorem getR_some {zs : List Int} {r : RecV} (h1 : okR r = true) (h2 : putRecOf r = zs) : getR zs = some r := by
 have e : bodyR r = zs := by rw [← h2, putRec_ok h1]
 obtain ⟨h3, h4⟩ := recR_back r h1
 rw [e] at h3 h4
 unfold getR
 rw [if_pos ⟨h4, by rw [h3]; exact h1, by rw [h3]; exact h2⟩, h3]
theorem getR_none {zs : List Int} (h : ¬ ∃ r, okR r = true ∧ putRecOf r = zs) : getR zs = none := by
 unfold getR
 rw [if_neg]
 rintro ⟨_, h1, h2⟩
 exact h ⟨_, h1, h2⟩
theorem pairR_none {zs : List Int} (h : readR zs = none) : pairR zs = (noR, false) := by
 have : getR zs = none := getR_none (by
  rintro ⟨r, h1, h2⟩
  rw [putRec_ok h1] at h2
  rw [← h2, readR_back r h1] at h
  cases h)
 unfold pairR; rw [this]
theorem pairR_wrong {zs : List Int} {r : RecV} (h : readR zs = some r) (hok : okR r = false) : pairR zs = (noR, false) := by
 have : getR zs = none := getR_none (by
  rintro ⟨r', h1, h2⟩
  rw [putRec_ok h1] at h2
  rw [← h2, readR_back r' h1] at h
  simp only [Option.some.injEq] at h
  subst h
  rw [h1] at hok
  cases hok)
 unfold pairR; rw [this]
theorem pairR_some {zs : List Int} (hb : Bytes zs) {r : RecV} (h : readR zs = some r) (hok : okR r = true) : pairR zs = (r, true) := by
 have hc := readR_canon zs hb r h
 have : getR zs = some r := getR_some hok (by rw [putRec_ok hok]; exact hc.symm)
 unfold pairR; rw [this]
end Go.Proofs.YtickiokdcbeefaaGreatDoor
namespace Go.Proofs.YtickiokdcbeefaaGreatDoor
open Go.RowKit
theorem equalInts_any (a b : Option Addr) (ca cb : Nat) (xs ys : List Int) (w : World) (ha : ReadsI w a xs) (hb : ReadsI w b ys) (hl : xs.length ≤ 1099511627776) (hl2 : ys.length ≤ 1099511627776) :
  Calls Tryz.prog 117 #[.slice a xs.length ca, .slice b ys.length cb] w fun e w' => e = .returned (.bool (decide (xs = ys))) ∧ ∃ n, w' = w.drewN n := by
 by_cases hle : xs.length = ys.length
 case neg =>
  have HE : Hid (_ = _) := ne_len hle
  have hle' : ((xs.length : Int) == (ys.length : Int)) = false := by simp; omega
  go_enter Tryz.func117, Tryz.ntmps117
  go_wp2
  go_ret
  exact ⟨ret_bool HE.out.symm, 0, rfl⟩
 case pos =>
 have HL : Hid (xs.length = ys.length) := hle
 have hle' : ((xs.length : Int) == (ys.length : Int)) = true := by simp; omega
 rcases ha.cases with rfl | ⟨b1, o1, rfl, hpos, hc1⟩
 ·obtain rfl : ys = [] := List.length_eq_zero_iff.1 (by simpa using hle.symm)
  have HE : Hid (decide (([] : List Int) = []) = true) := by simp [Hid]
  clear hle hle' HL
  go_enter Tryz.func117, Tryz.ntmps117
  go_wp2
  refine wp_loop_rounds 1 ?_
  rw [rounds_succ]
  go_wp2
  go_ret
  exact ⟨ret_bool HE.out.symm, 0, rfl⟩
 ·rcases hb.cases with rfl | ⟨b2, o2, rfl, _, hc2⟩
  ·simp at hle; simp [hle] at hpos
  ·clear hle
   go_enter Tryz.func117, Tryz.ntmps117
   go_wp2
   go_loopw [13] (fun i wr => ∃ k : Nat, k ≤ xs.length ∧ i = .int .i64 k ∧ Hid (∀ t, t < k → xs.getD t 0 = ys.getD t 0) ∧ ∃ n, wr = w.drewN n) (fun i _ => xs.length - (intOf i).toNat)
   case atStart => exact ⟨0, Nat.zero_le _, rfl, fun t ht => by omega, 0, rfl⟩
   case round =>
    obtain ⟨k, hk, rfl, hall, n, rfl⟩ := hrel
    by_cases hlt : k < xs.length
    ·have h1 := hc1 k hlt
     have h2 := hc2 k (by have := HL.out; omega)
     have hlt2 : (k : Int) < (ys.length : Int) := by have := HL.out; omega
     clear hc1 hc2
     by_cases hz : xs.getD k 0 = ys.getD k 0
     ·have HN : Hid (∀ t, t < k + 1 → xs.getD t 0 = ys.getD t 0) := by
       intro t ht
       by_cases e : t = k
       ·rw [e]; exact hz
       ·exact hall.out t (by omega)
      rw [← hz] at h2
      clear hz
      generalize xs.getD k 0 = z at *
      go_wp2
      go_quiet (fail)
      go_wp2
      go_roundw
      case rel => exact ⟨k + 1, by omega, by go_num, HN, _, rfl⟩
      case measure => simp [intOf]; omega
     ·have HE : Hid (_ = _) := ne_at k hz
      have hzb : (xs.getD k 0 == ys.getD k 0) = false := by simpa using hz
      clear hz
      generalize xs.getD k 0 = z at *
      generalize ys.getD k 0 = y at *
      go_wp2
      go_quiet (fail)
      go_wp2
      go_ret
      exact ⟨ret_bool HE.out.symm, n + nq, by first | rfl | simp⟩
    ·have HE : Hid (_ = _) := eq_all HL.out (fun t ht => hall.out t (by omega))
     go_wp2
     go_ret
     exact ⟨ret_bool HE.out.symm, n, rfl⟩
theorem implSameObj_any (o p : ObjV) (aI : Option Addr) (cI : Nat) (aR : Option Addr) (cR : Nat) (bI : Option Addr) (dI : Nat) (bR : Option Addr) (dR : Nat) (w : World) (ha : ReadsO w aI cI aR cR o) (hb : ReadsO w bI dI bR dR p) (h1 : o.ints.length ≤ 1099511627776) (h2 : o.refs.length ≤ 1099511627776) (h3 : p.ints.length ≤ 1099511627776) (h4 : p.refs.length ≤ 1099511627776) :
  Calls Tryz.prog 102 #[.agg #[.int .i64 o.kind, .slice aI o.ints.length cI, .slice aR o.refs.length cR], .agg #[.int .i64 p.kind, .slice bI p.ints.length dI, .slice bR p.refs.length dR]] w fun e w' => e = .returned (.bool (sameO o p)) ∧ Below w.heap.size w w' := by
 obtain ⟨k, ints, refs⟩ := o
 obtain ⟨k', ints', refs'⟩ := p
 obtain ⟨haI, haR, _, _⟩ := ha
 obtain ⟨hbI, hbR, _, _⟩ := hb
 simp only at *
 obtain ⟨W, hW, b0, b1, hbW, hsW⟩ := boxes2 w [.int .i64 k, .slice aI ints.length cI, .slice aR refs.length cR] [.int .i64 k', .slice bI ints'.length dI, .slice bR refs'.length dR] 37 37
 by_cases hk : k = k'
 case neg =>
  have HE : Hid (sameO ⟨k, ints, refs⟩ ⟨k', ints', refs'⟩ = false) := by simp [Hid, sameO, hk]
  have hkb : (k == k') = false := by simpa using hk
  clear hk
  go_enter Tryz.func102, Tryz.ntmps102
  go_wp2
  go_ret
  exact ⟨ret_bool HE.out.symm, by rw [hW.out]; exact hbW⟩
 case pos =>
 subst hk
 have HE : Hid (sameO ⟨k, ints, refs⟩ ⟨k, ints', refs'⟩ = (decide (ints = ints') && decide (refs = refs'))) := by simp [Hid, sameO]
 go_enter Tryz.func102, Tryz.ntmps102
 go_wp2_with fail
 rw [hW.out]
 refine (equalInts_any aI bI cI dI ints ints' W (haI.below hbW) (hbI.below hbW) h1 h3).mono ?_
 rintro e w1 ⟨rfl, n1, rfl⟩
 have c0 := (b0.drewN n1).cell 2 _ rfl
 have c1 := (b1.drewN n1).cell 2 _ rfl
 have hb1 : Below w.heap.size w (W.drewN n1) := below_drewN hbW n1
 cases hd : decide (ints = ints') with
 | false =>
  rw [hd] at HE
  clear hd
  go_wp2
  go_ret
  exact ⟨ret_bool (by rw [HE.out]; rfl), hb1⟩
 | true =>
  rw [hd] at HE
  clear hd
  go_wp2_with fail
  refine (equalInts_any aR bR cR dR refs refs' (W.drewN n1) (haR.below hb1) (hbR.below hb1) h2 h4).mono ?_
  rintro e w2 ⟨rfl, n2, rfl⟩
  generalize decide (refs = refs') = D at *
  go_wp2
  go_ret
  exact ⟨ret_bool (by rw [HE.out]; rfl), below_drewN hbW (n1 + n2)⟩
end Go.Proofs.YtickiokdcbeefaaGreatDoor