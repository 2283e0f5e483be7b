/- Several texts in one, in their order. -/
import Derived.Test.YtdibmepjbabnnabGreatDoorPart4
import Derived.Test.YtdibmepjbabnnabGreatDoorProg
import Derived.Test.YtdibmepjbabnnabGreatDoorPart1
import Derived.Test.YtdibmepjbabnnabGreatDoorPart3
import Derived.Test.YtdibmepjbabnnabGreatDoorPart2
/- The walk of spec.l2Same. -/
namespace Go.Proofs.YtdibmepjbabnnabGreatDoor
open Go.RowKit

end Go.Proofs.YtdibmepjbabnnabGreatDoor

/- The walk of spec.GetObj. -/
namespace Go.Proofs.YtdibmepjbabnnabGreatDoor
open Go.RowKit

end Go.Proofs.YtdibmepjbabnnabGreatDoor

/- The walks of impl.unfoldSign and impl.joinGroups. -/
namespace Go.Proofs.YtdibmepjbabnnabGreatDoor
open Go.RowKit

theorem unzig_even (m : Nat) (h : (m : Int) % 2 = 0) : unzig m = (m : Int) / 2 := by unfold unzig; rw [if_pos (by omega)]; omega
theorem unzig_odd (m : Nat) (h : ¬ (m : Int) % 2 = 0) : unzig m = -((m : Int) / 2) - 1 := by unfold unzig; rw [if_neg (by omega)]; omega

set_option maxHeartbeats 400000 in
theorem unfoldSign_any (m : Nat) (w : World) (hm : m ≤ 4398046511104) :
    Calls Tryz.prog 67 #[.int .i64 m] w fun e w' => e = .returned (.int .i64 (unzig m)) ∧ w' = w := by
  by_cases ho : (m : Int) % 2 = 0
  · have HU : Hid (_ = _) := unzig_even m ho
    go_enter Tryz.func67, Tryz.ntmps67
    go_wp2
    go_ret
    exact ⟨ret_int HU.out.symm, rfl⟩
  · have HU : Hid (_ = _) := unzig_odd m ho
    have ho' : ((m : Int) % 2 == 0) = false := by simp; omega
    go_enter Tryz.func67, Tryz.ntmps67
    go_wp2
    go_ret
    exact ⟨ret_int HU.out.symm, rfl⟩

/-- May these groups be a number's? -/
def fits (G : List Int) : Prop := G.length ≤ 6 ∧ ¬ (1 < G.length ∧ G.getD (G.length - 1) 0 = 0)

theorem shl_go (c j : Nat) (hj : j < 6) : wrap64 ((c : Int) % 128 * 2 ^ (7 * j)) = (((c % 128) * 128 ^ j : Nat) : Int) ∧ (c % 128) * 128 ^ j ≤ 4398046511104 := by
  have e7 : (128 : Nat) ^ j = 2 ^ (7 * j) := by rw [Nat.pow_mul]
  have hp : (128 : Nat) ^ j ≤ 128 ^ 5 := Nat.pow_le_pow_right (by omega) (by omega)
  have h5 : (128 : Nat) ^ 5 = 34359738368 := by decide
  have hb : (c % 128) * 128 ^ j ≤ 127 * 34359738368 := Nat.mul_le_mul (by omega) (by omega)
  have e : ((c : Int) % 128 * 2 ^ (7 * j)) = (((c % 128) * 128 ^ j : Nat) : Int) := by
    rw [e7]; simp
  rw [e]
  constructor
  · unfold wrap64; omega
  · omega

set_option maxHeartbeats 400000 in
theorem joinGroups_no (a : Option Addr) (c : Nat) (G : List Int) (w : World) (hr : Reads w a G) (hl : G.length ≤ 6) (hf : ¬ fits G) :
    Calls Tryz.prog 66 #[.slice a G.length c] w fun e w' => e = .returned (.tuple #[.int .i64 0, .bool false]) ∧ w' = w := by
  have h2 : 1 < G.length ∧ G.getD (G.length - 1) 0 = 0 := by
    by_cases h : 1 < G.length ∧ G.getD (G.length - 1) 0 = 0
    · exact h
    · exact absurd ⟨by omega, h⟩ hf
  rcases hr.cases with rfl | ⟨b, off, rfl, hpos, hcell⟩
  · simp at h2
  have hc := hcell (G.length - 1) (by omega)
  rw [h2.2] at hc
  have h3 := h2.1
  have hgt : (0 : Int) < (G.length : Int) - 1 := by omega
  have hcc : w.cell? ⟨b, off + ((G.length : Int) - 1).toNat, none⟩ = some (.int .u8 0) := by
    rw [show ((G.length : Int) - 1).toNat = G.length - 1 from by omega]; exact hc
  clear hf h2 hcell
  go_enter Tryz.func66, Tryz.ntmps66
  go_wp2
  go_ret2
  exact ⟨rfl, rfl⟩

theorem join_end (m v : Nat) (h : m = v) : Ending.returned (.tuple #[.int .i64 (m : Int), .bool (decide ((m : Int) ≤ 2000000000000))]) = .returned (.tuple #[.int .i64 ((v : Nat) : Int), .bool (decide (v ≤ 2000000000000))]) := by
  subst h
  have e : decide ((m : Int) ≤ 2000000000000) = decide (m ≤ 2000000000000) := decide_eq_decide.2 (by omega)
  rw [e]

set_option maxHeartbeats 400000 in
theorem joinGroups_yes (a : Option Addr) (c : Nat) (G : List Int) (w : World) (hr : Reads w a G) (h1 : 1 ≤ G.length) (hf : fits G) :
    Calls Tryz.prog 66 #[.slice a G.length c] w fun e w' => e = .returned (.tuple #[.int .i64 (valOf G : Nat), .bool (decide (valOf G ≤ 2000000000000))]) ∧ w' = w := by
  have hby := hr.byte
  rcases hr.cases with rfl | ⟨b, off, rfl, hpos, hcell⟩
  · simp at h1
  obtain ⟨h6, h2⟩ := hf
  have hc := hcell (G.length - 1) (by omega)
  obtain ⟨hn, hn2⟩ := bytes_nat hby (G.length - 1)
  have hcc : w.cell? ⟨b, off + ((G.length : Int) - 1).toNat, none⟩ = some (.int .u8 ((G.getD (G.length - 1) 0).toNat : Int)) := by
    rw [show ((G.length : Int) - 1).toNat = G.length - 1 from by omega, ← hn]; exact hc
  have hcs : G.length < 2 ∨ (1 < G.length ∧ (((G.getD (G.length - 1) 0).toNat : Int) == 0) = false) := by
    by_cases e : 1 < G.length
    · refine .inr ⟨e, ?_⟩
      have : ¬ G.getD (G.length - 1) 0 = 0 := fun h => h2 ⟨e, h⟩
      simp only [beq_eq_false_iff_ne, ne_eq]
      omega
    · exact .inl (by omega)
  have HTA : Hid (valOf (G.take G.length) = valOf G) := by rw [Hid, List.take_of_length_le (Nat.le_refl _)]
  rw [hn] at hc
  generalize (G.getD (G.length - 1) 0).toNat = last at *
  clear hn h2
  rcases hcs with hlt | ⟨hgt, hnz⟩
  all_goals
    go_enter Tryz.func66, Tryz.ntmps66
    go_wp2
    go_loop [5, 22] (fun m i => ∃ k : Nat, k ≤ G.length ∧ i = .int .i64 k ∧ m = .int .i64 (valOf (G.take k) : Nat)) (fun _ i => G.length - (intOf i).toNat)
    case atStart => exact ⟨0, by omega, rfl, rfl⟩
    case round =>
      obtain ⟨k, hk, rfl, rfl⟩ := hrel
      have hm := (valOf_take_lt G k (by omega)).1
      by_cases hlt : k < G.length
      · have hck := hcell k hlt
        obtain ⟨hkn, hkn2⟩ := bytes_nat hby k
        have HV : Hid (_ = _) := valOf_take G k hlt
        rw [hkn] at hck
        have HT : Hid ((G.getD k 0 % 128).toNat = (G.getD k 0).toNat % 128) := by rw [Hid]; omega
        clear hkn hcell hby
        generalize (G.getD k 0).toNat = cc at *
        obtain ⟨hsh, hshl⟩ := shl_go cc k (by omega)
        have HV2 : Hid (valOf (G.take (k + 1)) = valOf (G.take k) + cc % 128 * 128 ^ k) := by rw [Hid, HV.out, HT.out]
        clear HV HT
        generalize cc % 128 * 128 ^ k = t at *
        generalize valOf (G.take k) = m at *
        go_wp2
        go_round
        case rel => exact ⟨k + 1, by omega, by go_num, by rw [HV2.out]; go_num⟩
        case measure => simp [intOf]; omega
      · have HE : Hid (valOf (G.take k) = valOf G) := by
          have e : k = G.length := by omega
          rw [e]; exact HTA
        generalize valOf (G.take k) = m at *
        go_wp2
        go_ret2
        exact ⟨join_end _ _ HE.out, rfl⟩
end Go.Proofs.YtdibmepjbabnnabGreatDoor

/- The walk of impl.countGroups. -/
namespace Go.Proofs.YtdibmepjbabnnabGreatDoor
open Go.RowKit

/-- How many groups are counted: those that say more, up to six, and one. -/
def countOf (L : List Int) : Nat := min (lead L) 6 + 1

theorem countOf_go (L : List Int) (j : Nat) (hj : j ≤ 6) (hl : j ≤ L.length) (hall : ∀ i, i < j → 128 ≤ L.getD i 0) (hs : j = 6 ∨ j = L.length ∨ (j < L.length ∧ L.getD j 0 < 128)) : countOf L = j + 1 := by
  have h1 := lead_ge j L hl hall
  have h2 := lead_le L
  unfold countOf
  rcases hs with h | h | ⟨h, h'⟩
  · omega
  · omega
  · have := lead_stop j L h h'
    omega

set_option maxHeartbeats 400000 in
set_option maxRecDepth 100000 in
theorem countGroups_any (a : Option Addr) (c : Nat) (zs : List Int) (w : World) (hr : Reads w a zs) (hl : zs.length ≤ 70368744177664) :
    Calls Tryz.prog 65 #[.slice a zs.length c] w fun e w' => e = .returned (.int .i64 (countOf zs : Nat)) ∧ w' = w := by
  have hby := hr.byte
  rcases hr.cases with rfl | ⟨b, off, rfl, hpos, hcell⟩
  · go_enter Tryz.func65, Tryz.ntmps65
    go_wp2
    refine wp_loop_rounds 1 ?_
    rw [rounds_succ]
    go_wp2
    go_ret
    exact ⟨rfl, rfl⟩
  go_enter Tryz.func65, Tryz.ntmps65
  go_wp2
  go_loop [3] (fun i => ∃ j : Nat, j ≤ 6 ∧ j ≤ zs.length ∧ i = .int .i64 ((j + 1 : Nat) : Int) ∧ Hid (∀ i, i < j → 128 ≤ zs.getD i 0)) (fun i => 7 - (intOf i).toNat)
  case atStart => exact ⟨0, by omega, by omega, rfl, fun i hi => by omega⟩
  case round =>
    obtain ⟨j, hj6, hjl, rfl, hall⟩ := hrel
    by_cases hm : (zs.length : Int) < 6
    all_goals
    by_cases h6 : j < 6
    · by_cases hlt : j < zs.length
      · have hc := hcell j hlt
        obtain ⟨hn, hn2⟩ := bytes_nat hby j
        have HCC : Hid (zs.getD j 0 = ((zs.getD j 0).toNat : Int)) := hn
        rw [hn] at hc
        clear hn
        generalize (zs.getD j 0).toNat = cc at *
        by_cases hcc : 128 ≤ cc
        · have HN : Hid (∀ i, i < j + 1 → 128 ≤ zs.getD i 0) := by
            intro i hi
            by_cases e : i = j
            · rw [e, HCC.out]; omega
            · exact hall.out i (by omega)
          clear hcell hby
          go_wp2
          go_round
          case rel => exact ⟨j + 1, by omega, by omega, by go_num, HN⟩
          case measure => simp [intOf]; omega
        · have HE : Hid (countOf zs = j + 1) := countOf_go zs j hj6 hjl hall.out (.inr (.inr ⟨hlt, by rw [HCC.out]; omega⟩))
          clear hcell hby
          go_wp2
          go_ret
          exact ⟨ret_int (by rw [HE.out]; omega), rfl⟩
      · have HE : Hid (countOf zs = j + 1) := countOf_go zs j hj6 hjl hall.out (.inr (.inl (by omega)))
        clear hcell hby
        go_wp2
        all_goals go_ret
        all_goals exact ⟨ret_int (by rw [HE.out]; omega), rfl⟩
    · have HE : Hid (countOf zs = j + 1) := countOf_go zs j hj6 hjl hall.out (.inl (by omega))
      clear hcell hby
      go_wp2
      all_goals go_ret
      all_goals exact ⟨ret_int (by rw [HE.out]; omega), rfl⟩
end Go.Proofs.YtdibmepjbabnnabGreatDoor

/- The walk of impl.scanInt. -/
namespace Go.Proofs.YtdibmepjbabnnabGreatDoor
open Go.RowKit

/-- What scanInt answers where there is a number. -/
def scanOk (r : Int × Nat) : Value := .tuple #[.int .i64 r.1, .int .i64 (r.2 : Nat), .int .i64 0]
/-- Why there is none: 1: the bytes end within fewer than six groups; 3: else. -/
def scanWhy (zs : List Int) (p : Int) : Int := if 0 ≤ p ∧ p ≤ zs.length ∧ lead (zs.drop p.toNat) = zs.length - p.toNat ∧ lead (zs.drop p.toNat) < 6 then 1 else 3
def scanOf (zs : List Int) (p : Int) : Value := match getAt zs p with
  | some r => scanOk r
  | none => .tuple #[.int .i64 0, .int .i64 0, .int .i64 (scanWhy zs p)]

theorem scan_none (zs : List Int) (p : Int) (h : getAt zs p = none) (c : Int) (hc : scanWhy zs p = c) : scanOf zs p = .tuple #[.int .i64 0, .int .i64 0, .int .i64 c] := by
  unfold scanOf; rw [h, hc]

theorem scan_got {zs : List Int} {q j v : Nat} (hA : getAt zs q = (getOf (zs.drop q)).map fun r => (r.1, q + r.2)) (hG : getOf (zs.drop q) = some (unzig v, j + 1)) :
    Ending.returned (.tuple #[.int .i64 (unzig v), .int .i64 ((q : Int) + (j : Int) + 1), .int .i64 0]) = .returned (scanOf zs q) := by
  unfold scanOf
  rw [hA, hG]
  simp only [Option.map_some, scanOk]
  rw [show ((q + (j + 1) : Nat) : Int) = (q : Int) + (j : Int) + 1 from by omega]

theorem reads_part {w : World} {b off : Nat} {zs : List Int} (hby : ∀ z ∈ zs, 0 ≤ z ∧ z < 256) (hcell : ∀ i, i < zs.length → w.cell? ⟨b, off + i, none⟩ = some (.int .u8 (zs.getD i 0))) (q k : Nat) (h : q + k ≤ zs.length) :
    Reads w (some ⟨b, off + q, none⟩) ((zs.drop q).take k) := by
  refine ⟨fun z hz => hby z (List.mem_of_mem_drop (List.mem_of_mem_take hz)), fun _ => ⟨b, off + q, rfl, fun i hi => ?_⟩⟩
  have hi' : i < k := by simp at hi; omega
  rw [Nat.add_assoc, hcell (q + i) (by omega)]
  have : ((zs.drop q).take k).getD i 0 = zs.getD (q + i) 0 := by simp [List.getD, hi']
  rw [this]

theorem reads_slice {w : World} {a : Option Addr} {zs : List Int} (hr : Reads w a zs) (q k : Nat) (h : q + k ≤ zs.length) : Reads w (a.map fun x => x.add q) ((zs.drop q).take k) := by
  rcases hr.cases with rfl | ⟨b, off, rfl, hpos, hcell⟩
  · exact ⟨by simp, by simp⟩
  · have := reads_part hr.byte hcell q k h
    have e : (⟨b, off, none⟩ : Addr).add q = ⟨b, off + q, none⟩ := by unfold Addr.add; split <;> simp_all
    rw [Option.map_some, e]
    exact this

theorem reads_from {w : World} {b off : Nat} {zs : List Int} (hby : ∀ z ∈ zs, 0 ≤ z ∧ z < 256) (hcell : ∀ i, i < zs.length → w.cell? ⟨b, off + i, none⟩ = some (.int .u8 (zs.getD i 0))) (q : Nat) (h : q ≤ zs.length) :
    Reads w (some ⟨b, off + q, none⟩) (zs.drop q) := by
  have := reads_part hby hcell q (zs.length - q) (by omega)
  rwa [List.take_of_length_le (by simp)] at this

set_option maxHeartbeats 1000000 in
set_option maxRecDepth 100000 in
theorem scanInt_any (a : Option Addr) (c : Nat) (zs : List Int) (p : Int) (w : World) (hr : Reads w a zs) (hl : zs.length ≤ 70368744177664) (hcap : zs.length ≤ c) :
    Calls Tryz.prog 51 #[.slice a zs.length c, .int .i64 p] w fun e w' => e = .returned (scanOf zs p) ∧ w' = w := by
  by_cases h0 : p < 0
  · have HG : Hid (_ = _) := scan_none zs p (getAt_neg zs p h0) 3 (by unfold scanWhy; rw [if_neg (by omega)])
    go_enter Tryz.func51, Tryz.ntmps51
    go_wp2
    go_ret3
    exact ⟨by rw [HG.out]; rfl, rfl⟩
  by_cases h1 : (zs.length : Int) < p
  · have HG : Hid (_ = _) := scan_none zs p (getAt_past zs p (by omega)) 3 (by unfold scanWhy; rw [if_neg (by omega)])
    go_enter Tryz.func51, Tryz.ntmps51
    go_wp2
    go_ret3
    exact ⟨by rw [HG.out]; rfl, rfl⟩
  obtain ⟨q, rfl⟩ := Int.eq_ofNat_of_zero_le (show 0 ≤ p from by omega)
  have hq : q ≤ zs.length := by omega
  have hby := hr.byte
  have HA : Hid (_ = _) := getAt_nat zs q
  have hLl : (zs.drop q).length = zs.length - q := List.length_drop
  clear h0 h1
  by_cases hck : c = q
  · have hle : (zs.length : Int) - (q : Int) < 1 := by omega
    have he : zs.drop q = [] := List.length_eq_zero_iff.1 (by omega)
    have HX : Hid (scanOf zs q = .tuple #[.int .i64 0, .int .i64 0, .int .i64 1]) := by
      refine scan_none zs q (by rw [HA.out, he]; rfl) 1 ?_
      unfold scanWhy
      rw [if_pos ⟨by omega, by omega, by rw [Int.toNat_natCast, he]; simp [lead]; omega, by rw [Int.toNat_natCast, he]; simp [lead]⟩]
    have hcg := countGroups_any a 0 [] w ⟨by simp, by simp⟩ (by simp)
    clear he HA hLl hby
    subst hck
    go_enter Tryz.func51, Tryz.ntmps51
    go_wp2_with fail
    refine hcg.mono ?_
    rintro e w' ⟨rfl, rfl⟩
    rw [show ((countOf [] : Nat) : Int) = 1 from rfl]
    go_wp2
    go_ret3
    exact ⟨by rw [HX.out]; rfl, rfl⟩
  have hrp : Reads w (a.map fun x => x.add q) (zs.drop q) := by
    have := reads_slice hr q (zs.length - q) (by omega)
    rwa [List.take_of_length_le (by omega)] at this
  have hcg := fun c' => countGroups_any (a.map fun x => x.add q) c' (zs.drop q) w hrp (by omega)
  rw [hLl] at hcg
  have HRS : Hid (∀ k, q + k ≤ zs.length → Reads w (a.map fun x => x.add q) ((zs.drop q).take k)) := fun k h => reads_slice hr q k h
  have HGT : Hid (6 < countOf (zs.drop q) → scanOf zs q = .tuple #[.int .i64 0, .int .i64 0, .int .i64 3]) := by
    intro h
    have h6 : 6 ≤ lead (zs.drop q) := by unfold countOf at h; omega
    refine scan_none zs q (by rw [HA.out, getOf_none _ (.inr (.inl h6))]; rfl) 3 ?_
    unfold scanWhy
    rw [if_neg]
    rintro ⟨_, _, _, h'⟩
    rw [Int.toNat_natCast] at h'
    omega
  have HEN : Hid (countOf (zs.drop q) ≤ 6 → zs.length - q < countOf (zs.drop q) → scanOf zs q = .tuple #[.int .i64 0, .int .i64 0, .int .i64 1]) := by
    intro h h'
    have hle := lead_le (zs.drop q)
    have h6 : lead (zs.drop q) = (zs.drop q).length := by unfold countOf at h h'; omega
    refine scan_none zs q (by rw [HA.out, getOf_none _ (.inl h6)]; rfl) 1 ?_
    unfold scanWhy
    rw [if_pos ⟨by omega, by omega, by rw [Int.toNat_natCast]; omega, by rw [Int.toNat_natCast]; unfold countOf at h; omega⟩]
  have HLD : Hid (countOf (zs.drop q) ≤ 6 → countOf (zs.drop q) ≤ zs.length - q → lead (zs.drop q) + 1 = countOf (zs.drop q)) := by
    intro h h'
    unfold countOf at h ⊢; omega
  have HPS : Hid (1 ≤ countOf (zs.drop q)) := by unfold countOf; rw [Hid]; omega
  generalize countOf (zs.drop q) = n at *
  by_cases h6 : 6 < n
  · have HX : Hid (_ = _) := HGT.out h6
    go_enter Tryz.func51, Tryz.ntmps51
    go_wp2_with fail
    refine (hcg _).mono ?_
    rintro e w' ⟨rfl, rfl⟩
    go_wp2
    go_ret3
    exact ⟨by rw [HX.out]; rfl, rfl⟩
  by_cases hen : zs.length - q < n
  · have HX : Hid (_ = _) := HEN.out (by omega) hen
    have hen' : (zs.length : Int) - (q : Int) < n := by omega
    go_enter Tryz.func51, Tryz.ntmps51
    go_wp2_with fail
    refine (hcg _).mono ?_
    rintro e w' ⟨rfl, rfl⟩
    go_wp2
    go_ret3
    exact ⟨by rw [HX.out]; rfl, rfl⟩
  obtain ⟨j, rfl⟩ : ∃ j, n = j + 1 := ⟨n - 1, by have := HPS.out; omega⟩
  have hen' : ¬ (zs.length : Int) - (q : Int) < ((j + 1 : Nat) : Int) := by omega
  have HLE : Hid (lead (zs.drop q) = j) := by have := HLD.out (by omega) (by omega); rw [Hid]; omega
  have hrG := HRS.out (j + 1) (by omega)
  have hgl : ((zs.drop q).take (j + 1)).length = j + 1 := by simp; omega
  have hgz : ((zs.drop q).take (j + 1)).getD j 0 = (zs.drop q).getD j 0 := by simp [List.getD]
  have HW : Hid (j < zs.length - q → scanWhy zs q = 3) := by intro hj; unfold scanWhy; rw [if_neg]; rintro ⟨_, _, h, _⟩; rw [Int.toNat_natCast, HLE.out] at h; omega
  have HN1 : Hid (getOf (zs.drop q) = none → scanOf zs q = .tuple #[.int .i64 0, .int .i64 0, .int .i64 3]) := fun h => scan_none zs q (by rw [HA.out, h]; rfl) 3 (HW.out (by omega))
  have HSm : Hid (_ → _ → _ → _ = _) := getOf_some (zs.drop q) j HLE.out (by omega)
  have HZ : Hid (_ → _) := getOf_none (zs.drop q)
  rw [HLE.out] at HZ
  have HQ : Hid (fits ((zs.drop q).take (j + 1)) ↔ ¬ (0 < j ∧ (zs.drop q).getD j 0 = 0)) := by
    unfold fits; rw [Hid, hgl, Nat.add_sub_cancel, hgz]
    constructor
    · rintro ⟨h1, h2⟩; exact fun h => h2 ⟨by omega, h.2⟩
    · rintro h2; exact ⟨by omega, fun h => h2 ⟨by omega, h.2⟩⟩
  have hv : valOf ((zs.drop q).take (j + 1)) < 4398046511104 := (valOf_take_lt (zs.drop q) (j + 1) (by omega)).1
  have HGL : Hid (j + 1 = ((zs.drop q).take (j + 1)).length) := by rw [Hid, hgl]
  have hg1 : 1 ≤ ((zs.drop q).take (j + 1)).length := by rw [hgl]; omega
  have hg2 : ((zs.drop q).take (j + 1)).length ≤ 6 := by rw [hgl]; omega
  clear hgl hgz HGT HEN HLD HRS HPS HW
  by_cases hfit : fits ((zs.drop q).take (j + 1))
  · have HB : Hid (_ → _) := HSm.out (by omega) (HQ.out.1 hfit)
    clear HSm HQ
    generalize (zs.drop q).take (j + 1) = G at *
    by_cases hbd : valOf G ≤ 2000000000000
    · have HG : Hid (_ = _) := HB.out hbd
      go_enter Tryz.func51, Tryz.ntmps51
      go_wp2_with fail
      refine (hcg _).mono ?_
      rintro e w' ⟨rfl, rfl⟩
      go_wp2_with fail
      rw [HGL.out]
      refine (joinGroups_yes _ _ G _ hrG hg1 hfit).mono ?_
      rintro e w' ⟨rfl, rfl⟩
      rw [decide_eq_true hbd]
      go_wp2_with fail
      refine (unfoldSign_any (valOf G) _ (by omega)).mono ?_
      rintro e w'' ⟨rfl, rfl⟩
      go_wp2
      go_ret3
      exact ⟨scan_got HA.out HG.out, rfl⟩
    · have HG : Hid (_ = _) := HN1.out (HZ.out (.inr (.inr (.inr (by omega)))))
      go_enter Tryz.func51, Tryz.ntmps51
      go_wp2_with fail
      refine (hcg _).mono ?_
      rintro e w' ⟨rfl, rfl⟩
      go_wp2_with fail
      rw [HGL.out]
      refine (joinGroups_yes _ _ G _ hrG hg1 hfit).mono ?_
      rintro e w' ⟨rfl, rfl⟩
      rw [decide_eq_false hbd]
      go_wp2
      go_ret3
      exact ⟨by rw [HG.out]; rfl, rfl⟩
  · have HG : Hid (_ = _) := HN1.out (HZ.out (by
      by_cases hz : 0 < j ∧ (zs.drop q).getD j 0 = 0
      · exact .inr (.inr (.inl hz))
      · exact absurd (HQ.out.2 hz) hfit))
    clear HSm HZ HQ HN1
    generalize (zs.drop q).take (j + 1) = G at *
    go_enter Tryz.func51, Tryz.ntmps51
    go_wp2_with fail
    refine (hcg _).mono ?_
    rintro e w' ⟨rfl, rfl⟩
    go_wp2_with fail
    rw [HGL.out]
    refine (joinGroups_no _ _ G _ hrG hg2 hfit).mono ?_
    rintro e w' ⟨rfl, rfl⟩
    go_wp2
    go_ret3
    exact ⟨by rw [HG.out]; rfl, rfl⟩
end Go.Proofs.YtdibmepjbabnnabGreatDoor

/- The walk of impl.GetInt, and of the exact law of GetInt. -/
namespace Go.Proofs.YtdibmepjbabnnabGreatDoor
open Go.RowKit

set_option maxHeartbeats 400000 in
theorem implGetInt_any (a : Option Addr) (c : Nat) (zs : List Int) (p : Int) (w : World) (hr : Reads w a zs) (hl : zs.length ≤ 70368744177664) (hcap : zs.length ≤ c) :
    Calls Tryz.prog 35 #[.slice a zs.length c, .int .i64 p] w fun e w' => e = .returned (triple (getAt zs p)) ∧ w' = w := by
  cases hg : getAt zs p with
  | some r =>
    obtain ⟨n, k⟩ := r
    have HS : Hid (scanOf zs p = _) := (show scanOf zs p = scanOk (n, k) from by unfold scanOf; rw [hg])
    clear hg
    go_enter Tryz.func35, Tryz.ntmps35
    go_wp2_with fail
    refine (scanInt_any a c zs p w hr hl hcap).mono ?_
    rintro e w' ⟨rfl, rfl⟩
    rw [HS.out]
    simp only [scanOk]
    go_wp2
    go_ret3
    exact ⟨rfl, rfl⟩
  | none =>
    have HS : Hid (scanOf zs p = _) := scan_none zs p hg _ rfl
    have hw : (scanWhy zs p == 0) = false := by unfold scanWhy; split <;> rfl
    clear hg
    generalize scanWhy zs p = y at *
    go_enter Tryz.func35, Tryz.ntmps35
    go_wp2_with fail
    refine (scanInt_any a c zs p w hr hl hcap).mono ?_
    rintro e w' ⟨rfl, rfl⟩
    rw [HS.out]
    go_wp2
    go_ret3
    exact ⟨rfl, rfl⟩
end Go.Proofs.YtdibmepjbabnnabGreatDoor

/- The walk of impl.readParts. -/
namespace Go.Proofs.YtdibmepjbabnnabGreatDoor
open Go.RowKit

/-- What readParts answers. -/
def PartsAns (w' : World) (lo : Nat) (x : Option (List Int × Nat)) (e : Ending) : Prop := match x with
  | some (l, q) => ∃ a' c', e = .returned (.tuple #[.slice a' l.length c', .int .i64 (q : Nat), .nilIface]) ∧ OwnI w' lo w'.heap.size a' c' l
  | none => ∃ s, e = .returned (.tuple #[.slice none 0 0, .int .i64 0, .iface 61 (.agg #[.string s])])
theorem partsAns_none {w' : World} {lo : Nat} {x : Option (List Int × Nat)} (h : x = none) (s : ByteArray) : PartsAns w' lo x (.returned (.tuple #[.slice none 0 0, .int .i64 0, .iface 61 (.agg #[.string s])])) := by
  subst h; exact ⟨s, rfl⟩
theorem partsAns_some {w' : World} {lo : Nat} {x : Option (List Int × Nat)} {l : List Int} {q : Nat} (h : x = some (l, q)) (a' : Option Addr) (c' n : Nat) (hn : n = l.length) (ho : OwnI w' lo w'.heap.size a' c' l) : PartsAns w' lo x (.returned (.tuple #[.slice a' n c', .int .i64 (q : Nat), .nilIface])) := by
  subst h; subst hn; exact ⟨a', c', rfl, ho⟩

theorem partsAt_none {zs : List Int} {p : Nat} (h : getAt zs (p : Int) = none) : partsAt zs p = none := by unfold partsAt; rw [h]
theorem partsAt_bad {zs : List Int} {p q : Nat} {n : Int} (h : getAt zs (p : Int) = some (n, q)) (hn : n < 0 ∨ 5 < n) : partsAt zs p = none := by
  unfold partsAt; rw [h]; simp only; rw [if_neg (by omega)]
theorem partsAt_good {zs : List Int} {p q m : Nat} (h : getAt zs (p : Int) = some ((m : Int), q)) (hm : m ≤ 5) : partsAt zs p = numsAt zs m q := by
  unfold partsAt; rw [h]; simp only; rw [if_pos (by omega), Int.toNat_natCast]

set_option maxHeartbeats 2000000 in
set_option maxRecDepth 100000 in
theorem readParts_any (a : Option Addr) (c : Nat) (zs : List Int) (p : Nat) (w : World) (hr : Reads w a zs) (hl : zs.length ≤ 70368744177664) (hcap : zs.length ≤ c) :
    Calls Tryz.prog 36 #[.slice a zs.length c, .int .i64 p] w fun e w' => PartsAns w' w.heap.size (partsAt zs p) e ∧ Below w.heap.size w w' := by
  cases hg : getAt zs (p : Int) with
  | none =>
    have HX : Hid (_ = _) := partsAt_none hg
    have HG : Hid (_ = _) := hg
    clear hg
    generalize partsAt zs p = X at *
    go_enter Tryz.func36, Tryz.ntmps36
    go_wp2_with fail
    refine (implGetInt_any a c zs p w hr hl hcap).mono ?_
    rintro e w' ⟨rfl, rfl⟩
    rw [HG.out]
    simp only [triple]
    go_wp2
    go_ret3
    exact ⟨partsAns_none HX.out _, Below.refl _ _⟩
  | some t =>
    obtain ⟨n, q⟩ := t
    by_cases hn0 : n < 0
    · have HX : Hid (_ = _) := partsAt_bad hg (.inl hn0)
      have HG : Hid (_ = _) := hg
      clear hg
      generalize partsAt zs p = X at *
      go_enter Tryz.func36, Tryz.ntmps36
      go_wp2_with fail
      refine (implGetInt_any a c zs p w hr hl hcap).mono ?_
      rintro e w' ⟨rfl, rfl⟩
      rw [HG.out]
      simp only [triple]
      go_wp2
      go_ret3
      exact ⟨partsAns_none HX.out _, Below.refl _ _⟩
    by_cases hn5 : 5 < n
    · have HX : Hid (_ = _) := partsAt_bad hg (.inr hn5)
      have HG : Hid (_ = _) := hg
      clear hg
      generalize partsAt zs p = X at *
      go_enter Tryz.func36, Tryz.ntmps36
      go_wp2_with fail
      refine (implGetInt_any a c zs p w hr hl hcap).mono ?_
      rintro e w' ⟨rfl, rfl⟩
      rw [HG.out]
      simp only [triple]
      go_wp2
      go_ret3
      exact ⟨partsAns_none HX.out _, Below.refl _ _⟩
    obtain ⟨m, rfl⟩ : ∃ m : Nat, n = (m : Int) := ⟨n.toNat, by omega⟩
    have hm5 : m ≤ 5 := by omega
    have HX : Hid (onTo [] (numsAt zs (m - 0) q) = partsAt zs p) := by rw [Hid, partsAt_good hg hm5, onTo_nil]; rfl
    have HG : Hid (_ = _) := hg
    clear hg
    generalize partsAt zs p = X at *
    obtain ⟨i0, hi, hz0, hz1, hz2⟩ := info_parts Tryz.infoInt
    go_enter Tryz.func36, Tryz.ntmps36
    go_wp2_with fail
    refine (implGetInt_any a c zs p w hr hl hcap).mono ?_
    rintro e w' ⟨rfl, rfl⟩
    rw [HG.out]
    simp only [triple]
    go_wp2_with (at_make; refine wpList_make_full _ rfl _ _ 24 rfl w'.heap.size 3 i0 (.int .i64 0) 1 Tryz.underlying24 hi hz0 hz1 _ _ _ _ m rfl rfl rfl rfl (by rw [hz2]; omega) (by simp [maxLen]; omega) (Nat.le_refl _) ?_)
    intro w0 hown0 hgrow0
    have hown1 : w0.ownsRow w'.heap.size 3 1 (.slice (some ⟨w'.heap.size, 0, none⟩) m m) m ((rowI [] m).map (Value.int .i64)) := by
      rw [rowI_nil, List.map_replicate]
      simpa [Value.cells, toList_madeCells_one] using hown0
    have hb0 : Below w'.heap.size w' w0 := (Below.refl _ _).grown hgrow0 (Nat.le_refl _) (fun k h => by cases h)
    clear hown0 hgrow0
    go_wp2
    go_loopw [1, 34] (fun at_ i wr => ∃ (L : List Int) (k r : Nat), Hid (L.length = k) ∧ k ≤ m ∧ i = .int .i64 k ∧ at_ = .int .i64 r ∧ Hid (onTo L (numsAt zs (m - k) r) = X) ∧ Hid (wr.ownsRow w'.heap.size 3 1 (.slice (some ⟨w'.heap.size, 0, none⟩) m m) m ((rowI L m).map (Value.int .i64))) ∧ Below w'.heap.size w' wr)
      (fun _ i _ => m - (intOf i).toNat)
    case atStart => exact ⟨[], 0, q, rfl, Nat.zero_le _, rfl, rfl, HX, hown1, hb0⟩
    case round =>
      obtain ⟨L, k, r, hL, hk, rfl, rfl, hX, hownH, hnx⟩ := hrel
      clear hown1 hb0 HX
      by_cases hlt : k < m
      · have hown := hownH.out
        have hfz := hown.frozenAt k
        obtain ⟨u, hct⟩ := own_cell hown k hlt
        cases hg : getAt zs (r : Int) with
        | none =>
          have HG2 : Hid (_ = _) := hg
          have HXN : Hid (X = none) := by
            have e : m - k = (m - k - 1) + 1 := by omega
            rw [Hid, ← hX.out, e, onTo_stop zs L _ r hg]
          have hbS : Below w'.heap.size w' (wr.setCell ⟨w'.heap.size, k, none⟩ (.int .i64 0)) := hnx.setCell (Nat.le_refl _) _
          have HBS : Hid (_) := hbS
          clear hg hown hbS
          go_wp2_with fail
          refine (implGetInt_any a c zs r wr (hr.below hnx) hl hcap).mono ?_
          rintro e w2 ⟨rfl, rfl⟩
          rw [HG2.out]
          simp only [triple]
          go_wp2
          go_ret3
          exact ⟨partsAns_none HXN.out _, HBS.out⟩
        | some t =>
          obtain ⟨z, r2⟩ := t
          have HG2 : Hid (_ = _) := hg
          have HXS : Hid (onTo (L ++ [z]) (numsAt zs (m - (k + 1)) r2) = X) := by
            have e : m - k = (m - (k + 1)) + 1 := by omega
            rw [Hid, ← hX.out, e, onTo_step zs L _ r r2 z hg]
          have HLS : Hid ((L ++ [z]).length = k + 1) := by rw [Hid, List.length_append, hL.out]; rfl
          have HS : Hid ((wr.setCell ⟨w'.heap.size, k, none⟩ (.int .i64 z)).ownsRow w'.heap.size 3 1 (.slice (some ⟨w'.heap.size, 0, none⟩) m m) m ((rowI (L ++ [z]) m).map (Value.int .i64))) := by
            have h1 := (hown.stored k (.int .i64 z)).1
            have h2 := rowI_set_map L m z (by rw [hL.out]; exact hlt)
            rw [hL.out] at h2
            rw [h2] at h1
            exact h1
          have HN : Hid (Below w'.heap.size w' (wr.setCell ⟨w'.heap.size, k, none⟩ (.int .i64 z))) := hnx.setCell (Nat.le_refl _) _
          clear hg hown
          go_wp2_with fail
          refine (implGetInt_any a c zs r wr (hr.below hnx) hl hcap).mono ?_
          rintro e w2 ⟨rfl, rfl⟩
          rw [HG2.out]
          simp only [triple]
          go_wp2
          go_roundw
          case rel => exact ⟨L ++ [z], k + 1, r2, HLS, by omega, by go_num, rfl, HXS, HS, HN.out⟩
          case measure => simp [intOf]; omega
      · obtain rfl : k = m := by omega
        have HXS : Hid (X = some (L, r)) := by rw [Hid, ← hX.out, Nat.sub_self, numsAt]; simp [onTo]
        have HO : Hid (OwnI wr w'.heap.size wr.heap.size (some ⟨w'.heap.size, 0, none⟩) k L) := by
          have h1 := hownH.out
          have e : rowI L k = L := by rw [← hL.out]; exact rowI_all L
          rw [e] at h1
          refine ⟨?_, Nat.le_refl _, ?_⟩
          · rw [hL.out]; exact h1
          · intro j hj; rw [hL.out] at hj; exact (h1.lt j hj).2
        go_wp2
        go_ret3
        exact ⟨partsAns_some HXS.out _ _ _ hL.out.symm HO.out, hnx⟩
end Go.Proofs.YtdibmepjbabnnabGreatDoor

/- When an object is right; the walks of impl.partsOk, impl.checkObj and impl.ObjOk. -/
namespace Go.Proofs.YtdibmepjbabnnabGreatDoor
open Go.RowKit

def partsB (l : List Int) (least most : Int) : Bool := decide (l.length ≤ 5) && l.all (fun z => inB z least most)
theorem partsB_at {l : List Int} {least most : Int} (j : Nat) (hj : j < l.length) (h : inB (l.getD j 0) least most = false) : partsB l least most = false := by
  have : (l.all (fun z => inB z least most)) = false := by
    rw [List.all_eq_false]
    exact ⟨l.getD j 0, by simp [List.getD, hj], by rw [h]; decide⟩
  simp [partsB, this]
theorem partsB_all {l : List Int} {least most : Int} (h : ∀ j, j < l.length → inB (l.getD j 0) least most = true) : partsB l least most = decide (l.length ≤ 5) := by
  have : (l.all (fun z => inB z least most)) = true := by
    rw [List.all_eq_true]
    intro z hz
    obtain ⟨j, hj, rfl⟩ := List.getElem_of_mem hz
    have := h j hj
    simpa [List.getD, hj] using this
  simp [partsB, this]
theorem okB_parts (o : ObjV) : okB o = (inB o.kind 1 99 && (partsB o.ints (-1000000) 1000000 && partsB o.refs 0 31)) := by
  unfold okB partsB
  cases inB o.kind 1 99 <;> cases decide (o.ints.length ≤ 5) <;> cases decide (o.refs.length ≤ 5) <;> cases o.ints.all (fun z => inB z (-1000000) 1000000) <;> simp

theorem inB_false {x l m : Int} (h : inB x l m = false) : x < l ∨ (¬ x < l ∧ m < x) := by simp [inB] at h; omega
theorem inB_true {x l m : Int} (h : inB x l m = true) : ¬ x < l ∧ ¬ m < x := by simp [inB] at h; omega

/-- What checkObj answers of what is right, and of what is not. -/
def IsErr (ok : Bool) (e : Ending) : Prop := (ok = true ∧ e = .returned .nilIface) ∨ (ok = false ∧ ∃ s, e = .returned (.iface 61 (.agg #[.string s])))
theorem isErr_ok {ok : Bool} (h : ok = true) : IsErr ok (.returned .nilIface) := .inl ⟨h, rfl⟩
theorem isErr_no {ok : Bool} (h : ok = false) (s : ByteArray) : IsErr ok (.returned (.iface 61 (.agg #[.string s]))) := .inr ⟨h, s, rfl⟩

set_option maxHeartbeats 400000 in
theorem partsOk_any (a : Option Addr) (c : Nat) (l : List Int) (least most : Int) (w : World) (hr : ReadsI w a l) (hl : l.length ≤ 140737488355328) :
    Calls Tryz.prog 34 #[.slice a l.length c, .int .i64 least, .int .i64 most] w fun e w' => e = .returned (.bool (partsB l least most)) ∧ w' = w := by
  go_enter Tryz.func34, Tryz.ntmps34
  go_wp2
  go_loop [11] (fun i => ∃ j : Nat, j ≤ l.length ∧ i = .int .i64 j ∧ Hid (∀ t, t < j → inB (l.getD t 0) least most = true)) (fun i => l.length - (intOf i).toNat)
  case atStart => exact ⟨0, by omega, rfl, fun t ht => by omega⟩
  case round =>
    obtain ⟨j, hj, rfl, hall⟩ := hrel
    by_cases hlt : j < l.length
    · rcases hr.cases with rfl | ⟨b, off, rfl, hpos, hcell⟩
      · simp at hlt
      have hc := hcell j hlt
      clear hcell
      cases hz : inB (l.getD j 0) least most with
      | false =>
        have HE : Hid (partsB l least most = false) := partsB_at j hlt hz
        have hz' := inB_false hz
        clear hz
        generalize l.getD j 0 = z at *
        rcases hz' with h1 | ⟨h1, h2⟩
        all_goals
          go_wp2
          go_ret
          exact ⟨ret_bool HE.out.symm, rfl⟩
      | true =>
        have HN : Hid (∀ t, t < j + 1 → inB (l.getD t 0) least most = true) := by
          intro t ht
          by_cases e : t = j
          · rw [e]; exact hz
          · exact hall.out t (by omega)
        obtain ⟨h1, h2⟩ := inB_true hz
        clear hz
        generalize l.getD j 0 = z at *
        go_wp2
        go_round
        case rel => exact ⟨j + 1, by omega, by go_num, HN⟩
        case measure => simp [intOf]; omega
    · have HE : Hid (partsB l least most = decide (l.length ≤ 5)) := partsB_all (fun t ht => hall.out t (by omega))
      go_wp2
      go_ret
      exact ⟨ret_bool (by rw [HE.out]; exact decide_eq_decide.2 (by omega)), rfl⟩

set_option maxHeartbeats 1000000 in
set_option maxRecDepth 100000 in
theorem checkObj_any (o : ObjV) (aI : Option Addr) (cI : Nat) (aR : Option Addr) (cR : Nat) (w : World) (hr : ReadsO w aI cI aR cR o) (hnI : o.ints.length ≤ 140737488355328) (hnR : o.refs.length ≤ 140737488355328) :
    Calls Tryz.prog 21 #[.agg #[.int .i64 o.kind, .slice aI o.ints.length cI, .slice aR o.refs.length cR]] w fun e w' => IsErr (okB o) e ∧ Below w.heap.size w w' := by
  have HOK := okB_parts o
  generalize okB o = OK at *
  obtain ⟨k, ints, refs⟩ := o
  obtain ⟨hI, hR, _, _⟩ := hr
  simp only at *
  obtain ⟨W, hW, b0, hbW, hsW⟩ := boxes1 w [.int .i64 k, .slice aI ints.length cI, .slice aR refs.length cR] 26
  have hI' := hI.below hbW
  have hR' := hR.below hbW
  have x0 := b0.cell 0 _ rfl
  have x1 := b0.cell 1 _ rfl
  have x2 := b0.cell 2 _ rfl
  cases hk : inB k 1 99 with
  | false =>
    have HF : Hid (OK = false) := by rw [Hid, HOK, hk, Bool.false_and]
    clear HOK
    have hz' := inB_false hk
    clear hk
    rcases hz' with h1 | ⟨h1, h2⟩
    all_goals
      go_enter Tryz.func21, Tryz.ntmps21
      go_wp2
      go_ret
      exact ⟨isErr_no HF.out _, hW.out ▸ hbW⟩
  | true =>
  rw [hk, Bool.true_and] at HOK
  obtain ⟨h1, h2⟩ := inB_true hk
  clear hk
  cases hp : partsB ints (-1000000) 1000000 with
  | false =>
    have HF : Hid (OK = false) := by rw [Hid, HOK, hp, Bool.false_and]
    clear HOK
    have HP : Hid (_ = _) := hp
    clear hp
    go_enter Tryz.func21, Tryz.ntmps21
    go_wp2_with fail
    rw [hW.out]
    refine (partsOk_any aI cI ints _ _ W hI' hnI).mono ?_
    rintro e w' ⟨rfl, rfl⟩
    rw [HP.out]
    go_wp2
    go_ret
    exact ⟨isErr_no HF.out _, hbW⟩
  | true =>
  rw [hp, Bool.true_and] at HOK
  have HP : Hid (_ = _) := hp
  clear hp
  cases hq : partsB refs 0 31 with
  | false =>
    have HF : Hid (OK = false) := by rw [Hid, HOK, hq]
    clear HOK
    have HQ : Hid (_ = _) := hq
    clear hq
    go_enter Tryz.func21, Tryz.ntmps21
    go_wp2_with fail
    rw [hW.out]
    refine (partsOk_any aI cI ints _ _ W hI' hnI).mono ?_
    rintro e w' ⟨rfl, rfl⟩
    rw [HP.out]
    go_wp2_with fail
    refine (partsOk_any aR cR refs _ _ _ hR' hnR).mono ?_
    rintro e w' ⟨rfl, rfl⟩
    rw [HQ.out]
    go_wp2
    go_ret
    exact ⟨isErr_no HF.out _, hbW⟩
  | true =>
    have HF : Hid (OK = true) := by rw [Hid, HOK, hq]
    clear HOK
    have HQ : Hid (_ = _) := hq
    clear hq
    go_enter Tryz.func21, Tryz.ntmps21
    go_wp2_with fail
    rw [hW.out]
    refine (partsOk_any aI cI ints _ _ W hI' hnI).mono ?_
    rintro e w' ⟨rfl, rfl⟩
    rw [HP.out]
    go_wp2_with fail
    refine (partsOk_any aR cR refs _ _ _ hR' hnR).mono ?_
    rintro e w' ⟨rfl, rfl⟩
    rw [HQ.out]
    go_wp2
    go_ret
    exact ⟨isErr_ok HF.out, hbW⟩

set_option maxHeartbeats 1000000 in
set_option maxRecDepth 100000 in
theorem implObjOk_any (o : ObjV) (aI : Option Addr) (cI : Nat) (aR : Option Addr) (cR : Nat) (w : World) (hg : ErrT w) (hr : ReadsO w aI cI aR cR o) (hnI : o.ints.length ≤ 140737488355328) (hnR : o.refs.length ≤ 140737488355328) :
    Calls Tryz.prog 9 #[.agg #[.int .i64 o.kind, .slice aI o.ints.length cI, .slice aR o.refs.length cR]] w fun e w' => e = .returned (.bool (okB o)) ∧ Below w.heap.size w w' := by
  obtain ⟨W, hW, b0, hbW, hsW⟩ := boxes1 w [.int .i64 o.kind, .slice aI o.ints.length cI, .slice aR o.refs.length cR] 26
  have hr' := hr.below hbW
  have hg' := hg.keep hbW
  have x0 := b0.cell 0 _ rfl
  have x1 := b0.cell 1 _ rfl
  have x2 := b0.cell 2 _ rfl
  go_enter Tryz.func9, Tryz.ntmps9
  go_wp2_with fail
  rw [hW.out]
  refine (checkObj_any o aI cI aR cR W hr' hnI hnR).mono ?_
  rintro e w1 ⟨he, hb1⟩
  have B1 : Below w.heap.size w w1 := hbW.trans (hb1.mono hbW.size)
  rcases he with ⟨hok, rfl⟩ | ⟨hok, s, rfl⟩
  · have HO : Hid (_ = _) := hok
    clear hok
    go_wp2_with fail
    refine (isNo_nil w1).mono ?_
    rintro e w2 ⟨rfl, hb2⟩
    go_wp2
    go_ret
    exact ⟨by rw [HO.out]; rfl, B1.trans (hb2.mono B1.size)⟩
  · have HO : Hid (_ = _) := hok
    clear hok
    go_wp2_with fail
    refine (isNo_hit s w1 (hg'.keep hb1)).mono ?_
    rintro e w2 ⟨rfl, hb2⟩
    go_wp2
    go_ret
    exact ⟨by rw [HO.out]; rfl, B1.trans (hb2.mono B1.size)⟩
end Go.Proofs.YtdibmepjbabnnabGreatDoor

/- A box of three cells, filled. -/
namespace Go.Proofs.YtdibmepjbabnnabGreatDoor
open Go.RowKit

/-- The facts that a walk wants of a box of three cells. -/
theorem Box.three {w : World} {B : Nat} {x0 x1 x2 : Value} {t : TypeId} (b : Box w B [x0, x1, x2] t) :
    w.cell? ⟨B, 0, none⟩ = some x0 ∧ w.cell? ⟨B, 1, none⟩ = some x1 ∧ w.cell? ⟨B, 2, none⟩ = some x2 ∧ w.frozen? ⟨B, 0, none⟩ = false ∧ w.frozen? ⟨B, 1, none⟩ = false ∧ w.frozen? ⟨B, 2, none⟩ = false :=
  ⟨b.cell 0 _ rfl, b.cell 1 _ rfl, b.cell 2 _ rfl, b.frozen 0, b.frozen 1, b.frozen 2⟩

theorem box3_fill {w : World} {B : Nat} {x0 x1 x2 : Value} {t : TypeId} (b : Box w B [x0, x1, x2] t) (v0 v1 v2 : Value) :
    ∃ W, Hid (((w.setCell ⟨B, 0, none⟩ v0).setCell ⟨B, 1, none⟩ v1).setCell ⟨B, 2, none⟩ v2 = W) ∧ Box W B [v0, v1, v2] t ∧ Within B (B + 1) w W ∧ W.heap.size = w.heap.size := by
  refine ⟨_, rfl, ?_, ?_, ?_⟩
  · have := ((b.set 0 v0).set 1 v1).set 2 v2
    simpa only [List.set] using this
  · exact ((within_set w B 0 v0 (by omega)).trans (within_set _ B 1 v1 (by omega))).trans (within_set _ B 2 v2 (by omega))
  · simp
end Go.Proofs.YtdibmepjbabnnabGreatDoor

/- The walk of impl.foundObj. -/
namespace Go.Proofs.YtdibmepjbabnnabGreatDoor
open Go.RowKit

set_option maxHeartbeats 1000000 in
set_option maxRecDepth 100000 in
theorem foundObj_ok (k : Int) (aI : Option Addr) (nI cI : Nat) (aR : Option Addr) (nR cR : Nat) (w : World) : Calls Tryz.prog 22 #[.agg #[.int .i64 k, .slice aI nI cI, .slice aR nR cR], .nilIface] w fun e w' => e = .returned (.tuple #[.agg #[.int .i64 k, .slice aI nI cI, .slice aR nR cR], .bool true]) ∧ Below w.heap.size w w' := by
  obtain ⟨W, hW, b0, b1, hbW, hsW⟩ := boxes2 w [.int .i64 k, .slice aI nI cI, .slice aR nR cR] [.int .i64 0, .slice none 0 0, .slice none 0 0] 26 26
  go_enter Tryz.func22, Tryz.ntmps22
  go_wp2_with fail
  rw [hW.out]
  refine (isNo_nil W).mono ?_
  rintro e w1 ⟨rfl, hb1⟩
  have B1 : Below w.heap.size w w1 := hbW.trans (hb1.mono hbW.size)
  obtain ⟨x0, x1, x2, _, _, _⟩ := (b0.below hb1 b0.lt).three
  have bR := b1.below hb1 b1.lt
  obtain ⟨y0, y1, y2, f0, f1, f2⟩ := bR.three
  obtain ⟨WF, hWF, bF, hwF, _⟩ := box3_fill bR (.int .i64 k) (.slice aI nI cI) (.slice aR nR cR)
  have HB : Hid (Below w.heap.size w WF) := B1.trans (hwF.below (by omega) (by have := hb1.size; omega))
  clear hwF hb1 B1
  go_wp2
  rw [hWF.out]
  obtain ⟨q0, q1, q2, _, _, _⟩ := bF.three
  exact bodyPost_ret (v := .tuple #[.agg #[.int .i64 k, .slice aI nI cI, .slice aR nR cR], .bool true]) (by simp [results, Tryz.results22, go_sem, q0, q1, q2]) rfl ⟨rfl, HB.out⟩

set_option maxHeartbeats 1000000 in
set_option maxRecDepth 100000 in
theorem foundObj_no (k : Int) (aI : Option Addr) (nI cI : Nat) (aR : Option Addr) (nR cR : Nat) (s : ByteArray) (w : World) (hg : ErrT w) : Calls Tryz.prog 22 #[.agg #[.int .i64 k, .slice aI nI cI, .slice aR nR cR], .iface 61 (.agg #[.string s])] w fun e w' => e = .returned (.tuple #[.agg #[.int .i64 0, .slice none 0 0, .slice none 0 0], .bool false]) ∧ Below w.heap.size w w' := by
  obtain ⟨W, hW, b0, b1, hbW, hsW⟩ := boxes2 w [.int .i64 k, .slice aI nI cI, .slice aR nR cR] [.int .i64 0, .slice none 0 0, .slice none 0 0] 26 26
  go_enter Tryz.func22, Tryz.ntmps22
  go_wp2_with fail
  rw [hW.out]
  refine (isNo_hit s W (hg.keep hbW)).mono ?_
  rintro e w1 ⟨rfl, hb1⟩
  have B1 : Below w.heap.size w w1 := hbW.trans (hb1.mono hbW.size)
  have bR := b1.below hb1 b1.lt
  obtain ⟨y0, y1, y2, f0, f1, f2⟩ := bR.three
  obtain ⟨WF, hWF, bF, hwF, _⟩ := box3_fill bR (.int .i64 0) (.slice none 0 0) (.slice none 0 0)
  have HB : Hid (Below w.heap.size w WF) := B1.trans (hwF.below (by omega) (by have := hb1.size; omega))
  clear hwF hb1 B1
  go_wp2
  rw [hWF.out]
  obtain ⟨q0, q1, q2, _, _, _⟩ := bF.three
  exact bodyPost_ret (v := .tuple #[.agg #[.int .i64 0, .slice none 0 0, .slice none 0 0], .bool false]) (by simp [results, Tryz.results22, go_sem, q0, q1, q2]) rfl ⟨rfl, HB.out⟩
end Go.Proofs.YtdibmepjbabnnabGreatDoor
