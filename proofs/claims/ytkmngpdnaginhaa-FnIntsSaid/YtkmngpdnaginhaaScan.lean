/- The walks of impl.scanInt and impl.GetInt. -/
import Derived.Test.YtkmngpdnaginhaaJoin
import Derived.Test.YtkmngpdnaginhaaSpecGet
namespace Go.Proofs.Ytkmngpdnaginhaa
open Go.RowKit

/-- What scanInt answers where there is a number. -/
def scanOk (r : Int × Nat) : Value := .tuple #[.int .i64 r.1, .int .i64 (r.2 : Nat), .int .i64 0]
/-- Why there is none: 1: the bytes end within the groups; 3: else. -/
def scanWhy (zs : List Int) (p : Int) : Int := if 0 ≤ p ∧ p ≤ zs.length ∧ lead (zs.drop p.toNat) = zs.length - p.toNat then 1 else 3
def scanOf (zs : List Int) (p : Int) : Value := match getAt zs p with
  | some r => scanOk r
  | none => .tuple #[.int .i64 0, .int .i64 0, .int .i64 (scanWhy zs p)]

theorem scan_none (zs : List Int) (p : Int) (h : getAt zs p = none) (c : Int) (hc : scanWhy zs p = c) : scanOf zs p = .tuple #[.int .i64 0, .int .i64 0, .int .i64 c] := by
  unfold scanOf; rw [h, hc]

theorem scan_got {zs : List Int} {q j v : Nat} (hA : getAt zs q = (getOf (zs.drop q)).map fun r => (r.1, q + r.2)) (hG : getOf (zs.drop q) = some (unzig v, j + 1)) :
    Ending.returned (.tuple #[.int .i64 (unzig v), .int .i64 ((q : Int) + (j : Int) + 1), .int .i64 0]) = .returned (scanOf zs q) := by
  unfold scanOf
  rw [hA, hG]
  simp only [Option.map_some, scanOk]
  rw [show ((q + (j + 1) : Nat) : Int) = (q : Int) + (j : Int) + 1 from by omega]

theorem reads_part {w : World} {b off : Nat} {zs : List Int} (hby : ∀ z ∈ zs, 0 ≤ z ∧ z < 256) (hcell : ∀ i, i < zs.length → w.cell? ⟨b, off + i, none⟩ = some (.int .u8 (zs.getD i 0))) (q k : Nat) (h : q + k ≤ zs.length) :
    Reads w (some ⟨b, off + q, none⟩) ((zs.drop q).take k) := by
  refine ⟨fun z hz => hby z (List.mem_of_mem_drop (List.mem_of_mem_take hz)), fun _ => ⟨b, off + q, rfl, fun i hi => ?_⟩⟩
  have hi' : i < k := by simp at hi; omega
  rw [Nat.add_assoc, hcell (q + i) (by omega)]
  have : ((zs.drop q).take k).getD i 0 = zs.getD (q + i) 0 := by simp [List.getD, hi']
  rw [this]

set_option maxHeartbeats 1000000 in
set_option maxRecDepth 100000 in
theorem scanInt_any (a : Option Addr) (c : Nat) (zs : List Int) (p : Int) (w : World) (hr : Reads w a zs) (hl : zs.length ≤ 70368744177664) (hcap : zs.length ≤ c) :
    Calls Try.prog 33 #[.slice a zs.length c, .int .i64 p] w fun e w' => e = .returned (scanOf zs p) ∧ w' = w := by
  by_cases h0 : p < 0
  · have HG : Hid (_ = _) := scan_none zs p (getAt_neg zs p h0) 3 (by unfold scanWhy; rw [if_neg (by omega)])
    go_enter Try.func33, Try.ntmps33
    go_wp2
    go_ret3
    exact ⟨by rw [HG.out]; rfl, rfl⟩
  by_cases h1 : (zs.length : Int) < p
  · have HG : Hid (_ = _) := scan_none zs p (getAt_past zs p (by omega)) 3 (by unfold scanWhy; rw [if_neg (by omega)])
    go_enter Try.func33, Try.ntmps33
    go_wp2
    go_ret3
    exact ⟨by rw [HG.out]; rfl, rfl⟩
  obtain ⟨q, rfl⟩ := Int.eq_ofNat_of_zero_le (show 0 ≤ p from by omega)
  have hq : q ≤ zs.length := by omega
  have hby := hr.byte
  have HA : Hid (_ = _) := getAt_nat zs q
  have hLl : (zs.drop q).length = zs.length - q := List.length_drop
  have HD : Hid (∀ i, (zs.drop q).getD i 0 = zs.getD (q + i) 0) := drop_getD zs q
  have HE : Hid (lead (zs.drop q) = zs.length - q → scanOf zs q = .tuple #[.int .i64 0, .int .i64 0, .int .i64 1]) := by
    intro h
    refine scan_none zs q ?_ 1 ?_
    · rw [HA.out, getOf_none _ (.inl (by omega))]; rfl
    · unfold scanWhy; rw [if_pos ⟨by omega, by omega, by rw [Int.toNat_natCast]; exact h⟩]
  clear h0 h1
  by_cases hqe : q = zs.length
  · have HX : Hid (_ = _) := HE.out (by have := lead_le (zs.drop q); omega)
    have hq2 : ¬ (q : Int) < zs.length := by omega
    clear hqe
    go_enter Try.func33, Try.ntmps33
    go_wp2
    refine wp_loop_rounds 1 ?_
    rw [rounds_succ]
    go_wp2
    go_ret3
    exact ⟨by rw [HX.out]; rfl, rfl⟩
  rcases hr.cases with rfl | ⟨b, off, rfl, hpos, hcell⟩
  · simp at hq hqe; omega
  have hq' : q < zs.length := by omega
  clear hqe
  go_enter Try.func33, Try.ntmps33
  go_wp2
  go_loop [7] (fun i => ∃ j : Nat, q + j ≤ zs.length ∧ i = .int .i64 ((q + j : Nat) : Int) ∧ Hid (∀ i, i < j → 128 ≤ (zs.drop q).getD i 0)) (fun i => zs.length - (intOf i).toNat)
  case atStart => exact ⟨0, by omega, by simp, fun i hi => by omega⟩
  case round =>
    obtain ⟨j, hjl, rfl, hall⟩ := hrel
    by_cases hlt : q + j < zs.length
    · have hc := hcell (q + j) hlt
      obtain ⟨hn, hn2⟩ := bytes_nat hby (q + j)
      have HCC : Hid ((zs.drop q).getD j 0 = ((zs.getD (q + j) 0).toNat : Int)) := by rw [Hid, HD.out]; exact hn
      rw [hn] at hc
      clear hn
      generalize (zs.getD (q + j) 0).toNat = cc at *
      by_cases hcc : 128 ≤ cc
      · have HN : Hid (∀ i, i < j + 1 → 128 ≤ (zs.drop q).getD i 0) := by
          intro i hi
          by_cases e : i = j
          · rw [e, HCC.out]; omega
          · exact hall.out i (by omega)
        clear hcell hby HE
        go_wp2
        go_round
        case rel => exact ⟨j + 1, by omega, by go_num, HN⟩
        case measure => simp [intOf]; omega
      · have HLE : Hid (lead (zs.drop q) = j) := lead_eq j _ (by omega) hall.out (by rw [HCC.out]; omega)
        have hrp := reads_part hby hcell q (j + 1) (by omega)
        have hgl : ((zs.drop q).take (j + 1)).length = j + 1 := by simp; omega
        have hgz : ((zs.drop q).take (j + 1)).getD j 0 = (zs.drop q).getD j 0 := by simp [List.getD]
        have HW : Hid (scanWhy zs q = 3) := by unfold scanWhy; rw [Hid, if_neg]; rintro ⟨_, _, h⟩; rw [Int.toNat_natCast, HLE.out] at h; omega
        have HN1 : Hid (getOf (zs.drop q) = none → scanOf zs q = .tuple #[.int .i64 0, .int .i64 0, .int .i64 3]) := fun h => scan_none zs q (by rw [HA.out, h]; rfl) 3 HW.out
        have HSm : Hid (_ → _ → _ → _ = _) := getOf_some (zs.drop q) j HLE.out (by omega)
        have HZ : Hid (_ → _) := getOf_none (zs.drop q)
        rw [HLE.out] at HZ
        have HQ : Hid (fits ((zs.drop q).take (j + 1)) ↔ j < 6 ∧ ¬ (0 < j ∧ (zs.drop q).getD j 0 = 0)) := by
          unfold fits; rw [Hid, hgl, Nat.add_sub_cancel, hgz]
          constructor
          · rintro ⟨h1, h2⟩; exact ⟨by omega, fun h => h2 ⟨by omega, h.2⟩⟩
          · rintro ⟨h1, h2⟩; exact ⟨by omega, fun h => h2 ⟨by omega, h.2⟩⟩
        have hvl : j < 6 → valOf ((zs.drop q).take (j + 1)) < 4398046511104 := fun h => (valOf_take_lt (zs.drop q) (j + 1) (by omega)).1
        have hgl2 : q + j + 1 - q = ((zs.drop q).take (j + 1)).length := by rw [hgl]; omega
        have HVL : Hid (j < 6 → valOf ((zs.drop q).take (j + 1)) < 4398046511104) := hvl
        have HGL : Hid (q + j + 1 - q = ((zs.drop q).take (j + 1)).length) := hgl2
        have hg1 : 1 ≤ ((zs.drop q).take (j + 1)).length := by rw [hgl]; omega
        have hg2 : ((zs.drop q).take (j + 1)).length ≤ 70368744177664 := by rw [hgl]; omega
        clear hcell hby HE hgl hgz hvl hgl2 HW
        by_cases hfit : fits ((zs.drop q).take (j + 1))
        · have h6 := (HQ.out.1 hfit).1
          have hv := HVL.out h6
          have hnz := (HQ.out.1 hfit).2
          have HB : Hid (_ → _) := HSm.out h6 hnz
          clear hnz HSm HQ HVL
          generalize (zs.drop q).take (j + 1) = G at *
          by_cases hbd : valOf G ≤ 2000000000000
          · have HG : Hid (_ = _) := HB.out hbd
            go_wp2_with fail
            rw [HGL.out]
            refine (joinGroups_yes _ _ G w hrp hg1 hfit).mono ?_
            rintro e w' ⟨rfl, rfl⟩
            rw [decide_eq_true hbd]
            go_wp2_with fail
            refine (unfoldSign_any (valOf G) w' (by omega)).mono ?_
            rintro e w'' ⟨rfl, rfl⟩
            go_wp2
            go_ret3
            exact ⟨scan_got HA.out HG.out, rfl⟩
          · have HG : Hid (_ = _) := HN1.out (HZ.out (.inr (.inr (.inr (by omega)))))
            go_wp2_with fail
            rw [HGL.out]
            refine (joinGroups_yes _ _ G w hrp hg1 hfit).mono ?_
            rintro e w' ⟨rfl, rfl⟩
            rw [decide_eq_false hbd]
            go_wp2
            go_ret3
            exact ⟨by rw [HG.out]; rfl, rfl⟩
        · have HG : Hid (_ = _) := HN1.out (HZ.out (by
            by_cases h6 : j < 6
            · by_cases hz : 0 < j ∧ (zs.drop q).getD j 0 = 0
              · exact .inr (.inr (.inl hz))
              · exact absurd (HQ.out.2 ⟨h6, hz⟩) hfit
            · exact .inr (.inl (by omega))))
          clear HSm HZ HQ HVL HN1
          generalize (zs.drop q).take (j + 1) = G at *
          go_wp2_with fail
          rw [HGL.out]
          refine (joinGroups_no _ _ G w hrp hg2 hg1 hfit).mono ?_
          rintro e w' ⟨rfl, rfl⟩
          go_wp2
          go_ret3
          exact ⟨by rw [HG.out]; rfl, rfl⟩
    · have HX : Hid (_ = _) := HE.out (by have := lead_le (zs.drop q); have := lead_ge j (zs.drop q) (by omega) hall.out; omega)
      go_wp2
      go_ret3
      exact ⟨by rw [HX.out]; rfl, rfl⟩
end Go.Proofs.Ytkmngpdnaginhaa
