/- Several texts in one, in their order. -/
import Derived.Test.YtjaojcgfgkppgaaDoorProg
import Derived.Test.YtjaojcgfgkppgaaDoorPiece1
import Derived.Test.YtjaojcgfgkppgaaDoorPiece11
import Derived.Test.YtjaojcgfgkppgaaDoorPiece14
/- The walk of impl.countGroups. -/
namespace Go.Proofs.YtjaojcgfgkppgaaDoor
open Go.RowKit

/-- How many groups are counted: those that say more, up to six, and one. -/
def countOf (L : List Int) : Nat := min (lead L) 6 + 1

theorem countOf_go (L : List Int) (j : Nat) (hj : j ≤ 6) (hl : j ≤ L.length) (hall : ∀ i, i < j → 128 ≤ L.getD i 0) (hs : j = 6 ∨ j = L.length ∨ (j < L.length ∧ L.getD j 0 < 128)) : countOf L = j + 1 := by
  have h1 := lead_ge j L hl hall
  have h2 := lead_le L
  unfold countOf
  rcases hs with h | h | ⟨h, h'⟩
  · omega
  · omega
  · have := lead_stop j L h h'
    omega

set_option maxHeartbeats 400000 in
set_option maxRecDepth 100000 in
theorem countGroups_any (a : Option Addr) (c : Nat) (zs : List Int) (w : World) (hr : Reads w a zs) (hl : zs.length ≤ 70368744177664) :
    Calls Tryd.prog 129 #[.slice a zs.length c] w fun e w' => e = .returned (.int .i64 (countOf zs : Nat)) ∧ w' = w := by
  have hby := hr.byte
  rcases hr.cases with rfl | ⟨b, off, rfl, hpos, hcell⟩
  · go_enter Tryd.func129, Tryd.ntmps129
    go_wp2
    refine wp_loop_rounds 1 ?_
    rw [rounds_succ]
    go_wp2
    go_ret
    exact ⟨rfl, rfl⟩
  go_enter Tryd.func129, Tryd.ntmps129
  go_wp2
  go_loop [3] (fun i => ∃ j : Nat, j ≤ 6 ∧ j ≤ zs.length ∧ i = .int .i64 ((j + 1 : Nat) : Int) ∧ Hid (∀ i, i < j → 128 ≤ zs.getD i 0)) (fun i => 7 - (intOf i).toNat)
  case atStart => exact ⟨0, by omega, by omega, rfl, fun i hi => by omega⟩
  case round =>
    obtain ⟨j, hj6, hjl, rfl, hall⟩ := hrel
    by_cases hm : (zs.length : Int) < 6
    all_goals
    by_cases h6 : j < 6
    · by_cases hlt : j < zs.length
      · have hc := hcell j hlt
        obtain ⟨hn, hn2⟩ := bytes_nat hby j
        have HCC : Hid (zs.getD j 0 = ((zs.getD j 0).toNat : Int)) := hn
        rw [hn] at hc
        clear hn
        generalize (zs.getD j 0).toNat = cc at *
        by_cases hcc : 128 ≤ cc
        · have HN : Hid (∀ i, i < j + 1 → 128 ≤ zs.getD i 0) := by
            intro i hi
            by_cases e : i = j
            · rw [e, HCC.out]; omega
            · exact hall.out i (by omega)
          clear hcell hby
          go_wp2
          go_round
          case rel => exact ⟨j + 1, by omega, by omega, by go_num, HN⟩
          case measure => simp [intOf]; omega
        · have HE : Hid (countOf zs = j + 1) := countOf_go zs j hj6 hjl hall.out (.inr (.inr ⟨hlt, by rw [HCC.out]; omega⟩))
          clear hcell hby
          go_wp2
          go_ret
          exact ⟨ret_int (by rw [HE.out]; omega), rfl⟩
      · have HE : Hid (countOf zs = j + 1) := countOf_go zs j hj6 hjl hall.out (.inr (.inl (by omega)))
        clear hcell hby
        go_wp2
        all_goals go_ret
        all_goals exact ⟨ret_int (by rw [HE.out]; omega), rfl⟩
    · have HE : Hid (countOf zs = j + 1) := countOf_go zs j hj6 hjl hall.out (.inl (by omega))
      clear hcell hby
      go_wp2
      all_goals go_ret
      all_goals exact ⟨ret_int (by rw [HE.out]; omega), rfl⟩
end Go.Proofs.YtjaojcgfgkppgaaDoor

/- The walk of impl.scanInt. -/
namespace Go.Proofs.YtjaojcgfgkppgaaDoor
open Go.RowKit

/-- What scanInt answers where there is a number. -/
def scanOk (r : Int × Nat) : Value := .tuple #[.int .i64 r.1, .int .i64 (r.2 : Nat), .int .i64 0]
/-- Why there is none: 1: the bytes end within fewer than six groups; 3: else. -/
def scanWhy (zs : List Int) (p : Int) : Int := if 0 ≤ p ∧ p ≤ zs.length ∧ lead (zs.drop p.toNat) = zs.length - p.toNat ∧ lead (zs.drop p.toNat) < 6 then 1 else 3
def scanOf (zs : List Int) (p : Int) : Value := match getAt zs p with
  | some r => scanOk r
  | none => .tuple #[.int .i64 0, .int .i64 0, .int .i64 (scanWhy zs p)]

theorem scan_none (zs : List Int) (p : Int) (h : getAt zs p = none) (c : Int) (hc : scanWhy zs p = c) : scanOf zs p = .tuple #[.int .i64 0, .int .i64 0, .int .i64 c] := by
  unfold scanOf; rw [h, hc]

theorem scan_got {zs : List Int} {q j v : Nat} (hA : getAt zs q = (getOf (zs.drop q)).map fun r => (r.1, q + r.2)) (hG : getOf (zs.drop q) = some (unzig v, j + 1)) :
    Ending.returned (.tuple #[.int .i64 (unzig v), .int .i64 ((q : Int) + (j : Int) + 1), .int .i64 0]) = .returned (scanOf zs q) := by
  unfold scanOf
  rw [hA, hG]
  simp only [Option.map_some, scanOk]
  rw [show ((q + (j + 1) : Nat) : Int) = (q : Int) + (j : Int) + 1 from by omega]

theorem reads_part {w : World} {b off : Nat} {zs : List Int} (hby : ∀ z ∈ zs, 0 ≤ z ∧ z < 256) (hcell : ∀ i, i < zs.length → w.cell? ⟨b, off + i, none⟩ = some (.int .u8 (zs.getD i 0))) (q k : Nat) (h : q + k ≤ zs.length) :
    Reads w (some ⟨b, off + q, none⟩) ((zs.drop q).take k) := by
  refine ⟨fun z hz => hby z (List.mem_of_mem_drop (List.mem_of_mem_take hz)), fun _ => ⟨b, off + q, rfl, fun i hi => ?_⟩⟩
  have hi' : i < k := by simp at hi; omega
  rw [Nat.add_assoc, hcell (q + i) (by omega)]
  have : ((zs.drop q).take k).getD i 0 = zs.getD (q + i) 0 := by simp [List.getD, hi']
  rw [this]

theorem reads_slice {w : World} {a : Option Addr} {zs : List Int} (hr : Reads w a zs) (q k : Nat) (h : q + k ≤ zs.length) : Reads w (a.map fun x => x.add q) ((zs.drop q).take k) := by
  rcases hr.cases with rfl | ⟨b, off, rfl, hpos, hcell⟩
  · exact ⟨by simp, by simp⟩
  · have := reads_part hr.byte hcell q k h
    have e : (⟨b, off, none⟩ : Addr).add q = ⟨b, off + q, none⟩ := by unfold Addr.add; split <;> simp_all
    rw [Option.map_some, e]
    exact this

theorem reads_from {w : World} {b off : Nat} {zs : List Int} (hby : ∀ z ∈ zs, 0 ≤ z ∧ z < 256) (hcell : ∀ i, i < zs.length → w.cell? ⟨b, off + i, none⟩ = some (.int .u8 (zs.getD i 0))) (q : Nat) (h : q ≤ zs.length) :
    Reads w (some ⟨b, off + q, none⟩) (zs.drop q) := by
  have := reads_part hby hcell q (zs.length - q) (by omega)
  rwa [List.take_of_length_le (by simp)] at this

set_option maxHeartbeats 1000000 in
set_option maxRecDepth 100000 in
theorem scanInt_any (a : Option Addr) (c : Nat) (zs : List Int) (p : Int) (w : World) (hr : Reads w a zs) (hl : zs.length ≤ 70368744177664) (hcap : zs.length ≤ c) :
    Calls Tryd.prog 124 #[.slice a zs.length c, .int .i64 p] w fun e w' => e = .returned (scanOf zs p) ∧ w' = w := by
  by_cases h0 : p < 0
  · have HG : Hid (_ = _) := scan_none zs p (getAt_neg zs p h0) 3 (by unfold scanWhy; rw [if_neg (by omega)])
    go_enter Tryd.func124, Tryd.ntmps124
    go_wp2
    go_ret3
    exact ⟨by rw [HG.out]; rfl, rfl⟩
  by_cases h1 : (zs.length : Int) < p
  · have HG : Hid (_ = _) := scan_none zs p (getAt_past zs p (by omega)) 3 (by unfold scanWhy; rw [if_neg (by omega)])
    go_enter Tryd.func124, Tryd.ntmps124
    go_wp2
    go_ret3
    exact ⟨by rw [HG.out]; rfl, rfl⟩
  obtain ⟨q, rfl⟩ := Int.eq_ofNat_of_zero_le (show 0 ≤ p from by omega)
  have hq : q ≤ zs.length := by omega
  have hby := hr.byte
  have HA : Hid (_ = _) := getAt_nat zs q
  have hLl : (zs.drop q).length = zs.length - q := List.length_drop
  clear h0 h1
  by_cases hck : c = q
  · have hle : (zs.length : Int) - (q : Int) < 1 := by omega
    have he : zs.drop q = [] := List.length_eq_zero_iff.1 (by omega)
    have HX : Hid (scanOf zs q = .tuple #[.int .i64 0, .int .i64 0, .int .i64 1]) := by
      refine scan_none zs q (by rw [HA.out, he]; rfl) 1 ?_
      unfold scanWhy
      rw [if_pos ⟨by omega, by omega, by rw [Int.toNat_natCast, he]; simp [lead]; omega, by rw [Int.toNat_natCast, he]; simp [lead]⟩]
    have hcg := countGroups_any a 0 [] w ⟨by simp, by simp⟩ (by simp)
    clear he HA hLl hby
    subst hck
    go_enter Tryd.func124, Tryd.ntmps124
    go_wp2_with fail
    refine hcg.mono ?_
    rintro e w' ⟨rfl, rfl⟩
    rw [show ((countOf [] : Nat) : Int) = 1 from rfl]
    go_wp2
    go_ret3
    exact ⟨by rw [HX.out]; rfl, rfl⟩
  have hrp : Reads w (a.map fun x => x.add q) (zs.drop q) := by
    have := reads_slice hr q (zs.length - q) (by omega)
    rwa [List.take_of_length_le (by omega)] at this
  have hcg := fun c' => countGroups_any (a.map fun x => x.add q) c' (zs.drop q) w hrp (by omega)
  rw [hLl] at hcg
  have HRS : Hid (∀ k, q + k ≤ zs.length → Reads w (a.map fun x => x.add q) ((zs.drop q).take k)) := fun k h => reads_slice hr q k h
  have HGT : Hid (6 < countOf (zs.drop q) → scanOf zs q = .tuple #[.int .i64 0, .int .i64 0, .int .i64 3]) := by
    intro h
    have h6 : 6 ≤ lead (zs.drop q) := by unfold countOf at h; omega
    refine scan_none zs q (by rw [HA.out, getOf_none _ (.inr (.inl h6))]; rfl) 3 ?_
    unfold scanWhy
    rw [if_neg]
    rintro ⟨_, _, _, h'⟩
    rw [Int.toNat_natCast] at h'
    omega
  have HEN : Hid (countOf (zs.drop q) ≤ 6 → zs.length - q < countOf (zs.drop q) → scanOf zs q = .tuple #[.int .i64 0, .int .i64 0, .int .i64 1]) := by
    intro h h'
    have hle := lead_le (zs.drop q)
    have h6 : lead (zs.drop q) = (zs.drop q).length := by unfold countOf at h h'; omega
    refine scan_none zs q (by rw [HA.out, getOf_none _ (.inl h6)]; rfl) 1 ?_
    unfold scanWhy
    rw [if_pos ⟨by omega, by omega, by rw [Int.toNat_natCast]; omega, by rw [Int.toNat_natCast]; unfold countOf at h; omega⟩]
  have HLD : Hid (countOf (zs.drop q) ≤ 6 → countOf (zs.drop q) ≤ zs.length - q → lead (zs.drop q) + 1 = countOf (zs.drop q)) := by
    intro h h'
    unfold countOf at h ⊢; omega
  have HPS : Hid (1 ≤ countOf (zs.drop q)) := by unfold countOf; rw [Hid]; omega
  generalize countOf (zs.drop q) = n at *
  by_cases h6 : 6 < n
  · have HX : Hid (_ = _) := HGT.out h6
    go_enter Tryd.func124, Tryd.ntmps124
    go_wp2_with fail
    refine (hcg _).mono ?_
    rintro e w' ⟨rfl, rfl⟩
    go_wp2
    go_ret3
    exact ⟨by rw [HX.out]; rfl, rfl⟩
  by_cases hen : zs.length - q < n
  · have HX : Hid (_ = _) := HEN.out (by omega) hen
    have hen' : (zs.length : Int) - (q : Int) < n := by omega
    go_enter Tryd.func124, Tryd.ntmps124
    go_wp2_with fail
    refine (hcg _).mono ?_
    rintro e w' ⟨rfl, rfl⟩
    go_wp2
    go_ret3
    exact ⟨by rw [HX.out]; rfl, rfl⟩
  obtain ⟨j, rfl⟩ : ∃ j, n = j + 1 := ⟨n - 1, by have := HPS.out; omega⟩
  have hen' : ¬ (zs.length : Int) - (q : Int) < ((j + 1 : Nat) : Int) := by omega
  have HLE : Hid (lead (zs.drop q) = j) := by have := HLD.out (by omega) (by omega); rw [Hid]; omega
  have hrG := HRS.out (j + 1) (by omega)
  have hgl : ((zs.drop q).take (j + 1)).length = j + 1 := by simp; omega
  have hgz : ((zs.drop q).take (j + 1)).getD j 0 = (zs.drop q).getD j 0 := by simp [List.getD]
  have HW : Hid (j < zs.length - q → scanWhy zs q = 3) := by intro hj; unfold scanWhy; rw [if_neg]; rintro ⟨_, _, h, _⟩; rw [Int.toNat_natCast, HLE.out] at h; omega
  have HN1 : Hid (getOf (zs.drop q) = none → scanOf zs q = .tuple #[.int .i64 0, .int .i64 0, .int .i64 3]) := fun h => scan_none zs q (by rw [HA.out, h]; rfl) 3 (HW.out (by omega))
  have HSm : Hid (_ → _ → _ → _ = _) := getOf_some (zs.drop q) j HLE.out (by omega)
  have HZ : Hid (_ → _) := getOf_none (zs.drop q)
  rw [HLE.out] at HZ
  have HQ : Hid (fits ((zs.drop q).take (j + 1)) ↔ ¬ (0 < j ∧ (zs.drop q).getD j 0 = 0)) := by
    unfold fits; rw [Hid, hgl, Nat.add_sub_cancel, hgz]
    constructor
    · rintro ⟨h1, h2⟩; exact fun h => h2 ⟨by omega, h.2⟩
    · rintro h2; exact ⟨by omega, fun h => h2 ⟨by omega, h.2⟩⟩
  have hv : valOf ((zs.drop q).take (j + 1)) < 4398046511104 := (valOf_take_lt (zs.drop q) (j + 1) (by omega)).1
  have HGL : Hid (j + 1 = ((zs.drop q).take (j + 1)).length) := by rw [Hid, hgl]
  have hg1 : 1 ≤ ((zs.drop q).take (j + 1)).length := by rw [hgl]; omega
  have hg2 : ((zs.drop q).take (j + 1)).length ≤ 6 := by rw [hgl]; omega
  clear hgl hgz HGT HEN HLD HRS HPS HW
  by_cases hfit : fits ((zs.drop q).take (j + 1))
  · have HB : Hid (_ → _) := HSm.out (by omega) (HQ.out.1 hfit)
    clear HSm HQ
    generalize (zs.drop q).take (j + 1) = G at *
    by_cases hbd : valOf G ≤ 2000000000000
    · have HG : Hid (_ = _) := HB.out hbd
      go_enter Tryd.func124, Tryd.ntmps124
      go_wp2_with fail
      refine (hcg _).mono ?_
      rintro e w' ⟨rfl, rfl⟩
      go_wp2_with fail
      rw [HGL.out]
      refine (joinGroups_yes _ _ G _ hrG hg1 hfit).mono ?_
      rintro e w' ⟨rfl, rfl⟩
      rw [decide_eq_true hbd]
      go_wp2_with fail
      refine (unfoldSign_any (valOf G) _ (by omega)).mono ?_
      rintro e w'' ⟨rfl, rfl⟩
      go_wp2
      go_ret3
      exact ⟨scan_got HA.out HG.out, rfl⟩
    · have HG : Hid (_ = _) := HN1.out (HZ.out (.inr (.inr (.inr (by omega)))))
      go_enter Tryd.func124, Tryd.ntmps124
      go_wp2_with fail
      refine (hcg _).mono ?_
      rintro e w' ⟨rfl, rfl⟩
      go_wp2_with fail
      rw [HGL.out]
      refine (joinGroups_yes _ _ G _ hrG hg1 hfit).mono ?_
      rintro e w' ⟨rfl, rfl⟩
      rw [decide_eq_false hbd]
      go_wp2
      go_ret3
      exact ⟨by rw [HG.out]; rfl, rfl⟩
  · have HG : Hid (_ = _) := HN1.out (HZ.out (by
      by_cases hz : 0 < j ∧ (zs.drop q).getD j 0 = 0
      · exact .inr (.inr (.inl hz))
      · exact absurd (HQ.out.2 hz) hfit))
    clear HSm HZ HQ HN1
    generalize (zs.drop q).take (j + 1) = G at *
    go_enter Tryd.func124, Tryd.ntmps124
    go_wp2_with fail
    refine (hcg _).mono ?_
    rintro e w' ⟨rfl, rfl⟩
    go_wp2_with fail
    rw [HGL.out]
    refine (joinGroups_no _ _ G _ hrG hg2 hfit).mono ?_
    rintro e w' ⟨rfl, rfl⟩
    go_wp2
    go_ret3
    exact ⟨by rw [HG.out]; rfl, rfl⟩
end Go.Proofs.YtjaojcgfgkppgaaDoor

/- What Unframe answers, in plain mathematics; four bytes and the sum that they hold. -/
namespace Go.Proofs.YtjaojcgfgkppgaaDoor
open Go.RowKit

/-- The sum that the first k bytes hold, the lowest first. -/
def sumTo (zs : List Int) : Nat → Nat
  | 0 => 0
  | k + 1 => sumTo zs k + (zs.getD k 0).toNat * 256 ^ k

theorem sumTo_lt (zs : List Int) (hb : ∀ z ∈ zs, 0 ≤ z ∧ z < 256) (k : Nat) : sumTo zs k < 256 ^ k := by
  induction k with
  | zero => simp [sumTo]
  | succ k ih =>
    have := (bytes_nat hb k).2
    unfold sumTo
    rw [Nat.pow_succ]
    have h : (zs.getD k 0).toNat * 256 ^ k ≤ 255 * 256 ^ k := Nat.mul_le_mul_right _ (by omega)
    omega

theorem sumTo_four (zs : List Int) : sumTo zs 4 = (zs.getD 0 0).toNat + (zs.getD 1 0).toNat * 256 + (zs.getD 2 0).toNat * 65536 + (zs.getD 3 0).toNat * 16777216 := by
  simp [sumTo]

theorem take4 (zs : List Int) (h : 4 ≤ zs.length) : zs.take 4 = [zs.getD 0 0, zs.getD 1 0, zs.getD 2 0, zs.getD 3 0] := by
  match zs, h with
  | a :: b :: c :: d :: r, _ => simp

theorem sum_iff (zs : List Int) (hb : ∀ z ∈ zs, 0 ≤ z ∧ z < 256) (h : 4 ≤ zs.length) (x : Nat) (hx : x < 4294967296) : sumTo zs 4 = x ↔ zs.take 4 = four x := by
  rw [take4 zs h, four_eq, sumTo_four]
  have h0 := bytes_nat hb 0
  have h1 := bytes_nat hb 1
  have h2 := bytes_nat hb 2
  have h3 := bytes_nat hb 3
  generalize (zs.getD 0 0) = a at *
  generalize (zs.getD 1 0) = b at *
  generalize (zs.getD 2 0) = c at *
  generalize (zs.getD 3 0) = d at *
  simp only [List.cons.injEq, and_true]
  omega

/-- What Unframe answers: the body, the place, the code. -/
def unfOf (zs : List Int) (p : Int) : List Int × Int × Int := match getAt zs p with
  | none => ([], p, scanWhy zs p)
  | some r => if r.1 < 0 then ([], p, 3) else if (zs.length : Int) - (r.2 : Int) < r.1 + 4 then ([], p, 1) else
    if (zs.drop (r.2 + r.1.toNat)).take 4 = four (crcOf ((zs.drop r.2).take r.1.toNat)) then ((zs.drop r.2).take r.1.toNat, (r.2 : Int) + r.1 + 4, 0) else ([], p, 2)

/-- Its answer as a value: the slice at a. -/
def unfVal (a : Option Addr) (c : Nat) (r : List Int × Int × Int) : Value := .tuple #[.slice a r.1.length c, .int .i64 r.2.1, .int .i64 r.2.2]

theorem unf_none (zs : List Int) (p : Int) (h : getAt zs p = none) : unfOf zs p = ([], p, scanWhy zs p) := by unfold unfOf; rw [h]
theorem unf_neg (zs : List Int) (p n : Int) (k : Nat) (h : getAt zs p = some (n, k)) (hn : n < 0) : unfOf zs p = ([], p, 3) := by unfold unfOf; rw [h]; simp only; rw [if_pos hn]
theorem unf_end (zs : List Int) (p : Int) (m k : Nat) (h : getAt zs p = some ((m : Int), k)) (hn : (zs.length : Int) - (k : Int) < (m : Int) + 4) : unfOf zs p = ([], p, 1) := by
  unfold unfOf; rw [h]; simp only; rw [if_neg (by omega), if_pos hn]
theorem unf_sum (zs : List Int) (p : Int) (m k : Nat) (h : getAt zs p = some ((m : Int), k)) (hn : ¬ (zs.length : Int) - (k : Int) < (m : Int) + 4) (hs : ¬ (zs.drop (k + m)).take 4 = four (crcOf ((zs.drop k).take m))) : unfOf zs p = ([], p, 2) := by
  unfold unfOf; rw [h]; simp only; rw [if_neg (by omega), if_neg hn, Int.toNat_natCast, if_neg hs]
theorem unf_good (zs : List Int) (p : Int) (m k : Nat) (h : getAt zs p = some ((m : Int), k)) (hn : ¬ (zs.length : Int) - (k : Int) < (m : Int) + 4) (hs : (zs.drop (k + m)).take 4 = four (crcOf ((zs.drop k).take m))) : unfOf zs p = ((zs.drop k).take m, (k : Int) + (m : Int) + 4, 0) := by
  unfold unfOf; rw [h]; simp only; rw [if_neg (by omega), if_neg hn, Int.toNat_natCast, if_pos hs]

theorem own_none (w : World) (base : Nat) : OwnB w base none 0 [] := ⟨by simp, by simp, .inl ⟨rfl, rfl⟩⟩
end Go.Proofs.YtjaojcgfgkppgaaDoor
