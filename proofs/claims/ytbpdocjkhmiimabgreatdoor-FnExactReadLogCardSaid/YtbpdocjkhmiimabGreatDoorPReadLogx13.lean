/- Several texts in one, in their order. -/
import Derived.Test.YtbpdocjkhmiimabGreatDoorPReadLogx9
import Derived.Test.YtbpdocjkhmiimabGreatDoorPReadLogx12
import Derived.Test.YtbpdocjkhmiimabGreatDoorProg
import Derived.Test.YtbpdocjkhmiimabGreatDoorPReadLogx1
import Derived.Test.YtbpdocjkhmiimabGreatDoorPReadLogx10
/- The walk of impl.putInts: b, and behind it the bytes of each number. -/
namespace Go.Proofs.YtbpdocjkhmiimabGreatDoor
open Go.RowKit

def putTo (ns : List Int) (k : Nat) : List Int := (ns.take k).flatMap putOf
theorem putTo_succ (ns : List Int) (k : Nat) (h : k < ns.length) : putTo ns (k + 1) = putTo ns k ++ putOf (ns.getD k 0) := by
  unfold putTo
  rw [List.take_succ_eq_append_getElem h, List.flatMap_append]
  simp [List.getD, h]
theorem putTo_all (ns : List Int) (k : Nat) (h : ns.length ≤ k) : putTo ns k = ns.flatMap putOf := by
  unfold putTo; rw [List.take_of_length_le h]
theorem putTo_len (ns : List Int) (k : Nat) : (putTo ns k).length ≤ 65 * k := by
  induction k with
  | zero => simp [putTo]
  | succ k ih =>
    by_cases h : k < ns.length
    · rw [putTo_succ ns k h, List.length_append]
      have := (putOf_len (ns.getD k 0)).2
      omega
    · rw [putTo_all ns _ (by omega), ← putTo_all ns k (by omega)]
      omega

set_option maxHeartbeats 400000 in
set_option maxRecDepth 100000 in
theorem putInts_any (a : Option Addr) (c : Nat) (zs : List Int) (na : Option Addr) (nc : Nat) (ns : List Int) (w : World) (hr : Reads w a zs) (hc : a = none → c = 0) (hn : ReadsI w na ns)
    (hl : zs.length + 65 * ns.length ≤ 70368744170000) :
    Calls Tryz.prog 56 #[.slice a zs.length c, .slice na ns.length nc] w fun e w' => ∃ a' c' ys, e = .returned (.slice a' ys.length c') ∧ ys = zs ++ ns.flatMap putOf ∧ OwnB w' w.heap.size a' c' ys ∧ Below w.heap.size w w' := by
  obtain ⟨i0, hi, hz0, hz1, hz2⟩ := info_parts Tryz.infoU8
  have fin : ns = [] ∨ ∃ b off, na = some ⟨b, off, none⟩ ∧ 0 < ns.length ∧ b < w.heap.size ∧ ∀ i, i < ns.length → w.cell? ⟨b, off + i, none⟩ = some (.int .i64 (ns.getD i 0)) := by
    by_cases e : ns = []
    · exact .inl e
    · obtain ⟨b, off, h1, h2⟩ := hn e
      have hp := List.length_pos_iff.2 e
      exact .inr ⟨b, off, h1, hp, block_lt (h2 0 hp), h2⟩
  have HC : Hid (a = none → c = 0) := hc
  clear hc
  rcases fin with rfl | ⟨b, off, rfl, hpos, hbB, hcell⟩
  · go_enter Tryz.func56, Tryz.ntmps56
    go_wp2_with (first | (at_make; refine wpList_make_own _ rfl _ _ 34 rfl w.heap.size 5 i0 (.int .u8 0) 1 Tryz.underlying34 hi hz0 hz1 _ _ _ zs.length rfl rfl (by simp) (by rw [hz2]; omega) (by simp only [maxLen]; omega) (Nat.le_refl _) ?_) | fail)
    intro w0 hown0 hgrow0
    have hb0 : Below w.heap.size w w0 := (Below.refl _ _).grown hgrow0 (Nat.le_refl _) (fun k h => by cases h)
    have ho0 : OwnB w0 w.heap.size (some ⟨w.heap.size, 0, none⟩) zs.length [] := ⟨by simp, hown0⟩
    have hr0 := hr.below hb0
    have hs0 := hb0.size
    clear hown0 hgrow0 hr
    go_wp2_with (at_builtin; refine append_bytes rfl _ _ rfl w.heap.size _ _ [] rfl ho0 a c zs rfl hr0 HC.out (by simp; omega) hs0 ?_; intro a1 c1 y1 w1 hy1 ho1 hg1)
    have hb1 := hb0.grown hg1 hs0 (fun k hk => (ho0.2.lt k hk).1)
    refine wp_loop_rounds 1 ?_
    rw [rounds_succ]
    go_wp2
    go_ret
    exact ⟨a1, c1, y1, rfl, by rw [hy1.out]; simp, ho1, hb1⟩
  · go_enter Tryz.func56, Tryz.ntmps56
    go_wp2_with (first | (at_make; refine wpList_make_own _ rfl _ _ 34 rfl w.heap.size 5 i0 (.int .u8 0) 1 Tryz.underlying34 hi hz0 hz1 _ _ _ (zs.length + 6 * ns.length) rfl rfl (by omega) (by rw [hz2]; omega) (by simp only [maxLen]; omega) (Nat.le_refl _) ?_) | fail)
    intro w0 hown0 hgrow0
    have hb0 : Below w.heap.size w w0 := (Below.refl _ _).grown hgrow0 (Nat.le_refl _) (fun k h => by cases h)
    have ho0 : OwnB w0 w.heap.size (some ⟨w.heap.size, 0, none⟩) (zs.length + 6 * ns.length) [] := ⟨by simp, hown0⟩
    have hr0 := hr.below hb0
    have hs0 := hb0.size
    clear hown0 hgrow0 hr
    go_wp2_with (at_builtin; refine append_bytes rfl _ _ rfl w.heap.size _ _ [] rfl ho0 a c zs rfl hr0 HC.out (by simp; omega) hs0 ?_; intro a1 c1 y1 w1 hy1 ho1 hg1)
    have hb1 := hb0.grown hg1 hs0 (fun k hk => (ho0.2.lt k hk).1)
    clear ho0 hr0 hg1 hb0 hs0
    go_loopw [5, 20] (fun out i wr => ∃ (a' : Option Addr) (c' : Nat) (ys : List Int) (k : Nat), out = .slice a' ys.length c' ∧ i = .int .i64 k ∧ k ≤ ns.length ∧ OwnB wr w.heap.size a' c' ys ∧ Hid (ys = zs ++ putTo ns k) ∧ Below w.heap.size w wr)
      (fun _ i _ => ns.length - (intOf i).toNat)
    case atStart => exact ⟨a1, c1, y1, 0, rfl, rfl, Nat.zero_le _, ho1, by rw [Hid, hy1.out]; simp [putTo], hb1⟩
    case round =>
      obtain ⟨a', c', ys, k, rfl, rfl, hk, ho, hy, hnx⟩ := hrel
      clear ho1 hb1 hy1
      have hsz := hnx.size
      have hyl : ys.length ≤ 70368744177000 := by
        have e := congrArg List.length hy.out
        have := putTo_len ns k
        rw [List.length_append] at e
        omega
      by_cases hlt : k < ns.length
      · have hcx : wr.cell? ⟨b, off + k, none⟩ = some (.int .i64 (ns.getD k 0)) := (hnx.cell (by exact hbB)).trans (hcell k hlt)
        have HS : Hid (putTo ns (k + 1) = _) := putTo_succ ns k hlt
        have HZ := zig_le (ns.getD k 0)
        have HP : Hid (putOf (ns.getD k 0) = groups (zig (ns.getD k 0))) := rfl
        clear hcell
        generalize ns.getD k 0 = n at *
        go_wp2_with fail
        refine (foldSign_any n wr).mono ?_
        rintro e w2 ⟨rfl, rfl⟩
        go_wp2_with fail
        refine (appendGroups_any w.heap.size a' c' ys (zig n) w2 ho HZ hyl hsz).mono ?_
        rintro e w3 ⟨a3, c3, y3, rfl, hy3, ho3, hb3⟩
        have HY : Hid (y3 = zs ++ putTo ns (k + 1)) := by rw [Hid, hy3, hy.out, HS.out, HP.out, List.append_assoc]
        clear hy3
        go_wp2
        go_roundw
        case rel => exact ⟨a3, c3, y3, k + 1, rfl, by go_num, by omega, ho3, HY, hnx.trans hb3⟩
        case measure => simp [intOf]; omega
      · have HE : Hid (ys = zs ++ ns.flatMap putOf) := by rw [Hid, hy.out, putTo_all ns k (by omega)]
        go_wp2
        go_ret
        exact ⟨a', c', ys, rfl, HE.out, ho, hnx⟩
end Go.Proofs.YtbpdocjkhmiimabGreatDoor

/- The walk of impl.Frame: it comes to frameOf. -/
namespace Go.Proofs.YtbpdocjkhmiimabGreatDoor
open Go.RowKit

def frameOf (zs : List Int) : List Int := (putOf zs.length ++ zs) ++ four (crcOf zs)

theorem crcOf_lt (zs : List Int) (h : ∀ z ∈ zs, 0 ≤ z ∧ z < 256) : crcOf zs < 4294967296 := by
  have := crcTo_lt zs h zs.length
  exact Nat.xor_lt_two_pow (n := 32) (by omega) (by omega)
theorem frameOf_len (zs : List Int) : (frameOf zs).length ≤ zs.length + 69 := by
  have := (putOf_len zs.length).2
  simp [frameOf, four, fourTo]; omega

theorem readsI_lit1 (w : World) (n : Int) (e : TypeId) : ReadsI (w.alloc (.cells #[.int .i64 n] e)) (some ⟨w.heap.size, 0, none⟩) [n] := by
  intro _
  refine ⟨_, _, rfl, fun i hi => ?_⟩
  simp at hi
  subst hi
  simp

theorem reads_nil (w : World) (a : Option Addr) : Reads w a [] := ⟨by simp, by simp⟩

set_option maxHeartbeats 400000 in
set_option maxRecDepth 100000 in
theorem implFrame_any (a : Option Addr) (c : Nat) (zs : List Int) (w : World) (hr : Reads w a zs) (hc : a = none → c = 0) (hl : zs.length ≤ 70368744100000) :
    Calls Tryz.prog 34 #[.slice a zs.length c] w fun e w' => ∃ a' c' ys, e = .returned (.slice a' ys.length c') ∧ ys = frameOf zs ∧ OwnB w' w.heap.size a' c' ys ∧ Below w.heap.size w w' := by
  have HC : Hid (a = none → c = 0) := hc
  have HB : Hid (∀ z ∈ zs, 0 ≤ z ∧ z < 256) := hr.byte
  have HL : Hid ((putOf (zs.length : Int)).length ≤ 65) := (putOf_len _).2
  clear hc
  go_enter Tryz.func34, Tryz.ntmps34
  go_wp2_with fail
  refine (putInts_any none 0 [] _ _ [(zs.length : Int)] _ (reads_nil _ _) (fun _ => rfl) (readsI_lit1 w _ _) (by simp)).mono ?_
  rintro e w1 ⟨a1, c1, y1, rfl, hy1, ho1, hb1⟩
  have hbw : Below w.heap.size w w1 := ((Below.refl _ _).alloc (Nat.le_refl _) _).trans (hb1.mono (by simp))
  have hr1 := hr.below hbw
  have HY1 : Hid (y1 = putOf zs.length) := by rw [Hid, hy1]; simp
  have hl1 : y1.length ≤ 65 := by rw [HY1.out]; exact HL.out
  have ho1' : OwnB w1 w.heap.size a1 c1 y1 := ho1.base (by simp)
  have hs1 := hbw.size
  clear hy1 hb1 ho1
  go_wp2_with (at_builtin; refine append_bytes rfl _ _ rfl w.heap.size a1 c1 y1 rfl ho1' a c zs rfl hr1 HC.out (by omega) hs1 ?_; intro a2 c2 y2 w2 hy2 ho2 hg2)
  have hbw2 := hbw.grown hg2 hs1 (fun j hj => (ho1'.2.lt j hj).1)
  have hr2 := hr.below hbw2
  have HY2 : Hid (y2 = putOf zs.length ++ zs) := by rw [Hid, hy2.out, HY1.out]
  have hl2 : y2.length ≤ 70368744177000 := by
    have e := congrArg List.length HY2.out
    have := HL.out
    rw [List.length_append] at e
    omega
  clear hr hr1 hbw ho1' hg2 hs1 hl1
  refine (implCrc_any a c zs w2 hr2 (by omega)).mono ?_
  rintro e w3 ⟨rfl, rfl⟩
  go_wp2_with fail
  refine (appendSum_any w.heap.size a2 c2 y2 (crcOf zs) w3 ho2 hl2 hbw2.size).mono ?_
  rintro e w4 ⟨a4, c4, y4, rfl, hy4, ho4, hb4⟩
  have HY4 : Hid (y4 = frameOf zs) := by rw [Hid, hy4, HY2.out]; rfl
  clear hy4
  go_wp2
  go_ret
  exact ⟨a4, c4, y4, rfl, HY4.out, ho4, hbw2.trans hb4⟩
end Go.Proofs.YtbpdocjkhmiimabGreatDoor

/- The walks of impl.unfoldSign and impl.joinGroups. -/
namespace Go.Proofs.YtbpdocjkhmiimabGreatDoor
open Go.RowKit

theorem unzig_even (m : Nat) (h : (m : Int) % 2 = 0) : unzig m = (m : Int) / 2 := by unfold unzig; rw [if_pos (by omega)]; omega
theorem unzig_odd (m : Nat) (h : ¬ (m : Int) % 2 = 0) : unzig m = -((m : Int) / 2) - 1 := by unfold unzig; rw [if_neg (by omega)]; omega

set_option maxHeartbeats 400000 in
theorem unfoldSign_any (m : Nat) (w : World) (hm : m ≤ 4398046511104) :
    Calls Tryz.prog 133 #[.int .i64 m] w fun e w' => e = .returned (.int .i64 (unzig m)) ∧ w' = w := by
  by_cases ho : (m : Int) % 2 = 0
  · have HU : Hid (_ = _) := unzig_even m ho
    go_enter Tryz.func133, Tryz.ntmps133
    go_wp2
    go_ret
    exact ⟨ret_int HU.out.symm, rfl⟩
  · have HU : Hid (_ = _) := unzig_odd m ho
    have ho' : ((m : Int) % 2 == 0) = false := by simp; omega
    go_enter Tryz.func133, Tryz.ntmps133
    go_wp2
    go_ret
    exact ⟨ret_int HU.out.symm, rfl⟩

/-- May these groups be a number's? -/
def fits (G : List Int) : Prop := G.length ≤ 6 ∧ ¬ (1 < G.length ∧ G.getD (G.length - 1) 0 = 0)

theorem shl_go (c j : Nat) (hj : j < 6) : wrap64 ((c : Int) % 128 * 2 ^ (7 * j)) = (((c % 128) * 128 ^ j : Nat) : Int) ∧ (c % 128) * 128 ^ j ≤ 4398046511104 := by
  have e7 : (128 : Nat) ^ j = 2 ^ (7 * j) := by rw [Nat.pow_mul]
  have hp : (128 : Nat) ^ j ≤ 128 ^ 5 := Nat.pow_le_pow_right (by omega) (by omega)
  have h5 : (128 : Nat) ^ 5 = 34359738368 := by decide
  have hb : (c % 128) * 128 ^ j ≤ 127 * 34359738368 := Nat.mul_le_mul (by omega) (by omega)
  have e : ((c : Int) % 128 * 2 ^ (7 * j)) = (((c % 128) * 128 ^ j : Nat) : Int) := by
    rw [e7]; simp
  rw [e]
  constructor
  · unfold wrap64; omega
  · omega

set_option maxHeartbeats 400000 in
theorem joinGroups_no (a : Option Addr) (c : Nat) (G : List Int) (w : World) (hr : Reads w a G) (hl : G.length ≤ 6) (hf : ¬ fits G) :
    Calls Tryz.prog 132 #[.slice a G.length c] w fun e w' => e = .returned (.tuple #[.int .i64 0, .bool false]) ∧ w' = w := by
  have h2 : 1 < G.length ∧ G.getD (G.length - 1) 0 = 0 := by
    by_cases h : 1 < G.length ∧ G.getD (G.length - 1) 0 = 0
    · exact h
    · exact absurd ⟨by omega, h⟩ hf
  rcases hr.cases with rfl | ⟨b, off, rfl, hpos, hcell⟩
  · simp at h2
  have hc := hcell (G.length - 1) (by omega)
  rw [h2.2] at hc
  have h3 := h2.1
  have hgt : (0 : Int) < (G.length : Int) - 1 := by omega
  have hcc : w.cell? ⟨b, off + ((G.length : Int) - 1).toNat, none⟩ = some (.int .u8 0) := by
    rw [show ((G.length : Int) - 1).toNat = G.length - 1 from by omega]; exact hc
  clear hf h2 hcell
  go_enter Tryz.func132, Tryz.ntmps132
  go_wp2
  go_ret2
  exact ⟨rfl, rfl⟩

theorem join_end (m v : Nat) (h : m = v) : Ending.returned (.tuple #[.int .i64 (m : Int), .bool (decide ((m : Int) ≤ 2000000000000))]) = .returned (.tuple #[.int .i64 ((v : Nat) : Int), .bool (decide (v ≤ 2000000000000))]) := by
  subst h
  have e : decide ((m : Int) ≤ 2000000000000) = decide (m ≤ 2000000000000) := decide_eq_decide.2 (by omega)
  rw [e]

set_option maxHeartbeats 400000 in
theorem joinGroups_yes (a : Option Addr) (c : Nat) (G : List Int) (w : World) (hr : Reads w a G) (h1 : 1 ≤ G.length) (hf : fits G) :
    Calls Tryz.prog 132 #[.slice a G.length c] w fun e w' => e = .returned (.tuple #[.int .i64 (valOf G : Nat), .bool (decide (valOf G ≤ 2000000000000))]) ∧ w' = w := by
  have hby := hr.byte
  rcases hr.cases with rfl | ⟨b, off, rfl, hpos, hcell⟩
  · simp at h1
  obtain ⟨h6, h2⟩ := hf
  have hc := hcell (G.length - 1) (by omega)
  obtain ⟨hn, hn2⟩ := bytes_nat hby (G.length - 1)
  have hcc : w.cell? ⟨b, off + ((G.length : Int) - 1).toNat, none⟩ = some (.int .u8 ((G.getD (G.length - 1) 0).toNat : Int)) := by
    rw [show ((G.length : Int) - 1).toNat = G.length - 1 from by omega, ← hn]; exact hc
  have hcs : G.length < 2 ∨ (1 < G.length ∧ (((G.getD (G.length - 1) 0).toNat : Int) == 0) = false) := by
    by_cases e : 1 < G.length
    · refine .inr ⟨e, ?_⟩
      have : ¬ G.getD (G.length - 1) 0 = 0 := fun h => h2 ⟨e, h⟩
      simp only [beq_eq_false_iff_ne, ne_eq]
      omega
    · exact .inl (by omega)
  have HTA : Hid (valOf (G.take G.length) = valOf G) := by rw [Hid, List.take_of_length_le (Nat.le_refl _)]
  rw [hn] at hc
  generalize (G.getD (G.length - 1) 0).toNat = last at *
  clear hn h2
  rcases hcs with hlt | ⟨hgt, hnz⟩
  all_goals
    go_enter Tryz.func132, Tryz.ntmps132
    go_wp2
    go_loop [5, 22] (fun m i => ∃ k : Nat, k ≤ G.length ∧ i = .int .i64 k ∧ m = .int .i64 (valOf (G.take k) : Nat)) (fun _ i => G.length - (intOf i).toNat)
    case atStart => exact ⟨0, by omega, rfl, rfl⟩
    case round =>
      obtain ⟨k, hk, rfl, rfl⟩ := hrel
      have hm := (valOf_take_lt G k (by omega)).1
      by_cases hlt : k < G.length
      · have hck := hcell k hlt
        obtain ⟨hkn, hkn2⟩ := bytes_nat hby k
        have HV : Hid (_ = _) := valOf_take G k hlt
        rw [hkn] at hck
        have HT : Hid ((G.getD k 0 % 128).toNat = (G.getD k 0).toNat % 128) := by rw [Hid]; omega
        clear hkn hcell hby
        generalize (G.getD k 0).toNat = cc at *
        obtain ⟨hsh, hshl⟩ := shl_go cc k (by omega)
        have HV2 : Hid (valOf (G.take (k + 1)) = valOf (G.take k) + cc % 128 * 128 ^ k) := by rw [Hid, HV.out, HT.out]
        clear HV HT
        generalize cc % 128 * 128 ^ k = t at *
        generalize valOf (G.take k) = m at *
        go_wp2
        go_round
        case rel => exact ⟨k + 1, by omega, by go_num, by rw [HV2.out]; go_num⟩
        case measure => simp [intOf]; omega
      · have HE : Hid (valOf (G.take k) = valOf G) := by
          have e : k = G.length := by omega
          rw [e]; exact HTA
        generalize valOf (G.take k) = m at *
        go_wp2
        go_ret2
        exact ⟨join_end _ _ HE.out, rfl⟩
end Go.Proofs.YtbpdocjkhmiimabGreatDoor

/- The walk of impl.countGroups. -/
namespace Go.Proofs.YtbpdocjkhmiimabGreatDoor
open Go.RowKit

/-- How many groups are counted: those that say more, up to six, and one. -/
def countOf (L : List Int) : Nat := min (lead L) 6 + 1

theorem countOf_go (L : List Int) (j : Nat) (hj : j ≤ 6) (hl : j ≤ L.length) (hall : ∀ i, i < j → 128 ≤ L.getD i 0) (hs : j = 6 ∨ j = L.length ∨ (j < L.length ∧ L.getD j 0 < 128)) : countOf L = j + 1 := by
  have h1 := lead_ge j L hl hall
  have h2 := lead_le L
  unfold countOf
  rcases hs with h | h | ⟨h, h'⟩
  · omega
  · omega
  · have := lead_stop j L h h'
    omega

set_option maxHeartbeats 400000 in
set_option maxRecDepth 100000 in
theorem countGroups_any (a : Option Addr) (c : Nat) (zs : List Int) (w : World) (hr : Reads w a zs) (hl : zs.length ≤ 70368744177664) :
    Calls Tryz.prog 131 #[.slice a zs.length c] w fun e w' => e = .returned (.int .i64 (countOf zs : Nat)) ∧ w' = w := by
  have hby := hr.byte
  rcases hr.cases with rfl | ⟨b, off, rfl, hpos, hcell⟩
  · go_enter Tryz.func131, Tryz.ntmps131
    go_wp2
    refine wp_loop_rounds 1 ?_
    rw [rounds_succ]
    go_wp2
    go_ret
    exact ⟨rfl, rfl⟩
  go_enter Tryz.func131, Tryz.ntmps131
  go_wp2
  go_loop [3] (fun i => ∃ j : Nat, j ≤ 6 ∧ j ≤ zs.length ∧ i = .int .i64 ((j + 1 : Nat) : Int) ∧ Hid (∀ i, i < j → 128 ≤ zs.getD i 0)) (fun i => 7 - (intOf i).toNat)
  case atStart => exact ⟨0, by omega, by omega, rfl, fun i hi => by omega⟩
  case round =>
    obtain ⟨j, hj6, hjl, rfl, hall⟩ := hrel
    by_cases hm : (zs.length : Int) < 6
    all_goals
    by_cases h6 : j < 6
    · by_cases hlt : j < zs.length
      · have hc := hcell j hlt
        obtain ⟨hn, hn2⟩ := bytes_nat hby j
        have HCC : Hid (zs.getD j 0 = ((zs.getD j 0).toNat : Int)) := hn
        rw [hn] at hc
        clear hn
        generalize (zs.getD j 0).toNat = cc at *
        by_cases hcc : 128 ≤ cc
        · have HN : Hid (∀ i, i < j + 1 → 128 ≤ zs.getD i 0) := by
            intro i hi
            by_cases e : i = j
            · rw [e, HCC.out]; omega
            · exact hall.out i (by omega)
          clear hcell hby
          go_wp2
          go_round
          case rel => exact ⟨j + 1, by omega, by omega, by go_num, HN⟩
          case measure => simp [intOf]; omega
        · have HE : Hid (countOf zs = j + 1) := countOf_go zs j hj6 hjl hall.out (.inr (.inr ⟨hlt, by rw [HCC.out]; omega⟩))
          clear hcell hby
          go_wp2
          go_ret
          exact ⟨ret_int (by rw [HE.out]; omega), rfl⟩
      · have HE : Hid (countOf zs = j + 1) := countOf_go zs j hj6 hjl hall.out (.inr (.inl (by omega)))
        clear hcell hby
        go_wp2
        all_goals go_ret
        all_goals exact ⟨ret_int (by rw [HE.out]; omega), rfl⟩
    · have HE : Hid (countOf zs = j + 1) := countOf_go zs j hj6 hjl hall.out (.inl (by omega))
      clear hcell hby
      go_wp2
      all_goals go_ret
      all_goals exact ⟨ret_int (by rw [HE.out]; omega), rfl⟩
end Go.Proofs.YtbpdocjkhmiimabGreatDoor
