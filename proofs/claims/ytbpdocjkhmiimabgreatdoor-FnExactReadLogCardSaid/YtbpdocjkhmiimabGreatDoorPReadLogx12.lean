/- Several texts in one, in their order. -/
import Derived.Test.YtbpdocjkhmiimabGreatDoorPReadLogx11
import Derived.Test.YtbpdocjkhmiimabGreatDoorProg
import Derived.Test.YtbpdocjkhmiimabGreatDoorPReadLogx10
import Derived.Test.YtbpdocjkhmiimabGreatDoorPReadLogx1
import Derived.WalkKit
import Derived.Test.YtbpdocjkhmiimabGreatDoorPReadLogx4
/- Plain mathematics of reading an object number by number: what is read is just what is put. -/
namespace Go.Proofs.YtbpdocjkhmiimabGreatDoor
open Go.RowKit

def Bytes (zs : List Int) : Prop := ∀ z ∈ zs, 0 ≤ z ∧ z < 256
theorem Bytes.drop {zs : List Int} (h : Bytes zs) (p : Nat) : Bytes (zs.drop p) := fun z hz => h z (List.mem_of_mem_drop hz)

theorem lead_at : ∀ L : List Int, lead L < L.length → L.getD (lead L) 0 < 128 := by
  intro L
  induction L with
  | nil => intro h; simp [lead] at h
  | cons z r ih =>
    intro h
    unfold lead at h ⊢
    split
    · rename_i hz
      rw [if_pos hz, List.length_cons] at h
      have := ih (by omega)
      simpa using this
    · simp; omega

/-- Bytes whose last group of several is not 0 are the groups of what they hold. -/
theorem groups_canon : ∀ L : List Int, Bytes L → lead L < L.length → lead L < 6 → ¬ (0 < lead L ∧ L.getD (lead L) 0 = 0) → groups (valOf (L.take (lead L + 1))) = L.take (lead L + 1) := by
  intro L
  induction L with
  | nil => intro _ h; simp [lead] at h
  | cons z r ih =>
    intro hb hl h6 h0
    have hz := hb z (by simp)
    by_cases hbig : 128 ≤ z
    · have hle : lead (z :: r) = lead r + 1 := by simp [lead, hbig]
      rw [hle] at hl h6 h0 ⊢
      simp only [List.length_cons] at hl
      have hr : Bytes r := fun y hy => hb y (by simp [hy])
      have hlast : r.getD (lead r) 0 ≠ 0 := by
        intro e
        exact h0 ⟨by omega, by simpa using e⟩
      have ihr := ih hr (by omega) (by omega) (fun h => hlast h.2)
      have hlt := lead_at r (by omega)
      have hge := bytes_at hr (lead r)
      have hvt := valOf_take r (lead r) (by omega)
      have hvb := (valOf_take_lt r (lead r + 1) (by omega)).1
      have hpow : 1 ≤ (128 : Nat) ^ lead r := by
        have := Nat.pow_le_pow_right (n := 128) (by omega) (Nat.zero_le (lead r))
        simpa using this
      have hm1 : 1 ≤ (r.getD (lead r) 0 % 128).toNat := by omega
      have hV : 1 ≤ valOf (r.take (lead r + 1)) := by
        rw [hvt]
        have : 1 * 1 ≤ (r.getD (lead r) 0 % 128).toNat * 128 ^ lead r := Nat.mul_le_mul hm1 hpow
        omega
      rw [List.take_succ_cons, valOf]
      generalize valOf (r.take (lead r + 1)) = V at *
      rw [groups_big _ (by omega) (by omega)]
      have e1 : ((z % 128).toNat + 128 * V) / 128 = V := by omega
      have e2 : ((((z % 128).toNat + 128 * V) % 128 + 128 : Nat) : Int) = z := by omega
      rw [e1, e2, ihr]
    · have hle : lead (z :: r) = 0 := by simp [lead]; omega
      rw [hle]
      simp only [Nat.zero_add, List.take_succ_cons, List.take_zero, valOf]
      rw [groups_small _ (by omega)]
      simp; omega

theorem zig_unzig (m : Nat) (h : m ≤ 2000000000000) : zig (unzig m) = m ∧ clampI (unzig m) = unzig m := by
  have hb := (unzig_bd m).2 h
  have hc : clampI (unzig m) = unzig m := by unfold clampI; rw [if_neg (by omega), if_neg (by omega)]
  refine ⟨?_, hc⟩
  unfold zig
  rw [hc]
  unfold unzig
  split <;> split <;> omega

theorem getOf_canon (L : List Int) (hb : Bytes L) (n : Int) (k : Nat) (h : getOf L = some (n, k)) : k = (putOf n).length ∧ L.take k = putOf n ∧ 1 ≤ k ∧ k ≤ L.length := by
  unfold getOf at h
  split at h
  · rename_i hh
    simp only [Option.some.injEq, Prod.mk.injEq] at h
    obtain ⟨rfl, rfl⟩ := h
    have hg := groups_canon L hb hh.1 hh.2.1 hh.2.2.1
    have hz := (zig_unzig _ hh.2.2.2).1
    have hp : putOf (unzig (valOf (L.take (lead L + 1)))) = L.take (lead L + 1) := by unfold putOf; rw [hz, hg]
    refine ⟨?_, hp.symm, by omega, by omega⟩
    rw [hp, List.length_take]; omega
  · cases h

theorem getAt_canon (zs : List Int) (hb : Bytes zs) (p : Nat) (n : Int) (q : Nat) (h : getAt zs (p : Int) = some (n, q)) : zs.drop p = putOf n ++ zs.drop q ∧ p < q ∧ q ≤ zs.length := by
  rw [getAt_nat] at h
  cases hg : getOf (zs.drop p) with
  | none => rw [hg] at h; cases h
  | some r =>
    obtain ⟨m, k⟩ := r
    rw [hg] at h
    simp only [Option.map_some, Option.some.injEq, Prod.mk.injEq] at h
    obtain ⟨rfl, rfl⟩ := h
    obtain ⟨hk, ht, h1, h2⟩ := getOf_canon _ (hb.drop p) m k hg
    rw [List.length_drop] at h2
    refine ⟨?_, by omega, by omega⟩
    rw [← ht, ← List.drop_drop, List.take_append_drop]

/-- So many numbers from a place on. -/
def numsAt (zs : List Int) : Nat → Nat → Option (List Int × Nat)
  | 0, p => some ([], p)
  | n + 1, p => match getAt zs (p : Int) with
    | none => none
    | some (x, q) => match numsAt zs n q with
      | none => none
      | some (l, r) => some (x :: l, r)
def partsAt (zs : List Int) (p : Nat) : Option (List Int × Nat) := match getAt zs (p : Int) with
  | none => none
  | some (n, q) => if 0 ≤ n ∧ n ≤ 5 then numsAt zs n.toNat q else none
def readAll (zs : List Int) : Option ObjV := match getAt zs 0 with
  | none => none
  | some (k, p) => match partsAt zs p with
    | none => none
    | some (is, q) => match partsAt zs q with
      | none => none
      | some (rs, r) => if r = zs.length then some ⟨k, is, rs⟩ else none

theorem numsAt_canon (zs : List Int) (hb : Bytes zs) (n : Nat) : ∀ (p : Nat) (l : List Int) (q : Nat), numsAt zs n p = some (l, q) → p ≤ zs.length → l.length = n ∧ zs.drop p = l.flatMap putOf ++ zs.drop q ∧ q ≤ zs.length := by
  induction n with
  | zero =>
    intro p l q h hp
    simp only [numsAt, Option.some.injEq, Prod.mk.injEq] at h
    obtain ⟨rfl, rfl⟩ := h
    exact ⟨rfl, by simp, hp⟩
  | succ n ih =>
    intro p l q h hp
    unfold numsAt at h
    cases hg : getAt zs (p : Int) with
    | none => rw [hg] at h; cases h
    | some r =>
      obtain ⟨x, q1⟩ := r
      rw [hg] at h
      simp only at h
      obtain ⟨hd, h1, h2⟩ := getAt_canon zs hb p x q1 hg
      cases hn : numsAt zs n q1 with
      | none => rw [hn] at h; cases h
      | some t =>
        obtain ⟨l1, q2⟩ := t
        rw [hn] at h
        simp only [Option.some.injEq, Prod.mk.injEq] at h
        obtain ⟨rfl, rfl⟩ := h
        obtain ⟨hl, hd2, h3⟩ := ih q1 l1 q2 hn h2
        refine ⟨by simp [hl], ?_, h3⟩
        rw [hd, hd2]; simp

theorem partsAt_canon (zs : List Int) (hb : Bytes zs) (p : Nat) (l : List Int) (q : Nat) (h : partsAt zs p = some (l, q)) : l.length ≤ 5 ∧ zs.drop p = putList l ++ zs.drop q ∧ q ≤ zs.length := by
  unfold partsAt at h
  cases hg : getAt zs (p : Int) with
  | none => rw [hg] at h; cases h
  | some r =>
    obtain ⟨n, q1⟩ := r
    rw [hg] at h
    simp only at h
    obtain ⟨hd, h1, h2⟩ := getAt_canon zs hb p n q1 hg
    split at h
    · rename_i h5
      obtain ⟨hl, hd2, h3⟩ := numsAt_canon zs hb _ q1 l q h h2
      refine ⟨by omega, ?_, h3⟩
      have e : (l.length : Int) = n := by omega
      rw [hd, hd2]; simp [putList, e]
    · cases h

theorem readAll_canon (zs : List Int) (hb : Bytes zs) (o : ObjV) (h : readAll zs = some o) : zs = (putOf o.kind ++ putList o.ints) ++ putList o.refs ∧ o.ints.length ≤ 5 ∧ o.refs.length ≤ 5 := by
  unfold readAll at h
  cases hg : getAt zs 0 with
  | none => rw [hg] at h; cases h
  | some r =>
    obtain ⟨k, p⟩ := r
    rw [hg] at h
    simp only at h
    obtain ⟨hd, h1, h2⟩ := getAt_canon zs hb 0 k p hg
    cases hp : partsAt zs p with
    | none => rw [hp] at h; cases h
    | some t =>
      obtain ⟨is, q⟩ := t
      rw [hp] at h
      simp only at h
      obtain ⟨hl1, hd1, h3⟩ := partsAt_canon zs hb p is q hp
      cases hq : partsAt zs q with
      | none => rw [hq] at h; cases h
      | some t =>
        obtain ⟨rs, r⟩ := t
        rw [hq] at h
        simp only at h
        obtain ⟨hl2, hd2, h4⟩ := partsAt_canon zs hb q rs r hq
        split at h
        · rename_i hr
          simp only [Option.some.injEq] at h
          subst h
          refine ⟨?_, hl1, hl2⟩
          simp only [List.drop_zero] at hd
          rw [hd, hd1, hd2, hr, List.drop_length]; simp
        · cases h

theorem getAt_back (pre rest : List Int) (n : Int) (h : -1000000 ≤ n ∧ n ≤ 1000000) : getAt (pre ++ putOf n ++ rest) (pre.length : Int) = some (n, (pre ++ putOf n).length) := by
  rw [List.append_assoc, back_int pre rest n, clampI_small n h]; simp

theorem numsAt_back (l : List Int) : ∀ (pre rest : List Int), (∀ z ∈ l, -1000000 ≤ z ∧ z ≤ 1000000) → numsAt (pre ++ l.flatMap putOf ++ rest) l.length pre.length = some (l, (pre ++ l.flatMap putOf).length) := by
  induction l with
  | nil => intro pre rest _; simp [numsAt]
  | cons z r ih =>
    intro pre rest h
    have hz := h z (by simp)
    have e : pre ++ (z :: r).flatMap putOf ++ rest = (pre ++ putOf z) ++ r.flatMap putOf ++ rest := by simp
    have e2 : pre ++ (z :: r).flatMap putOf ++ rest = pre ++ putOf z ++ (r.flatMap putOf ++ rest) := by simp
    rw [List.length_cons, numsAt, e2, getAt_back pre _ z hz]
    simp only
    rw [← e2, e, ih (pre ++ putOf z) rest (fun y hy => h y (by simp [hy]))]
    simp

theorem partsAt_back (pre rest l : List Int) (hl : l.length ≤ 5) (h : ∀ z ∈ l, -1000000 ≤ z ∧ z ≤ 1000000) : partsAt (pre ++ putList l ++ rest) pre.length = some (l, (pre ++ putList l).length) := by
  have e : pre ++ putList l ++ rest = pre ++ putOf l.length ++ (l.flatMap putOf ++ rest) := by simp [putList]
  have e2 : pre ++ putList l ++ rest = (pre ++ putOf l.length) ++ l.flatMap putOf ++ rest := by simp [putList]
  have hn := getAt_back pre (l.flatMap putOf ++ rest) (l.length : Int) (by omega)
  rw [← e] at hn
  unfold partsAt
  rw [hn]
  simp only
  rw [if_pos (by omega), Int.toNat_natCast, e2, numsAt_back l (pre ++ putOf l.length) rest h]
  simp [putList]

theorem readAll_back (o : ObjV) (h : okB o = true) : readAll (putObjOf o) = some o := by
  obtain ⟨hk, h5, h6, hi, hr⟩ := okB_bd h
  rw [put_ok h]
  have e0 : putOf o.kind ++ putList o.ints ++ putList o.refs = [] ++ putOf o.kind ++ (putList o.ints ++ putList o.refs) := by simp
  have e2 : putOf o.kind ++ putList o.ints ++ putList o.refs = (putOf o.kind ++ putList o.ints) ++ putList o.refs ++ [] := by simp
  have n1 := getAt_back [] (putList o.ints ++ putList o.refs) o.kind (by omega)
  rw [← e0] at n1
  simp only [List.nil_append, List.length_nil, Int.natCast_zero] at n1
  have l1 := partsAt_back (putOf o.kind) (putList o.refs) o.ints h5 hi
  have l2 := partsAt_back (putOf o.kind ++ putList o.ints) [] o.refs h6 (fun z hz => by have := hr z hz; omega)
  rw [← e2] at l2
  unfold readAll
  rw [n1]
  simp only
  rw [l1]
  simp only
  rw [l2]
  simp

/-- What is answered of bytes, by what is read of them. -/
theorem getPair_some (zs : List Int) (hb : Bytes zs) (o : ObjV) (h : readAll zs = some o) (hok : okB o = true) : getPair zs = (o, true) := by
  have e := (readAll_canon zs hb o h).1
  have : getO zs = some o := getO_some hok (by rw [put_ok hok]; exact e.symm)
  unfold getPair; rw [this]
theorem getPair_bad (zs : List Int) (o : ObjV) (h : readAll zs = some o) (hok : okB o = false) : getPair zs = (noO, false) := by
  have : getO zs = none := getO_none (by
    rintro ⟨p, hp, e⟩
    have := readAll_back p hp
    rw [e, h] at this
    simp only [Option.some.injEq] at this
    rw [this, hp] at hok
    cases hok)
  unfold getPair; rw [this]
theorem getPair_none (zs : List Int) (h : readAll zs = none) : getPair zs = (noO, false) := by
  have : getO zs = none := getO_none (by
    rintro ⟨p, hp, e⟩
    have := readAll_back p hp
    rw [e, h] at this
    cases this)
  unfold getPair; rw [this]

/-- A row that is being filled. -/
def rowI (L : List Int) (n : Nat) : List Int := L ++ List.replicate (n - L.length) 0
theorem rowI_len (L : List Int) (n : Nat) (h : L.length ≤ n) : (rowI L n).length = n := by simp [rowI]; omega
theorem rowI_nil (n : Nat) : rowI [] n = List.replicate n 0 := by simp [rowI]
theorem rowI_all (L : List Int) : rowI L L.length = L := by simp [rowI]
theorem rowI_set (L : List Int) (n : Nat) (z : Int) (h : L.length < n) : (rowI L n).set L.length z = rowI (L ++ [z]) n := by
  unfold rowI
  rw [List.set_append, if_neg (by omega)]
  have e : n - L.length = (n - (L ++ [z]).length) + 1 := by simp; omega
  rw [e, List.replicate_succ, Nat.sub_self, List.set_cons_zero]
  simp
theorem rowI_set_map (L : List Int) (n : Nat) (z : Int) (h : L.length < n) : ((rowI L n).map (Value.int .i64)).set L.length (.int .i64 z) = (rowI (L ++ [z]) n).map (Value.int .i64) := by
  rw [← rowI_set L n z h, List.map_set]
/-- What is still to be read, behind what was. -/
def onTo (L : List Int) : Option (List Int × Nat) → Option (List Int × Nat)
  | none => none
  | some (l, r) => some (L ++ l, r)
theorem onTo_nil (x : Option (List Int × Nat)) : onTo [] x = x := by cases x <;> rfl
theorem onTo_step (zs L : List Int) (n p q : Nat) (z : Int) (h : getAt zs (p : Int) = some (z, q)) : onTo L (numsAt zs (n + 1) p) = onTo (L ++ [z]) (numsAt zs n q) := by
  rw [numsAt, h]
  simp only
  cases numsAt zs n q with
  | none => rfl
  | some t => simp [onTo]
theorem onTo_stop (zs L : List Int) (n p : Nat) (h : getAt zs (p : Int) = none) : onTo L (numsAt zs (n + 1) p) = none := by
  rw [numsAt, h]; rfl
end Go.Proofs.YtbpdocjkhmiimabGreatDoor

/- The walk of impl.crcByte. -/
namespace Go.Proofs.YtbpdocjkhmiimabGreatDoor
open Go.RowKit



theorem crcBit_odd (x : Nat) (h : (x : Int) % 2 = 1) : crcBit x = x / 2 ^^^ 3988292384 := by
  unfold crcBit; rw [if_pos (by omega)]
theorem crcBit_even (x : Nat) (h : ¬ (x : Int) % 2 = 1) : crcBit x = x / 2 := by
  unfold crcBit; rw [if_neg (by omega)]

theorem crc_odd (x y : Nat) (hx : x < 4294967296) (h : (x : Int) % 2 = 1) (hy : y = crcBit x) : bits .xor .u32 ((x : Int) / 2) 3988292384 = (y : Int) := by
  rw [hy, crcBit_odd x h]
  have := u32_xor_nat (x / 2) 3988292384 (by omega) (by omega)
  rw [← this]
  rfl

theorem crc_even (x y : Nat) (h : ¬ (x : Int) % 2 = 1) (hy : y = crcBit x) : (x : Int) / 2 = (y : Int) := by
  rw [hy, crcBit_even x h]
  omega

set_option maxHeartbeats 400000 in
theorem crcByte_any (s c : Nat) (w : World) (hs : s < 4294967296) (hc : c < 256) :
    Calls Tryz.prog 86 #[.int .u32 s, .int .u8 c] w fun e w' => e = .returned (.int .u32 (crcByte s c : Nat)) ∧ w' = w := by
  go_enter Tryz.func86, Tryz.ntmps86
  go_wp2
  go_loop [0, 10] (fun x i => ∃ k : Nat, k ≤ 8 ∧ i = .int .i64 k ∧ x = .int .u32 (crcBits k (s ^^^ c) : Nat)) (fun _ i => 8 - (intOf i).toNat)
  case atStart => exact ⟨0, by omega, rfl, by rw [u32_xor_nat s c hs (by omega)]; rfl⟩
  case round =>
    obtain ⟨k, hk, rfl, rfl⟩ := hrel
    have hx := crcBits_lt k (s ^^^ c) (xor_byte_lt s c hs hc)
    have HS : Hid (crcBits (k + 1) (s ^^^ c) = crcBit (crcBits k (s ^^^ c))) := rfl
    have HC : Hid (crcByte s c = crcBits 8 (s ^^^ c)) := rfl
    generalize hgx : crcBits k (s ^^^ c) = x at *
    have HG : Hid (crcBits k (s ^^^ c) = x) := hgx
    clear hgx
    by_cases hlt : k < 8
    · by_cases ho : (x : Int) % 2 = 1
      all_goals
        go_wp2
        go_round
        case rel => exact ⟨k + 1, by omega, by go_num, val_int (by first | exact crc_odd x _ hx ho HS.out | exact crc_even x _ ho HS.out)⟩
        case measure => simp [intOf]; omega
    · have e8 : k = 8 := by omega
      have HX : Hid (crcByte s c = x) := by rw [Hid, HC.out, ← e8]; exact HG.out
      clear e8
      go_wp2
      go_ret
      exact ⟨ret_int (by rw [HX.out]), rfl⟩
end Go.Proofs.YtbpdocjkhmiimabGreatDoor

/- The walk of impl.Crc: it comes to crcOf. -/
namespace Go.Proofs.YtbpdocjkhmiimabGreatDoor
open Go.RowKit

theorem u32_max : IntKind.u32.max = ((4294967295 : Nat) : Int) := by simp [IntKind.max, IntKind.signed, IntKind.bits]

theorem crc_end (x y : Nat) (hx : x < 4294967296) (hy : y = 4294967295 ^^^ x) : wrap64 (bits .xor .u32 IntKind.u32.max (x : Int)) = (y : Int) := by
  rw [u32_max, u32_xor_nat _ _ (by omega) hx, hy]
  have : 4294967295 ^^^ x < 4294967296 := Nat.xor_lt_two_pow (n := 32) (by omega) (by omega)
  unfold wrap64
  omega

theorem crcOf_nil : crcOf [] = 4294967295 ^^^ 4294967295 := by simp [crcOf, crcTo]

set_option maxHeartbeats 400000 in
theorem implCrc_any (a : Option Addr) (cap : Nat) (zs : List Int) (w : World) (hr : Reads w a zs) (hl : zs.length ≤ 140737488351232) :
    Calls Tryz.prog 58 #[.slice a zs.length cap] w fun e w' => e = .returned (.int .i64 (crcOf zs : Nat)) ∧ w' = w := by
  have hb := hr.byte
  rcases hr.cases with rfl | ⟨b, off, rfl, hpos, hcell⟩
  · go_enter Tryz.func58, Tryz.ntmps58
    go_wp2
    refine wp_loop_rounds 1 ?_
    rw [rounds_succ]
    go_wp2
    go_ret
    exact ⟨ret_int (crc_end 4294967295 _ (by omega) crcOf_nil), rfl⟩
  · go_enter Tryz.func58, Tryz.ntmps58
    go_wp2
    go_loop [3, 8] (fun x i => ∃ k : Nat, k ≤ zs.length ∧ i = .int .i64 k ∧ x = .int .u32 (crcTo zs k : Nat)) (fun _ i => zs.length - (intOf i).toNat)
    case atStart => exact ⟨0, by omega, rfl, by rw [crcTo_zero]; rfl⟩
    case round =>
      obtain ⟨k, hk, rfl, rfl⟩ := hrel
      have hx := crcTo_lt zs hb k
      by_cases hlt : k < zs.length
      · have hc := hcell k hlt
        obtain ⟨hn, hn2⟩ := bytes_nat hb k
        have HS : Hid (crcTo zs (k + 1) = _) := crcTo_succ zs k hlt
        rw [hn] at hc
        clear hn hcell
        generalize (zs.getD k 0).toNat = c at *
        generalize crcTo zs k = x at *
        go_wp2_with (go_at_call 86; refine (crcByte_any _ _ _ hx hn2).mono ?_; rintro e w' ⟨rfl, rfl⟩)
        go_round
        case rel => exact ⟨k + 1, by omega, by go_num, by rw [HS.out]⟩
        case measure => simp [intOf]; omega
      · have HE : Hid (crcOf zs = 4294967295 ^^^ crcTo zs k) := by
          have e : k = zs.length := by omega
          rw [e]; rfl
        go_wp2
        go_ret
        exact ⟨ret_int (crc_end _ _ hx HE.out), rfl⟩
end Go.Proofs.YtbpdocjkhmiimabGreatDoor

/- The walk of impl.appendSum: four bytes of a sum, the lowest first. -/
namespace Go.Proofs.YtbpdocjkhmiimabGreatDoor
open Go.RowKit

def sumByte (x k : Nat) : Int := ((x / 256 ^ k % 256 : Nat) : Int)
def fourTo (x k : Nat) : List Int := (List.range k).map (sumByte x)
def four (x : Nat) : List Int := fourTo x 4

theorem four_eq (x : Nat) : four x = [((x % 256 : Nat) : Int), ((x / 256 % 256 : Nat) : Int), ((x / 65536 % 256 : Nat) : Int), ((x / 16777216 % 256 : Nat) : Int)] := by
  simp [four, fourTo, List.range_succ, sumByte]
theorem fourTo_succ (x k : Nat) : fourTo x (k + 1) = fourTo x k ++ [sumByte x k] := by simp [fourTo, List.range_succ]
theorem fourTo_len (x k : Nat) : (fourTo x k).length = k := by simp [fourTo]
theorem sumByte_byte (x k : Nat) : 0 ≤ sumByte x k ∧ sumByte x k < 256 := by unfold sumByte; omega
theorem sumByte_eq (x k : Nat) : (x : Int) / 2 ^ (8 * k) % 256 = sumByte x k := by
  unfold sumByte
  rw [show (256 : Nat) ^ k = 2 ^ (8 * k) from by rw [Nat.pow_mul]]
  simp
theorem own_lit4 (w : World) (p q r s : Int) (h : ∀ z ∈ [p, q, r, s], 0 ≤ z ∧ z < 256) : OwnB (w.alloc (.cells #[.int .u8 p, .int .u8 q, .int .u8 r, .int .u8 s] 5)) w.heap.size (some ⟨w.heap.size, 0, none⟩) 4 [p, q, r, s] :=
  ⟨h, World.ownsRow_lit w _ 4 (Nat.le_refl _) (by simp [maxLen]) rfl⟩
theorem four_byte (x : Nat) : ∀ z ∈ four x, 0 ≤ z ∧ z < 256 := by rw [four_eq]; simp; omega

set_option maxHeartbeats 400000 in
set_option maxRecDepth 100000 in
theorem appendSum_any (base : Nat) (a : Option Addr) (c : Nat) (xs : List Int) (x : Nat) (w : World) (hown : OwnB w base a c xs) (hl : xs.length ≤ 70368744177000) (hbase : base ≤ w.heap.size) :
    Calls Tryz.prog 57 #[.slice a xs.length c, .int .i64 x] w fun e w' => ∃ a' c' ys, e = .returned (.slice a' ys.length c') ∧ ys = xs ++ four x ∧ OwnB w' base a' c' ys ∧ Below base w w' := by
  go_enter Tryz.func57, Tryz.ntmps57
  go_wp2
  go_loopw [0, 6] (fun out i wr => ∃ (a' : Option Addr) (c' : Nat) (ys : List Int) (k : Nat), out = .slice a' ys.length c' ∧ i = .int .i64 k ∧ k ≤ 4 ∧ OwnB wr base a' c' ys ∧ Hid (ys = xs ++ fourTo x k) ∧ Below base w wr)
    (fun _ i _ => 4 - (intOf i).toNat)
  case atStart => exact ⟨a, c, xs, 0, rfl, rfl, by omega, hown, by simp [Hid, fourTo], Below.refl _ _⟩
  case round =>
    obtain ⟨a', c', ys, k, rfl, rfl, hk, ho, hy, hnx⟩ := hrel
    have hsz := hnx.size
    have hyl : ys.length ≤ 70368744177600 := by
      have e := congrArg List.length hy.out
      rw [List.length_append, fourTo_len] at e
      omega
    clear hown
    by_cases hlt : k < 4
    · have hb := sumByte_byte x k
      have HS : Hid (_ = _) := fourTo_succ x k
      have hz : 0 ≤ (x : Int) / 2 ^ (8 * k) % 256 ∧ (x : Int) / 2 ^ (8 * k) % 256 < 256 := by omega
      have HX : Hid (_ = _) := sumByte_eq x k
      clear hb
      go_wp2_with (at_builtin; refine append_bytes rfl _ _ rfl base a' c' ys rfl (ho.alloc _) _ _ [(x : Int) / 2 ^ (8 * k) % 256] rfl (reads_lit1 wr _ _ hz) (by intro h; cases h) (by simp; omega) (by simp; omega) ?_; intro a2 c2 y2 w2 hy2 ho2 hg2)
      go_roundw
      case rel => exact ⟨a2, c2, y2, k + 1, rfl, by go_num, by omega, ho2, by rw [Hid, hy2.out, hy.out, HX.out, HS.out, List.append_assoc], (hnx.alloc (by omega) _).grown hg2 (by simp; omega) (fun j hj => (ho.2.lt j hj).1)⟩
      case measure => simp [intOf]; omega
    · go_wp2
      go_ret
      exact ⟨a', c', ys, rfl, by rw [hy.out, show k = 4 from by omega]; rfl, ho, hnx⟩
end Go.Proofs.YtbpdocjkhmiimabGreatDoor
