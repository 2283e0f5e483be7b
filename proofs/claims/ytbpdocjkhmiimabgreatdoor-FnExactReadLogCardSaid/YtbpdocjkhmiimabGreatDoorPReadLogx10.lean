/- Several texts in one, in their order. -/
import Derived.Test.YtbpdocjkhmiimabGreatDoorPReadLogx9
import Derived.Deep.RegionHeld3
import Derived.WalkKit
/- The walk of spec.PutInt. -/
namespace Go.Proofs.YtbpdocjkhmiimabGreatDoor
open Go.RowKit

theorem i64_or128 (y : Int) (h0 : 0 ≤ y) (h1 : y < 128) : bits .or .i64 y 128 = y + 128 := by
  have hc : bits .or .i64 y 128 = bits .or .i64 128 y := by simp only [bits, BitVec.or_comm]
  have hw : ∀ n : Int, 0 ≤ n → n < 2 ^ 63 → IntKind.i64.wrap n = n := fun n _ _ => by rw [IntKind.wrap_i64]; omega
  rw [hc, bits_join .i64 63 (by decide) hw 7 128 y (by decide) (by decide) (by decide) h0 h1 (by omega)]
  omega

theorem group_byte (m : Nat) : bits .or .i64 (bits .and .i64 (m : Int) 127) 128 = (m : Int) % 128 + 128 := by
  rw [i64_and127, i64_or128 _ (by omega) (by omega)]

set_option maxHeartbeats 800000 in
set_option maxRecDepth 100000 in
theorem specPutInt_any (a : Option Addr) (c : Nat) (zs : List Int) (n : Int) (w : World) (hr : Reads w a zs) (hc : a = none → c = 0) (hl : zs.length ≤ 70368744170000) :
    Calls Tryz.prog 52 #[.slice a zs.length c, .int .i64 n] w fun e w' => ∃ a' c' ys, e = .returned (.slice a' ys.length c') ∧ ys = zs ++ putOf n ∧ OwnB w' w.heap.size a' c' ys ∧ Below w.heap.size w w' := by
  have HC : Hid (a = none → c = 0) := hc
  clear hc
  have hzig := zig_le n
  have HGL : Hid ((groups (zig n)).length ≤ 65) := (groups_len _).2
  have HP : Hid (putOf n = groups (zig n)) := rfl
  have cs : (1000000000000 < n ∧ Hid (((zig n : Nat) : Int) = 2000000000000)) ∨ (n < -1000000000000 ∧ Hid (((zig n : Nat) : Int) = 1999999999999)) ∨
      (¬ 1000000000000 < n ∧ ¬ n < -1000000000000 ∧ 0 ≤ n ∧ Hid (((zig n : Nat) : Int) = 2 * n)) ∨ (¬ 1000000000000 < n ∧ ¬ n < -1000000000000 ∧ n < 0 ∧ Hid (((zig n : Nat) : Int) = -2 * n - 1)) := by
    by_cases h1 : 1000000000000 < n
    · exact .inl ⟨h1, by rw [Hid, zig_pos n 1000000000000 (by unfold clampI; rw [if_pos h1]) (by omega)]; omega⟩
    · by_cases h2 : n < -1000000000000
      · exact .inr (.inl ⟨h2, by rw [Hid, zig_neg n (-1000000000000) (by unfold clampI; rw [if_neg h1, if_pos h2]) (by omega)]; omega⟩)
      · by_cases h3 : 0 ≤ n
        · exact .inr (.inr (.inl ⟨h1, h2, h3, zig_pos n n (by unfold clampI; rw [if_neg h1, if_neg h2]) h3⟩))
        · exact .inr (.inr (.inr ⟨h1, h2, by omega, zig_neg n n (by unfold clampI; rw [if_neg h1, if_neg h2]) h3⟩))
  generalize zig n = m0 at *
  rcases cs with ⟨h1, HK⟩ | ⟨h1, HK⟩ | ⟨h1, h2, h3, HK⟩ | ⟨h1, h2, h3, HK⟩
  all_goals
    go_enter Tryz.func52, Tryz.ntmps52
    go_wp2_with (at_builtin; refine append_bytes rfl _ _ rfl w.heap.size _ _ [] rfl (own_lit0 w) a c zs rfl (hr.alloc _) HC.out (by simp; omega) (by simp) ?_; intro a1 c1 y1 w1 hy1 ho1 hg1)
    have hb1 : Below w.heap.size w w1 := ((Below.refl _ _).alloc (Nat.le_refl _) _).grown hg1 (by simp) (fun k hk => ((own_lit0 w).2.lt k hk).1)
    clear hg1 hr
    go_loopw [5, 6] (fun out mm wr => ∃ (a' : Option Addr) (c' : Nat) (ys pre : List Int) (m : Nat), out = .slice a' ys.length c' ∧ mm = .int .i64 m ∧ m ≤ m0 ∧ OwnB wr w.heap.size a' c' ys ∧ Hid (ys = zs ++ pre) ∧ Hid (groups m0 = pre ++ groups m) ∧ Below w.heap.size w wr)
      (fun _ mm _ => (intOf mm).toNat)
    case atStart => exact ⟨a1, c1, y1, [], m0, rfl, val_int HK.out.symm, Nat.le_refl _, ho1, by rw [Hid, hy1.out]; simp, by simp [Hid], hb1⟩
    case round =>
      obtain ⟨a', c', ys, pre, m, rfl, rfl, hmm, ho, hy, hg, hnx⟩ := hrel
      clear ho1 hb1 hy1 HK
      have hyl : ys.length ≤ 70368744177663 := by
        have e := congrArg List.length hy.out
        have e2 := congrArg List.length hg.out
        have := (groups_len m).1
        have := HGL.out
        simp at e e2
        omega
      have hsz := hnx.size
      by_cases hlt : 127 < m
      · have hz : 0 ≤ ((m : Int) % 128 + 128) ∧ ((m : Int) % 128 + 128) < 256 := by omega
        have HH : Hid (_ = _) := step_big pre m m0 hg.out (by omega) (by omega)
        have hgb := group_byte m
        go_wp2_with (at_builtin; refine append_bytes rfl _ _ rfl w.heap.size a' c' ys rfl (ho.alloc _) _ _ [(m : Int) % 128 + 128] rfl (reads_lit1 wr _ _ hz) (by intro h; cases h) (by simp; omega) (by simp; omega) ?_; intro a2 c2 y2 w2 hy2 ho2 hg2)
        go_roundw
        case rel => exact ⟨a2, c2, y2, pre ++ [((m % 128 + 128 : Nat) : Int)], m / 128, rfl, rfl, by omega, ho2, by rw [Hid, hy2.out, hy.out, List.append_assoc]; rfl, HH.out, (hnx.alloc (by omega) _).grown hg2 (by simp; omega) (fun k hk => (ho.2.lt k hk).1)⟩
        case measure => simp [intOf]; omega
      · have hz : 0 ≤ (m : Int) ∧ (m : Int) < 256 := by omega
        have HH : Hid (_ = _) := step_small zs pre ys (ys ++ [(m : Int)]) m m0 hg.out (by omega) hy.out rfl
        go_wp2_with (at_builtin; refine append_bytes rfl _ _ rfl w.heap.size a' c' ys rfl (ho.alloc _) _ _ [(m : Int)] rfl (reads_lit1 wr _ _ hz) (by intro h; cases h) (by simp; omega) (by simp; omega) ?_; intro a2 c2 y2 w2 hy2 ho2 hg2)
        go_ret
        exact ⟨a2, c2, y2, rfl, by rw [hy2.out, HP.out]; exact HH.out, ho2, (hnx.alloc (by omega) _).grown hg2 (by simp; omega) (fun k hk => (ho.2.lt k hk).1)⟩
end Go.Proofs.YtbpdocjkhmiimabGreatDoor

/- The bytes of an object; the walks of spec.l2PutList and spec.PutObj. -/
namespace Go.Proofs.YtbpdocjkhmiimabGreatDoor
open Go.RowKit

def putList (l : List Int) : List Int := putOf l.length ++ l.flatMap putOf
def putObjOf (o : ObjV) : List Int := if okB o then (putOf o.kind ++ putList o.ints) ++ putList o.refs else []

theorem flat_len (l : List Int) : (l.flatMap putOf).length ≤ 65 * l.length := by
  induction l with
  | nil => simp
  | cons z r ih => have := (putOf_len z).2; simp only [List.flatMap_cons, List.length_append, List.length_cons]; omega
theorem putList_len (l : List Int) : (putList l).length ≤ 65 + 65 * l.length := by
  have := flat_len l
  have := (putOf_len l.length).2
  simp only [putList, List.length_append]; omega
theorem flat_take (l : List Int) (k : Nat) (h : k < l.length) : (l.take (k + 1)).flatMap putOf = (l.take k).flatMap putOf ++ putOf (l.getD k 0) := by
  rw [List.take_succ_eq_append_getElem h, List.flatMap_append]
  simp [List.getD, h]

set_option maxHeartbeats 400000 in
set_option maxRecDepth 100000 in
theorem l2PutList_any (a : Option Addr) (c : Nat) (xs : List Int) (aL : Option Addr) (cL : Nat) (l : List Int) (w : World) (hr : Reads w a xs) (hc : a = none → c = 0) (hL : ReadsI w aL l) (hx : xs.length ≤ 1000000) (hl : l.length ≤ 1000) :
    Calls Tryz.prog 115 #[.slice a xs.length c, .slice aL l.length cL] w fun e w' => ∃ a' c' ys, e = .returned (.slice a' ys.length c') ∧ Hid (ys = xs ++ putList l) ∧ OwnB w' w.heap.size a' c' ys ∧ Below w.heap.size w w' := by
  go_enter Tryz.func115, Tryz.ntmps115
  go_wp2_with fail
  refine (specPutInt_any a c xs (l.length : Int) w hr hc (by omega)).mono ?_
  rintro e w1 ⟨a1, c1, y1, rfl, hy1, ho1, hb1⟩
  have HY1 : Hid (y1 = xs ++ putOf l.length) := hy1
  clear hy1
  go_wp2
  go_loopw [0, 5] (fun out i wr => ∃ (a' : Option Addr) (c' : Nat) (ys : List Int) (k : Nat), out = .slice a' ys.length c' ∧ i = .int .i64 k ∧ k ≤ l.length ∧ Hid (ys = (xs ++ putOf l.length) ++ (l.take k).flatMap putOf) ∧ OwnB wr w.heap.size a' c' ys ∧ Below w.heap.size w wr) (fun _ i _ => l.length - (intOf i).toNat)
  case atStart => exact ⟨a1, c1, y1, 0, rfl, rfl, by omega, by rw [Hid, HY1.out]; simp, ho1, hb1⟩
  case round =>
    obtain ⟨a', c', ys, k, rfl, rfl, hk, hy, ho, hb⟩ := hrel
    have hyl : ys.length ≤ 2000000 := by
      have h1 := flat_len (l.take k)
      have h2 := (putOf_len l.length).2
      rw [hy.out, List.length_append, List.length_append]
      rw [List.length_take] at h1
      omega
    by_cases hlt : k < l.length
    · have hL' := hL.below hb
      rcases hL'.cases with rfl | ⟨b, off, rfl, hpos, hcell⟩
      · simp at hlt
      have hcl := hcell k hlt
      have HF : Hid (_ = _) := flat_take l k hlt
      clear hcell
      generalize l.getD k 0 = z at *
      go_wp2_with fail
      refine (specPutInt_any a' c' ys z wr ho.reads ho.nocap (by omega)).mono ?_
      rintro e w2 ⟨a2, c2, y2, rfl, hy2, ho2, hb2⟩
      have HY2 : Hid (y2 = (xs ++ putOf l.length) ++ (l.take (k + 1)).flatMap putOf) := by rw [Hid, hy2, hy.out, HF.out]; simp only [List.append_assoc]
      have hbs := hb.size
      clear hy2
      go_wp2
      go_roundw
      case rel => exact ⟨a2, c2, y2, k + 1, rfl, by go_num, by omega, HY2, ho2.base hbs, hb.trans (hb2.mono hbs)⟩
      case measure => simp [intOf]; omega
    · have HE : Hid (ys = xs ++ putList l) := by
        rw [Hid, hy.out, List.take_of_length_le (by omega)]
        simp [putList]
      go_wp2
      go_ret
      exact ⟨a', c', ys, rfl, HE, ho, hb⟩

set_option maxHeartbeats 1000000 in
set_option maxRecDepth 100000 in
theorem specPutObj_any (o : ObjV) (aI : Option Addr) (cI : Nat) (aR : Option Addr) (cR : Nat) (w : World) (hr : ReadsO w aI cI aR cR o) (hnI : o.ints.length ≤ 140737488355328) (hnR : o.refs.length ≤ 140737488355328) :
    Calls Tryz.prog 83 #[.agg #[.int .i64 o.kind, .slice aI o.ints.length cI, .slice aR o.refs.length cR]] w fun e w' => ∃ a' c' ys, e = .returned (.slice a' ys.length c') ∧ Hid (ys = putObjOf o) ∧ OwnB w' w.heap.size a' c' ys ∧ Below w.heap.size w w' := by
  have hok := fun w' (h : ReadsO w' aI cI aR cR o) => specObjOk_any o aI cI aR cR w' h hnI hnR
  have HPT : Hid (okB o = true → putObjOf o = (putOf o.kind ++ putList o.ints) ++ putList o.refs) := fun h => by unfold putObjOf; rw [if_pos h]
  have HPF : Hid (okB o = false → putObjOf o = []) := fun h => by unfold putObjOf; rw [if_neg (by rw [h]; decide)]
  have HLN : Hid (okB o = true → o.ints.length ≤ 5 ∧ o.refs.length ≤ 5) := fun h => by simp [okB] at h; exact ⟨h.2.1, h.2.2.1⟩
  have hcs : okB o = true ∨ okB o = false := by cases okB o <;> simp
  generalize hP : putObjOf o = P at *
  clear hP
  obtain ⟨k, ints, refs⟩ := o
  have hr' := hr
  obtain ⟨hI, hR, _, _⟩ := hr
  simp only at *
  obtain ⟨W, hW, b0, hbW, hsW⟩ := boxes1 w [.int .i64 k, .slice aI ints.length cI, .slice aR refs.length cR] 54
  go_enter Tryz.func83, Tryz.ntmps83
  go_wp2_with fail
  rw [hW.out]
  refine (hok W (hr'.below hbW)).mono ?_
  rintro e w1 ⟨rfl, hb1⟩
  have hbw1 : Below w.heap.size w w1 := hbW.trans (hb1.mono hbW.size)
  have b1 := b0.below hb1 b0.lt
  have x0 := b1.cell 0 _ rfl
  have x1 := b1.cell 1 _ rfl
  have x2 := b1.cell 2 _ rfl
  rcases hcs with hB | hB
  · have HP : Hid (_ = _) := HPT.out hB
    obtain ⟨h5, h6⟩ := HLN.out hB
    rw [hB]
    clear hB hok
    have hL1 := (putOf_len k).2
    have HL2 : Hid (_ ≤ _) := putList_len ints
    have hlt1 := b1.lt
    have hkeep : ∀ w', Below w1.heap.size w1 w' → w'.cell? ⟨w.heap.size, 0, none⟩ = some (.int .i64 k) ∧ w'.cell? ⟨w.heap.size, 1, none⟩ = some (.slice aI ints.length cI) ∧ w'.cell? ⟨w.heap.size, 2, none⟩ = some (.slice aR refs.length cR) :=
      fun w' hh => ⟨(b1.below hh hlt1).cell 0 _ rfl, (b1.below hh hlt1).cell 1 _ rfl, (b1.below hh hlt1).cell 2 _ rfl⟩
    go_wp2_with fail
    go_region_held3 (fun w' => w'.cell? ⟨w.heap.size, 0, none⟩ = some (.int .i64 k) ∧ w'.cell? ⟨w.heap.size, 1, none⟩ = some (.slice aI ints.length cI) ∧ w'.cell? ⟨w.heap.size, 2, none⟩ = some (.slice aR refs.length cR))
      (first | exact hkeep _ ((Below.refl _ _).alloc (Nat.le_refl _) _).drew | exact hkeep _ ((Below.refl _ _).alloc (Nat.le_refl _) _) | exact hkeep _ hw4 | exact hkeep _ hw3 | exact hkeep _ hw2 | go_keep)
      (first
      | (go_at_call 52; refine (specPutInt_any _ 0 [] k _ ⟨by simp, by simp⟩ (fun h => by cases h) (by simp)).mono ?_; rintro e w2 ⟨a2, c2, y2, rfl, hy2, ho2, hb2⟩; have hw2 : Below w1.heap.size w1 w2 := ((Below.refl _ _).alloc (Nat.le_refl _) _).drew.trans (hb2.mono (by simp [World.drew])); have HY2 : Hid (y2 = [] ++ putOf k) := hy2; have hl2 : y2.length ≤ 65 := (by rw [hy2]; simp; omega); clear hy2)
      | (go_at_call_of 115 (Value.slice a2 y2.length c2); refine (l2PutList_any a2 c2 y2 aI cI ints w2 ho2.reads ho2.nocap (hI.below (hbw1.trans (hw2.mono hbw1.size))) (by omega) (by omega)).mono ?_; rintro e w3 ⟨a3, c3, y3, rfl, HY3, ho3, hb3⟩; have hw3 : Below w1.heap.size w1 w3 := hw2.trans (hb3.mono hw2.size); have hl3 : y3.length ≤ 1000 := (by have := HL2.out; rw [HY3.out, List.length_append]; omega))
      | (go_at_call_of 115 (Value.slice a3 y3.length c3); refine (l2PutList_any a3 c3 y3 aR cR refs w3 ho3.reads ho3.nocap (hR.below (hbw1.trans (hw3.mono hbw1.size))) (by omega) (by omega)).mono ?_; rintro e w4 ⟨a4, c4, y4, rfl, HY4, ho4, hb4⟩; have hw4 : Below w1.heap.size w1 w4 := hw3.trans (hb4.mono hw3.size)))
    go_wp2
    go_ret
    exact ⟨a4, c4, y4, rfl, by rw [Hid, HP.out, HY4.out, HY3.out, HY2.out]; simp, ho4.base (Nat.le_trans hbw1.size hw3.size), hbw1.trans (hw4.mono hbw1.size)⟩
  · have HP : Hid (_ = _) := HPF.out hB
    rw [hB]
    clear hB hok
    go_wp2
    go_ret
    exact ⟨_, 0, [], rfl, HP.out.symm, (own_lit0 w1).base hbw1.size, hbw1.alloc hbw1.size _⟩
end Go.Proofs.YtbpdocjkhmiimabGreatDoor

/- Plain mathematics of reading a number: how many groups say that more come, what they hold. -/
namespace Go.Proofs.YtbpdocjkhmiimabGreatDoor

/-- How many of the first bytes say that more come. -/
def lead : List Int → Nat
  | [] => 0
  | z :: r => if 128 ≤ z then lead r + 1 else 0
def valOf : List Int → Nat
  | [] => 0
  | z :: r => (z % 128).toNat + 128 * valOf r
def unzig (m : Nat) : Int := if m % 2 = 0 then ((m / 2 : Nat) : Int) else -((m / 2 : Nat) : Int) - 1
/-- The number whose bytes begin a list, and how many they are. -/
def getOf (L : List Int) : Option (Int × Nat) :=
  if lead L < L.length ∧ lead L < 6 ∧ ¬ (0 < lead L ∧ L.getD (lead L) 0 = 0) ∧ valOf (L.take (lead L + 1)) ≤ 2000000000000 then some (unzig (valOf (L.take (lead L + 1))), lead L + 1) else none
def getAt (zs : List Int) (p : Int) : Option (Int × Nat) := if 0 ≤ p then (getOf (zs.drop p.toNat)).map fun r => (r.1, p.toNat + r.2) else none

theorem lead_le (L : List Int) : lead L ≤ L.length := by
  induction L with
  | nil => simp [lead]
  | cons z r ih => unfold lead; split <;> simp <;> omega
theorem lead_ge (k : Nat) : ∀ L : List Int, k ≤ L.length → (∀ i, i < k → 128 ≤ L.getD i 0) → k ≤ lead L := by
  induction k with
  | zero => intro L _ _; omega
  | succ k ih =>
    intro L hl h
    cases L with
    | nil => simp at hl
    | cons z r =>
      have h0 := h 0 (by omega)
      simp at h0
      unfold lead
      rw [if_pos h0]
      have := ih r (by simp at hl; omega) (fun i hi => by have := h (i + 1) (by omega); simpa using this)
      omega
theorem lead_stop (k : Nat) : ∀ L : List Int, k < L.length → L.getD k 0 < 128 → lead L ≤ k := by
  induction k with
  | zero =>
    intro L hl h
    cases L with
    | nil => simp at hl
    | cons z r =>
      simp at h
      unfold lead
      rw [if_neg (by omega)]
      omega
  | succ k ih =>
    intro L hl h
    cases L with
    | nil => simp at hl
    | cons z r =>
      unfold lead
      split
      · have := ih r (by simp at hl; omega) (by simpa using h)
        omega
      · omega
theorem lead_eq (k : Nat) (L : List Int) (hl : k < L.length) (h : ∀ i, i < k → 128 ≤ L.getD i 0) (hs : L.getD k 0 < 128) : lead L = k := by
  have := lead_ge k L (by omega) h
  have := lead_stop k L hl hs
  omega

theorem valOf_snoc (L : List Int) (z : Int) : valOf (L ++ [z]) = valOf L + (z % 128).toNat * 128 ^ L.length := by
  induction L with
  | nil => simp [valOf]
  | cons y r ih =>
    simp only [List.cons_append, valOf, ih, List.length_cons]
    rw [Nat.pow_succ, Nat.mul_add, Nat.add_assoc]
    congr 1
    rw [Nat.mul_left_comm, Nat.mul_comm 128 (128 ^ r.length)]
theorem valOf_take (L : List Int) (k : Nat) (h : k < L.length) : valOf (L.take (k + 1)) = valOf (L.take k) + (L.getD k 0 % 128).toNat * 128 ^ k := by
  rw [List.take_succ_eq_append_getElem h, valOf_snoc]
  simp [List.getD, h]
  rw [Nat.min_eq_left (by omega)]
theorem valOf_lt (L : List Int) : valOf L < 128 ^ L.length := by
  induction L with
  | nil => simp [valOf]
  | cons z r ih =>
    simp only [valOf, List.length_cons, Nat.pow_succ]
    have : (z % 128).toNat < 128 := by omega
    omega
theorem valOf_take_lt (L : List Int) (k : Nat) (h : k ≤ 6) : valOf (L.take k) < 4398046511104 ∧ valOf (L.take k) < 128 ^ k := by
  have h1 := valOf_lt (L.take k)
  have h2 : (L.take k).length ≤ k := List.length_take_le _ _
  have h3 : (128 : Nat) ^ (L.take k).length ≤ 128 ^ k := Nat.pow_le_pow_right (by omega) h2
  have h4 : (128 : Nat) ^ k ≤ 128 ^ 6 := Nat.pow_le_pow_right (by omega) h
  have h5 : (128 : Nat) ^ 6 = 4398046511104 := by decide
  omega

theorem getOf_some (L : List Int) (k : Nat) (hk : lead L = k) (h1 : k < L.length) (h2 : k < 6) (h3 : ¬ (0 < k ∧ L.getD k 0 = 0)) (h4 : valOf (L.take (k + 1)) ≤ 2000000000000) :
    getOf L = some (unzig (valOf (L.take (k + 1))), k + 1) := by
  subst hk; unfold getOf; rw [if_pos ⟨h1, h2, h3, h4⟩]
theorem getOf_none (L : List Int) (h : lead L = L.length ∨ 6 ≤ lead L ∨ (0 < lead L ∧ L.getD (lead L) 0 = 0) ∨ 2000000000000 < valOf (L.take (lead L + 1))) : getOf L = none := by
  unfold getOf
  rw [if_neg]
  rintro ⟨h1, h2, h3, h4⟩
  rcases h with h | h | h | h
  · omega
  · omega
  · exact h3 h
  · omega

theorem unzig_bd (m : Nat) : (-1000000000000 ≤ unzig m ∧ unzig m ≤ 1000000000000) ↔ m ≤ 2000000000000 := by
  unfold unzig; split <;> omega

theorem getAt_bd (zs : List Int) (p n : Int) (k : Nat) (h : getAt zs p = some (n, k)) : k ≤ zs.length ∧ -1000000000000 ≤ n ∧ n ≤ 1000000000000 := by
  unfold getAt at h
  split at h
  · unfold getOf at h
    split at h
    · rename_i h1 h2
      simp only [Option.map_some, Option.some.injEq, Prod.mk.injEq] at h
      obtain ⟨rfl, rfl⟩ := h
      have hb := (unzig_bd _).2 h2.2.2.2
      have hl : (zs.drop p.toNat).length = zs.length - p.toNat := List.length_drop
      refine ⟨?_, hb.1, hb.2⟩
      omega
    · simp at h
  · simp at h

end Go.Proofs.YtbpdocjkhmiimabGreatDoor

/- Plain mathematics of the sum: one bit, eight bits, a list of bytes; what stays below 2 to the 32. -/
namespace Go.Proofs.YtbpdocjkhmiimabGreatDoor

def crcBit (x : Nat) : Nat := if x % 2 = 1 then (x / 2) ^^^ 3988292384 else x / 2
def crcBits : Nat → Nat → Nat
  | 0, x => x
  | k + 1, x => crcBit (crcBits k x)
def crcByte (x : Nat) (c : Nat) : Nat := crcBits 8 (x ^^^ c)
def crcTo (zs : List Int) (k : Nat) : Nat := (zs.take k).foldl (fun x c => crcByte x c.toNat) 4294967295
def crcOf (zs : List Int) : Nat := 4294967295 ^^^ crcTo zs zs.length

theorem crcBit_lt (x : Nat) (h : x < 4294967296) : crcBit x < 4294967296 := by
  unfold crcBit
  split
  · exact Nat.xor_lt_two_pow (n := 32) (by omega) (by omega)
  · omega

theorem crcBits_lt (k x : Nat) (h : x < 4294967296) : crcBits k x < 4294967296 := by
  induction k with
  | zero => exact h
  | succ k ih => exact crcBit_lt _ ih

theorem xor_byte_lt (x c : Nat) (h : x < 4294967296) (hc : c < 256) : x ^^^ c < 4294967296 :=
  Nat.xor_lt_two_pow (n := 32) (by omega) (by omega)

theorem crcByte_lt (x c : Nat) (h : x < 4294967296) (hc : c < 256) : crcByte x c < 4294967296 :=
  crcBits_lt 8 _ (xor_byte_lt x c h hc)

theorem crcTo_zero (zs : List Int) : crcTo zs 0 = 4294967295 := by simp [crcTo]

theorem crcTo_succ (zs : List Int) (k : Nat) (h : k < zs.length) : crcTo zs (k + 1) = crcByte (crcTo zs k) (zs.getD k 0).toNat := by
  unfold crcTo
  rw [List.take_succ_eq_append_getElem h, List.foldl_append]
  simp [h]

theorem crcTo_lt (zs : List Int) (hb : ∀ z ∈ zs, 0 ≤ z ∧ z < 256) (k : Nat) : crcTo zs k < 4294967296 := by
  induction k with
  | zero => rw [crcTo_zero]; omega
  | succ k ih =>
    by_cases h : k < zs.length
    · rw [crcTo_succ zs k h]
      have hm : zs.getD k 0 ∈ zs := by simp [List.getD, h]
      have := hb _ hm
      exact crcByte_lt _ _ ih (by omega)
    · have e : crcTo zs (k + 1) = crcTo zs k := by
        unfold crcTo
        rw [List.take_of_length_le (by omega), List.take_of_length_le (by omega)]
      rw [e]; exact ih

/-- xor of two numbers below 2 to the 32, as an int. -/
theorem i64_xor_nat (a b : Nat) (ha : a < 4294967296) (hb : b < 4294967296) : bits .xor .i64 (a : Int) (b : Int) = ((a ^^^ b : Nat) : Int) := by
  have h : a ^^^ b < 4294967296 := Nat.xor_lt_two_pow (n := 32) (by omega) (by omega)
  have ha' : a % 2 ^ IntKind.i64.bits = a := Nat.mod_eq_of_lt (by simp [IntKind.bits]; omega)
  have hb' : b % 2 ^ IntKind.i64.bits = b := Nat.mod_eq_of_lt (by simp [IntKind.bits]; omega)
  simp only [bits, BitVec.ofInt_natCast, BitVec.toNat_xor, BitVec.toNat_ofNat, ha', hb']
  rw [IntKind.wrap_i64]
  omega

theorem i64_and1 (n : Int) : bits .and .i64 n 1 = n % 2 := by
  have h1 : (BitVec.ofInt 64 1).toNat = 2 ^ 1 - 1 := by decide
  have key : (BitVec.ofInt 64 n &&& BitVec.ofInt 64 1).toNat = (n % ((2 ^ 64 : Nat) : Int)).toNat % 2 ^ 1 := by
    rw [BitVec.toNat_and, BitVec.toNat_ofInt, h1, Nat.and_two_pow_sub_one_eq_mod]
  show IntKind.i64.wrap ((BitVec.ofInt 64 n &&& BitVec.ofInt 64 1).toNat : Nat) = n % 2
  rw [key, IntKind.wrap_i64]
  omega

end Go.Proofs.YtbpdocjkhmiimabGreatDoor
