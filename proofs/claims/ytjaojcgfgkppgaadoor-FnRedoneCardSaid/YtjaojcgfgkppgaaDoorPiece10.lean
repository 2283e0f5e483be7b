/- Several texts in one, in their order. -/
import Derived.Test.YtjaojcgfgkppgaaDoorPiece9
import Derived.Test.YtjaojcgfgkppgaaDoorPiece1
import Derived.Deep.RegionHeld3
/- The walks of impl.appendGroups and impl.foldSign. -/
namespace Go.Proofs.YtjaojcgfgkppgaaDoor
open Go.RowKit

theorem step_small (xs pre ys zs : List Int) (m m0 : Nat) (h : groups m0 = pre ++ groups m) (hs : m < 128) (hy : ys = xs ++ pre) (hz : zs = ys ++ [(m : Int)]) : zs = xs ++ groups m0 := by
  rw [hz, hy, h, groups_small m hs, List.append_assoc]
theorem step_big (pre : List Int) (m m0 : Nat) (h : groups m0 = pre ++ groups m) (hs : 128 ≤ m) (hm : m < 2 ^ 64) : groups m0 = (pre ++ [((m % 128 + 128 : Nat) : Int)]) ++ groups (m / 128) := by
  rw [h, groups_big m hs hm]; simp

set_option maxHeartbeats 400000 in
set_option maxRecDepth 100000 in
theorem appendGroups_any (base : Nat) (a : Option Addr) (c : Nat) (xs : List Int) (m0 : Nat) (w : World) (hown : OwnB w base a c xs) (hm0 : m0 ≤ 2000000000000) (hl : xs.length ≤ 70368744177000) (hbase : base ≤ w.heap.size) :
    Calls Tryd.prog 63 #[.slice a xs.length c, .int .i64 m0] w fun e w' => ∃ a' c' ys, e = .returned (.slice a' ys.length c') ∧ ys = xs ++ groups m0 ∧ OwnB w' base a' c' ys ∧ Below base w w' := by
  have hgl : Hid ((groups m0).length ≤ 65) := (groups_len m0).2
  go_enter Tryd.func63, Tryd.ntmps63
  go_wp2
  go_loopw [0, 1] (fun out mm wr => ∃ (a' : Option Addr) (c' : Nat) (ys pre : List Int) (m : Nat), out = .slice a' ys.length c' ∧ mm = .int .i64 m ∧ m ≤ m0 ∧ OwnB wr base a' c' ys ∧ Hid (ys = xs ++ pre) ∧ Hid (groups m0 = pre ++ groups m) ∧ Below base w wr)
    (fun _ mm _ => (intOf mm).toNat)
  case atStart => exact ⟨a, c, xs, [], m0, rfl, rfl, Nat.le_refl _, hown, by simp [Hid], by simp [Hid], Below.refl _ _⟩
  case round =>
    obtain ⟨a', c', ys, pre, m, rfl, rfl, hmm, ho, hy, hg, hnx⟩ := hrel
    have hyl : ys.length ≤ 70368744177663 := by
      have e := congrArg List.length hy.out
      have e2 := congrArg List.length hg.out
      have := (groups_len m).1
      have := hgl.out
      simp at e e2
      omega
    have hsz := hnx.size
    clear hown
    by_cases hlt : 128 ≤ m
    · have hz : 0 ≤ ((m : Int) % 128 + 128) ∧ ((m : Int) % 128 + 128) < 256 := by omega
      have HB := step_big pre m m0 hg.out hlt (by omega)
      have HH : Hid (_ = _) := HB
      clear HB
      go_wp2_with (at_builtin; (refine append_bytes rfl _ _ rfl base a' c' ys rfl (ho.alloc _) _ _ [(m : Int) % 128 + 128] rfl (reads_lit1 wr _ _ hz) (by intro h; cases h) (by simp; omega) (by simp; omega) ?_); intro a2 c2 zs w1 hy2 ho2 hg2)
      go_roundw
      case rel => exact ⟨a2, c2, zs, pre ++ [((m % 128 + 128 : Nat) : Int)], m / 128, rfl, rfl, by omega, ho2, by rw [Hid, hy2.out, hy.out, List.append_assoc]; rfl, HH.out, (hnx.alloc (by omega) _).grown hg2 (by simp; omega) (fun k hk => (ho.2.lt k hk).1)⟩
      case measure => simp [intOf]; omega
    · have hz : 0 ≤ (m : Int) ∧ (m : Int) < 256 := by omega
      have HH : Hid (_ = _) := step_small xs pre ys (ys ++ [(m : Int)]) m m0 hg.out (by omega) hy.out rfl
      go_wp2_with (at_builtin; (refine append_bytes rfl _ _ rfl base a' c' ys rfl (ho.alloc _) _ _ [(m : Int)] rfl (reads_lit1 wr _ _ hz) (by intro h; cases h) (by simp; omega) (by simp; omega) ?_); intro a2 c2 zs w1 hy2 ho2 hg2)
      go_ret
      exact ⟨a2, c2, zs, rfl, by rw [hy2.out]; exact HH.out, ho2, (hnx.alloc (by omega) _).grown hg2 (by simp; omega) (fun k hk => (ho.2.lt k hk).1)⟩

set_option maxHeartbeats 400000 in
theorem foldSign_any (n : Int) (w : World) :
    Calls Tryd.prog 64 #[.int .i64 n] w fun e w' => e = .returned (.int .i64 (zig n : Nat)) ∧ w' = w := by
  by_cases h1 : 1000000000000 < n
  · have HC : Hid ((1000000000000 : Int) = clampI n) := by unfold clampI; rw [Hid, if_pos h1]
    go_enter Tryd.func64, Tryd.ntmps64
    go_wp2
    go_ret
    exact ⟨ret_int (zig_pos n _ HC.out (by omega)).symm, rfl⟩
  · by_cases h2 : n < -1000000000000
    · have HC : Hid ((-1000000000000 : Int) = clampI n) := by unfold clampI; rw [Hid, if_neg h1, if_pos h2]
      go_enter Tryd.func64, Tryd.ntmps64
      go_wp2
      go_ret
      exact ⟨ret_int (zig_neg n _ HC.out (by omega)).symm, rfl⟩
    · have HC : Hid (n = clampI n) := by unfold clampI; rw [Hid, if_neg h1, if_neg h2]
      by_cases h3 : 0 ≤ n
      · go_enter Tryd.func64, Tryd.ntmps64
        go_wp2
        go_ret
        exact ⟨ret_int (zig_pos n _ HC.out (by omega)).symm, rfl⟩
      · go_enter Tryd.func64, Tryd.ntmps64
        go_wp2
        go_ret
        exact ⟨ret_int (zig_neg n _ HC.out (by omega)).symm, rfl⟩
end Go.Proofs.YtjaojcgfgkppgaaDoor

/- The walk of spec.PutInt. -/
namespace Go.Proofs.YtjaojcgfgkppgaaDoor
open Go.RowKit

theorem i64_or128 (y : Int) (h0 : 0 ≤ y) (h1 : y < 128) : bits .or .i64 y 128 = y + 128 := by
  have hc : bits .or .i64 y 128 = bits .or .i64 128 y := by simp only [bits, BitVec.or_comm]
  have hw : ∀ n : Int, 0 ≤ n → n < 2 ^ 63 → IntKind.i64.wrap n = n := fun n _ _ => by rw [IntKind.wrap_i64]; omega
  rw [hc, bits_join .i64 63 (by decide) hw 7 128 y (by decide) (by decide) (by decide) h0 h1 (by omega)]
  omega

theorem group_byte (m : Nat) : bits .or .i64 (bits .and .i64 (m : Int) 127) 128 = (m : Int) % 128 + 128 := by
  rw [i64_and127, i64_or128 _ (by omega) (by omega)]

set_option maxHeartbeats 800000 in
set_option maxRecDepth 100000 in
theorem specPutInt_any (a : Option Addr) (c : Nat) (zs : List Int) (n : Int) (w : World) (hr : Reads w a zs) (hc : a = none → c = 0) (hl : zs.length ≤ 70368744170000) :
    Calls Tryd.prog 56 #[.slice a zs.length c, .int .i64 n] w fun e w' => ∃ a' c' ys, e = .returned (.slice a' ys.length c') ∧ ys = zs ++ putOf n ∧ OwnB w' w.heap.size a' c' ys ∧ Below w.heap.size w w' := by
  have HC : Hid (a = none → c = 0) := hc
  clear hc
  have hzig := zig_le n
  have HGL : Hid ((groups (zig n)).length ≤ 65) := (groups_len _).2
  have HP : Hid (putOf n = groups (zig n)) := rfl
  have cs : (1000000000000 < n ∧ Hid (((zig n : Nat) : Int) = 2000000000000)) ∨ (n < -1000000000000 ∧ Hid (((zig n : Nat) : Int) = 1999999999999)) ∨
      (¬ 1000000000000 < n ∧ ¬ n < -1000000000000 ∧ 0 ≤ n ∧ Hid (((zig n : Nat) : Int) = 2 * n)) ∨ (¬ 1000000000000 < n ∧ ¬ n < -1000000000000 ∧ n < 0 ∧ Hid (((zig n : Nat) : Int) = -2 * n - 1)) := by
    by_cases h1 : 1000000000000 < n
    · exact .inl ⟨h1, by rw [Hid, zig_pos n 1000000000000 (by unfold clampI; rw [if_pos h1]) (by omega)]; omega⟩
    · by_cases h2 : n < -1000000000000
      · exact .inr (.inl ⟨h2, by rw [Hid, zig_neg n (-1000000000000) (by unfold clampI; rw [if_neg h1, if_pos h2]) (by omega)]; omega⟩)
      · by_cases h3 : 0 ≤ n
        · exact .inr (.inr (.inl ⟨h1, h2, h3, zig_pos n n (by unfold clampI; rw [if_neg h1, if_neg h2]) h3⟩))
        · exact .inr (.inr (.inr ⟨h1, h2, by omega, zig_neg n n (by unfold clampI; rw [if_neg h1, if_neg h2]) h3⟩))
  generalize zig n = m0 at *
  rcases cs with ⟨h1, HK⟩ | ⟨h1, HK⟩ | ⟨h1, h2, h3, HK⟩ | ⟨h1, h2, h3, HK⟩
  all_goals
    go_enter Tryd.func56, Tryd.ntmps56
    go_wp2_with (at_builtin; refine append_bytes rfl _ _ rfl w.heap.size _ _ [] rfl (own_lit0 w) a c zs rfl (hr.alloc _) HC.out (by simp; omega) (by simp) ?_; intro a1 c1 y1 w1 hy1 ho1 hg1)
    have hb1 : Below w.heap.size w w1 := ((Below.refl _ _).alloc (Nat.le_refl _) _).grown hg1 (by simp) (fun k hk => ((own_lit0 w).2.lt k hk).1)
    clear hg1 hr
    go_loopw [5, 6] (fun out mm wr => ∃ (a' : Option Addr) (c' : Nat) (ys pre : List Int) (m : Nat), out = .slice a' ys.length c' ∧ mm = .int .i64 m ∧ m ≤ m0 ∧ OwnB wr w.heap.size a' c' ys ∧ Hid (ys = zs ++ pre) ∧ Hid (groups m0 = pre ++ groups m) ∧ Below w.heap.size w wr)
      (fun _ mm _ => (intOf mm).toNat)
    case atStart => exact ⟨a1, c1, y1, [], m0, rfl, val_int HK.out.symm, Nat.le_refl _, ho1, by rw [Hid, hy1.out]; simp, by simp [Hid], hb1⟩
    case round =>
      obtain ⟨a', c', ys, pre, m, rfl, rfl, hmm, ho, hy, hg, hnx⟩ := hrel
      clear ho1 hb1 hy1 HK
      have hyl : ys.length ≤ 70368744177663 := by
        have e := congrArg List.length hy.out
        have e2 := congrArg List.length hg.out
        have := (groups_len m).1
        have := HGL.out
        simp at e e2
        omega
      have hsz := hnx.size
      by_cases hlt : 127 < m
      · have hz : 0 ≤ ((m : Int) % 128 + 128) ∧ ((m : Int) % 128 + 128) < 256 := by omega
        have HH : Hid (_ = _) := step_big pre m m0 hg.out (by omega) (by omega)
        have hgb := group_byte m
        go_wp2_with (at_builtin; refine append_bytes rfl _ _ rfl w.heap.size a' c' ys rfl (ho.alloc _) _ _ [(m : Int) % 128 + 128] rfl (reads_lit1 wr _ _ hz) (by intro h; cases h) (by simp; omega) (by simp; omega) ?_; intro a2 c2 y2 w2 hy2 ho2 hg2)
        go_roundw
        case rel => exact ⟨a2, c2, y2, pre ++ [((m % 128 + 128 : Nat) : Int)], m / 128, rfl, rfl, by omega, ho2, by rw [Hid, hy2.out, hy.out, List.append_assoc]; rfl, HH.out, (hnx.alloc (by omega) _).grown hg2 (by simp; omega) (fun k hk => (ho.2.lt k hk).1)⟩
        case measure => simp [intOf]; omega
      · have hz : 0 ≤ (m : Int) ∧ (m : Int) < 256 := by omega
        have HH : Hid (_ = _) := step_small zs pre ys (ys ++ [(m : Int)]) m m0 hg.out (by omega) hy.out rfl
        go_wp2_with (at_builtin; refine append_bytes rfl _ _ rfl w.heap.size a' c' ys rfl (ho.alloc _) _ _ [(m : Int)] rfl (reads_lit1 wr _ _ hz) (by intro h; cases h) (by simp; omega) (by simp; omega) ?_; intro a2 c2 y2 w2 hy2 ho2 hg2)
        go_ret
        exact ⟨a2, c2, y2, rfl, by rw [hy2.out, HP.out]; exact HH.out, ho2, (hnx.alloc (by omega) _).grown hg2 (by simp; omega) (fun k hk => (ho.2.lt k hk).1)⟩
end Go.Proofs.YtjaojcgfgkppgaaDoor

/- The bytes of an object; the walks of spec.l2PutList and spec.PutObj. -/
namespace Go.Proofs.YtjaojcgfgkppgaaDoor
open Go.RowKit

def putList (l : List Int) : List Int := putOf l.length ++ l.flatMap putOf
def putObjOf (o : ObjV) : List Int := if okB o then (putOf o.kind ++ putList o.ints) ++ putList o.refs else []

theorem flat_len (l : List Int) : (l.flatMap putOf).length ≤ 65 * l.length := by
  induction l with
  | nil => simp
  | cons z r ih => have := (putOf_len z).2; simp only [List.flatMap_cons, List.length_append, List.length_cons]; omega
theorem putList_len (l : List Int) : (putList l).length ≤ 65 + 65 * l.length := by
  have := flat_len l
  have := (putOf_len l.length).2
  simp only [putList, List.length_append]; omega
theorem flat_take (l : List Int) (k : Nat) (h : k < l.length) : (l.take (k + 1)).flatMap putOf = (l.take k).flatMap putOf ++ putOf (l.getD k 0) := by
  rw [List.take_succ_eq_append_getElem h, List.flatMap_append]
  simp [List.getD, h]

set_option maxHeartbeats 400000 in
set_option maxRecDepth 100000 in
theorem l2PutList_any (a : Option Addr) (c : Nat) (xs : List Int) (aL : Option Addr) (cL : Nat) (l : List Int) (w : World) (hr : Reads w a xs) (hc : a = none → c = 0) (hL : ReadsI w aL l) (hx : xs.length ≤ 1000000) (hl : l.length ≤ 1000) :
    Calls Tryd.prog 118 #[.slice a xs.length c, .slice aL l.length cL] w fun e w' => ∃ a' c' ys, e = .returned (.slice a' ys.length c') ∧ Hid (ys = xs ++ putList l) ∧ OwnB w' w.heap.size a' c' ys ∧ Below w.heap.size w w' := by
  go_enter Tryd.func118, Tryd.ntmps118
  go_wp2_with fail
  refine (specPutInt_any a c xs (l.length : Int) w hr hc (by omega)).mono ?_
  rintro e w1 ⟨a1, c1, y1, rfl, hy1, ho1, hb1⟩
  have HY1 : Hid (y1 = xs ++ putOf l.length) := hy1
  clear hy1
  go_wp2
  go_loopw [0, 5] (fun out i wr => ∃ (a' : Option Addr) (c' : Nat) (ys : List Int) (k : Nat), out = .slice a' ys.length c' ∧ i = .int .i64 k ∧ k ≤ l.length ∧ Hid (ys = (xs ++ putOf l.length) ++ (l.take k).flatMap putOf) ∧ OwnB wr w.heap.size a' c' ys ∧ Below w.heap.size w wr) (fun _ i _ => l.length - (intOf i).toNat)
  case atStart => exact ⟨a1, c1, y1, 0, rfl, rfl, by omega, by rw [Hid, HY1.out]; simp, ho1, hb1⟩
  case round =>
    obtain ⟨a', c', ys, k, rfl, rfl, hk, hy, ho, hb⟩ := hrel
    have hyl : ys.length ≤ 2000000 := by
      have h1 := flat_len (l.take k)
      have h2 := (putOf_len l.length).2
      rw [hy.out, List.length_append, List.length_append]
      rw [List.length_take] at h1
      omega
    by_cases hlt : k < l.length
    · have hL' := hL.below hb
      rcases hL'.cases with rfl | ⟨b, off, rfl, hpos, hcell⟩
      · simp at hlt
      have hcl := hcell k hlt
      have HF : Hid (_ = _) := flat_take l k hlt
      clear hcell
      generalize l.getD k 0 = z at *
      go_wp2_with fail
      refine (specPutInt_any a' c' ys z wr ho.reads ho.nocap (by omega)).mono ?_
      rintro e w2 ⟨a2, c2, y2, rfl, hy2, ho2, hb2⟩
      have HY2 : Hid (y2 = (xs ++ putOf l.length) ++ (l.take (k + 1)).flatMap putOf) := by rw [Hid, hy2, hy.out, HF.out]; simp only [List.append_assoc]
      have hbs := hb.size
      clear hy2
      go_wp2
      go_roundw
      case rel => exact ⟨a2, c2, y2, k + 1, rfl, by go_num, by omega, HY2, ho2.base hbs, hb.trans (hb2.mono hbs)⟩
      case measure => simp [intOf]; omega
    · have HE : Hid (ys = xs ++ putList l) := by
        rw [Hid, hy.out, List.take_of_length_le (by omega)]
        simp [putList]
      go_wp2
      go_ret
      exact ⟨a', c', ys, rfl, HE, ho, hb⟩

set_option maxHeartbeats 1000000 in
set_option maxRecDepth 100000 in
theorem specPutObj_any (o : ObjV) (aI : Option Addr) (cI : Nat) (aR : Option Addr) (cR : Nat) (w : World) (hr : ReadsO w aI cI aR cR o) (hnI : o.ints.length ≤ 140737488355328) (hnR : o.refs.length ≤ 140737488355328) :
    Calls Tryd.prog 99 #[.agg #[.int .i64 o.kind, .slice aI o.ints.length cI, .slice aR o.refs.length cR]] w fun e w' => ∃ a' c' ys, e = .returned (.slice a' ys.length c') ∧ Hid (ys = putObjOf o) ∧ OwnB w' w.heap.size a' c' ys ∧ Below w.heap.size w w' := by
  have hok := fun w' (h : ReadsO w' aI cI aR cR o) => specObjOk_any o aI cI aR cR w' h hnI hnR
  have HPT : Hid (okB o = true → putObjOf o = (putOf o.kind ++ putList o.ints) ++ putList o.refs) := fun h => by unfold putObjOf; rw [if_pos h]
  have HPF : Hid (okB o = false → putObjOf o = []) := fun h => by unfold putObjOf; rw [if_neg (by rw [h]; decide)]
  have HLN : Hid (okB o = true → o.ints.length ≤ 5 ∧ o.refs.length ≤ 5) := fun h => by simp [okB] at h; exact ⟨h.2.1, h.2.2.1⟩
  have hcs : okB o = true ∨ okB o = false := by cases okB o <;> simp
  generalize hP : putObjOf o = P at *
  clear hP
  obtain ⟨k, ints, refs⟩ := o
  have hr' := hr
  obtain ⟨hI, hR, _, _⟩ := hr
  simp only at *
  obtain ⟨W, hW, b0, hbW, hsW⟩ := boxes1 w [.int .i64 k, .slice aI ints.length cI, .slice aR refs.length cR] 26
  go_enter Tryd.func99, Tryd.ntmps99
  go_wp2_with fail
  rw [hW.out]
  refine (hok W (hr'.below hbW)).mono ?_
  rintro e w1 ⟨rfl, hb1⟩
  have hbw1 : Below w.heap.size w w1 := hbW.trans (hb1.mono hbW.size)
  have b1 := b0.below hb1 b0.lt
  have x0 := b1.cell 0 _ rfl
  have x1 := b1.cell 1 _ rfl
  have x2 := b1.cell 2 _ rfl
  rcases hcs with hB | hB
  · have HP : Hid (_ = _) := HPT.out hB
    obtain ⟨h5, h6⟩ := HLN.out hB
    rw [hB]
    clear hB hok
    have hL1 := (putOf_len k).2
    have HL2 : Hid (_ ≤ _) := putList_len ints
    have hlt1 := b1.lt
    have hkeep : ∀ w', Below w1.heap.size w1 w' → w'.cell? ⟨w.heap.size, 0, none⟩ = some (.int .i64 k) ∧ w'.cell? ⟨w.heap.size, 1, none⟩ = some (.slice aI ints.length cI) ∧ w'.cell? ⟨w.heap.size, 2, none⟩ = some (.slice aR refs.length cR) :=
      fun w' hh => ⟨(b1.below hh hlt1).cell 0 _ rfl, (b1.below hh hlt1).cell 1 _ rfl, (b1.below hh hlt1).cell 2 _ rfl⟩
    go_wp2_with fail
    go_region_held3 (fun w' => w'.cell? ⟨w.heap.size, 0, none⟩ = some (.int .i64 k) ∧ w'.cell? ⟨w.heap.size, 1, none⟩ = some (.slice aI ints.length cI) ∧ w'.cell? ⟨w.heap.size, 2, none⟩ = some (.slice aR refs.length cR))
      (first | exact hkeep _ ((Below.refl _ _).alloc (Nat.le_refl _) _).drew | exact hkeep _ ((Below.refl _ _).alloc (Nat.le_refl _) _) | exact hkeep _ hw4 | exact hkeep _ hw3 | exact hkeep _ hw2 | go_keep)
      (first
      | (go_at_call 56; refine (specPutInt_any _ 0 [] k _ ⟨by simp, by simp⟩ (fun h => by cases h) (by simp)).mono ?_; rintro e w2 ⟨a2, c2, y2, rfl, hy2, ho2, hb2⟩; have hw2 : Below w1.heap.size w1 w2 := ((Below.refl _ _).alloc (Nat.le_refl _) _).drew.trans (hb2.mono (by simp [World.drew])); have HY2 : Hid (y2 = [] ++ putOf k) := hy2; have hl2 : y2.length ≤ 65 := (by rw [hy2]; simp; omega); clear hy2)
      | (go_at_call_of 118 (Value.slice a2 y2.length c2); refine (l2PutList_any a2 c2 y2 aI cI ints w2 ho2.reads ho2.nocap (hI.below (hbw1.trans (hw2.mono hbw1.size))) (by omega) (by omega)).mono ?_; rintro e w3 ⟨a3, c3, y3, rfl, HY3, ho3, hb3⟩; have hw3 : Below w1.heap.size w1 w3 := hw2.trans (hb3.mono hw2.size); have hl3 : y3.length ≤ 1000 := (by have := HL2.out; rw [HY3.out, List.length_append]; omega))
      | (go_at_call_of 118 (Value.slice a3 y3.length c3); refine (l2PutList_any a3 c3 y3 aR cR refs w3 ho3.reads ho3.nocap (hR.below (hbw1.trans (hw3.mono hbw1.size))) (by omega) (by omega)).mono ?_; rintro e w4 ⟨a4, c4, y4, rfl, HY4, ho4, hb4⟩; have hw4 : Below w1.heap.size w1 w4 := hw3.trans (hb4.mono hw3.size)))
    go_wp2
    go_ret
    exact ⟨a4, c4, y4, rfl, by rw [Hid, HP.out, HY4.out, HY3.out, HY2.out]; simp, ho4.base (Nat.le_trans hbw1.size hw3.size), hbw1.trans (hw4.mono hbw1.size)⟩
  · have HP : Hid (_ = _) := HPF.out hB
    rw [hB]
    clear hB hok
    go_wp2
    go_ret
    exact ⟨_, 0, [], rfl, HP.out.symm, (own_lit0 w1).base hbw1.size, hbw1.alloc hbw1.size _⟩
end Go.Proofs.YtjaojcgfgkppgaaDoor
