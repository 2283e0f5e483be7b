/- Several texts in one, in their order. -/
import Derived.Test.YtjaojcgfgkppgaaGreatDoorPart1
import Derived.Deep.QuietTactic
import Derived.BigQuiet
import Derived.WalkKit
import Derived.Test.YtjaojcgfgkppgaaGreatDoorProg
import Derived.Test.YtjaojcgfgkppgaaGreatDoorPart2
import Derived.Deep.RegionHeld3
/- The walks of spec.l2SameInts, spec.l2Same and spec.SameObj. -/
namespace Go.Proofs.YtjaojcgfgkppgaaGreatDoor
open Go.RowKit

theorem ne_at {xs ys : List Int} (j : Nat) (h : xs.getD j 0 ≠ ys.getD j 0) : decide (xs = ys) = false := by
  rw [decide_eq_false_iff_not]
  intro e
  exact h (by rw [e])
theorem ne_len {xs ys : List Int} (h : xs.length ≠ ys.length) : decide (xs = ys) = false := by
  rw [decide_eq_false_iff_not]
  intro e
  exact h (by rw [e])
theorem eq_all {xs ys : List Int} (hl : xs.length = ys.length) (h : ∀ t, t < xs.length → xs.getD t 0 = ys.getD t 0) : decide (xs = ys) = true := by
  rw [decide_eq_true_eq]
  apply List.ext_getElem hl
  intro i h1 h2
  have := h i h1
  simpa [List.getD, h1, h2] using this

set_option maxHeartbeats 400000 in
theorem l2SameInts_any (a b : Option Addr) (ca cb : Nat) (xs ys : List Int) (w : World) (ha : ReadsI w a xs) (hb : ReadsI w b ys) (hl : xs.length ≤ 1099511627776) (hl2 : ys.length ≤ 1099511627776) :
    Calls Tryz.prog 117 #[.slice a xs.length ca, .slice b ys.length cb] w fun e w' => e = .returned (.bool (decide (xs = ys))) ∧ ∃ n, w' = w.drewN n := by
  by_cases hle : xs.length = ys.length
  case neg =>
    have HE : Hid (_ = _) := ne_len hle
    have hle' : ((xs.length : Int) == (ys.length : Int)) = false := by simp; omega
    go_enter Tryz.func117, Tryz.ntmps117
    go_wp2
    go_ret
    exact ⟨ret_bool HE.out.symm, 0, rfl⟩
  case pos =>
  have HL : Hid (xs.length = ys.length) := hle
  have hle' : ((xs.length : Int) == (ys.length : Int)) = true := by simp; omega
  rcases ha.cases with rfl | ⟨b1, o1, rfl, hpos, hc1⟩
  · obtain rfl : ys = [] := List.length_eq_zero_iff.1 (by simpa using hle.symm)
    have HE : Hid (decide (([] : List Int) = []) = true) := by simp [Hid]
    clear hle hle' HL
    go_enter Tryz.func117, Tryz.ntmps117
    go_wp2
    refine wp_loop_rounds 1 ?_
    rw [rounds_succ]
    go_wp2
    go_ret
    exact ⟨ret_bool HE.out.symm, 0, rfl⟩
  · rcases hb.cases with rfl | ⟨b2, o2, rfl, _, hc2⟩
    · simp at hle; simp [hle] at hpos
    · clear hle
      go_enter Tryz.func117, Tryz.ntmps117
      go_wp2
      go_loopw [5] (fun i wr => ∃ k : Nat, k ≤ xs.length ∧ i = .int .i64 k ∧ Hid (∀ t, t < k → xs.getD t 0 = ys.getD t 0) ∧ ∃ n, wr = w.drewN n) (fun i _ => xs.length - (intOf i).toNat)
      case atStart => exact ⟨0, Nat.zero_le _, rfl, fun t ht => by omega, 0, rfl⟩
      case round =>
        obtain ⟨k, hk, rfl, hall, n, rfl⟩ := hrel
        by_cases hlt : k < xs.length
        · have h1 := hc1 k hlt
          have h2 := hc2 k (by have := HL.out; omega)
          have hlt2 : (k : Int) < (ys.length : Int) := by have := HL.out; omega
          clear hc1 hc2
          by_cases hz : xs.getD k 0 = ys.getD k 0
          · have HN : Hid (∀ t, t < k + 1 → xs.getD t 0 = ys.getD t 0) := by
              intro t ht
              by_cases e : t = k
              · rw [e]; exact hz
              · exact hall.out t (by omega)
            rw [← hz] at h2
            clear hz
            generalize xs.getD k 0 = z at *
            go_wp2
            go_quiet (fail)
            go_wp2
            go_roundw
            case rel => exact ⟨k + 1, by omega, by go_num, HN, _, rfl⟩
            case measure => simp [intOf]; omega
          · have HE : Hid (_ = _) := ne_at k hz
            have hzb : (xs.getD k 0 == ys.getD k 0) = false := by simpa using hz
            clear hz
            generalize xs.getD k 0 = z at *
            generalize ys.getD k 0 = y at *
            go_wp2
            go_quiet (fail)
            go_wp2
            go_ret
            exact ⟨ret_bool HE.out.symm, n + nq, by first | rfl | simp⟩
        · have HE : Hid (_ = _) := eq_all HL.out (fun t ht => hall.out t (by omega))
          go_wp2
          go_ret
          exact ⟨ret_bool HE.out.symm, n, rfl⟩

def sameO (a b : ObjV) : Bool := decide (a.kind = b.kind) && (decide (a.ints = b.ints) && decide (a.refs = b.refs))

set_option maxHeartbeats 1000000 in
set_option maxRecDepth 100000 in
theorem specSameObj_any (o p : ObjV) (aI : Option Addr) (cI : Nat) (aR : Option Addr) (cR : Nat) (bI : Option Addr) (dI : Nat) (bR : Option Addr) (dR : Nat) (w : World) (ha : ReadsO w aI cI aR cR o) (hb : ReadsO w bI dI bR dR p) (h1 : o.ints.length ≤ 1099511627776) (h2 : o.refs.length ≤ 1099511627776) (h3 : p.ints.length ≤ 1099511627776) (h4 : p.refs.length ≤ 1099511627776) :
    Calls Tryz.prog 108 #[.agg #[.int .i64 o.kind, .slice aI o.ints.length cI, .slice aR o.refs.length cR], .agg #[.int .i64 p.kind, .slice bI p.ints.length dI, .slice bR p.refs.length dR]] w fun e w' => e = .returned (.bool (sameO o p)) ∧ Below w.heap.size w w' := by
  obtain ⟨k, ints, refs⟩ := o
  obtain ⟨k', ints', refs'⟩ := p
  obtain ⟨haI, haR, _, _⟩ := ha
  obtain ⟨hbI, hbR, _, _⟩ := hb
  simp only at *
  obtain ⟨W, hW, b0, b1, hbW, hsW⟩ := boxes2 w [.int .i64 k, .slice aI ints.length cI, .slice aR refs.length cR] [.int .i64 k', .slice bI ints'.length dI, .slice bR refs'.length dR] 25 25
  by_cases hk : k = k'
  case neg =>
    have HE : Hid (sameO ⟨k, ints, refs⟩ ⟨k', ints', refs'⟩ = false) := by simp [Hid, sameO, hk]
    have hkb : (k == k') = false := by simpa using hk
    clear hk
    go_enter Tryz.func108, Tryz.ntmps108
    go_wp2
    go_ret
    exact ⟨ret_bool HE.out.symm, by rw [hW.out]; exact hbW⟩
  case pos =>
  subst hk
  have HE : Hid (sameO ⟨k, ints, refs⟩ ⟨k, ints', refs'⟩ = (decide (ints = ints') && decide (refs = refs'))) := by simp [Hid, sameO]
  go_enter Tryz.func108, Tryz.ntmps108
  go_wp2_with fail
  rw [hW.out]
  refine (l2SameInts_any aI bI cI dI ints ints' W (haI.below hbW) (hbI.below hbW) h1 h3).mono ?_
  rintro e w1 ⟨rfl, n1, rfl⟩
  have c0 := (b0.drewN n1).cell 2 _ rfl
  have c1 := (b1.drewN n1).cell 2 _ rfl
  have hb1 : Below w.heap.size w (W.drewN n1) := below_drewN hbW n1
  cases hd : decide (ints = ints') with
  | false =>
    rw [hd] at HE
    clear hd
    go_wp2
    go_ret
    exact ⟨ret_bool (by rw [HE.out]; rfl), hb1⟩
  | true =>
    rw [hd] at HE
    clear hd
    go_wp2_with fail
    refine (l2SameInts_any aR bR cR dR refs refs' (W.drewN n1) (haR.below hb1) (hbR.below hb1) h2 h4).mono ?_
    rintro e w2 ⟨rfl, n2, rfl⟩
    generalize decide (refs = refs') = D at *
    go_wp2
    go_ret
    exact ⟨ret_bool (by rw [HE.out]; rfl), below_drewN hbW (n1 + n2)⟩
end Go.Proofs.YtjaojcgfgkppgaaGreatDoor

/- Is a number within bounds? -/
namespace Go.Proofs.YtjaojcgfgkppgaaGreatDoor
def inB (x l m : Int) : Bool := decide (l ≤ x ∧ x ≤ m)
end Go.Proofs.YtjaojcgfgkppgaaGreatDoor

/- The walk of spec.l1In. -/
namespace Go.Proofs.YtjaojcgfgkppgaaGreatDoor
open Go.RowKit

set_option maxHeartbeats 400000 in
theorem l1In_any (x l m : Int) (w : World) : Calls Tryz.prog 53 #[.int .i64 x, .int .i64 l, .int .i64 m] w fun e w' => e = .returned (.bool (inB x l m)) ∧ w' = w := by
  by_cases h1 : l ≤ x
  · by_cases h2 : x ≤ m
    · have HB : Hid (inB x l m = true) := by simp [Hid, inB, h1, h2]
      go_enter Tryz.func53, Tryz.ntmps53
      go_wp2
      go_ret
      exact ⟨ret_bool HB.out.symm, rfl⟩
    · have HB : Hid (inB x l m = false) := by simp [Hid, inB, h2]
      go_enter Tryz.func53, Tryz.ntmps53
      go_wp2
      go_ret
      exact ⟨ret_bool HB.out.symm, rfl⟩
  · have HB : Hid (inB x l m = false) := by simp [Hid, inB, h1]
    go_enter Tryz.func53, Tryz.ntmps53
    go_wp2
    go_ret
    exact ⟨ret_bool HB.out.symm, rfl⟩

end Go.Proofs.YtjaojcgfgkppgaaGreatDoor

/- When an object is right; the walk of spec.ObjOk. -/
namespace Go.Proofs.YtjaojcgfgkppgaaGreatDoor
open Go.RowKit

def okB (o : ObjV) : Bool := inB o.kind 1 99 && (decide (o.ints.length ≤ 5) && (decide (o.refs.length ≤ 5) && (o.ints.all (fun z => inB z (-1000000) 1000000) && o.refs.all (fun z => inB z 0 31))))

theorem okB_kind {o : ObjV} (h : inB o.kind 1 99 = false) : okB o = false := by simp [okB, h]
theorem okB_ints {o : ObjV} (h : ¬ o.ints.length ≤ 5) : okB o = false := by simp [okB, h]
theorem okB_refs {o : ObjV} (h : ¬ o.refs.length ≤ 5) : okB o = false := by simp [okB, h]
theorem okB_int {o : ObjV} (j : Nat) (hj : j < o.ints.length) (h : inB (o.ints.getD j 0) (-1000000) 1000000 = false) : okB o = false := by
  have : (o.ints.all (fun z => inB z (-1000000) 1000000)) = false := by
    rw [List.all_eq_false]
    exact ⟨o.ints.getD j 0, by simp [List.getD, hj], by rw [h]; decide⟩
  simp [okB, this]
theorem okB_ref {o : ObjV} (j : Nat) (hj : j < o.refs.length) (h : inB (o.refs.getD j 0) 0 31 = false) : okB o = false := by
  have : (o.refs.all (fun z => inB z 0 31)) = false := by
    rw [List.all_eq_false]
    exact ⟨o.refs.getD j 0, by simp [List.getD, hj], by rw [h]; decide⟩
  simp [okB, this]
theorem okB_true {o : ObjV} (h1 : inB o.kind 1 99 = true) (h2 : o.ints.length ≤ 5) (h3 : o.refs.length ≤ 5) (h4 : ∀ j, j < o.ints.length → inB (o.ints.getD j 0) (-1000000) 1000000 = true) (h5 : ∀ j, j < o.refs.length → inB (o.refs.getD j 0) 0 31 = true) : okB o = true := by
  have a4 : (o.ints.all (fun z => inB z (-1000000) 1000000)) = true := by
    rw [List.all_eq_true]
    intro z hz
    obtain ⟨j, hj, rfl⟩ := List.getElem_of_mem hz
    have := h4 j hj
    simpa [List.getD, hj] using this
  have a5 : (o.refs.all (fun z => inB z 0 31)) = true := by
    rw [List.all_eq_true]
    intro z hz
    obtain ⟨j, hj, rfl⟩ := List.getElem_of_mem hz
    have := h5 j hj
    simpa [List.getD, hj] using this
  simp [okB, h1, h2, h3, a4, a5]

set_option maxHeartbeats 1000000 in
set_option maxRecDepth 100000 in
theorem specObjOk_any (o : ObjV) (aI : Option Addr) (cI : Nat) (aR : Option Addr) (cR : Nat) (w : World) (hr : ReadsO w aI cI aR cR o) (hnI : o.ints.length ≤ 140737488355328) (hnR : o.refs.length ≤ 140737488355328) :
    Calls Tryz.prog 77 #[.agg #[.int .i64 o.kind, .slice aI o.ints.length cI, .slice aR o.refs.length cR]] w fun e w' => e = .returned (.bool (okB o)) ∧ Below w.heap.size w w' := by
  obtain ⟨k, ints, refs⟩ := o
  obtain ⟨hI, hR, _, _⟩ := hr
  simp only at *
  obtain ⟨W, hW, b0, hbW, hsW⟩ := boxes1 w [.int .i64 k, .slice aI ints.length cI, .slice aR refs.length cR] 25
  have hI' := hI.below hbW
  have hR' := hR.below hbW
  have x1 := b0.cell 1 _ rfl
  have x2 := b0.cell 2 _ rfl
  cases hk : inB k 1 99 with
  | false =>
    have HK : Hid (_ = _) := hk
    have HE : Hid (okB ⟨k, ints, refs⟩ = false) := okB_kind hk
    clear hk
    go_enter Tryz.func77, Tryz.ntmps77
    go_wp2_with fail
    rw [hW.out]
    refine (l1In_any _ _ _ _).mono ?_
    rintro e w' ⟨rfl, rfl⟩
    rw [HK.out]
    go_wp2
    go_ret
    exact ⟨ret_bool HE.out.symm, hbW⟩
  | true =>
  have HK : Hid (_ = _) := hk
  clear hk
  by_cases h5 : ints.length ≤ 5
  case neg =>
    have HE : Hid (okB ⟨k, ints, refs⟩ = false) := okB_ints h5
    go_enter Tryz.func77, Tryz.ntmps77
    go_wp2_with fail
    rw [hW.out]
    refine (l1In_any _ _ _ _).mono ?_
    rintro e w' ⟨rfl, rfl⟩
    rw [HK.out]
    go_wp2
    go_ret
    exact ⟨ret_bool HE.out.symm, hbW⟩
  case pos =>
  by_cases h6 : refs.length ≤ 5
  case neg =>
    have HE : Hid (okB ⟨k, ints, refs⟩ = false) := okB_refs h6
    go_enter Tryz.func77, Tryz.ntmps77
    go_wp2_with fail
    rw [hW.out]
    refine (l1In_any _ _ _ _).mono ?_
    rintro e w' ⟨rfl, rfl⟩
    rw [HK.out]
    go_wp2
    go_ret
    exact ⟨ret_bool HE.out.symm, hbW⟩
  case pos =>
  go_enter Tryz.func77, Tryz.ntmps77
  go_wp2_with fail
  rw [hW.out]
  refine (l1In_any _ _ _ _).mono ?_
  rintro e w' ⟨rfl, rfl⟩
  rw [HK.out]
  go_wp2
  go_loop [3] (fun i => ∃ j : Nat, j ≤ ints.length ∧ i = .int .i64 j ∧ Hid (∀ t, t < j → inB (ints.getD t 0) (-1000000) 1000000 = true)) (fun i => ints.length - (intOf i).toNat)
  case atStart => exact ⟨0, by omega, rfl, fun t ht => by omega⟩
  case round =>
    obtain ⟨j, hj, rfl, hall⟩ := hrel
    by_cases hlt : j < ints.length
    · rcases hI'.cases with rfl | ⟨b, off, rfl, hpos, hcell⟩
      · simp at hlt
      have hc := hcell j hlt
      clear hcell
      cases hz : inB (ints.getD j 0) (-1000000) 1000000 with
      | false =>
        have HE : Hid (okB ⟨k, ints, refs⟩ = false) := okB_int j hlt hz
        have HZ : Hid (_ = _) := hz
        clear hz
        generalize ints.getD j 0 = z at *
        go_wp2_with fail
        refine (l1In_any _ _ _ _).mono ?_
        rintro e w' ⟨rfl, rfl⟩
        rw [HZ.out]
        go_wp2
        go_ret
        exact ⟨ret_bool HE.out.symm, hbW⟩
      | true =>
        have HN : Hid (∀ t, t < j + 1 → inB (ints.getD t 0) (-1000000) 1000000 = true) := by
          intro t ht
          by_cases e : t = j
          · rw [e]; exact hz
          · exact hall.out t (by omega)
        have HZ : Hid (_ = _) := hz
        clear hz
        generalize ints.getD j 0 = z at *
        go_wp2_with fail
        refine (l1In_any _ _ _ _).mono ?_
        rintro e w' ⟨rfl, rfl⟩
        rw [HZ.out]
        go_wp2
        go_round
        case rel => exact ⟨j + 1, by omega, by go_num, HN⟩
        case measure => simp [intOf]; omega
    · have HALL : Hid (∀ t, t < ints.length → inB (ints.getD t 0) (-1000000) 1000000 = true) := fun t ht => hall.out t (by omega)
      go_wp2
      go_loop [4] (fun i => ∃ j : Nat, j ≤ refs.length ∧ i = .int .i64 j ∧ Hid (∀ t, t < j → inB (refs.getD t 0) 0 31 = true)) (fun i => refs.length - (intOf i).toNat)
      case atStart => exact ⟨0, by omega, rfl, fun t ht => by omega⟩
      case round =>
        obtain ⟨i, hi, rfl, hall2⟩ := hrel
        by_cases hlt2 : i < refs.length
        · rcases hR'.cases with rfl | ⟨b, off, rfl, hpos, hcell⟩
          · simp at hlt2
          have hc := hcell i hlt2
          clear hcell
          cases hz : inB (refs.getD i 0) 0 31 with
          | false =>
            have HE : Hid (okB ⟨k, ints, refs⟩ = false) := okB_ref i hlt2 hz
            have HZ : Hid (_ = _) := hz
            clear hz
            generalize refs.getD i 0 = z at *
            go_wp2_with fail
            refine (l1In_any _ _ _ _).mono ?_
            rintro e w' ⟨rfl, rfl⟩
            rw [HZ.out]
            go_wp2
            go_ret
            exact ⟨ret_bool HE.out.symm, hbW⟩
          | true =>
            have HN : Hid (∀ t, t < i + 1 → inB (refs.getD t 0) 0 31 = true) := by
              intro t ht
              by_cases e : t = i
              · rw [e]; exact hz
              · exact hall2.out t (by omega)
            have HZ : Hid (_ = _) := hz
            clear hz
            generalize refs.getD i 0 = z at *
            go_wp2_with fail
            refine (l1In_any _ _ _ _).mono ?_
            rintro e w' ⟨rfl, rfl⟩
            rw [HZ.out]
            go_wp2
            go_round
            case rel => exact ⟨i + 1, by omega, by go_num, HN⟩
            case measure => simp [intOf]; omega
        · have HE : Hid (okB ⟨k, ints, refs⟩ = true) := okB_true HK.out h5 h6 HALL.out (fun t ht => hall2.out t (by simp only at ht; omega))
          go_wp2
          go_ret
          exact ⟨ret_bool HE.out.symm, hbW⟩
end Go.Proofs.YtjaojcgfgkppgaaGreatDoor

/- Plain mathematics of numbers in bytes: groups of seven bits, the lowest first. -/
namespace Go.Proofs.YtjaojcgfgkppgaaGreatDoor

def groupsN : Nat → Nat → List Int
  | 0, m => [(m : Int)]
  | f + 1, m => if m < 128 then [(m : Int)] else ((m % 128 + 128 : Nat) : Int) :: groupsN f (m / 128)
def groups (m : Nat) : List Int := groupsN 64 m

theorem groupsN_stable (f : Nat) : ∀ m, m < 2 ^ f → groupsN f m = groupsN (f + 1) m := by
  induction f with
  | zero => intro m h; have : m = 0 := by omega
            subst this; rfl
  | succ f ih =>
    intro m h
    unfold groupsN
    split
    · rfl
    · rw [ih (m / 128) (by rw [Nat.pow_succ] at h; omega)]

theorem groups_small (m : Nat) (h : m < 128) : groups m = [(m : Int)] := by
  unfold groups groupsN; rw [if_pos h]
theorem groups_big (m : Nat) (h : 128 ≤ m) (hm : m < 2 ^ 64) : groups m = ((m % 128 + 128 : Nat) : Int) :: groups (m / 128) := by
  unfold groups
  have e : groupsN 64 m = ((m % 128 + 128 : Nat) : Int) :: groupsN 63 (m / 128) := by
    show groupsN (63 + 1) m = _
    rw [groupsN, if_neg (by omega)]
  rw [e, groupsN_stable 63 (m / 128) (by omega)]

theorem groupsN_byte (f : Nat) : ∀ m, m < 128 * 2 ^ f → ∀ z ∈ groupsN f m, 0 ≤ z ∧ z < 256 := by
  induction f with
  | zero => intro m h z hz; simp [groupsN] at hz; omega
  | succ f ih =>
    intro m h z hz
    unfold groupsN at hz
    split at hz
    · simp at hz; omega
    · rw [List.mem_cons] at hz
      rcases hz with rfl | hz
      · omega
      · exact ih (m / 128) (by rw [Nat.pow_succ] at h; omega) z hz
theorem groups_byte (m : Nat) (hm : m < 2 ^ 64) : ∀ z ∈ groups m, 0 ≤ z ∧ z < 256 := groupsN_byte 64 m (by omega)

theorem groupsN_len (f : Nat) : ∀ m, 1 ≤ (groupsN f m).length ∧ (groupsN f m).length ≤ f + 1 := by
  induction f with
  | zero => intro m; simp [groupsN]
  | succ f ih =>
    intro m
    unfold groupsN
    split
    · simp
    · have := ih (m / 128); simp; omega
theorem groups_len (m : Nat) : 1 ≤ (groups m).length ∧ (groups m).length ≤ 65 := groupsN_len 64 m

/-- A number beyond the greatest counts as that. -/
def clampI (n : Int) : Int := if n > 1000000000000 then 1000000000000 else if n < -1000000000000 then -1000000000000 else n
def zig (n : Int) : Nat := if 0 ≤ clampI n then (2 * clampI n).toNat else (-2 * clampI n - 1).toNat
def putOf (n : Int) : List Int := groups (zig n)

theorem clampI_bd (n : Int) : -1000000000000 ≤ clampI n ∧ clampI n ≤ 1000000000000 := by unfold clampI; split <;> (try split) <;> omega
theorem zig_le (n : Int) : zig n ≤ 2000000000000 := by
  have := clampI_bd n
  unfold zig; split <;> omega
theorem zig_lt (n : Int) : zig n < 2 ^ 64 := by have := zig_le n; omega
theorem zig_pos (n c : Int) (hc : c = clampI n) (h : 0 ≤ c) : ((zig n : Nat) : Int) = 2 * c := by subst hc; unfold zig; rw [if_pos h]; omega
theorem zig_neg (n c : Int) (hc : c = clampI n) (h : ¬ 0 ≤ c) : ((zig n : Nat) : Int) = -2 * c - 1 := by subst hc; unfold zig; rw [if_neg h]; omega
theorem putOf_byte (n : Int) : ∀ z ∈ putOf n, 0 ≤ z ∧ z < 256 := groups_byte _ (zig_lt n)
theorem putOf_len (n : Int) : 1 ≤ (putOf n).length ∧ (putOf n).length ≤ 65 := groups_len _

end Go.Proofs.YtjaojcgfgkppgaaGreatDoor

/- The walks of impl.appendGroups and impl.foldSign. -/
namespace Go.Proofs.YtjaojcgfgkppgaaGreatDoor
open Go.RowKit

theorem step_small (xs pre ys zs : List Int) (m m0 : Nat) (h : groups m0 = pre ++ groups m) (hs : m < 128) (hy : ys = xs ++ pre) (hz : zs = ys ++ [(m : Int)]) : zs = xs ++ groups m0 := by
  rw [hz, hy, h, groups_small m hs, List.append_assoc]
theorem step_big (pre : List Int) (m m0 : Nat) (h : groups m0 = pre ++ groups m) (hs : 128 ≤ m) (hm : m < 2 ^ 64) : groups m0 = (pre ++ [((m % 128 + 128 : Nat) : Int)]) ++ groups (m / 128) := by
  rw [h, groups_big m hs hm]; simp

end Go.Proofs.YtjaojcgfgkppgaaGreatDoor

/- The walk of spec.PutInt. -/
namespace Go.Proofs.YtjaojcgfgkppgaaGreatDoor
open Go.RowKit

theorem i64_or128 (y : Int) (h0 : 0 ≤ y) (h1 : y < 128) : bits .or .i64 y 128 = y + 128 := by
  have hc : bits .or .i64 y 128 = bits .or .i64 128 y := by simp only [bits, BitVec.or_comm]
  have hw : ∀ n : Int, 0 ≤ n → n < 2 ^ 63 → IntKind.i64.wrap n = n := fun n _ _ => by rw [IntKind.wrap_i64]; omega
  rw [hc, bits_join .i64 63 (by decide) hw 7 128 y (by decide) (by decide) (by decide) h0 h1 (by omega)]
  omega

theorem group_byte (m : Nat) : bits .or .i64 (bits .and .i64 (m : Int) 127) 128 = (m : Int) % 128 + 128 := by
  rw [i64_and127, i64_or128 _ (by omega) (by omega)]

set_option maxHeartbeats 800000 in
set_option maxRecDepth 100000 in
theorem specPutInt_any (a : Option Addr) (c : Nat) (zs : List Int) (n : Int) (w : World) (hr : Reads w a zs) (hc : a = none → c = 0) (hl : zs.length ≤ 70368744170000) :
    Calls Tryz.prog 57 #[.slice a zs.length c, .int .i64 n] w fun e w' => ∃ a' c' ys, e = .returned (.slice a' ys.length c') ∧ ys = zs ++ putOf n ∧ OwnB w' w.heap.size a' c' ys ∧ Below w.heap.size w w' := by
  have HC : Hid (a = none → c = 0) := hc
  clear hc
  have hzig := zig_le n
  have HGL : Hid ((groups (zig n)).length ≤ 65) := (groups_len _).2
  have HP : Hid (putOf n = groups (zig n)) := rfl
  have cs : (1000000000000 < n ∧ Hid (((zig n : Nat) : Int) = 2000000000000)) ∨ (n < -1000000000000 ∧ Hid (((zig n : Nat) : Int) = 1999999999999)) ∨
      (¬ 1000000000000 < n ∧ ¬ n < -1000000000000 ∧ 0 ≤ n ∧ Hid (((zig n : Nat) : Int) = 2 * n)) ∨ (¬ 1000000000000 < n ∧ ¬ n < -1000000000000 ∧ n < 0 ∧ Hid (((zig n : Nat) : Int) = -2 * n - 1)) := by
    by_cases h1 : 1000000000000 < n
    · exact .inl ⟨h1, by rw [Hid, zig_pos n 1000000000000 (by unfold clampI; rw [if_pos h1]) (by omega)]; omega⟩
    · by_cases h2 : n < -1000000000000
      · exact .inr (.inl ⟨h2, by rw [Hid, zig_neg n (-1000000000000) (by unfold clampI; rw [if_neg h1, if_pos h2]) (by omega)]; omega⟩)
      · by_cases h3 : 0 ≤ n
        · exact .inr (.inr (.inl ⟨h1, h2, h3, zig_pos n n (by unfold clampI; rw [if_neg h1, if_neg h2]) h3⟩))
        · exact .inr (.inr (.inr ⟨h1, h2, by omega, zig_neg n n (by unfold clampI; rw [if_neg h1, if_neg h2]) h3⟩))
  generalize zig n = m0 at *
  rcases cs with ⟨h1, HK⟩ | ⟨h1, HK⟩ | ⟨h1, h2, h3, HK⟩ | ⟨h1, h2, h3, HK⟩
  all_goals
    go_enter Tryz.func57, Tryz.ntmps57
    go_wp2_with (at_builtin; refine append_bytes rfl _ _ rfl w.heap.size _ _ [] rfl (own_lit0 w) a c zs rfl (hr.alloc _) HC.out (by simp; omega) (by simp) ?_; intro a1 c1 y1 w1 hy1 ho1 hg1)
    have hb1 : Below w.heap.size w w1 := ((Below.refl _ _).alloc (Nat.le_refl _) _).grown hg1 (by simp) (fun k hk => ((own_lit0 w).2.lt k hk).1)
    clear hg1 hr
    go_loopw [5, 6] (fun out mm wr => ∃ (a' : Option Addr) (c' : Nat) (ys pre : List Int) (m : Nat), out = .slice a' ys.length c' ∧ mm = .int .i64 m ∧ m ≤ m0 ∧ OwnB wr w.heap.size a' c' ys ∧ Hid (ys = zs ++ pre) ∧ Hid (groups m0 = pre ++ groups m) ∧ Below w.heap.size w wr)
      (fun _ mm _ => (intOf mm).toNat)
    case atStart => exact ⟨a1, c1, y1, [], m0, rfl, val_int HK.out.symm, Nat.le_refl _, ho1, by rw [Hid, hy1.out]; simp, by simp [Hid], hb1⟩
    case round =>
      obtain ⟨a', c', ys, pre, m, rfl, rfl, hmm, ho, hy, hg, hnx⟩ := hrel
      clear ho1 hb1 hy1 HK
      have hyl : ys.length ≤ 70368744177663 := by
        have e := congrArg List.length hy.out
        have e2 := congrArg List.length hg.out
        have := (groups_len m).1
        have := HGL.out
        simp at e e2
        omega
      have hsz := hnx.size
      by_cases hlt : 127 < m
      · have hz : 0 ≤ ((m : Int) % 128 + 128) ∧ ((m : Int) % 128 + 128) < 256 := by omega
        have HH : Hid (_ = _) := step_big pre m m0 hg.out (by omega) (by omega)
        have hgb := group_byte m
        go_wp2_with (at_builtin; refine append_bytes rfl _ _ rfl w.heap.size a' c' ys rfl (ho.alloc _) _ _ [(m : Int) % 128 + 128] rfl (reads_lit1 wr _ _ hz) (by intro h; cases h) (by simp; omega) (by simp; omega) ?_; intro a2 c2 y2 w2 hy2 ho2 hg2)
        go_roundw
        case rel => exact ⟨a2, c2, y2, pre ++ [((m % 128 + 128 : Nat) : Int)], m / 128, rfl, rfl, by omega, ho2, by rw [Hid, hy2.out, hy.out, List.append_assoc]; rfl, HH.out, (hnx.alloc (by omega) _).grown hg2 (by simp; omega) (fun k hk => (ho.2.lt k hk).1)⟩
        case measure => simp [intOf]; omega
      · have hz : 0 ≤ (m : Int) ∧ (m : Int) < 256 := by omega
        have HH : Hid (_ = _) := step_small zs pre ys (ys ++ [(m : Int)]) m m0 hg.out (by omega) hy.out rfl
        go_wp2_with (at_builtin; refine append_bytes rfl _ _ rfl w.heap.size a' c' ys rfl (ho.alloc _) _ _ [(m : Int)] rfl (reads_lit1 wr _ _ hz) (by intro h; cases h) (by simp; omega) (by simp; omega) ?_; intro a2 c2 y2 w2 hy2 ho2 hg2)
        go_ret
        exact ⟨a2, c2, y2, rfl, by rw [hy2.out, HP.out]; exact HH.out, ho2, (hnx.alloc (by omega) _).grown hg2 (by simp; omega) (fun k hk => (ho.2.lt k hk).1)⟩
end Go.Proofs.YtjaojcgfgkppgaaGreatDoor

/- The bytes of an object; the walks of spec.l2PutList and spec.PutObj. -/
namespace Go.Proofs.YtjaojcgfgkppgaaGreatDoor
open Go.RowKit

def putList (l : List Int) : List Int := putOf l.length ++ l.flatMap putOf
def putObjOf (o : ObjV) : List Int := if okB o then (putOf o.kind ++ putList o.ints) ++ putList o.refs else []

theorem flat_len (l : List Int) : (l.flatMap putOf).length ≤ 65 * l.length := by
  induction l with
  | nil => simp
  | cons z r ih => have := (putOf_len z).2; simp only [List.flatMap_cons, List.length_append, List.length_cons]; omega
theorem putList_len (l : List Int) : (putList l).length ≤ 65 + 65 * l.length := by
  have := flat_len l
  have := (putOf_len l.length).2
  simp only [putList, List.length_append]; omega
theorem flat_take (l : List Int) (k : Nat) (h : k < l.length) : (l.take (k + 1)).flatMap putOf = (l.take k).flatMap putOf ++ putOf (l.getD k 0) := by
  rw [List.take_succ_eq_append_getElem h, List.flatMap_append]
  simp [List.getD, h]

set_option maxHeartbeats 400000 in
set_option maxRecDepth 100000 in
theorem l2PutList_any (a : Option Addr) (c : Nat) (xs : List Int) (aL : Option Addr) (cL : Nat) (l : List Int) (w : World) (hr : Reads w a xs) (hc : a = none → c = 0) (hL : ReadsI w aL l) (hx : xs.length ≤ 1000000) (hl : l.length ≤ 1000) :
    Calls Tryz.prog 107 #[.slice a xs.length c, .slice aL l.length cL] w fun e w' => ∃ a' c' ys, e = .returned (.slice a' ys.length c') ∧ Hid (ys = xs ++ putList l) ∧ OwnB w' w.heap.size a' c' ys ∧ Below w.heap.size w w' := by
  go_enter Tryz.func107, Tryz.ntmps107
  go_wp2_with fail
  refine (specPutInt_any a c xs (l.length : Int) w hr hc (by omega)).mono ?_
  rintro e w1 ⟨a1, c1, y1, rfl, hy1, ho1, hb1⟩
  have HY1 : Hid (y1 = xs ++ putOf l.length) := hy1
  clear hy1
  go_wp2
  go_loopw [0, 5] (fun out i wr => ∃ (a' : Option Addr) (c' : Nat) (ys : List Int) (k : Nat), out = .slice a' ys.length c' ∧ i = .int .i64 k ∧ k ≤ l.length ∧ Hid (ys = (xs ++ putOf l.length) ++ (l.take k).flatMap putOf) ∧ OwnB wr w.heap.size a' c' ys ∧ Below w.heap.size w wr) (fun _ i _ => l.length - (intOf i).toNat)
  case atStart => exact ⟨a1, c1, y1, 0, rfl, rfl, by omega, by rw [Hid, HY1.out]; simp, ho1, hb1⟩
  case round =>
    obtain ⟨a', c', ys, k, rfl, rfl, hk, hy, ho, hb⟩ := hrel
    have hyl : ys.length ≤ 2000000 := by
      have h1 := flat_len (l.take k)
      have h2 := (putOf_len l.length).2
      rw [hy.out, List.length_append, List.length_append]
      rw [List.length_take] at h1
      omega
    by_cases hlt : k < l.length
    · have hL' := hL.below hb
      rcases hL'.cases with rfl | ⟨b, off, rfl, hpos, hcell⟩
      · simp at hlt
      have hcl := hcell k hlt
      have HF : Hid (_ = _) := flat_take l k hlt
      clear hcell
      generalize l.getD k 0 = z at *
      go_wp2_with fail
      refine (specPutInt_any a' c' ys z wr ho.reads ho.nocap (by omega)).mono ?_
      rintro e w2 ⟨a2, c2, y2, rfl, hy2, ho2, hb2⟩
      have HY2 : Hid (y2 = (xs ++ putOf l.length) ++ (l.take (k + 1)).flatMap putOf) := by rw [Hid, hy2, hy.out, HF.out]; simp only [List.append_assoc]
      have hbs := hb.size
      clear hy2
      go_wp2
      go_roundw
      case rel => exact ⟨a2, c2, y2, k + 1, rfl, by go_num, by omega, HY2, ho2.base hbs, hb.trans (hb2.mono hbs)⟩
      case measure => simp [intOf]; omega
    · have HE : Hid (ys = xs ++ putList l) := by
        rw [Hid, hy.out, List.take_of_length_le (by omega)]
        simp [putList]
      go_wp2
      go_ret
      exact ⟨a', c', ys, rfl, HE, ho, hb⟩

set_option maxHeartbeats 1000000 in
set_option maxRecDepth 100000 in
theorem specPutObj_any (o : ObjV) (aI : Option Addr) (cI : Nat) (aR : Option Addr) (cR : Nat) (w : World) (hr : ReadsO w aI cI aR cR o) (hnI : o.ints.length ≤ 140737488355328) (hnR : o.refs.length ≤ 140737488355328) :
    Calls Tryz.prog 78 #[.agg #[.int .i64 o.kind, .slice aI o.ints.length cI, .slice aR o.refs.length cR]] w fun e w' => ∃ a' c' ys, e = .returned (.slice a' ys.length c') ∧ Hid (ys = putObjOf o) ∧ OwnB w' w.heap.size a' c' ys ∧ Below w.heap.size w w' := by
  have hok := fun w' (h : ReadsO w' aI cI aR cR o) => specObjOk_any o aI cI aR cR w' h hnI hnR
  have HPT : Hid (okB o = true → putObjOf o = (putOf o.kind ++ putList o.ints) ++ putList o.refs) := fun h => by unfold putObjOf; rw [if_pos h]
  have HPF : Hid (okB o = false → putObjOf o = []) := fun h => by unfold putObjOf; rw [if_neg (by rw [h]; decide)]
  have HLN : Hid (okB o = true → o.ints.length ≤ 5 ∧ o.refs.length ≤ 5) := fun h => by simp [okB] at h; exact ⟨h.2.1, h.2.2.1⟩
  have hcs : okB o = true ∨ okB o = false := by cases okB o <;> simp
  generalize hP : putObjOf o = P at *
  clear hP
  obtain ⟨k, ints, refs⟩ := o
  have hr' := hr
  obtain ⟨hI, hR, _, _⟩ := hr
  simp only at *
  obtain ⟨W, hW, b0, hbW, hsW⟩ := boxes1 w [.int .i64 k, .slice aI ints.length cI, .slice aR refs.length cR] 25
  go_enter Tryz.func78, Tryz.ntmps78
  go_wp2_with fail
  rw [hW.out]
  refine (hok W (hr'.below hbW)).mono ?_
  rintro e w1 ⟨rfl, hb1⟩
  have hbw1 : Below w.heap.size w w1 := hbW.trans (hb1.mono hbW.size)
  have b1 := b0.below hb1 b0.lt
  have x0 := b1.cell 0 _ rfl
  have x1 := b1.cell 1 _ rfl
  have x2 := b1.cell 2 _ rfl
  rcases hcs with hB | hB
  · have HP : Hid (_ = _) := HPT.out hB
    obtain ⟨h5, h6⟩ := HLN.out hB
    rw [hB]
    clear hB hok
    have hL1 := (putOf_len k).2
    have HL2 : Hid (_ ≤ _) := putList_len ints
    have hlt1 := b1.lt
    have hkeep : ∀ w', Below w1.heap.size w1 w' → w'.cell? ⟨w.heap.size, 0, none⟩ = some (.int .i64 k) ∧ w'.cell? ⟨w.heap.size, 1, none⟩ = some (.slice aI ints.length cI) ∧ w'.cell? ⟨w.heap.size, 2, none⟩ = some (.slice aR refs.length cR) :=
      fun w' hh => ⟨(b1.below hh hlt1).cell 0 _ rfl, (b1.below hh hlt1).cell 1 _ rfl, (b1.below hh hlt1).cell 2 _ rfl⟩
    go_wp2_with fail
    go_region_held3 (fun w' => w'.cell? ⟨w.heap.size, 0, none⟩ = some (.int .i64 k) ∧ w'.cell? ⟨w.heap.size, 1, none⟩ = some (.slice aI ints.length cI) ∧ w'.cell? ⟨w.heap.size, 2, none⟩ = some (.slice aR refs.length cR))
      (first | exact hkeep _ ((Below.refl _ _).alloc (Nat.le_refl _) _).drew | exact hkeep _ ((Below.refl _ _).alloc (Nat.le_refl _) _) | exact hkeep _ hw4 | exact hkeep _ hw3 | exact hkeep _ hw2 | go_keep)
      (first
      | (go_at_call 57; refine (specPutInt_any _ 0 [] k _ ⟨by simp, by simp⟩ (fun h => by cases h) (by simp)).mono ?_; rintro e w2 ⟨a2, c2, y2, rfl, hy2, ho2, hb2⟩; have hw2 : Below w1.heap.size w1 w2 := ((Below.refl _ _).alloc (Nat.le_refl _) _).drew.trans (hb2.mono (by simp [World.drew])); have HY2 : Hid (y2 = [] ++ putOf k) := hy2; have hl2 : y2.length ≤ 65 := (by rw [hy2]; simp; omega); clear hy2)
      | (go_at_call_of 107 (Value.slice a2 y2.length c2); refine (l2PutList_any a2 c2 y2 aI cI ints w2 ho2.reads ho2.nocap (hI.below (hbw1.trans (hw2.mono hbw1.size))) (by omega) (by omega)).mono ?_; rintro e w3 ⟨a3, c3, y3, rfl, HY3, ho3, hb3⟩; have hw3 : Below w1.heap.size w1 w3 := hw2.trans (hb3.mono hw2.size); have hl3 : y3.length ≤ 1000 := (by have := HL2.out; rw [HY3.out, List.length_append]; omega))
      | (go_at_call_of 107 (Value.slice a3 y3.length c3); refine (l2PutList_any a3 c3 y3 aR cR refs w3 ho3.reads ho3.nocap (hR.below (hbw1.trans (hw3.mono hbw1.size))) (by omega) (by omega)).mono ?_; rintro e w4 ⟨a4, c4, y4, rfl, HY4, ho4, hb4⟩; have hw4 : Below w1.heap.size w1 w4 := hw3.trans (hb4.mono hw3.size)))
    go_wp2
    go_ret
    exact ⟨a4, c4, y4, rfl, by rw [Hid, HP.out, HY4.out, HY3.out, HY2.out]; simp, ho4.base (Nat.le_trans hbw1.size hw3.size), hbw1.trans (hw4.mono hbw1.size)⟩
  · have HP : Hid (_ = _) := HPF.out hB
    rw [hB]
    clear hB hok
    go_wp2
    go_ret
    exact ⟨_, 0, [], rfl, HP.out.symm, (own_lit0 w1).base hbw1.size, hbw1.alloc hbw1.size _⟩
end Go.Proofs.YtjaojcgfgkppgaaGreatDoor

/- Plain mathematics of reading a number: how many groups say that more come, what they hold. -/
namespace Go.Proofs.YtjaojcgfgkppgaaGreatDoor

/-- How many of the first bytes say that more come. -/
def lead : List Int → Nat
  | [] => 0
  | z :: r => if 128 ≤ z then lead r + 1 else 0
def valOf : List Int → Nat
  | [] => 0
  | z :: r => (z % 128).toNat + 128 * valOf r
def unzig (m : Nat) : Int := if m % 2 = 0 then ((m / 2 : Nat) : Int) else -((m / 2 : Nat) : Int) - 1
/-- The number whose bytes begin a list, and how many they are. -/
def getOf (L : List Int) : Option (Int × Nat) :=
  if lead L < L.length ∧ lead L < 6 ∧ ¬ (0 < lead L ∧ L.getD (lead L) 0 = 0) ∧ valOf (L.take (lead L + 1)) ≤ 2000000000000 then some (unzig (valOf (L.take (lead L + 1))), lead L + 1) else none
def getAt (zs : List Int) (p : Int) : Option (Int × Nat) := if 0 ≤ p then (getOf (zs.drop p.toNat)).map fun r => (r.1, p.toNat + r.2) else none

theorem lead_le (L : List Int) : lead L ≤ L.length := by
  induction L with
  | nil => simp [lead]
  | cons z r ih => unfold lead; split <;> simp <;> omega
theorem lead_ge (k : Nat) : ∀ L : List Int, k ≤ L.length → (∀ i, i < k → 128 ≤ L.getD i 0) → k ≤ lead L := by
  induction k with
  | zero => intro L _ _; omega
  | succ k ih =>
    intro L hl h
    cases L with
    | nil => simp at hl
    | cons z r =>
      have h0 := h 0 (by omega)
      simp at h0
      unfold lead
      rw [if_pos h0]
      have := ih r (by simp at hl; omega) (fun i hi => by have := h (i + 1) (by omega); simpa using this)
      omega
theorem lead_stop (k : Nat) : ∀ L : List Int, k < L.length → L.getD k 0 < 128 → lead L ≤ k := by
  induction k with
  | zero =>
    intro L hl h
    cases L with
    | nil => simp at hl
    | cons z r =>
      simp at h
      unfold lead
      rw [if_neg (by omega)]
      omega
  | succ k ih =>
    intro L hl h
    cases L with
    | nil => simp at hl
    | cons z r =>
      unfold lead
      split
      · have := ih r (by simp at hl; omega) (by simpa using h)
        omega
      · omega
theorem lead_eq (k : Nat) (L : List Int) (hl : k < L.length) (h : ∀ i, i < k → 128 ≤ L.getD i 0) (hs : L.getD k 0 < 128) : lead L = k := by
  have := lead_ge k L (by omega) h
  have := lead_stop k L hl hs
  omega

theorem valOf_snoc (L : List Int) (z : Int) : valOf (L ++ [z]) = valOf L + (z % 128).toNat * 128 ^ L.length := by
  induction L with
  | nil => simp [valOf]
  | cons y r ih =>
    simp only [List.cons_append, valOf, ih, List.length_cons]
    rw [Nat.pow_succ, Nat.mul_add, Nat.add_assoc]
    congr 1
    rw [Nat.mul_left_comm, Nat.mul_comm 128 (128 ^ r.length)]
theorem valOf_take (L : List Int) (k : Nat) (h : k < L.length) : valOf (L.take (k + 1)) = valOf (L.take k) + (L.getD k 0 % 128).toNat * 128 ^ k := by
  rw [List.take_succ_eq_append_getElem h, valOf_snoc]
  simp [List.getD, h]
  rw [Nat.min_eq_left (by omega)]
theorem valOf_lt (L : List Int) : valOf L < 128 ^ L.length := by
  induction L with
  | nil => simp [valOf]
  | cons z r ih =>
    simp only [valOf, List.length_cons, Nat.pow_succ]
    have : (z % 128).toNat < 128 := by omega
    omega
theorem valOf_take_lt (L : List Int) (k : Nat) (h : k ≤ 6) : valOf (L.take k) < 4398046511104 ∧ valOf (L.take k) < 128 ^ k := by
  have h1 := valOf_lt (L.take k)
  have h2 : (L.take k).length ≤ k := List.length_take_le _ _
  have h3 : (128 : Nat) ^ (L.take k).length ≤ 128 ^ k := Nat.pow_le_pow_right (by omega) h2
  have h4 : (128 : Nat) ^ k ≤ 128 ^ 6 := Nat.pow_le_pow_right (by omega) h
  have h5 : (128 : Nat) ^ 6 = 4398046511104 := by decide
  omega

theorem getOf_some (L : List Int) (k : Nat) (hk : lead L = k) (h1 : k < L.length) (h2 : k < 6) (h3 : ¬ (0 < k ∧ L.getD k 0 = 0)) (h4 : valOf (L.take (k + 1)) ≤ 2000000000000) :
    getOf L = some (unzig (valOf (L.take (k + 1))), k + 1) := by
  subst hk; unfold getOf; rw [if_pos ⟨h1, h2, h3, h4⟩]
theorem getOf_none (L : List Int) (h : lead L = L.length ∨ 6 ≤ lead L ∨ (0 < lead L ∧ L.getD (lead L) 0 = 0) ∨ 2000000000000 < valOf (L.take (lead L + 1))) : getOf L = none := by
  unfold getOf
  rw [if_neg]
  rintro ⟨h1, h2, h3, h4⟩
  rcases h with h | h | h | h
  · omega
  · omega
  · exact h3 h
  · omega

theorem unzig_bd (m : Nat) : (-1000000000000 ≤ unzig m ∧ unzig m ≤ 1000000000000) ↔ m ≤ 2000000000000 := by
  unfold unzig; split <;> omega

theorem getAt_bd (zs : List Int) (p n : Int) (k : Nat) (h : getAt zs p = some (n, k)) : k ≤ zs.length ∧ -1000000000000 ≤ n ∧ n ≤ 1000000000000 := by
  unfold getAt at h
  split at h
  · unfold getOf at h
    split at h
    · rename_i h1 h2
      simp only [Option.map_some, Option.some.injEq, Prod.mk.injEq] at h
      obtain ⟨rfl, rfl⟩ := h
      have hb := (unzig_bd _).2 h2.2.2.2
      have hl : (zs.drop p.toNat).length = zs.length - p.toNat := List.length_drop
      refine ⟨?_, hb.1, hb.2⟩
      omega
    · simp at h
  · simp at h

end Go.Proofs.YtjaojcgfgkppgaaGreatDoor

/- Plain mathematics of the sum: one bit, eight bits, a list of bytes; what stays below 2 to the 32. -/
namespace Go.Proofs.YtjaojcgfgkppgaaGreatDoor

def crcBit (x : Nat) : Nat := if x % 2 = 1 then (x / 2) ^^^ 3988292384 else x / 2
def crcBits : Nat → Nat → Nat
  | 0, x => x
  | k + 1, x => crcBit (crcBits k x)
def crcByte (x : Nat) (c : Nat) : Nat := crcBits 8 (x ^^^ c)
def crcTo (zs : List Int) (k : Nat) : Nat := (zs.take k).foldl (fun x c => crcByte x c.toNat) 4294967295
def crcOf (zs : List Int) : Nat := 4294967295 ^^^ crcTo zs zs.length

theorem crcBit_lt (x : Nat) (h : x < 4294967296) : crcBit x < 4294967296 := by
  unfold crcBit
  split
  · exact Nat.xor_lt_two_pow (n := 32) (by omega) (by omega)
  · omega

theorem crcBits_lt (k x : Nat) (h : x < 4294967296) : crcBits k x < 4294967296 := by
  induction k with
  | zero => exact h
  | succ k ih => exact crcBit_lt _ ih

theorem xor_byte_lt (x c : Nat) (h : x < 4294967296) (hc : c < 256) : x ^^^ c < 4294967296 :=
  Nat.xor_lt_two_pow (n := 32) (by omega) (by omega)

theorem crcByte_lt (x c : Nat) (h : x < 4294967296) (hc : c < 256) : crcByte x c < 4294967296 :=
  crcBits_lt 8 _ (xor_byte_lt x c h hc)

theorem crcTo_zero (zs : List Int) : crcTo zs 0 = 4294967295 := by simp [crcTo]

theorem crcTo_succ (zs : List Int) (k : Nat) (h : k < zs.length) : crcTo zs (k + 1) = crcByte (crcTo zs k) (zs.getD k 0).toNat := by
  unfold crcTo
  rw [List.take_succ_eq_append_getElem h, List.foldl_append]
  simp [h]

theorem crcTo_lt (zs : List Int) (hb : ∀ z ∈ zs, 0 ≤ z ∧ z < 256) (k : Nat) : crcTo zs k < 4294967296 := by
  induction k with
  | zero => rw [crcTo_zero]; omega
  | succ k ih =>
    by_cases h : k < zs.length
    · rw [crcTo_succ zs k h]
      have hm : zs.getD k 0 ∈ zs := by simp [List.getD, h]
      have := hb _ hm
      exact crcByte_lt _ _ ih (by omega)
    · have e : crcTo zs (k + 1) = crcTo zs k := by
        unfold crcTo
        rw [List.take_of_length_le (by omega), List.take_of_length_le (by omega)]
      rw [e]; exact ih

/-- xor of two numbers below 2 to the 32, as an int. -/
theorem i64_xor_nat (a b : Nat) (ha : a < 4294967296) (hb : b < 4294967296) : bits .xor .i64 (a : Int) (b : Int) = ((a ^^^ b : Nat) : Int) := by
  have h : a ^^^ b < 4294967296 := Nat.xor_lt_two_pow (n := 32) (by omega) (by omega)
  have ha' : a % 2 ^ IntKind.i64.bits = a := Nat.mod_eq_of_lt (by simp [IntKind.bits]; omega)
  have hb' : b % 2 ^ IntKind.i64.bits = b := Nat.mod_eq_of_lt (by simp [IntKind.bits]; omega)
  simp only [bits, BitVec.ofInt_natCast, BitVec.toNat_xor, BitVec.toNat_ofNat, ha', hb']
  rw [IntKind.wrap_i64]
  omega

theorem i64_and1 (n : Int) : bits .and .i64 n 1 = n % 2 := by
  have h1 : (BitVec.ofInt 64 1).toNat = 2 ^ 1 - 1 := by decide
  have key : (BitVec.ofInt 64 n &&& BitVec.ofInt 64 1).toNat = (n % ((2 ^ 64 : Nat) : Int)).toNat % 2 ^ 1 := by
    rw [BitVec.toNat_and, BitVec.toNat_ofInt, h1, Nat.and_two_pow_sub_one_eq_mod]
  show IntKind.i64.wrap ((BitVec.ofInt 64 n &&& BitVec.ofInt 64 1).toNat : Nat) = n % 2
  rw [key, IntKind.wrap_i64]
  omega

end Go.Proofs.YtjaojcgfgkppgaaGreatDoor
