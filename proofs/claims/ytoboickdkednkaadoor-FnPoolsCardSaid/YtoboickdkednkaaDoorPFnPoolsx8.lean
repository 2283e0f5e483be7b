/- Several texts in one, in their order. -/
import Derived.Test.YtoboickdkednkaaDoorPFnPoolsx2
import Derived.Test.YtoboickdkednkaaDoorPFnPoolsx3
import Derived.Test.YtoboickdkednkaaDoorPFnPoolsx6
import Derived.Deep.RegionHeld3
import Derived.Test.YtoboickdkednkaaDoorPFnPoolsx7
import Derived.Deep.QuietTactic
import Derived.BigQuiet
/- The walks of laws.szIntS and szObj. -/
namespace Go.Proofs.YtoboickdkednkaaDoor
open Go.RowKit

end Go.Proofs.YtoboickdkednkaaDoor

/- The walks of laws.szSlot, szSlotA4, szPage. -/
namespace Go.Proofs.YtoboickdkednkaaDoor
open Go.RowKit

end Go.Proofs.YtoboickdkednkaaDoor

/- The walks of laws.eqSlot, eqSlotA4, eqPage, where both say the same. -/
namespace Go.Proofs.YtoboickdkednkaaDoor
open Go.RowKit

theorem same_at {ss ts : List SlotA} (h : ts.map (·.v) = ss.map (·.v)) (k : Nat) : (ts.getD k zeroS).v = (ss.getD k zeroS).v := by
  have := congrArg (fun l => l[k]?) h
  simp only [List.getElem?_map] at this
  simp only [List.getD]
  cases h1 : ts[k]? <;> cases h2 : ss[k]? <;> simp_all

end Go.Proofs.YtoboickdkednkaaDoor

/- The walks of laws.szLiveS, szRec, eqRec. -/
namespace Go.Proofs.YtoboickdkednkaaDoor
open Go.RowKit

/-- A record whose lists are short. -/
structure RecA.short (r : RecA) (m : Nat) : Prop where
  bf : r.bf.v.o.ints.length ≤ m ∧ r.bf.v.o.refs.length ≤ m
  af : r.af.v.o.ints.length ≤ m ∧ r.af.v.o.refs.length ≤ m
  txs : r.txs.length ≤ m

end Go.Proofs.YtoboickdkednkaaDoor

/- The walks of spec.l2SameInts, spec.l2Same and spec.SameObj. -/
namespace Go.Proofs.YtoboickdkednkaaDoor
open Go.RowKit

theorem ne_at {xs ys : List Int} (j : Nat) (h : xs.getD j 0 ≠ ys.getD j 0) : decide (xs = ys) = false := by
  rw [decide_eq_false_iff_not]
  intro e
  exact h (by rw [e])
theorem ne_len {xs ys : List Int} (h : xs.length ≠ ys.length) : decide (xs = ys) = false := by
  rw [decide_eq_false_iff_not]
  intro e
  exact h (by rw [e])
theorem eq_all {xs ys : List Int} (hl : xs.length = ys.length) (h : ∀ t, t < xs.length → xs.getD t 0 = ys.getD t 0) : decide (xs = ys) = true := by
  rw [decide_eq_true_eq]
  apply List.ext_getElem hl
  intro i h1 h2
  have := h i h1
  simpa [List.getD, h1, h2] using this

set_option maxHeartbeats 400000 in
theorem l2SameInts_any (a b : Option Addr) (ca cb : Nat) (xs ys : List Int) (w : World) (ha : ReadsI w a xs) (hb : ReadsI w b ys) (hl : xs.length ≤ 1099511627776) (hl2 : ys.length ≤ 1099511627776) :
    Calls Tryd.prog 55 #[.slice a xs.length ca, .slice b ys.length cb] w fun e w' => e = .returned (.bool (decide (xs = ys))) ∧ ∃ n, w' = w.drewN n := by
  by_cases hle : xs.length = ys.length
  case neg =>
    have HE : Hid (_ = _) := ne_len hle
    have hle' : ((xs.length : Int) == (ys.length : Int)) = false := by simp; omega
    go_enter Tryd.func55, Tryd.ntmps55
    go_wp2
    go_ret
    exact ⟨ret_bool HE.out.symm, 0, rfl⟩
  case pos =>
  have HL : Hid (xs.length = ys.length) := hle
  have hle' : ((xs.length : Int) == (ys.length : Int)) = true := by simp; omega
  rcases ha.cases with rfl | ⟨b1, o1, rfl, hpos, hc1⟩
  · obtain rfl : ys = [] := List.length_eq_zero_iff.1 (by simpa using hle.symm)
    have HE : Hid (decide (([] : List Int) = []) = true) := by simp [Hid]
    clear hle hle' HL
    go_enter Tryd.func55, Tryd.ntmps55
    go_wp2
    refine wp_loop_rounds 1 ?_
    rw [rounds_succ]
    go_wp2
    go_ret
    exact ⟨ret_bool HE.out.symm, 0, rfl⟩
  · rcases hb.cases with rfl | ⟨b2, o2, rfl, _, hc2⟩
    · simp at hle; simp [hle] at hpos
    · clear hle
      go_enter Tryd.func55, Tryd.ntmps55
      go_wp2
      go_loopw [5] (fun i wr => ∃ k : Nat, k ≤ xs.length ∧ i = .int .i64 k ∧ Hid (∀ t, t < k → xs.getD t 0 = ys.getD t 0) ∧ ∃ n, wr = w.drewN n) (fun i _ => xs.length - (intOf i).toNat)
      case atStart => exact ⟨0, Nat.zero_le _, rfl, fun t ht => by omega, 0, rfl⟩
      case round =>
        obtain ⟨k, hk, rfl, hall, n, rfl⟩ := hrel
        by_cases hlt : k < xs.length
        · have h1 := hc1 k hlt
          have h2 := hc2 k (by have := HL.out; omega)
          have hlt2 : (k : Int) < (ys.length : Int) := by have := HL.out; omega
          clear hc1 hc2
          by_cases hz : xs.getD k 0 = ys.getD k 0
          · have HN : Hid (∀ t, t < k + 1 → xs.getD t 0 = ys.getD t 0) := by
              intro t ht
              by_cases e : t = k
              · rw [e]; exact hz
              · exact hall.out t (by omega)
            rw [← hz] at h2
            clear hz
            generalize xs.getD k 0 = z at *
            go_wp2
            go_quiet (fail)
            go_wp2
            go_roundw
            case rel => exact ⟨k + 1, by omega, by go_num, HN, _, rfl⟩
            case measure => simp [intOf]; omega
          · have HE : Hid (_ = _) := ne_at k hz
            have hzb : (xs.getD k 0 == ys.getD k 0) = false := by simpa using hz
            clear hz
            generalize xs.getD k 0 = z at *
            generalize ys.getD k 0 = y at *
            go_wp2
            go_quiet (fail)
            go_wp2
            go_ret
            exact ⟨ret_bool HE.out.symm, n + nq, by first | rfl | simp⟩
        · have HE : Hid (_ = _) := eq_all HL.out (fun t ht => hall.out t (by omega))
          go_wp2
          go_ret
          exact ⟨ret_bool HE.out.symm, n, rfl⟩

def sameO (a b : ObjV) : Bool := decide (a.kind = b.kind) && (decide (a.ints = b.ints) && decide (a.refs = b.refs))

set_option maxHeartbeats 1000000 in
set_option maxRecDepth 100000 in
theorem specSameObj_any (o p : ObjV) (aI : Option Addr) (cI : Nat) (aR : Option Addr) (cR : Nat) (bI : Option Addr) (dI : Nat) (bR : Option Addr) (dR : Nat) (w : World) (ha : ReadsO w aI cI aR cR o) (hb : ReadsO w bI dI bR dR p) (h1 : o.ints.length ≤ 1099511627776) (h2 : o.refs.length ≤ 1099511627776) (h3 : p.ints.length ≤ 1099511627776) (h4 : p.refs.length ≤ 1099511627776) :
    Calls Tryd.prog 46 #[.agg #[.int .i64 o.kind, .slice aI o.ints.length cI, .slice aR o.refs.length cR], .agg #[.int .i64 p.kind, .slice bI p.ints.length dI, .slice bR p.refs.length dR]] w fun e w' => e = .returned (.bool (sameO o p)) ∧ Below w.heap.size w w' := by
  obtain ⟨k, ints, refs⟩ := o
  obtain ⟨k', ints', refs'⟩ := p
  obtain ⟨haI, haR, _, _⟩ := ha
  obtain ⟨hbI, hbR, _, _⟩ := hb
  simp only at *
  obtain ⟨W, hW, b0, b1, hbW, hsW⟩ := boxes2 w [.int .i64 k, .slice aI ints.length cI, .slice aR refs.length cR] [.int .i64 k', .slice bI ints'.length dI, .slice bR refs'.length dR] 29 29
  by_cases hk : k = k'
  case neg =>
    have HE : Hid (sameO ⟨k, ints, refs⟩ ⟨k', ints', refs'⟩ = false) := by simp [Hid, sameO, hk]
    have hkb : (k == k') = false := by simpa using hk
    clear hk
    go_enter Tryd.func46, Tryd.ntmps46
    go_wp2
    go_ret
    exact ⟨ret_bool HE.out.symm, by rw [hW.out]; exact hbW⟩
  case pos =>
  subst hk
  have HE : Hid (sameO ⟨k, ints, refs⟩ ⟨k, ints', refs'⟩ = (decide (ints = ints') && decide (refs = refs'))) := by simp [Hid, sameO]
  go_enter Tryd.func46, Tryd.ntmps46
  go_wp2_with fail
  rw [hW.out]
  refine (l2SameInts_any aI bI cI dI ints ints' W (haI.below hbW) (hbI.below hbW) h1 h3).mono ?_
  rintro e w1 ⟨rfl, n1, rfl⟩
  have c0 := (b0.drewN n1).cell 2 _ rfl
  have c1 := (b1.drewN n1).cell 2 _ rfl
  have hb1 : Below w.heap.size w (W.drewN n1) := below_drewN hbW n1
  cases hd : decide (ints = ints') with
  | false =>
    rw [hd] at HE
    clear hd
    go_wp2
    go_ret
    exact ⟨ret_bool (by rw [HE.out]; rfl), hb1⟩
  | true =>
    rw [hd] at HE
    clear hd
    go_wp2_with fail
    refine (l2SameInts_any aR bR cR dR refs refs' (W.drewN n1) (haR.below hb1) (hbR.below hb1) h2 h4).mono ?_
    rintro e w2 ⟨rfl, n2, rfl⟩
    generalize decide (refs = refs') = D at *
    go_wp2
    go_ret
    exact ⟨ret_bool (by rw [HE.out]; rfl), below_drewN hbW (n1 + n2)⟩
end Go.Proofs.YtoboickdkednkaaDoor

/- The walks of spec.l3SameSlot (with no slot) and spec.l4Zero. -/
namespace Go.Proofs.YtoboickdkednkaaDoor
open Go.RowKit

end Go.Proofs.YtoboickdkednkaaDoor

/- The walk of spec.l4Lives. -/
namespace Go.Proofs.YtoboickdkednkaaDoor
open Go.RowKit

end Go.Proofs.YtoboickdkednkaaDoor

/- The walks of spec.l3Slot and spec.PageOk. -/
namespace Go.Proofs.YtoboickdkednkaaDoor
open Go.RowKit

theorem slotB_of (o : ObjV) (a b c : Bool) (h1 : decide (o.kind = 0) = a) (h2 : decide (o.ints.length = 0) = b) (h3 : decide (o.refs.length = 0) = c) : slotB ⟨false, o⟩ = (a && (b && c)) := by
  rw [← h1, ← h2, ← h3]; rfl

set_option maxHeartbeats 400000 in
set_option maxRecDepth 100000 in
theorem l3Slot_any (s : SlotA) (w : World) (hr : s.reads w) (hl : Fit [s]) :
    Calls Tryd.prog 44 #[.agg s.cells.toArray] w fun e w' => e = .returned (.bool (slotB s.v)) ∧ Below w.heap.size w w' := by
  obtain ⟨h1, h2⟩ := hl s (List.mem_singleton.2 rfl)
  obtain ⟨W, hW, b0, hbW, hsW⟩ := boxes1 w s.cells 31
  have hr' : s.reads W := ReadsO.below hr hbW
  obtain ⟨⟨h, o⟩, aI, cI, aR, cR⟩ := s
  simp only [SlotA.cells, SlotA.reads] at *
  cases h with
  | true =>
    have C1 := specObjOk_any o aI cI aR cR W hr' (by omega) (by omega)
    have HE : Hid (slotB ⟨true, o⟩ = okB o) := slotB_has rfl
    generalize slotB ⟨true, o⟩ = R at *
    go_enter Tryd.func44, Tryd.ntmps44
    go_wp2_with fail
    rw [hW.out]
    refine C1.mono ?_
    rintro e w1 ⟨rfl, hb1⟩
    go_wp2
    go_ret
    exact ⟨ret_bool HE.out.symm, hbW.trans (hb1.mono hbW.size)⟩
  | false =>
    have HE := slotB_of o
    generalize slotB ⟨false, o⟩ = R at *
    obtain ⟨k, ints, refs⟩ := o
    obtain ⟨x0, x1, x2, x3, _⟩ := b0.four
    simp only at *
    by_cases hk : k = 0
    case neg =>
      have HR : Hid (R = false) := HE false _ _ (decide_eq_false hk) rfl rfl
      have hkb : (k == 0) = false := by simpa using hk
      clear HE hk
      go_enter Tryd.func44, Tryd.ntmps44
      go_wp2
      go_ret
      exact ⟨ret_bool HR.out.symm, by rw [hW.out]; exact hbW⟩
    case pos =>
    subst hk
    by_cases hi : ints.length = 0
    case neg =>
      have HR : Hid (R = false) := HE true false _ (decide_eq_true rfl) (decide_eq_false hi) rfl
      have hib : ((ints.length : Int) == 0) = false := by simp; exact fun e => hi (by rw [e]; rfl)
      clear HE hi
      go_enter Tryd.func44, Tryd.ntmps44
      go_wp2
      go_ret
      exact ⟨ret_bool HR.out.symm, by rw [hW.out]; exact hbW⟩
    case pos =>
    by_cases hj : refs.length = 0
    case neg =>
      have HR : Hid (R = false) := HE true true false (decide_eq_true rfl) (decide_eq_true hi) (decide_eq_false hj)
      have hib : ((ints.length : Int) == 0) = true := by simp; exact List.length_eq_zero_iff.1 hi
      have hjb : ((refs.length : Int) == 0) = false := by simp; exact fun e => hj (by rw [e]; rfl)
      clear HE hi hj
      go_enter Tryd.func44, Tryd.ntmps44
      go_wp2
      go_ret
      exact ⟨ret_bool HR.out.symm, by rw [hW.out]; exact hbW⟩
    case pos =>
      have HR : Hid (R = true) := HE true true true (decide_eq_true rfl) (decide_eq_true hi) (decide_eq_true hj)
      have hib : ((ints.length : Int) == 0) = true := by simp; exact List.length_eq_zero_iff.1 hi
      have hjb : ((refs.length : Int) == 0) = true := by simp; exact List.length_eq_zero_iff.1 hj
      clear HE hi hj
      go_enter Tryd.func44, Tryd.ntmps44
      go_wp2
      go_ret
      exact ⟨ret_bool HR.out.symm, by rw [hW.out]; exact hbW⟩

theorem okP_no {n : Int} {ss : List SlotA} (k : Nat) (hk : k < ss.length) (h : slotB (ss.getD k zeroS).v = false) : okP n (ss.map (·.v)) = false := by
  have : (ss.map (·.v)).all slotB = false := by
    rw [List.all_eq_false]
    exact ⟨(ss.getD k zeroS).v, List.mem_map.2 ⟨_, getD_mem hk, rfl⟩, by rw [h]; decide⟩
  simp [okP, this]
theorem okP_all {n : Int} {ss : List SlotA} (h : ∀ j, j < ss.length → slotB (ss.getD j zeroS).v = true) : okP n (ss.map (·.v)) = inB n 0 1000000 := by
  have : (ss.map (·.v)).all slotB = true := by
    rw [List.all_eq_true]
    intro v hv
    obtain ⟨s, hs, rfl⟩ := List.mem_map.1 hv
    obtain ⟨j, hj, rfl⟩ := List.getElem_of_mem hs
    have := h j hj
    simpa [List.getD, hj] using this
  simp [okP, this]

set_option maxHeartbeats 1000000 in
set_option maxRecDepth 100000 in
theorem specPageOk_any (p : PageA) (h4 : p.ss.length = 4) (w : World) (hr : ReadsS w p.ss) (hl : Fit p.ss) :
    Calls Tryd.prog 29 #[.agg p.cells.toArray] w fun e w' => e = .returned (.bool (okP p.lsn (p.ss.map (·.v)))) ∧ Below w.heap.size w w' := by
  obtain ⟨n, ss⟩ := p
  simp only [PageA.cells] at *
  obtain ⟨W, hW, b0, hbW, hsW⟩ := boxes1 w (.int .i64 n :: cellsS ss) 34
  have H4 : Hid (ss.length = 4) := h4
  have HNO : Hid (∀ k, k < ss.length → slotB (ss.getD k zeroS).v = false → okP n (ss.map (·.v)) = false) := fun k hk h => okP_no k hk h
  have HAL : Hid ((∀ j, j < ss.length → slotB (ss.getD j zeroS).v = true) → okP n (ss.map (·.v)) = inB n 0 1000000) := fun h => okP_all h
  generalize okP n (ss.map (·.v)) = R at *
  clear hsW h4
  go_enter Tryd.func29, Tryd.ntmps29
  go_wp2_with fail
  rw [hW.out]
  clear hW
  go_loopw [3] (fun i wr => ∃ (k : Nat), i = .int .i64 k ∧ k ≤ 4 ∧ Hid (∀ j, j < k → slotB (ss.getD j zeroS).v = true) ∧ Below W.heap.size W wr)
    (fun i _ => 4 - (intOf i).toNat)
  case atStart => exact ⟨0, rfl, by omega, fun j hj => by omega, Below.refl _ _⟩
  case round =>
    obtain ⟨k, rfl, hk, hall, hbl⟩ := hrel
    have b0r := b0.below hbl b0.lt
    have hbT : Below w.heap.size w wr := hbW.trans (hbl.mono hbW.size)
    by_cases hlt : k < 4
    · have hkl : k < ss.length := by rw [H4.out]; exact hlt
      obtain ⟨c0, c1, c2, c3, _⟩ := b0r.pslot k hkl
      have hi0 : (0 : Int) ≤ (k : Int) := by omega
      have hi4 : (k : Int) < 4 := by omega
      have hrk := (hr _ (getD_mem hkl)).below hbT
      have hlk : Fit [ss.getD k zeroS] := fun s hs => by obtain rfl := List.mem_singleton.1 hs; exact hl _ (getD_mem hkl)
      have C := l3Slot_any (ss.getD k zeroS) wr hrk hlk
      simp only [SlotA.cells] at C
      cases hz : slotB (ss.getD k zeroS).v with
      | false =>
        have HR : Hid (R = false) := HNO.out k hkl hz
        rw [hz] at C
        clear hz
        generalize ss.getD k zeroS = s at *
        go_wp2_with fail
        refine C.mono ?_
        rintro e w1 ⟨rfl, hb1⟩
        go_wp2
        go_ret
        exact ⟨ret_bool HR.out.symm, hbT.trans (hb1.mono hbT.size)⟩
      | true =>
        have HN : Hid (∀ j, j < k + 1 → slotB (ss.getD j zeroS).v = true) := by
          intro j hj
          by_cases e : j = k
          · rw [e]; exact hz
          · exact hall.out j (by omega)
        rw [hz] at C
        clear hz hrk hlk
        generalize hs : ss.getD k zeroS = s at *
        clear hs
        go_wp2_with fail
        refine C.mono ?_
        rintro e w1 ⟨rfl, hb1⟩
        clear C
        go_wp2_with fail
        go_roundw
        case rel => exact ⟨k + 1, by go_num, by omega, HN, hbl.trans (hb1.mono hbl.size)⟩
        case measure => simp [intOf]; omega
    · have hkk : ¬ (k : Int) < 4 := by omega
      have HR : Hid (R = inB n 0 1000000) := HAL.out (fun j hj => hall.out j (by rw [H4.out] at hj; omega))
      have c0 := b0r.cell 0 _ rfl
      go_wp2_with fail
      refine (l1In_any _ _ _ _).mono ?_
      rintro e w' ⟨rfl, rfl⟩
      go_wp2
      go_ret
      exact ⟨ret_bool HR.out.symm, hbT⟩
end Go.Proofs.YtoboickdkednkaaDoor

/- The walk of spec.RecOk. -/
namespace Go.Proofs.YtoboickdkednkaaDoor
open Go.RowKit

end Go.Proofs.YtoboickdkednkaaDoor
