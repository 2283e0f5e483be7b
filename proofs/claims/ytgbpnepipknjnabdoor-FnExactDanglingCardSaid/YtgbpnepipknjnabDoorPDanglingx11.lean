/- Several texts in one, in their order. -/
import Derived.Test.YtgbpnepipknjnabDoorPDanglingx2
import Derived.Deep.QuietTactic
import Derived.BigQuiet
import Derived.Test.YtgbpnepipknjnabDoorPDanglingx5
import Derived.Test.YtgbpnepipknjnabDoorPDanglingx10
import Derived.Test.YtgbpnepipknjnabDoorPDanglingx6
import Derived.Deep.Cut
import Derived.Deep.RegionHeld3
/- The walks of spec.l2SameInts, spec.l2Same and spec.SameObj. -/
namespace Go.Proofs.YtgbpnepipknjnabDoor
open Go.RowKit

theorem ne_at {xs ys : List Int} (j : Nat) (h : xs.getD j 0 ≠ ys.getD j 0) : decide (xs = ys) = false := by
  rw [decide_eq_false_iff_not]
  intro e
  exact h (by rw [e])
theorem ne_len {xs ys : List Int} (h : xs.length ≠ ys.length) : decide (xs = ys) = false := by
  rw [decide_eq_false_iff_not]
  intro e
  exact h (by rw [e])
theorem eq_all {xs ys : List Int} (hl : xs.length = ys.length) (h : ∀ t, t < xs.length → xs.getD t 0 = ys.getD t 0) : decide (xs = ys) = true := by
  rw [decide_eq_true_eq]
  apply List.ext_getElem hl
  intro i h1 h2
  have := h i h1
  simpa [List.getD, h1, h2] using this

def sameO (a b : ObjV) : Bool := decide (a.kind = b.kind) && (decide (a.ints = b.ints) && decide (a.refs = b.refs))

end Go.Proofs.YtgbpnepipknjnabDoor

/- The walk of impl.SameObj. -/
namespace Go.Proofs.YtgbpnepipknjnabDoor
open Go.RowKit

set_option maxHeartbeats 400000 in
theorem equalInts_any (a b : Option Addr) (ca cb : Nat) (xs ys : List Int) (w : World) (ha : ReadsI w a xs) (hb : ReadsI w b ys) (hl : xs.length ≤ 1099511627776) (hl2 : ys.length ≤ 1099511627776) :
    Calls Tryd.prog 35 #[.slice a xs.length ca, .slice b ys.length cb] w fun e w' => e = .returned (.bool (decide (xs = ys))) ∧ ∃ n, w' = w.drewN n := by
  by_cases hle : xs.length = ys.length
  case neg =>
    have HE : Hid (_ = _) := ne_len hle
    have hle' : ((xs.length : Int) == (ys.length : Int)) = false := by simp; omega
    go_enter Tryd.func35, Tryd.ntmps35
    go_wp2
    go_ret
    exact ⟨ret_bool HE.out.symm, 0, rfl⟩
  case pos =>
  have HL : Hid (xs.length = ys.length) := hle
  have hle' : ((xs.length : Int) == (ys.length : Int)) = true := by simp; omega
  rcases ha.cases with rfl | ⟨b1, o1, rfl, hpos, hc1⟩
  · obtain rfl : ys = [] := List.length_eq_zero_iff.1 (by simpa using hle.symm)
    have HE : Hid (decide (([] : List Int) = []) = true) := by simp [Hid]
    clear hle hle' HL
    go_enter Tryd.func35, Tryd.ntmps35
    go_wp2
    refine wp_loop_rounds 1 ?_
    rw [rounds_succ]
    go_wp2
    go_ret
    exact ⟨ret_bool HE.out.symm, 0, rfl⟩
  · rcases hb.cases with rfl | ⟨b2, o2, rfl, _, hc2⟩
    · simp at hle; simp [hle] at hpos
    · clear hle
      go_enter Tryd.func35, Tryd.ntmps35
      go_wp2
      go_loopw [13] (fun i wr => ∃ k : Nat, k ≤ xs.length ∧ i = .int .i64 k ∧ Hid (∀ t, t < k → xs.getD t 0 = ys.getD t 0) ∧ ∃ n, wr = w.drewN n) (fun i _ => xs.length - (intOf i).toNat)
      case atStart => exact ⟨0, Nat.zero_le _, rfl, fun t ht => by omega, 0, rfl⟩
      case round =>
        obtain ⟨k, hk, rfl, hall, n, rfl⟩ := hrel
        by_cases hlt : k < xs.length
        · have h1 := hc1 k hlt
          have h2 := hc2 k (by have := HL.out; omega)
          have hlt2 : (k : Int) < (ys.length : Int) := by have := HL.out; omega
          clear hc1 hc2
          by_cases hz : xs.getD k 0 = ys.getD k 0
          · have HN : Hid (∀ t, t < k + 1 → xs.getD t 0 = ys.getD t 0) := by
              intro t ht
              by_cases e : t = k
              · rw [e]; exact hz
              · exact hall.out t (by omega)
            rw [← hz] at h2
            clear hz
            generalize xs.getD k 0 = z at *
            go_wp2
            go_quiet (fail)
            go_wp2
            go_roundw
            case rel => exact ⟨k + 1, by omega, by go_num, HN, _, rfl⟩
            case measure => simp [intOf]; omega
          · have HE : Hid (_ = _) := ne_at k hz
            have hzb : (xs.getD k 0 == ys.getD k 0) = false := by simpa using hz
            clear hz
            generalize xs.getD k 0 = z at *
            generalize ys.getD k 0 = y at *
            go_wp2
            go_quiet (fail)
            go_wp2
            go_ret
            exact ⟨ret_bool HE.out.symm, n + nq, by first | rfl | simp⟩
        · have HE : Hid (_ = _) := eq_all HL.out (fun t ht => hall.out t (by omega))
          go_wp2
          go_ret
          exact ⟨ret_bool HE.out.symm, n, rfl⟩

set_option maxHeartbeats 1000000 in
set_option maxRecDepth 100000 in
theorem implSameObj_any (o p : ObjV) (aI : Option Addr) (cI : Nat) (aR : Option Addr) (cR : Nat) (bI : Option Addr) (dI : Nat) (bR : Option Addr) (dR : Nat) (w : World) (ha : ReadsO w aI cI aR cR o) (hb : ReadsO w bI dI bR dR p) (h1 : o.ints.length ≤ 1099511627776) (h2 : o.refs.length ≤ 1099511627776) (h3 : p.ints.length ≤ 1099511627776) (h4 : p.refs.length ≤ 1099511627776) :
    Calls Tryd.prog 32 #[.agg #[.int .i64 o.kind, .slice aI o.ints.length cI, .slice aR o.refs.length cR], .agg #[.int .i64 p.kind, .slice bI p.ints.length dI, .slice bR p.refs.length dR]] w fun e w' => e = .returned (.bool (sameO o p)) ∧ Below w.heap.size w w' := by
  obtain ⟨k, ints, refs⟩ := o
  obtain ⟨k', ints', refs'⟩ := p
  obtain ⟨haI, haR, _, _⟩ := ha
  obtain ⟨hbI, hbR, _, _⟩ := hb
  simp only at *
  obtain ⟨W, hW, b0, b1, hbW, hsW⟩ := boxes2 w [.int .i64 k, .slice aI ints.length cI, .slice aR refs.length cR] [.int .i64 k', .slice bI ints'.length dI, .slice bR refs'.length dR] 40 40
  by_cases hk : k = k'
  case neg =>
    have HE : Hid (sameO ⟨k, ints, refs⟩ ⟨k', ints', refs'⟩ = false) := by simp [Hid, sameO, hk]
    have hkb : (k == k') = false := by simpa using hk
    clear hk
    go_enter Tryd.func32, Tryd.ntmps32
    go_wp2
    go_ret
    exact ⟨ret_bool HE.out.symm, by rw [hW.out]; exact hbW⟩
  case pos =>
  subst hk
  have HE : Hid (sameO ⟨k, ints, refs⟩ ⟨k, ints', refs'⟩ = (decide (ints = ints') && decide (refs = refs'))) := by simp [Hid, sameO]
  go_enter Tryd.func32, Tryd.ntmps32
  go_wp2_with fail
  rw [hW.out]
  refine (equalInts_any aI bI cI dI ints ints' W (haI.below hbW) (hbI.below hbW) h1 h3).mono ?_
  rintro e w1 ⟨rfl, n1, rfl⟩
  have c0 := (b0.drewN n1).cell 2 _ rfl
  have c1 := (b1.drewN n1).cell 2 _ rfl
  have hb1 : Below w.heap.size w (W.drewN n1) := below_drewN hbW n1
  cases hd : decide (ints = ints') with
  | false =>
    rw [hd] at HE
    clear hd
    go_wp2
    go_ret
    exact ⟨ret_bool (by rw [HE.out]; rfl), hb1⟩
  | true =>
    rw [hd] at HE
    clear hd
    go_wp2_with fail
    refine (equalInts_any aR bR cR dR refs refs' (W.drewN n1) (haR.below hb1) (hbR.below hb1) h2 h4).mono ?_
    rintro e w2 ⟨rfl, n2, rfl⟩
    generalize decide (refs = refs') = D at *
    go_wp2
    go_ret
    exact ⟨ret_bool (by rw [HE.out]; rfl), below_drewN hbW (n1 + n2)⟩
end Go.Proofs.YtgbpnepipknjnabDoor

/- The walk of spec.FreeSlot. -/
namespace Go.Proofs.YtgbpnepipknjnabDoor
open Go.RowKit

end Go.Proofs.YtgbpnepipknjnabDoor

/- The walks of spec.l3Slot and spec.PageOk. -/
namespace Go.Proofs.YtgbpnepipknjnabDoor
open Go.RowKit

theorem slotB_of (o : ObjV) (a b c : Bool) (h1 : decide (o.kind = 0) = a) (h2 : decide (o.ints.length = 0) = b) (h3 : decide (o.refs.length = 0) = c) : slotB ⟨false, o⟩ = (a && (b && c)) := by
  rw [← h1, ← h2, ← h3]; rfl

set_option maxHeartbeats 400000 in
set_option maxRecDepth 100000 in
theorem l3Slot_any (s : SlotA) (w : World) (hr : s.reads w) (hl : Fit [s]) :
    Calls Tryd.prog 21 #[.agg s.cells.toArray] w fun e w' => e = .returned (.bool (slotB s.v)) ∧ Below w.heap.size w w' := by
  obtain ⟨h1, h2⟩ := hl s (List.mem_singleton.2 rfl)
  obtain ⟨W, hW, b0, hbW, hsW⟩ := boxes1 w s.cells 42
  have hr' : s.reads W := ReadsO.below hr hbW
  obtain ⟨⟨h, o⟩, aI, cI, aR, cR⟩ := s
  simp only [SlotA.cells, SlotA.reads] at *
  cases h with
  | true =>
    have C1 := specObjOk_any o aI cI aR cR W hr' (by omega) (by omega)
    have HE : Hid (slotB ⟨true, o⟩ = okB o) := slotB_has rfl
    generalize slotB ⟨true, o⟩ = R at *
    go_enter Tryd.func21, Tryd.ntmps21
    go_wp2_with fail
    rw [hW.out]
    refine C1.mono ?_
    rintro e w1 ⟨rfl, hb1⟩
    go_wp2
    go_ret
    exact ⟨ret_bool HE.out.symm, hbW.trans (hb1.mono hbW.size)⟩
  | false =>
    have HE := slotB_of o
    generalize slotB ⟨false, o⟩ = R at *
    obtain ⟨k, ints, refs⟩ := o
    obtain ⟨x0, x1, x2, x3, _⟩ := b0.four
    simp only at *
    by_cases hk : k = 0
    case neg =>
      have HR : Hid (R = false) := HE false _ _ (decide_eq_false hk) rfl rfl
      have hkb : (k == 0) = false := by simpa using hk
      clear HE hk
      go_enter Tryd.func21, Tryd.ntmps21
      go_wp2
      go_ret
      exact ⟨ret_bool HR.out.symm, by rw [hW.out]; exact hbW⟩
    case pos =>
    subst hk
    by_cases hi : ints.length = 0
    case neg =>
      have HR : Hid (R = false) := HE true false _ (decide_eq_true rfl) (decide_eq_false hi) rfl
      have hib : ((ints.length : Int) == 0) = false := by simp; exact fun e => hi (by rw [e]; rfl)
      clear HE hi
      go_enter Tryd.func21, Tryd.ntmps21
      go_wp2
      go_ret
      exact ⟨ret_bool HR.out.symm, by rw [hW.out]; exact hbW⟩
    case pos =>
    by_cases hj : refs.length = 0
    case neg =>
      have HR : Hid (R = false) := HE true true false (decide_eq_true rfl) (decide_eq_true hi) (decide_eq_false hj)
      have hib : ((ints.length : Int) == 0) = true := by simp; exact List.length_eq_zero_iff.1 hi
      have hjb : ((refs.length : Int) == 0) = false := by simp; exact fun e => hj (by rw [e]; rfl)
      clear HE hi hj
      go_enter Tryd.func21, Tryd.ntmps21
      go_wp2
      go_ret
      exact ⟨ret_bool HR.out.symm, by rw [hW.out]; exact hbW⟩
    case pos =>
      have HR : Hid (R = true) := HE true true true (decide_eq_true rfl) (decide_eq_true hi) (decide_eq_true hj)
      have hib : ((ints.length : Int) == 0) = true := by simp; exact List.length_eq_zero_iff.1 hi
      have hjb : ((refs.length : Int) == 0) = true := by simp; exact List.length_eq_zero_iff.1 hj
      clear HE hi hj
      go_enter Tryd.func21, Tryd.ntmps21
      go_wp2
      go_ret
      exact ⟨ret_bool HR.out.symm, by rw [hW.out]; exact hbW⟩

end Go.Proofs.YtgbpnepipknjnabDoor

/- The walk of spec.ViewOk. -/
namespace Go.Proofs.YtgbpnepipknjnabDoor
open Go.RowKit

set_option maxHeartbeats 1000000 in
set_option maxRecDepth 100000 in
theorem specViewOk_any (a : Option Addr) (c : Nat) (ss : List SlotA) (w : World) (hr : ReadsVw w a ss) (hf : Fit ss) :
    Calls Tryd.prog 14 #[.slice a ss.length c] w fun e w' => e = .returned (.bool (viewB (vsOf ss))) ∧ Below w.heap.size w w' := by
  by_cases h32 : ss.length = 32
  · have HV : Hid (viewB (vsOf ss) = (!(ss.getD 0 zeroS).v.has && (vsOf ss).all slotB)) := by
      rw [Hid, viewB_zero (by rw [vsOf_len]; exact h32), vsOf_at]
    obtain ⟨b, off, rfl, hc⟩ := hr (by intro e; rw [e] at h32; simp at h32)
    have hra := (hc 0 (by omega)).1
    rw [Nat.zero_mul, Nat.add_zero] at hra
    have HC : Hid (∀ u, Below w.heap.size w u → ∀ k, k < 32 → u.rangeAt b (off + k * 4) (ss.getD k zeroS).cells ∧ (ss.getD k zeroS).reads u ∧ Fit [ss.getD k zeroS]) := fun u hu k hk => by
      rw [← h32] at hk
      obtain ⟨h1, h2⟩ := hc k hk
      exact ⟨range_belowV h1 hu, ReadsO.below h2 hu, hf.one hk⟩
    have HL := vsOf_len ss
    have HHIT : Hid (∀ k, k < 32 → slotB (ss.getD k zeroS).v = false → (vsOf ss).all slotB = false) := fun k hk h => all_hit (z := noS) (k := k) (by omega) (by rw [vsOf_at]; exact h)
    have HSTEP : Hid (∀ k, k < 32 → ((vsOf ss).take k).all slotB = true → slotB (ss.getD k zeroS).v = true → ((vsOf ss).take (k + 1)).all slotB = true) := fun k hk h h1 => all_step (z := noS) (by omega) h (by rw [vsOf_at]; exact h1)
    have HEND : Hid (∀ k, ¬ k < 32 → ((vsOf ss).take k).all slotB = true → (vsOf ss).all slotB = true) := fun k hk h => all_end (by omega) h
    generalize viewB (vsOf ss) = R at *
    generalize (vsOf ss).all slotB = B at *
    generalize vsOf ss = L at *
    have c0 : w.cell? ⟨b, off, none⟩ = some (.bool (ss.getD 0 zeroS).v.has) := hra 0 _ rfl
    rw [h32]
    clear hc hra h32 hf hr HL
    generalize (ss.getD 0 zeroS).v.has = zb at *
    cases zb with
    | true =>
      have HR : Hid (R = false) := HV.out
      clear HV HC HHIT HSTEP HEND
      go_enter Tryd.func14, Tryd.ntmps14
      go_wp2
      go_ret
      exact ⟨ret_bool HR.out.symm, Below.refl _ _⟩
    | false =>
      have HR : Hid (R = B) := HV.out
      clear HV
      go_enter Tryd.func14, Tryd.ntmps14
      go_wp2
      clear c0
      go_loopw [3] (fun i wr => ∃ k : Nat, k ≤ 32 ∧ i = .int .i64 k ∧ Hid ((L.take k).all slotB = true) ∧ Below w.heap.size w wr) (fun i _ => 32 - (intOf i).toNat)
      case atStart => exact ⟨0, by omega, rfl, (show (L.take 0).all slotB = true by simp), Below.refl _ _⟩
      case round =>
        obtain ⟨k, hk, rfl, hall, hbl⟩ := hrel
        by_cases hlt : k < 32
        · obtain ⟨hra, hrz, hfz⟩ := HC.out wr hbl k hlt
          have HH1 : Hid (slotB (ss.getD k zeroS).v = false → B = false) := fun h => HHIT.out k hlt h
          have HH2 : Hid (slotB (ss.getD k zeroS).v = true → (L.take (k + 1)).all slotB = true) := fun h => HSTEP.out k hlt hall.out h
          clear HC HHIT HSTEP HEND hall
          generalize ss.getD k zeroS = z at *
          have C := l3Slot_any z wr hrz hfz
          simp only [SlotA.cells] at hra C
          have c0 := hra 0 _ rfl
          have c1 := hra 1 _ rfl
          have c2 := hra 2 _ rfl
          have c3 := hra 3 _ rfl
          rw [Nat.add_zero] at c0
          generalize slotB z.v = zb at *
          clear hra hrz hfz
          cases zb with
          | false =>
            have HF : Hid (R = false) := HR.out.trans (HH1.out rfl)
            clear HH1 HH2 HR
            go_wp2_with fail
            refine C.mono ?_
            rintro e w1 ⟨rfl, hb1⟩
            go_wp2
            go_ret
            exact ⟨ret_bool HF.out.symm, hbl.trans (hb1.mono hbl.size)⟩
          | true =>
            have HN : Hid ((L.take (k + 1)).all slotB = true) := HH2.out rfl
            clear HH1 HH2
            go_wp2_with fail
            refine C.mono ?_
            rintro e w1 ⟨rfl, hb1⟩
            have hB1 : Below w.heap.size w w1 := hbl.trans (hb1.mono hbl.size)
            clear C hb1 hbl c0 c1 c2 c3
            go_wp2_with fail
            go_roundw
            case rel => exact ⟨k + 1, by omega, by go_num, HN, hB1⟩
            case measure => simp [intOf]; omega
        · have HT : Hid (R = true) := HR.out.trans (HEND.out k hlt hall.out)
          obtain rfl : k = 32 := by omega
          clear HC HHIT HSTEP HEND hall HR
          go_wp2
          go_ret
          exact ⟨ret_bool HT.out.symm, hbl⟩
  · have HR : Hid (viewB (vsOf ss) = false) := viewB_len (by rw [vsOf_len]; exact h32)
    have hne : ((ss.length : Int) == 32) = false := by rw [beq_eq_false_iff_ne]; omega
    generalize viewB (vsOf ss) = R at *
    clear hf hr
    go_enter Tryd.func14, Tryd.ntmps14
    go_wp2
    go_ret
    exact ⟨ret_bool HR.out.symm, Below.refl _ _⟩
end Go.Proofs.YtgbpnepipknjnabDoor

/- The walks of laws.eqIntA2S, markIntA2S, heldIntA2S. -/
namespace Go.Proofs.YtgbpnepipknjnabDoor
open Go.RowKit

set_option maxHeartbeats 1000000 in
set_option maxRecDepth 100000 in
theorem eqIntA2_same (l : PairV) (w : World) :
    Calls Tryd.prog 17 #[.agg l.cells.toArray, .agg l.cells.toArray] w fun e w' => e = .returned (.bool true) ∧ Below w.heap.size w w' := by
  obtain ⟨x, y⟩ := l
  simp only [PairV.cells]
  obtain ⟨W, hW, b0, b1, hbW, hsW⟩ := boxes2 w [.int .i64 x, .int .i64 y] [.int .i64 x, .int .i64 y] 43 43
  have HC : Hid (∀ u, Below W.heap.size W u → (u.cell? ⟨w.heap.size, 0, none⟩ = some (.int .i64 x) ∧ u.cell? ⟨w.heap.size, 1, none⟩ = some (.int .i64 y)) ∧ (u.cell? ⟨w.heap.size + 1, 0, none⟩ = some (.int .i64 x) ∧ u.cell? ⟨w.heap.size + 1, 1, none⟩ = some (.int .i64 y))) := fun u hu => ⟨⟨(b0.below hu b0.lt).cell 0 _ rfl, (b0.below hu b0.lt).cell 1 _ rfl⟩, (b1.below hu b1.lt).cell 0 _ rfl, (b1.below hu b1.lt).cell 1 _ rfl⟩
  clear b0 b1 hsW
  go_enter Tryd.func17, Tryd.ntmps17
  go_upto_region 1 with fail
  rw [hW.out]
  clear hW
  go_wp2_with fail
  go_loopw [5] (fun i wr => ∃ k : Nat, k ≤ 2 ∧ i = .int .i64 k ∧ Below W.heap.size W wr) (fun i _ => 2 - (intOf i).toNat)
  case atStart => exact ⟨0, by omega, rfl, Below.refl _ _⟩
  case round =>
    obtain ⟨k, hk, rfl, hbl⟩ := hrel
    obtain ⟨⟨c0, c1⟩, d0, d1⟩ := HC.out wr hbl
    clear HC
    rcases (by omega : k = 0 ∨ k = 1 ∨ k = 2) with rfl | rfl | rfl
    · go_wp2_with fail
      go_quiet (fail)
      have hbn := below_drewN hbl nq
      go_wp2_with fail
      go_roundw
      case rel => exact ⟨1, by omega, rfl, hbn⟩
      case measure => simp [intOf]
    · go_wp2_with fail
      go_quiet (fail)
      have hbn := below_drewN hbl nq
      go_wp2_with fail
      go_roundw
      case rel => exact ⟨2, by omega, rfl, hbn⟩
      case measure => simp [intOf]
    · go_wp2
      go_ret
      exact ⟨rfl, hbW.trans (hbl.mono hbW.size)⟩

set_option maxHeartbeats 1000000 in
set_option maxRecDepth 100000 in
theorem eqIntA2S_same (a b : Option Addr) (ca cb : Nat) (ls : List PairV) (w : World) (ha : ReadsD2 w a ls) (hb : ReadsD2 w b ls) (hl : ls.length ≤ 1099511627776) :
    Calls Tryd.prog 8 #[.slice a ls.length ca, .slice b ls.length cb] w fun e w' => e = .returned (.bool true) ∧ Below w.heap.size w w' := by
  rcases ha.cases with rfl | ⟨b1, o1, rfl, hpos, hc1⟩
  · go_enter Tryd.func8, Tryd.ntmps8
    go_wp2
    refine wp_loop_rounds 1 ?_
    rw [rounds_succ]
    go_wp2
    go_ret
    exact ⟨rfl, Below.refl _ _⟩
  · rcases hb.cases with rfl | ⟨b2, o2, rfl, _, hc2⟩
    · simp at hpos
    · go_enter Tryd.func8, Tryd.ntmps8
      go_wp2
      go_loopw [5] (fun i wr => ∃ k : Nat, k ≤ ls.length ∧ i = .int .i64 k ∧ Below w.heap.size w wr) (fun i _ => ls.length - (intOf i).toNat)
      case atStart => exact ⟨0, Nat.zero_le _, rfl, Below.refl _ _⟩
      case round =>
        obtain ⟨k, hk, rfl, hbl⟩ := hrel
        by_cases hlt : k < ls.length
        · have h1 := hc1 k hlt
          have h2 := hc2 k hlt
          clear hc1 hc2
          generalize ls.getD k zeroD2 = z at *
          have HS : Hid (∀ w1, Below w.heap.size w w1 → (w1.cell? ⟨b1, o1 + k * 2, none⟩ = some (.int .i64 z.px) ∧ w1.cell? ⟨b1, o1 + k * 2 + 1, none⟩ = some (.int .i64 z.py)) ∧ (w1.cell? ⟨b2, o2 + k * 2, none⟩ = some (.int .i64 z.px) ∧ w1.cell? ⟨b2, o2 + k * 2 + 1, none⟩ = some (.int .i64 z.py))) := fun w1 hh =>
            ⟨⟨(hh.cell (block_lt h1.1)).trans h1.1, (hh.cell (block_lt h1.2)).trans h1.2⟩, (hh.cell (block_lt h2.1)).trans h2.1, (hh.cell (block_lt h2.2)).trans h2.2⟩
          have hh := HS.out wr hbl
          clear h1 h2
          go_wp2_with fail
          go_region_held3 (fun w1 => (w1.cell? ⟨b1, o1 + k * 2, none⟩ = some (.int .i64 z.px) ∧ w1.cell? ⟨b1, o1 + k * 2 + 1, none⟩ = some (.int .i64 z.py)) ∧ (w1.cell? ⟨b2, o2 + k * 2, none⟩ = some (.int .i64 z.px) ∧ w1.cell? ⟨b2, o2 + k * 2 + 1, none⟩ = some (.int .i64 z.py)))
            (first | exact HS.out _ hw2 | go_keep | fail)
            ((first | (go_at_call 17; refine (eqIntA2_same z _).mono ?_; rintro e w2 ⟨rfl, hb2⟩; have hw2 : Below w.heap.size w w2 := (hbl.drew).trans (hb2.mono hbl.size)) | fail))
          all_goals
            go_wp2_with fail
            go_roundw
            case rel => exact ⟨k + 1, by omega, by go_num, hw2⟩
            case measure => simp [intOf]; omega
        · go_wp2
          go_ret
          exact ⟨rfl, hbl⟩
set_option maxHeartbeats 1000000 in
set_option maxRecDepth 100000 in
theorem markIntA2S_any (base : Nat) (a : Option Addr) (cap : Nat) (k0 : Int) (xs : List PairV) (w : World)
    (hown : w.ownsRow base 43 2 (.slice a xs.length cap) xs.length (cellsD2 xs)) (h0 : 0 ≤ k0) (hl : k0 + 2 * xs.length ≤ 4611686018427387904) :
    Calls Tryd.prog 11 #[.slice a xs.length cap, .int .i64 k0] w fun e w' => e = .returned (.int .i64 (k0 + 2 * xs.length)) ∧
      w'.ownsRow base 43 2 (.slice a xs.length cap) xs.length (cellsD2 (marksD2 k0 xs.length)) ∧ w.grownBy w' (Value.slice a xs.length cap).ownBlock := by
  have hlen := hown.1
  rcases hown.2 with ⟨hv, h00⟩ | ⟨g, cap', cur, hv, hg, hgg, hr⟩
  · simp only [Value.slice.injEq] at hv
    obtain ⟨rfl, h00', rfl⟩ := hv
    obtain rfl := List.length_eq_zero_iff.1 h00
    go_enter Tryd.func11, Tryd.ntmps11
    go_wp2
    refine wp_loop_rounds 1 ?_
    rw [rounds_succ]
    go_wp2
    go_ret
    exact ⟨by simp, hown, World.grownBy.refl _ _⟩
  · simp only [Value.slice.injEq] at hv
    obtain ⟨rfl, _, rfl⟩ := hv
    clear hgg hr hlen
    have hM : w.ownsRow base 43 2 (.slice (some ⟨g, 0, none⟩) xs.length cap) xs.length (cellsD2 (markedD2 k0 xs 0)) := by simpa [markedD2, marksD2] using hown
    clear hown
    go_enter Tryd.func11, Tryd.ntmps11
    go_wp2
    go_loopw [1, 5] (fun kk i wr => ∃ k : Nat, k ≤ xs.length ∧ i = .int .i64 k ∧ kk = .int .i64 (k0 + 2 * k) ∧ wr.ownsRow base 43 2 (.slice (some ⟨g, 0, none⟩) xs.length cap) xs.length (cellsD2 (markedD2 k0 xs k)) ∧ w.grownBy wr (some g))
      (fun _ i _ => xs.length - (intOf i).toNat)
    case atStart => exact ⟨0, Nat.zero_le _, rfl, by simp, hM, World.grownBy.refl _ _⟩
    case round =>
      obtain ⟨k, hk, rfl, rfl, hown, hgr⟩ := hrel
      clear hM
      by_cases hlt : k < xs.length
      · have hp := markedD2_len k0 xs k hk
        obtain ⟨x0, x1, hfz⟩ := row_pair hown hp k hlt
        have f0 := hfz (k * 2)
        have f1 := hfz (k * 2 + 1)
        obtain ⟨W2, hW2, ho2, hg2⟩ := row_storeD2 hown hp k hlt (markD21 k0 k)
        rw [markedD2_set k0 xs k hlt] at ho2
        have HH : Hid (_ ∧ _) := ⟨ho2, grownBy_trans hgr hg2⟩
        clear ho2 hg2 hfz hown hgr
        generalize (markedD2 k0 xs k).getD k zeroD2 = old at *
        simp only [markD21] at hW2
        go_wp2_with fail
        refine wp_loop_rounds 3 ?_
        rw [rounds_succ]
        go_wp2_with fail
        rw [rounds_succ]
        go_wp2_with fail
        rw [rounds_succ]
        go_wp2_with fail
        rw [hW2.out]
        go_roundw
        case rel => exact ⟨k + 1, by omega, by go_num, by go_num, HH.out.1, HH.out.2⟩
        case measure => simp [intOf]; omega
      · have HE : Hid (wr.ownsRow base 43 2 (.slice (some ⟨g, 0, none⟩) xs.length cap) xs.length (cellsD2 (marksD2 k0 xs.length)) ∧ k = xs.length) := by
          have e : k = xs.length := by omega
          rw [e, markedD2_all] at hown
          exact ⟨hown, e⟩
        go_wp2
        go_ret
        exact ⟨ret_int (by have := HE.out.2; omega), HE.out.1, hgr⟩

theorem markIntA2S_own (lo hi : Nat) (a : Option Addr) (cap : Nat) (k0 : Int) (xs : List PairV) (w : World) (ho : OwnD2 w lo hi a cap xs) (h0 : 0 ≤ k0) (hl : k0 + 2 * xs.length ≤ 4611686018427387904) :
    Calls Tryd.prog 11 #[.slice a xs.length cap, .int .i64 k0] w fun e w' => e = .returned (.int .i64 (k0 + 2 * xs.length)) ∧
      OwnD2 w' lo hi a cap (marksD2 k0 xs.length) ∧ Touch (Value.slice a xs.length cap).ownBlock.toList w w' := by
  refine (markIntA2S_any lo a cap k0 xs w ho.1 h0 hl).mono ?_
  rintro e w' ⟨rfl, h1, h2⟩
  refine ⟨rfl, ⟨by rw [marksD2_len]; exact h1, Nat.le_trans ho.2.1 h2.size, by rw [marksD2_len]; exact ho.2.2⟩, Touch.of_grown h2 (fun j hj => Option.mem_toList.2 hj)⟩

set_option maxHeartbeats 1000000 in
set_option maxRecDepth 100000 in
theorem heldIntA2S_any (a : Option Addr) (cap : Nat) (k0 : Int) (n : Nat) (w : World) (hr : ReadsD2 w a (marksD2 k0 n)) (h0 : 0 ≤ k0) (hl : k0 + 2 * n ≤ 4611686018427387904) :
    Calls Tryd.prog 12 #[.slice a n cap, .int .i64 k0] w fun e w' => e = .returned (.int .i64 (k0 + 2 * n)) ∧ w' = w := by
  rcases hr.cases with h | ⟨b, off, rfl, hpos, hcell⟩
  · have h' := congrArg List.length h
    rw [marksD2_len] at h'
    simp at h'
    subst h'
    go_enter Tryd.func12, Tryd.ntmps12
    go_wp2
    refine wp_loop_rounds 1 ?_
    rw [rounds_succ]
    go_wp2
    go_ret
    exact ⟨by simp, rfl⟩
  · rw [marksD2_len] at hpos hcell
    go_enter Tryd.func12, Tryd.ntmps12
    go_wp2
    go_loop [1, 5] (fun kk i => ∃ k : Nat, k ≤ n ∧ i = .int .i64 k ∧ kk = .int .i64 (k0 + 2 * k)) (fun _ i => n - (intOf i).toNat)
    case atStart => exact ⟨0, Nat.zero_le _, rfl, by simp⟩
    case round =>
      obtain ⟨k, hk, rfl, rfl⟩ := hrel
      by_cases hlt : k < n
      · obtain ⟨c0, c1⟩ := hcell k hlt
        rw [marksD2_at k0 n k hlt] at c0 c1
        simp only [markD21] at c0 c1
        clear hcell
        go_wp2_with fail
        refine wp_loop_rounds 3 ?_
        rw [rounds_succ]
        go_wp2_with fail
        rw [rounds_succ]
        go_wp2_with fail
        rw [rounds_succ]
        go_wp2_with fail
        go_round
        case rel => exact ⟨k + 1, by omega, by go_num, by go_num⟩
        case measure => simp [intOf]; omega
      · have HE : Hid (k = n) := by show k = n; omega
        go_wp2
        go_ret
        exact ⟨ret_int (by have := HE.out; omega), rfl⟩
end Go.Proofs.YtgbpnepipknjnabDoor
