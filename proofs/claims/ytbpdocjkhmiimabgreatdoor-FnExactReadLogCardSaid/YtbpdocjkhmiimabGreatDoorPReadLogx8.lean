/- Several texts in one, in their order. -/
import Derived.Test.YtbpdocjkhmiimabGreatDoorPReadLogx7
import Derived.Test.YtbpdocjkhmiimabGreatDoorPReadLogx4
import Derived.Deep.RegionHeld3
import Derived.Test.YtbpdocjkhmiimabGreatDoorPReadLogx2
import Derived.Deep.QuietTactic
import Derived.BigQuiet
import Derived.WalkKit
/- The walks of laws.eqSlot, eqSlotA4, eqPage, where both say the same. -/
namespace Go.Proofs.YtbpdocjkhmiimabGreatDoor
open Go.RowKit

set_option maxHeartbeats 400000 in
set_option maxRecDepth 100000 in
theorem eqSlot_same (s t : SlotA) (he : t.v = s.v) (w : World) (hs : s.reads w) (ht : t.reads w) (hlI : s.v.o.ints.length ≤ 1099511627776) (hlR : s.v.o.refs.length ≤ 1099511627776) :
    Calls Tryz.prog 81 #[.agg s.cells.toArray, .agg t.cells.toArray] w fun e w' => e = .returned (.bool true) ∧ Below w.heap.size w w' := by
  obtain ⟨v, aI, cI, aR, cR⟩ := s
  obtain ⟨v', bI, dI, bR, dR⟩ := t
  simp only at he
  subst he
  obtain ⟨h, ⟨k, ints, refs⟩⟩ := v'
  simp only [SlotA.cells, SlotA.reads] at *
  obtain ⟨W, hW, b0, b1, hbW, hsW⟩ := boxes2 w [.bool h, .int .i64 k, .slice aI ints.length cI, .slice aR refs.length cR] [.bool h, .int .i64 k, .slice bI ints.length dI, .slice bR refs.length dR] 56 56
  go_enter Tryz.func81, Tryz.ntmps81
  go_wp2_with fail
  rw [hW.out]
  clear hW
  refine (eqObj_same ⟨k, ints, refs⟩ aI cI aR cR bI dI bR dR W (hs.below hbW) (ht.below hbW) hlI hlR).mono ?_
  rintro e w1 ⟨rfl, hb1⟩
  go_wp2
  go_ret
  exact ⟨rfl, hbW.trans (hb1.mono hbW.size)⟩

theorem same_at {ss ts : List SlotA} (h : ts.map (·.v) = ss.map (·.v)) (k : Nat) : (ts.getD k zeroS).v = (ss.getD k zeroS).v := by
  have := congrArg (fun l => l[k]?) h
  simp only [List.getElem?_map] at this
  simp only [List.getD]
  cases h1 : ts[k]? <;> cases h2 : ss[k]? <;> simp_all

end Go.Proofs.YtbpdocjkhmiimabGreatDoor

/- The walks of laws.szLiveS, szRec, eqRec. -/
namespace Go.Proofs.YtbpdocjkhmiimabGreatDoor
open Go.RowKit

set_option maxHeartbeats 400000 in
theorem szLiveS_any (a : Option Addr) (c n : Nat) (left : Int) (w : World) (hn : n ≤ 9223372036854775807) (h0 : 0 ≤ left ∧ left ≤ 1048576) :
    Calls Tryz.prog 69 #[.slice a n c, .int .i64 left] w fun e w' => e = .returned (.int .i64 (szOf n left)) ∧ w' = w := by
  by_cases h : left - n < 0
  · have HS : Hid (szOf n left = -1) := by unfold szOf; rw [Hid, if_pos h]
    go_enter Tryz.func69, Tryz.ntmps69
    go_wp2
    go_ret
    exact ⟨ret_int HS.out.symm, rfl⟩
  · have HS : Hid (szOf n left = left - n) := by unfold szOf; rw [Hid, if_neg h]
    go_enter Tryz.func69, Tryz.ntmps69
    go_wp2
    go_ret
    exact ⟨ret_int HS.out.symm, rfl⟩

/-- A record whose lists are short. -/
structure RecA.short (r : RecA) (m : Nat) : Prop where
  bf : r.bf.v.o.ints.length ≤ m ∧ r.bf.v.o.refs.length ≤ m
  af : r.af.v.o.ints.length ≤ m ∧ r.af.v.o.refs.length ≤ m
  txs : r.txs.length ≤ m

set_option maxHeartbeats 1000000 in
set_option maxRecDepth 100000 in
theorem szRec_any (r : RecA) (left : Int) (w : World) (hn : r.short 9223372036854775807) (h0 : 0 ≤ left ∧ left ≤ 1048576) :
    Calls Tryz.prog 40 #[.agg r.cells.toArray, .int .i64 left] w fun e w' => ∃ z, e = .returned (.int .i64 z) ∧ (z < 0 ∨ (0 ≤ z ∧ z ≤ left ∧ r.short 1048576)) ∧ Below w.heap.size w w' := by
  obtain ⟨W, hW, b0, hbW, hsW⟩ := boxes1 w r.cells 74
  have hb0 : Below w.heap.size w W := hbW
  have C1 := szSlot_any r.bf left W (by intro s hs; obtain rfl := List.mem_singleton.1 hs; exact hn.bf) h0
  have hnl := hn.txs
  have hna : Small [r.af] := by intro s hs; obtain rfl := List.mem_singleton.1 hs; exact hn.af
  clear hsW hn
  simp only [RecA.cells] at *
  simp only [SlotA.cells] at C1
  go_enter Tryz.func40, Tryz.ntmps40
  go_wp2_with fail
  rw [hW.out]
  clear hW
  refine C1.mono ?_
  clear C1
  rintro e w1 ⟨z1, rfl, hz1, hb1⟩
  have b01 := b0.below hb1 b0.lt
  have B1 : Below w.heap.size w w1 := hbW.trans (hb1.mono hbW.size)
  clear b0 hb1 hbW
  rcases hz1 with hz | ⟨hz0, hzl, hs1⟩
  · go_wp2
    go_ret
    exact ⟨-1, rfl, .inl (by omega), B1⟩
  have hzn : ¬ z1 < 0 := by omega
  have c9 := b01.cell 9 _ rfl
  have c10 := b01.cell 10 _ rfl
  have c11 := b01.cell 11 _ rfl
  have c12 := b01.cell 12 _ rfl
  have C2 := szSlot_any r.af z1 w1 hna (by omega)
  simp only [SlotA.cells] at C2
  go_wp2_with fail
  refine C2.mono ?_
  clear C2 c9 c10 c11 c12
  rintro e w2 ⟨z2, rfl, hz2, hb2⟩
  have b02 := b01.below hb2 b01.lt
  have B2 : Below w.heap.size w w2 := B1.trans (hb2.mono B1.size)
  clear b01 hb2 B1
  rcases hz2 with hz | ⟨hz20, hz2l, hs2⟩
  · go_wp2
    go_ret
    exact ⟨-1, rfl, .inl (by omega), B2⟩
  have hzn2 : ¬ z2 < 0 := by omega
  have c14 := b02.cell 14 _ rfl
  have C3 := szLiveS_any r.aL r.cL r.txs.length z2 w2 hnl (by omega)
  go_wp2_with fail
  refine C3.mono ?_
  clear C3 c14
  rintro e w3 ⟨rfl, rfl⟩
  by_cases h : z2 - r.txs.length < 0
  · have HS : Hid (szOf r.txs.length z2 = -1) := by unfold szOf; rw [Hid, if_pos h]
    rw [HS.out]
    go_wp2
    go_ret
    exact ⟨-1, rfl, .inl (by omega), B2⟩
  · have HS : Hid (szOf r.txs.length z2 = z2 - r.txs.length) := by unfold szOf; rw [Hid, if_neg h]
    have HR : Hid (r.short 1048576) := ⟨hs1 _ (List.mem_singleton.2 rfl), hs2 _ (List.mem_singleton.2 rfl), by omega⟩
    rw [HS.out]
    go_wp2
    go_ret
    exact ⟨z2 - r.txs.length, rfl, .inr ⟨by omega, by omega, HR.out⟩, B2⟩

set_option maxHeartbeats 1000000 in
set_option maxRecDepth 100000 in
theorem eqRec_same (r t : RecA) (he : t.v = r.v) (w : World) (hr : r.reads w) (ht : t.reads w) (hl : r.short 1099511627776) :
    Calls Tryz.prog 47 #[.agg r.cells.toArray, .agg t.cells.toArray] w fun e w' => e = .returned (.bool true) ∧ Below w.heap.size w w' := by
  obtain ⟨W, hW, b0, b1, hbW, hsW⟩ := boxes2 w r.cells t.cells 59 59
  simp only [RecA.v, RecV.mk.injEq] at he
  obtain ⟨e1, e2, e3, e4, e5, e6, e7, e8, e9⟩ := he
  have C1 := eqSlot_same r.bf t.bf e6 W (ReadsO.below hr.bf hbW) (ReadsO.below ht.bf hbW) hl.bf.1 hl.bf.2
  have HL : Hid (_ ∧ _) := ⟨hl.af, hl.txs⟩
  have HR : Hid (_ ∧ _) := ⟨hr, ht⟩
  have HE : Hid (_ ∧ _) := ⟨e7, e9⟩
  clear hsW hl hr ht e6 e7 e9
  simp only [RecA.cells] at *
  simp only [SlotA.cells] at C1
  simp only [e1, e2, e3, e4, e5, e8] at b1 hW ⊢
  clear e1 e2 e3 e4 e5 e8
  go_enter Tryz.func47, Tryz.ntmps47
  go_wp2_with fail
  rw [hW.out]
  clear hW
  refine C1.mono ?_
  clear C1
  rintro e w1 ⟨rfl, hb1⟩
  have b01 := b0.below hb1 b0.lt
  have b11 := b1.below hb1 b1.lt
  have B1 : Below w.heap.size w w1 := hbW.trans (hb1.mono hbW.size)
  clear b0 b1 hb1 hbW
  have c9 := b01.cell 9 _ rfl
  have d9 := b11.cell 9 _ rfl
  have c10 := b01.cell 10 _ rfl
  have d10 := b11.cell 10 _ rfl
  have c11 := b01.cell 11 _ rfl
  have d11 := b11.cell 11 _ rfl
  have c12 := b01.cell 12 _ rfl
  have d12 := b11.cell 12 _ rfl
  have C2 := eqSlot_same r.af t.af HE.out.1 w1 (ReadsO.below HR.out.1.af B1) (ReadsO.below HR.out.2.af B1) HL.out.1.1 HL.out.1.2
  simp only [SlotA.cells] at C2
  go_wp2_with fail
  refine C2.mono ?_
  clear C2
  rintro e w2 ⟨rfl, hb2⟩
  have b02 := b01.below hb2 b01.lt
  have b12 := b11.below hb2 b11.lt
  have B2 : Below w.heap.size w w2 := B1.trans (hb2.mono B1.size)
  clear b01 b11 hb2 B1 c9 d9 c10 d10 c11 d11 c12 d12
  have c13 := b02.cell 13 _ rfl
  have d13 := b12.cell 13 _ rfl
  have c14 := b02.cell 14 _ rfl
  have d14 := b12.cell 14 _ rfl
  have C3 := eqLiveS_same r.aL t.aL r.cL t.cL r.txs w2 (HR.out.1.txs.below B2) (by have := HR.out.2.txs.below B2; rw [HE.out.2] at this; exact this) HL.out.2
  have hte : t.txs.length = r.txs.length := by rw [HE.out.2]
  rw [hte] at d14
  go_wp2_with fail
  refine C3.mono ?_
  clear C3
  rintro e w3 ⟨rfl, hb3⟩
  go_wp2
  go_ret
  exact ⟨rfl, B2.trans (hb3.mono B2.size)⟩
end Go.Proofs.YtbpdocjkhmiimabGreatDoor

/- The walks of spec.l2SameInts, spec.l2Same and spec.SameObj. -/
namespace Go.Proofs.YtbpdocjkhmiimabGreatDoor
open Go.RowKit

theorem ne_at {xs ys : List Int} (j : Nat) (h : xs.getD j 0 ≠ ys.getD j 0) : decide (xs = ys) = false := by
  rw [decide_eq_false_iff_not]
  intro e
  exact h (by rw [e])
theorem ne_len {xs ys : List Int} (h : xs.length ≠ ys.length) : decide (xs = ys) = false := by
  rw [decide_eq_false_iff_not]
  intro e
  exact h (by rw [e])
theorem eq_all {xs ys : List Int} (hl : xs.length = ys.length) (h : ∀ t, t < xs.length → xs.getD t 0 = ys.getD t 0) : decide (xs = ys) = true := by
  rw [decide_eq_true_eq]
  apply List.ext_getElem hl
  intro i h1 h2
  have := h i h1
  simpa [List.getD, h1, h2] using this

set_option maxHeartbeats 400000 in
theorem l2SameInts_any (a b : Option Addr) (ca cb : Nat) (xs ys : List Int) (w : World) (ha : ReadsI w a xs) (hb : ReadsI w b ys) (hl : xs.length ≤ 1099511627776) (hl2 : ys.length ≤ 1099511627776) :
    Calls Tryz.prog 137 #[.slice a xs.length ca, .slice b ys.length cb] w fun e w' => e = .returned (.bool (decide (xs = ys))) ∧ ∃ n, w' = w.drewN n := by
  by_cases hle : xs.length = ys.length
  case neg =>
    have HE : Hid (_ = _) := ne_len hle
    have hle' : ((xs.length : Int) == (ys.length : Int)) = false := by simp; omega
    go_enter Tryz.func137, Tryz.ntmps137
    go_wp2
    go_ret
    exact ⟨ret_bool HE.out.symm, 0, rfl⟩
  case pos =>
  have HL : Hid (xs.length = ys.length) := hle
  have hle' : ((xs.length : Int) == (ys.length : Int)) = true := by simp; omega
  rcases ha.cases with rfl | ⟨b1, o1, rfl, hpos, hc1⟩
  · obtain rfl : ys = [] := List.length_eq_zero_iff.1 (by simpa using hle.symm)
    have HE : Hid (decide (([] : List Int) = []) = true) := by simp [Hid]
    clear hle hle' HL
    go_enter Tryz.func137, Tryz.ntmps137
    go_wp2
    refine wp_loop_rounds 1 ?_
    rw [rounds_succ]
    go_wp2
    go_ret
    exact ⟨ret_bool HE.out.symm, 0, rfl⟩
  · rcases hb.cases with rfl | ⟨b2, o2, rfl, _, hc2⟩
    · simp at hle; simp [hle] at hpos
    · clear hle
      go_enter Tryz.func137, Tryz.ntmps137
      go_wp2
      go_loopw [5] (fun i wr => ∃ k : Nat, k ≤ xs.length ∧ i = .int .i64 k ∧ Hid (∀ t, t < k → xs.getD t 0 = ys.getD t 0) ∧ ∃ n, wr = w.drewN n) (fun i _ => xs.length - (intOf i).toNat)
      case atStart => exact ⟨0, Nat.zero_le _, rfl, fun t ht => by omega, 0, rfl⟩
      case round =>
        obtain ⟨k, hk, rfl, hall, n, rfl⟩ := hrel
        by_cases hlt : k < xs.length
        · have h1 := hc1 k hlt
          have h2 := hc2 k (by have := HL.out; omega)
          have hlt2 : (k : Int) < (ys.length : Int) := by have := HL.out; omega
          clear hc1 hc2
          by_cases hz : xs.getD k 0 = ys.getD k 0
          · have HN : Hid (∀ t, t < k + 1 → xs.getD t 0 = ys.getD t 0) := by
              intro t ht
              by_cases e : t = k
              · rw [e]; exact hz
              · exact hall.out t (by omega)
            rw [← hz] at h2
            clear hz
            generalize xs.getD k 0 = z at *
            go_wp2
            go_quiet (fail)
            go_wp2
            go_roundw
            case rel => exact ⟨k + 1, by omega, by go_num, HN, _, rfl⟩
            case measure => simp [intOf]; omega
          · have HE : Hid (_ = _) := ne_at k hz
            have hzb : (xs.getD k 0 == ys.getD k 0) = false := by simpa using hz
            clear hz
            generalize xs.getD k 0 = z at *
            generalize ys.getD k 0 = y at *
            go_wp2
            go_quiet (fail)
            go_wp2
            go_ret
            exact ⟨ret_bool HE.out.symm, n + nq, by first | rfl | simp⟩
        · have HE : Hid (_ = _) := eq_all HL.out (fun t ht => hall.out t (by omega))
          go_wp2
          go_ret
          exact ⟨ret_bool HE.out.symm, n, rfl⟩

def sameO (a b : ObjV) : Bool := decide (a.kind = b.kind) && (decide (a.ints = b.ints) && decide (a.refs = b.refs))

set_option maxHeartbeats 1000000 in
set_option maxRecDepth 100000 in
theorem specSameObj_any (o p : ObjV) (aI : Option Addr) (cI : Nat) (aR : Option Addr) (cR : Nat) (bI : Option Addr) (dI : Nat) (bR : Option Addr) (dR : Nat) (w : World) (ha : ReadsO w aI cI aR cR o) (hb : ReadsO w bI dI bR dR p) (h1 : o.ints.length ≤ 1099511627776) (h2 : o.refs.length ≤ 1099511627776) (h3 : p.ints.length ≤ 1099511627776) (h4 : p.refs.length ≤ 1099511627776) :
    Calls Tryz.prog 124 #[.agg #[.int .i64 o.kind, .slice aI o.ints.length cI, .slice aR o.refs.length cR], .agg #[.int .i64 p.kind, .slice bI p.ints.length dI, .slice bR p.refs.length dR]] w fun e w' => e = .returned (.bool (sameO o p)) ∧ Below w.heap.size w w' := by
  obtain ⟨k, ints, refs⟩ := o
  obtain ⟨k', ints', refs'⟩ := p
  obtain ⟨haI, haR, _, _⟩ := ha
  obtain ⟨hbI, hbR, _, _⟩ := hb
  simp only at *
  obtain ⟨W, hW, b0, b1, hbW, hsW⟩ := boxes2 w [.int .i64 k, .slice aI ints.length cI, .slice aR refs.length cR] [.int .i64 k', .slice bI ints'.length dI, .slice bR refs'.length dR] 54 54
  by_cases hk : k = k'
  case neg =>
    have HE : Hid (sameO ⟨k, ints, refs⟩ ⟨k', ints', refs'⟩ = false) := by simp [Hid, sameO, hk]
    have hkb : (k == k') = false := by simpa using hk
    clear hk
    go_enter Tryz.func124, Tryz.ntmps124
    go_wp2
    go_ret
    exact ⟨ret_bool HE.out.symm, by rw [hW.out]; exact hbW⟩
  case pos =>
  subst hk
  have HE : Hid (sameO ⟨k, ints, refs⟩ ⟨k, ints', refs'⟩ = (decide (ints = ints') && decide (refs = refs'))) := by simp [Hid, sameO]
  go_enter Tryz.func124, Tryz.ntmps124
  go_wp2_with fail
  rw [hW.out]
  refine (l2SameInts_any aI bI cI dI ints ints' W (haI.below hbW) (hbI.below hbW) h1 h3).mono ?_
  rintro e w1 ⟨rfl, n1, rfl⟩
  have c0 := (b0.drewN n1).cell 2 _ rfl
  have c1 := (b1.drewN n1).cell 2 _ rfl
  have hb1 : Below w.heap.size w (W.drewN n1) := below_drewN hbW n1
  cases hd : decide (ints = ints') with
  | false =>
    rw [hd] at HE
    clear hd
    go_wp2
    go_ret
    exact ⟨ret_bool (by rw [HE.out]; rfl), hb1⟩
  | true =>
    rw [hd] at HE
    clear hd
    go_wp2_with fail
    refine (l2SameInts_any aR bR cR dR refs refs' (W.drewN n1) (haR.below hb1) (hbR.below hb1) h2 h4).mono ?_
    rintro e w2 ⟨rfl, n2, rfl⟩
    generalize decide (refs = refs') = D at *
    go_wp2
    go_ret
    exact ⟨ret_bool (by rw [HE.out]; rfl), below_drewN hbW (n1 + n2)⟩
end Go.Proofs.YtbpdocjkhmiimabGreatDoor

/- Is a number within bounds? -/
namespace Go.Proofs.YtbpdocjkhmiimabGreatDoor
def inB (x l m : Int) : Bool := decide (l ≤ x ∧ x ≤ m)
end Go.Proofs.YtbpdocjkhmiimabGreatDoor
