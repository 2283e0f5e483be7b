/- Several texts in one, in their order. -/
import Derived.Test.YtjaojcgfgkppgaaDoorPiece21
import Derived.Test.YtjaojcgfgkppgaaDoorPiece22
import Derived.Test.YtjaojcgfgkppgaaDoorPiece3
import Derived.Deep.QuietTactic
import Derived.BigQuiet
import Derived.Test.YtjaojcgfgkppgaaDoorPiece16
/- The walks of laws.szLiveS, szRec, eqRec. -/
namespace Go.Proofs.YtjaojcgfgkppgaaDoor
open Go.RowKit

set_option maxHeartbeats 400000 in
theorem szLiveS_any (a : Option Addr) (c n : Nat) (left : Int) (w : World) (hn : n ≤ 9223372036854775807) (h0 : 0 ≤ left ∧ left ≤ 1048576) :
    Calls Tryd.prog 51 #[.slice a n c, .int .i64 left] w fun e w' => e = .returned (.int .i64 (szOf n left)) ∧ w' = w := by
  by_cases h : left - n < 0
  · have HS : Hid (szOf n left = -1) := by unfold szOf; rw [Hid, if_pos h]
    go_enter Tryd.func51, Tryd.ntmps51
    go_wp2
    go_ret
    exact ⟨ret_int HS.out.symm, rfl⟩
  · have HS : Hid (szOf n left = left - n) := by unfold szOf; rw [Hid, if_neg h]
    go_enter Tryd.func51, Tryd.ntmps51
    go_wp2
    go_ret
    exact ⟨ret_int HS.out.symm, rfl⟩

/-- A record whose lists are short. -/
structure RecA.short (r : RecA) (m : Nat) : Prop where
  bf : r.bf.v.o.ints.length ≤ m ∧ r.bf.v.o.refs.length ≤ m
  af : r.af.v.o.ints.length ≤ m ∧ r.af.v.o.refs.length ≤ m
  txs : r.txs.length ≤ m

set_option maxHeartbeats 1000000 in
set_option maxRecDepth 100000 in
theorem szRec_any (r : RecA) (left : Int) (w : World) (hn : r.short 9223372036854775807) (h0 : 0 ≤ left ∧ left ≤ 1048576) :
    Calls Tryd.prog 19 #[.agg r.cells.toArray, .int .i64 left] w fun e w' => ∃ z, e = .returned (.int .i64 z) ∧ (z < 0 ∨ (0 ≤ z ∧ z ≤ left ∧ r.short 1048576)) ∧ Below w.heap.size w w' := by
  obtain ⟨W, hW, b0, hbW, hsW⟩ := boxes1 w r.cells 52
  have hb0 : Below w.heap.size w W := hbW
  have C1 := szSlot_any r.bf left W (by intro s hs; obtain rfl := List.mem_singleton.1 hs; exact hn.bf) h0
  have hnl := hn.txs
  have hna : Small [r.af] := by intro s hs; obtain rfl := List.mem_singleton.1 hs; exact hn.af
  clear hsW hn
  simp only [RecA.cells] at *
  simp only [SlotA.cells] at C1
  go_enter Tryd.func19, Tryd.ntmps19
  go_wp2_with fail
  rw [hW.out]
  clear hW
  refine C1.mono ?_
  clear C1
  rintro e w1 ⟨z1, rfl, hz1, hb1⟩
  have b01 := b0.below hb1 b0.lt
  have B1 : Below w.heap.size w w1 := hbW.trans (hb1.mono hbW.size)
  clear b0 hb1 hbW
  rcases hz1 with hz | ⟨hz0, hzl, hs1⟩
  · go_wp2
    go_ret
    exact ⟨-1, rfl, .inl (by omega), B1⟩
  have hzn : ¬ z1 < 0 := by omega
  have c9 := b01.cell 9 _ rfl
  have c10 := b01.cell 10 _ rfl
  have c11 := b01.cell 11 _ rfl
  have c12 := b01.cell 12 _ rfl
  have C2 := szSlot_any r.af z1 w1 hna (by omega)
  simp only [SlotA.cells] at C2
  go_wp2_with fail
  refine C2.mono ?_
  clear C2 c9 c10 c11 c12
  rintro e w2 ⟨z2, rfl, hz2, hb2⟩
  have b02 := b01.below hb2 b01.lt
  have B2 : Below w.heap.size w w2 := B1.trans (hb2.mono B1.size)
  clear b01 hb2 B1
  rcases hz2 with hz | ⟨hz20, hz2l, hs2⟩
  · go_wp2
    go_ret
    exact ⟨-1, rfl, .inl (by omega), B2⟩
  have hzn2 : ¬ z2 < 0 := by omega
  have c14 := b02.cell 14 _ rfl
  have C3 := szLiveS_any r.aL r.cL r.txs.length z2 w2 hnl (by omega)
  go_wp2_with fail
  refine C3.mono ?_
  clear C3 c14
  rintro e w3 ⟨rfl, rfl⟩
  by_cases h : z2 - r.txs.length < 0
  · have HS : Hid (szOf r.txs.length z2 = -1) := by unfold szOf; rw [Hid, if_pos h]
    rw [HS.out]
    go_wp2
    go_ret
    exact ⟨-1, rfl, .inl (by omega), B2⟩
  · have HS : Hid (szOf r.txs.length z2 = z2 - r.txs.length) := by unfold szOf; rw [Hid, if_neg h]
    have HR : Hid (r.short 1048576) := ⟨hs1 _ (List.mem_singleton.2 rfl), hs2 _ (List.mem_singleton.2 rfl), by omega⟩
    rw [HS.out]
    go_wp2
    go_ret
    exact ⟨z2 - r.txs.length, rfl, .inr ⟨by omega, by omega, HR.out⟩, B2⟩

set_option maxHeartbeats 1000000 in
set_option maxRecDepth 100000 in
theorem eqRec_same (r t : RecA) (he : t.v = r.v) (w : World) (hr : r.reads w) (ht : t.reads w) (hl : r.short 1099511627776) :
    Calls Tryd.prog 21 #[.agg r.cells.toArray, .agg t.cells.toArray] w fun e w' => e = .returned (.bool true) ∧ Below w.heap.size w w' := by
  obtain ⟨W, hW, b0, b1, hbW, hsW⟩ := boxes2 w r.cells t.cells 31 31
  simp only [RecA.v, RecV.mk.injEq] at he
  obtain ⟨e1, e2, e3, e4, e5, e6, e7, e8, e9⟩ := he
  have C1 := eqSlot_same r.bf t.bf e6 W (ReadsO.below hr.bf hbW) (ReadsO.below ht.bf hbW) hl.bf.1 hl.bf.2
  have HL : Hid (_ ∧ _) := ⟨hl.af, hl.txs⟩
  have HR : Hid (_ ∧ _) := ⟨hr, ht⟩
  have HE : Hid (_ ∧ _) := ⟨e7, e9⟩
  clear hsW hl hr ht e6 e7 e9
  simp only [RecA.cells] at *
  simp only [SlotA.cells] at C1
  simp only [e1, e2, e3, e4, e5, e8] at b1 hW ⊢
  clear e1 e2 e3 e4 e5 e8
  go_enter Tryd.func21, Tryd.ntmps21
  go_wp2_with fail
  rw [hW.out]
  clear hW
  refine C1.mono ?_
  clear C1
  rintro e w1 ⟨rfl, hb1⟩
  have b01 := b0.below hb1 b0.lt
  have b11 := b1.below hb1 b1.lt
  have B1 : Below w.heap.size w w1 := hbW.trans (hb1.mono hbW.size)
  clear b0 b1 hb1 hbW
  have c9 := b01.cell 9 _ rfl
  have d9 := b11.cell 9 _ rfl
  have c10 := b01.cell 10 _ rfl
  have d10 := b11.cell 10 _ rfl
  have c11 := b01.cell 11 _ rfl
  have d11 := b11.cell 11 _ rfl
  have c12 := b01.cell 12 _ rfl
  have d12 := b11.cell 12 _ rfl
  have C2 := eqSlot_same r.af t.af HE.out.1 w1 (ReadsO.below HR.out.1.af B1) (ReadsO.below HR.out.2.af B1) HL.out.1.1 HL.out.1.2
  simp only [SlotA.cells] at C2
  go_wp2_with fail
  refine C2.mono ?_
  clear C2
  rintro e w2 ⟨rfl, hb2⟩
  have b02 := b01.below hb2 b01.lt
  have b12 := b11.below hb2 b11.lt
  have B2 : Below w.heap.size w w2 := B1.trans (hb2.mono B1.size)
  clear b01 b11 hb2 B1 c9 d9 c10 d10 c11 d11 c12 d12
  have c13 := b02.cell 13 _ rfl
  have d13 := b12.cell 13 _ rfl
  have c14 := b02.cell 14 _ rfl
  have d14 := b12.cell 14 _ rfl
  have C3 := eqLiveS_same r.aL t.aL r.cL t.cL r.txs w2 (HR.out.1.txs.below B2) (by have := HR.out.2.txs.below B2; rw [HE.out.2] at this; exact this) HL.out.2
  have hte : t.txs.length = r.txs.length := by rw [HE.out.2]
  rw [hte] at d14
  go_wp2_with fail
  refine C3.mono ?_
  clear C3
  rintro e w3 ⟨rfl, hb3⟩
  go_wp2
  go_ret
  exact ⟨rfl, B2.trans (hb3.mono B2.size)⟩
end Go.Proofs.YtjaojcgfgkppgaaDoor

/- The walks of spec.l2SameInts, spec.l2Same and spec.SameObj. -/
namespace Go.Proofs.YtjaojcgfgkppgaaDoor
open Go.RowKit

theorem ne_at {xs ys : List Int} (j : Nat) (h : xs.getD j 0 ≠ ys.getD j 0) : decide (xs = ys) = false := by
  rw [decide_eq_false_iff_not]
  intro e
  exact h (by rw [e])
theorem ne_len {xs ys : List Int} (h : xs.length ≠ ys.length) : decide (xs = ys) = false := by
  rw [decide_eq_false_iff_not]
  intro e
  exact h (by rw [e])
theorem eq_all {xs ys : List Int} (hl : xs.length = ys.length) (h : ∀ t, t < xs.length → xs.getD t 0 = ys.getD t 0) : decide (xs = ys) = true := by
  rw [decide_eq_true_eq]
  apply List.ext_getElem hl
  intro i h1 h2
  have := h i h1
  simpa [List.getD, h1, h2] using this

set_option maxHeartbeats 400000 in
theorem l2SameInts_any (a b : Option Addr) (ca cb : Nat) (xs ys : List Int) (w : World) (ha : ReadsI w a xs) (hb : ReadsI w b ys) (hl : xs.length ≤ 1099511627776) (hl2 : ys.length ≤ 1099511627776) :
    Calls Tryd.prog 93 #[.slice a xs.length ca, .slice b ys.length cb] w fun e w' => e = .returned (.bool (decide (xs = ys))) ∧ ∃ n, w' = w.drewN n := by
  by_cases hle : xs.length = ys.length
  case neg =>
    have HE : Hid (_ = _) := ne_len hle
    have hle' : ((xs.length : Int) == (ys.length : Int)) = false := by simp; omega
    go_enter Tryd.func93, Tryd.ntmps93
    go_wp2
    go_ret
    exact ⟨ret_bool HE.out.symm, 0, rfl⟩
  case pos =>
  have HL : Hid (xs.length = ys.length) := hle
  have hle' : ((xs.length : Int) == (ys.length : Int)) = true := by simp; omega
  rcases ha.cases with rfl | ⟨b1, o1, rfl, hpos, hc1⟩
  · obtain rfl : ys = [] := List.length_eq_zero_iff.1 (by simpa using hle.symm)
    have HE : Hid (decide (([] : List Int) = []) = true) := by simp [Hid]
    clear hle hle' HL
    go_enter Tryd.func93, Tryd.ntmps93
    go_wp2
    refine wp_loop_rounds 1 ?_
    rw [rounds_succ]
    go_wp2
    go_ret
    exact ⟨ret_bool HE.out.symm, 0, rfl⟩
  · rcases hb.cases with rfl | ⟨b2, o2, rfl, _, hc2⟩
    · simp at hle; simp [hle] at hpos
    · clear hle
      go_enter Tryd.func93, Tryd.ntmps93
      go_wp2
      go_loopw [5] (fun i wr => ∃ k : Nat, k ≤ xs.length ∧ i = .int .i64 k ∧ Hid (∀ t, t < k → xs.getD t 0 = ys.getD t 0) ∧ ∃ n, wr = w.drewN n) (fun i _ => xs.length - (intOf i).toNat)
      case atStart => exact ⟨0, Nat.zero_le _, rfl, fun t ht => by omega, 0, rfl⟩
      case round =>
        obtain ⟨k, hk, rfl, hall, n, rfl⟩ := hrel
        by_cases hlt : k < xs.length
        · have h1 := hc1 k hlt
          have h2 := hc2 k (by have := HL.out; omega)
          have hlt2 : (k : Int) < (ys.length : Int) := by have := HL.out; omega
          clear hc1 hc2
          by_cases hz : xs.getD k 0 = ys.getD k 0
          · have HN : Hid (∀ t, t < k + 1 → xs.getD t 0 = ys.getD t 0) := by
              intro t ht
              by_cases e : t = k
              · rw [e]; exact hz
              · exact hall.out t (by omega)
            rw [← hz] at h2
            clear hz
            generalize xs.getD k 0 = z at *
            go_wp2
            go_quiet (fail)
            go_wp2
            go_roundw
            case rel => exact ⟨k + 1, by omega, by go_num, HN, _, rfl⟩
            case measure => simp [intOf]; omega
          · have HE : Hid (_ = _) := ne_at k hz
            have hzb : (xs.getD k 0 == ys.getD k 0) = false := by simpa using hz
            clear hz
            generalize xs.getD k 0 = z at *
            generalize ys.getD k 0 = y at *
            go_wp2
            go_quiet (fail)
            go_wp2
            go_ret
            exact ⟨ret_bool HE.out.symm, n + nq, by first | rfl | simp⟩
        · have HE : Hid (_ = _) := eq_all HL.out (fun t ht => hall.out t (by omega))
          go_wp2
          go_ret
          exact ⟨ret_bool HE.out.symm, n, rfl⟩

def sameO (a b : ObjV) : Bool := decide (a.kind = b.kind) && (decide (a.ints = b.ints) && decide (a.refs = b.refs))

set_option maxHeartbeats 1000000 in
set_option maxRecDepth 100000 in
theorem specSameObj_any (o p : ObjV) (aI : Option Addr) (cI : Nat) (aR : Option Addr) (cR : Nat) (bI : Option Addr) (dI : Nat) (bR : Option Addr) (dR : Nat) (w : World) (ha : ReadsO w aI cI aR cR o) (hb : ReadsO w bI dI bR dR p) (h1 : o.ints.length ≤ 1099511627776) (h2 : o.refs.length ≤ 1099511627776) (h3 : p.ints.length ≤ 1099511627776) (h4 : p.refs.length ≤ 1099511627776) :
    Calls Tryd.prog 48 #[.agg #[.int .i64 o.kind, .slice aI o.ints.length cI, .slice aR o.refs.length cR], .agg #[.int .i64 p.kind, .slice bI p.ints.length dI, .slice bR p.refs.length dR]] w fun e w' => e = .returned (.bool (sameO o p)) ∧ Below w.heap.size w w' := by
  obtain ⟨k, ints, refs⟩ := o
  obtain ⟨k', ints', refs'⟩ := p
  obtain ⟨haI, haR, _, _⟩ := ha
  obtain ⟨hbI, hbR, _, _⟩ := hb
  simp only at *
  obtain ⟨W, hW, b0, b1, hbW, hsW⟩ := boxes2 w [.int .i64 k, .slice aI ints.length cI, .slice aR refs.length cR] [.int .i64 k', .slice bI ints'.length dI, .slice bR refs'.length dR] 26 26
  by_cases hk : k = k'
  case neg =>
    have HE : Hid (sameO ⟨k, ints, refs⟩ ⟨k', ints', refs'⟩ = false) := by simp [Hid, sameO, hk]
    have hkb : (k == k') = false := by simpa using hk
    clear hk
    go_enter Tryd.func48, Tryd.ntmps48
    go_wp2
    go_ret
    exact ⟨ret_bool HE.out.symm, by rw [hW.out]; exact hbW⟩
  case pos =>
  subst hk
  have HE : Hid (sameO ⟨k, ints, refs⟩ ⟨k, ints', refs'⟩ = (decide (ints = ints') && decide (refs = refs'))) := by simp [Hid, sameO]
  go_enter Tryd.func48, Tryd.ntmps48
  go_wp2_with fail
  rw [hW.out]
  refine (l2SameInts_any aI bI cI dI ints ints' W (haI.below hbW) (hbI.below hbW) h1 h3).mono ?_
  rintro e w1 ⟨rfl, n1, rfl⟩
  have c0 := (b0.drewN n1).cell 2 _ rfl
  have c1 := (b1.drewN n1).cell 2 _ rfl
  have hb1 : Below w.heap.size w (W.drewN n1) := below_drewN hbW n1
  cases hd : decide (ints = ints') with
  | false =>
    rw [hd] at HE
    clear hd
    go_wp2
    go_ret
    exact ⟨ret_bool (by rw [HE.out]; rfl), hb1⟩
  | true =>
    rw [hd] at HE
    clear hd
    go_wp2_with fail
    refine (l2SameInts_any aR bR cR dR refs refs' (W.drewN n1) (haR.below hb1) (hbR.below hb1) h2 h4).mono ?_
    rintro e w2 ⟨rfl, n2, rfl⟩
    generalize decide (refs = refs') = D at *
    go_wp2
    go_ret
    exact ⟨ret_bool (by rw [HE.out]; rfl), below_drewN hbW (n1 + n2)⟩
end Go.Proofs.YtjaojcgfgkppgaaDoor

/- The walks of spec.l3SameSlot (with no slot) and spec.l4Zero. -/
namespace Go.Proofs.YtjaojcgfgkppgaaDoor
open Go.RowKit

/-- Is it no slot at all? -/
def isNo (v : SlotV) : Bool := if v.has then false else sameO v.o ⟨0, [], []⟩
theorem isNo_has {v : SlotV} (h : v.has = true) : isNo v = false := by unfold isNo; rw [if_pos h]
theorem isNo_not {v : SlotV} (h : v.has = false) : isNo v = sameO v.o ⟨0, [], []⟩ := by unfold isNo; rw [if_neg (by rw [h]; decide)]

set_option maxHeartbeats 400000 in
set_option maxRecDepth 100000 in
theorem l3SameNone_any (s : SlotA) (w : World) (hr : s.reads w) (hl : Fit [s]) :
    Calls Tryd.prog 68 #[.agg s.cells.toArray, .agg #[.bool false, .int .i64 0, .slice none 0 0, .slice none 0 0]] w fun e w' => e = .returned (.bool (isNo s.v)) ∧ Below w.heap.size w w' := by
  obtain ⟨h1, h2⟩ := hl s (List.mem_singleton.2 rfl)
  obtain ⟨W, hW, b0, b1, hbW, hsW⟩ := boxes2 w s.cells [.bool false, .int .i64 0, .slice none 0 0, .slice none 0 0] 28 28
  have hr' : s.reads W := ReadsO.below hr hbW
  obtain ⟨⟨h, o⟩, aI, cI, aR, cR⟩ := s
  simp only [SlotA.cells, SlotA.reads] at *
  clear hsW
  cases h with
  | true =>
    have HE : Hid (isNo ⟨true, o⟩ = false) := isNo_has rfl
    generalize isNo ⟨true, o⟩ = R at *
    go_enter Tryd.func68, Tryd.ntmps68
    go_wp2
    go_ret
    exact ⟨ret_bool HE.out.symm, by rw [hW.out]; exact hbW⟩
  | false =>
    have C1 := specSameObj_any o ⟨0, [], []⟩ aI cI aR cR none 0 none 0 W hr' ⟨ReadsI.nil _ _, ReadsI.nil _ _, fun _ => rfl, fun _ => rfl⟩ h1 h2 (by simp) (by simp)
    simp only [List.length_nil] at C1
    have HE : Hid (isNo ⟨false, o⟩ = sameO o ⟨0, [], []⟩) := isNo_not rfl
    generalize isNo ⟨false, o⟩ = R at *
    generalize sameO o ⟨0, [], []⟩ = R2 at *
    go_enter Tryd.func68, Tryd.ntmps68
    go_wp2_with fail
    rw [hW.out]
    refine C1.mono ?_
    rintro e w1 ⟨rfl, hb1⟩
    go_wp2
    go_ret
    exact ⟨ret_bool HE.out.symm, hbW.trans (hb1.mono hbW.size)⟩

/-- What a kind does not name is zero. -/
def zeroB (r : RecV) (tx oid bf next txs : Bool) : Bool := (tx || (decide (r.tx = 0) && decide (r.prev = 0))) && (oid || (decide (r.oid = 0) && isNo r.af)) && (bf || isNo r.bf) && (next || decide (r.next = 0)) && (txs || decide (r.txs.length = 0))

set_option maxHeartbeats 2000000 in
set_option maxRecDepth 100000 in
theorem l4Zero_check (r : RecA) (w : World) (hr : r.reads w) (hl : r.short 1099511627776) :
    Calls Tryd.prog 34 #[.agg r.cells.toArray, .bool false, .bool false, .bool false, .bool false, .bool true] w fun e w' => e = .returned (.bool (zeroB r.v false false false false true)) ∧ Below w.heap.size w w' := by
  obtain ⟨W, hW, b0, b1, hbW, hsW⟩ := boxes2 w r.cells [.bool false, .int .i64 0, .slice none 0 0, .slice none 0 0] 31 28
  have CB : ∀ u, Below w.heap.size w u → _ := fun u hu => l3SameNone_any r.bf u (ReadsO.below hr.bf hu) (fun s hs => by obtain rfl := List.mem_singleton.1 hs; exact hl.bf)
  have CA : ∀ u, Below w.heap.size w u → _ := fun u hu => l3SameNone_any r.af u (ReadsO.below hr.af hu) (fun s hs => by obtain rfl := List.mem_singleton.1 hs; exact hl.af)
  have HZ : Hid (zeroB r.v false false false false true = ((false || (decide (r.tx = 0) && decide (r.prev = 0))) && (false || (decide (r.oid = 0) && isNo r.af.v)) && (false || isNo r.bf.v) && (false || decide (r.next = 0)) && (true || decide (r.txs.length = 0)))) := rfl
  generalize zeroB r.v false false false false true = R at *
  simp only [RecA.cells] at *
  simp only [SlotA.cells] at CA CB
  clear hsW hr hl
  by_cases h_tx : r.tx = 0
  case neg =>
    have HR : Hid (R = false) := by rw [Hid, HZ.out]; simp [h_tx]
    have h_txb : (r.tx == 0) = false := by simp; exact h_tx
    clear HZ h_tx
    go_enter Tryd.func34, Tryd.ntmps34
    go_wp2
    rw [hW.out]
    go_ret
    exact ⟨ret_bool HR.out.symm, hbW⟩
  case pos =>
  by_cases h_prev : r.prev = 0
  case neg =>
    have HR : Hid (R = false) := by rw [Hid, HZ.out]; simp [h_tx, h_prev]
    have h_txb : (r.tx == 0) = true := by simp; exact h_tx
    have h_prevb : (r.prev == 0) = false := by simp; exact h_prev
    clear HZ h_tx h_prev
    go_enter Tryd.func34, Tryd.ntmps34
    go_wp2
    rw [hW.out]
    go_ret
    exact ⟨ret_bool HR.out.symm, hbW⟩
  case pos =>
  by_cases h_oid : r.oid = 0
  case neg =>
    have HR : Hid (R = false) := by rw [Hid, HZ.out]; simp [h_tx, h_prev, h_oid]
    have h_txb : (r.tx == 0) = true := by simp; exact h_tx
    have h_prevb : (r.prev == 0) = true := by simp; exact h_prev
    have h_oidb : (r.oid == 0) = false := by simp; exact h_oid
    clear HZ h_tx h_prev h_oid
    go_enter Tryd.func34, Tryd.ntmps34
    go_wp2
    rw [hW.out]
    go_ret
    exact ⟨ret_bool HR.out.symm, hbW⟩
  case pos =>
  by_cases h_af : isNo r.af.v = true
  case neg =>
    have HR : Hid (R = false) := by rw [Hid, HZ.out]; simp [h_tx, h_prev, h_oid, h_af]
    have h_txb : (r.tx == 0) = true := by simp; exact h_tx
    have h_prevb : (r.prev == 0) = true := by simp; exact h_prev
    have h_oidb : (r.oid == 0) = true := by simp; exact h_oid
    have h_afb : isNo r.af.v = false := by simpa using h_af
    clear HZ h_tx h_prev h_oid
    go_enter Tryd.func34, Tryd.ntmps34
    go_wp2_with fail
    rw [hW.out]
    clear hW
    refine (CA W hbW).mono ?_
    rintro e w_af ⟨rfl, hb_af⟩
    rw [h_afb]
    have B_af : Below w.heap.size w w_af := (hbW).trans (hb_af.mono (hbW).size)
    have b0_af := b0.below hb_af (b0).lt
    have b1_af := b1.below hb_af (b1).lt
    have x_af5 := b0_af.cell 5 _ rfl
    have x_af6 := b0_af.cell 6 _ rfl
    have x_af7 := b0_af.cell 7 _ rfl
    have x_af8 := b0_af.cell 8 _ rfl
    have x_af13 := b0_af.cell 13 _ rfl
    have x_af14 := b0_af.cell 14 _ rfl
    have y_af0 := b1_af.cell 0 _ rfl
    have y_af1 := b1_af.cell 1 _ rfl
    have y_af2 := b1_af.cell 2 _ rfl
    have y_af3 := b1_af.cell 3 _ rfl
    go_wp2
    go_ret
    exact ⟨ret_bool HR.out.symm, B_af⟩
  case pos =>
  by_cases h_bf : isNo r.bf.v = true
  case neg =>
    have HR : Hid (R = false) := by rw [Hid, HZ.out]; simp [h_tx, h_prev, h_oid, h_af, h_bf]
    have h_txb : (r.tx == 0) = true := by simp; exact h_tx
    have h_prevb : (r.prev == 0) = true := by simp; exact h_prev
    have h_oidb : (r.oid == 0) = true := by simp; exact h_oid
    have h_bfb : isNo r.bf.v = false := by simpa using h_bf
    clear HZ h_tx h_prev h_oid
    go_enter Tryd.func34, Tryd.ntmps34
    go_wp2_with fail
    rw [hW.out]
    clear hW
    refine (CA W hbW).mono ?_
    rintro e w_af ⟨rfl, hb_af⟩
    rw [h_af]
    have B_af : Below w.heap.size w w_af := (hbW).trans (hb_af.mono (hbW).size)
    have b0_af := b0.below hb_af (b0).lt
    have b1_af := b1.below hb_af (b1).lt
    have x_af5 := b0_af.cell 5 _ rfl
    have x_af6 := b0_af.cell 6 _ rfl
    have x_af7 := b0_af.cell 7 _ rfl
    have x_af8 := b0_af.cell 8 _ rfl
    have x_af13 := b0_af.cell 13 _ rfl
    have x_af14 := b0_af.cell 14 _ rfl
    have y_af0 := b1_af.cell 0 _ rfl
    have y_af1 := b1_af.cell 1 _ rfl
    have y_af2 := b1_af.cell 2 _ rfl
    have y_af3 := b1_af.cell 3 _ rfl
    go_wp2_with fail
    refine (CB w_af B_af).mono ?_
    rintro e w_bf ⟨rfl, hb_bf⟩
    rw [h_bfb]
    have B_bf : Below w.heap.size w w_bf := (B_af).trans (hb_bf.mono (B_af).size)
    have b0_bf := b0_af.below hb_bf (b0_af).lt
    have b1_bf := b1_af.below hb_bf (b1_af).lt
    have x_bf13 := b0_bf.cell 13 _ rfl
    have x_bf14 := b0_bf.cell 14 _ rfl
    go_wp2
    go_ret
    exact ⟨ret_bool HR.out.symm, B_bf⟩
  case pos =>
  by_cases h_next : r.next = 0
  case neg =>
    have HR : Hid (R = false) := by rw [Hid, HZ.out]; simp [h_tx, h_prev, h_oid, h_af, h_bf, h_next]
    have h_txb : (r.tx == 0) = true := by simp; exact h_tx
    have h_prevb : (r.prev == 0) = true := by simp; exact h_prev
    have h_oidb : (r.oid == 0) = true := by simp; exact h_oid
    have h_nextb : (r.next == 0) = false := by simp; exact h_next
    clear HZ h_tx h_prev h_oid h_next
    go_enter Tryd.func34, Tryd.ntmps34
    go_wp2_with fail
    rw [hW.out]
    clear hW
    refine (CA W hbW).mono ?_
    rintro e w_af ⟨rfl, hb_af⟩
    rw [h_af]
    have B_af : Below w.heap.size w w_af := (hbW).trans (hb_af.mono (hbW).size)
    have b0_af := b0.below hb_af (b0).lt
    have b1_af := b1.below hb_af (b1).lt
    have x_af5 := b0_af.cell 5 _ rfl
    have x_af6 := b0_af.cell 6 _ rfl
    have x_af7 := b0_af.cell 7 _ rfl
    have x_af8 := b0_af.cell 8 _ rfl
    have x_af13 := b0_af.cell 13 _ rfl
    have x_af14 := b0_af.cell 14 _ rfl
    have y_af0 := b1_af.cell 0 _ rfl
    have y_af1 := b1_af.cell 1 _ rfl
    have y_af2 := b1_af.cell 2 _ rfl
    have y_af3 := b1_af.cell 3 _ rfl
    go_wp2_with fail
    refine (CB w_af B_af).mono ?_
    rintro e w_bf ⟨rfl, hb_bf⟩
    rw [h_bf]
    have B_bf : Below w.heap.size w w_bf := (B_af).trans (hb_bf.mono (B_af).size)
    have b0_bf := b0_af.below hb_bf (b0_af).lt
    have b1_bf := b1_af.below hb_bf (b1_af).lt
    have x_bf13 := b0_bf.cell 13 _ rfl
    have x_bf14 := b0_bf.cell 14 _ rfl
    go_wp2
    go_ret
    exact ⟨ret_bool HR.out.symm, B_bf⟩
  case pos =>
  have HR : Hid (R = true) := by rw [Hid, HZ.out]; simp [h_tx, h_prev, h_oid, h_af, h_bf, h_next]
  have h_txb : (r.tx == 0) = true := by simp; exact h_tx
  have h_prevb : (r.prev == 0) = true := by simp; exact h_prev
  have h_oidb : (r.oid == 0) = true := by simp; exact h_oid
  have h_nextb : (r.next == 0) = true := by simp; exact h_next
  clear HZ h_tx h_prev h_oid h_next
  go_enter Tryd.func34, Tryd.ntmps34
  go_wp2_with fail
  rw [hW.out]
  clear hW
  refine (CA W hbW).mono ?_
  rintro e w_af ⟨rfl, hb_af⟩
  rw [h_af]
  have B_af : Below w.heap.size w w_af := (hbW).trans (hb_af.mono (hbW).size)
  have b0_af := b0.below hb_af (b0).lt
  have b1_af := b1.below hb_af (b1).lt
  have x_af5 := b0_af.cell 5 _ rfl
  have x_af6 := b0_af.cell 6 _ rfl
  have x_af7 := b0_af.cell 7 _ rfl
  have x_af8 := b0_af.cell 8 _ rfl
  have x_af13 := b0_af.cell 13 _ rfl
  have x_af14 := b0_af.cell 14 _ rfl
  have y_af0 := b1_af.cell 0 _ rfl
  have y_af1 := b1_af.cell 1 _ rfl
  have y_af2 := b1_af.cell 2 _ rfl
  have y_af3 := b1_af.cell 3 _ rfl
  go_wp2_with fail
  refine (CB w_af B_af).mono ?_
  rintro e w_bf ⟨rfl, hb_bf⟩
  rw [h_bf]
  have B_bf : Below w.heap.size w w_bf := (B_af).trans (hb_bf.mono (B_af).size)
  have b0_bf := b0_af.below hb_bf (b0_af).lt
  have b1_bf := b1_af.below hb_bf (b1_af).lt
  have x_bf13 := b0_bf.cell 13 _ rfl
  have x_bf14 := b0_bf.cell 14 _ rfl
  go_wp2
  go_ret
  exact ⟨ret_bool HR.out.symm, B_bf⟩

set_option maxHeartbeats 2000000 in
set_option maxRecDepth 100000 in
theorem l4Zero_set (r : RecA) (w : World) (hr : r.reads w) (hl : r.short 1099511627776) :
    Calls Tryd.prog 34 #[.agg r.cells.toArray, .bool true, .bool true, .bool true, .bool false, .bool false] w fun e w' => e = .returned (.bool (zeroB r.v true true true false false)) ∧ Below w.heap.size w w' := by
  obtain ⟨W, hW, b0, b1, hbW, hsW⟩ := boxes2 w r.cells [.bool false, .int .i64 0, .slice none 0 0, .slice none 0 0] 31 28
  have CB : ∀ u, Below w.heap.size w u → _ := fun u hu => l3SameNone_any r.bf u (ReadsO.below hr.bf hu) (fun s hs => by obtain rfl := List.mem_singleton.1 hs; exact hl.bf)
  have CA : ∀ u, Below w.heap.size w u → _ := fun u hu => l3SameNone_any r.af u (ReadsO.below hr.af hu) (fun s hs => by obtain rfl := List.mem_singleton.1 hs; exact hl.af)
  have HZ : Hid (zeroB r.v true true true false false = ((true || (decide (r.tx = 0) && decide (r.prev = 0))) && (true || (decide (r.oid = 0) && isNo r.af.v)) && (true || isNo r.bf.v) && (false || decide (r.next = 0)) && (false || decide (r.txs.length = 0)))) := rfl
  generalize zeroB r.v true true true false false = R at *
  simp only [RecA.cells] at *
  simp only [SlotA.cells] at CA CB
  clear hsW hr hl
  by_cases h_next : r.next = 0
  case neg =>
    have HR : Hid (R = false) := by rw [Hid, HZ.out]; simp [h_next]
    have h_nextb : (r.next == 0) = false := by simp; exact h_next
    clear HZ h_next
    go_enter Tryd.func34, Tryd.ntmps34
    go_wp2
    rw [hW.out]
    go_ret
    exact ⟨ret_bool HR.out.symm, hbW⟩
  case pos =>
  by_cases h_txs : r.txs.length = 0
  case neg =>
    have HR : Hid (R = false) := by rw [Hid, HZ.out]; simp [h_next, h_txs]
    have h_nextb : (r.next == 0) = true := by simp; exact h_next
    have h_txsb : ((r.txs.length : Int) == 0) = false := by simp; exact fun e => h_txs (by rw [e]; rfl)
    clear HZ h_next h_txs
    go_enter Tryd.func34, Tryd.ntmps34
    go_wp2
    rw [hW.out]
    go_ret
    exact ⟨ret_bool HR.out.symm, hbW⟩
  case pos =>
  have HR : Hid (R = true) := by rw [Hid, HZ.out]; simp [h_next, h_txs]
  have h_nextb : (r.next == 0) = true := by simp; exact h_next
  have h_txsb : ((r.txs.length : Int) == 0) = true := by simp; exact List.length_eq_zero_iff.1 h_txs
  clear HZ h_next h_txs
  go_enter Tryd.func34, Tryd.ntmps34
  go_wp2
  rw [hW.out]
  go_ret
  exact ⟨ret_bool HR.out.symm, hbW⟩

set_option maxHeartbeats 2000000 in
set_option maxRecDepth 100000 in
theorem l4Zero_back (r : RecA) (w : World) (hr : r.reads w) (hl : r.short 1099511627776) :
    Calls Tryd.prog 34 #[.agg r.cells.toArray, .bool true, .bool true, .bool false, .bool true, .bool false] w fun e w' => e = .returned (.bool (zeroB r.v true true false true false)) ∧ Below w.heap.size w w' := by
  obtain ⟨W, hW, b0, b1, hbW, hsW⟩ := boxes2 w r.cells [.bool false, .int .i64 0, .slice none 0 0, .slice none 0 0] 31 28
  have CB : ∀ u, Below w.heap.size w u → _ := fun u hu => l3SameNone_any r.bf u (ReadsO.below hr.bf hu) (fun s hs => by obtain rfl := List.mem_singleton.1 hs; exact hl.bf)
  have CA : ∀ u, Below w.heap.size w u → _ := fun u hu => l3SameNone_any r.af u (ReadsO.below hr.af hu) (fun s hs => by obtain rfl := List.mem_singleton.1 hs; exact hl.af)
  have HZ : Hid (zeroB r.v true true false true false = ((true || (decide (r.tx = 0) && decide (r.prev = 0))) && (true || (decide (r.oid = 0) && isNo r.af.v)) && (false || isNo r.bf.v) && (true || decide (r.next = 0)) && (false || decide (r.txs.length = 0)))) := rfl
  generalize zeroB r.v true true false true false = R at *
  simp only [RecA.cells] at *
  simp only [SlotA.cells] at CA CB
  clear hsW hr hl
  by_cases h_bf : isNo r.bf.v = true
  case neg =>
    have HR : Hid (R = false) := by rw [Hid, HZ.out]; simp [h_bf]
    have h_bfb : isNo r.bf.v = false := by simpa using h_bf
    clear HZ 
    go_enter Tryd.func34, Tryd.ntmps34
    go_wp2_with fail
    rw [hW.out]
    clear hW
    refine (CB W hbW).mono ?_
    rintro e w_bf ⟨rfl, hb_bf⟩
    rw [h_bfb]
    have B_bf : Below w.heap.size w w_bf := (hbW).trans (hb_bf.mono (hbW).size)
    have b0_bf := b0.below hb_bf (b0).lt
    have b1_bf := b1.below hb_bf (b1).lt
    have x_bf13 := b0_bf.cell 13 _ rfl
    have x_bf14 := b0_bf.cell 14 _ rfl
    go_wp2
    go_ret
    exact ⟨ret_bool HR.out.symm, B_bf⟩
  case pos =>
  by_cases h_txs : r.txs.length = 0
  case neg =>
    have HR : Hid (R = false) := by rw [Hid, HZ.out]; simp [h_bf, h_txs]
    have h_txsb : ((r.txs.length : Int) == 0) = false := by simp; exact fun e => h_txs (by rw [e]; rfl)
    clear HZ h_txs
    go_enter Tryd.func34, Tryd.ntmps34
    go_wp2_with fail
    rw [hW.out]
    clear hW
    refine (CB W hbW).mono ?_
    rintro e w_bf ⟨rfl, hb_bf⟩
    rw [h_bf]
    have B_bf : Below w.heap.size w w_bf := (hbW).trans (hb_bf.mono (hbW).size)
    have b0_bf := b0.below hb_bf (b0).lt
    have b1_bf := b1.below hb_bf (b1).lt
    have x_bf13 := b0_bf.cell 13 _ rfl
    have x_bf14 := b0_bf.cell 14 _ rfl
    go_wp2
    go_ret
    exact ⟨ret_bool HR.out.symm, B_bf⟩
  case pos =>
  have HR : Hid (R = true) := by rw [Hid, HZ.out]; simp [h_bf, h_txs]
  have h_txsb : ((r.txs.length : Int) == 0) = true := by simp; exact List.length_eq_zero_iff.1 h_txs
  clear HZ h_txs
  go_enter Tryd.func34, Tryd.ntmps34
  go_wp2_with fail
  rw [hW.out]
  clear hW
  refine (CB W hbW).mono ?_
  rintro e w_bf ⟨rfl, hb_bf⟩
  rw [h_bf]
  have B_bf : Below w.heap.size w w_bf := (hbW).trans (hb_bf.mono (hbW).size)
  have b0_bf := b0.below hb_bf (b0).lt
  have b1_bf := b1.below hb_bf (b1).lt
  have x_bf13 := b0_bf.cell 13 _ rfl
  have x_bf14 := b0_bf.cell 14 _ rfl
  go_wp2
  go_ret
  exact ⟨ret_bool HR.out.symm, B_bf⟩

set_option maxHeartbeats 2000000 in
set_option maxRecDepth 100000 in
theorem l4Zero_end (r : RecA) (w : World) (hr : r.reads w) (hl : r.short 1099511627776) :
    Calls Tryd.prog 34 #[.agg r.cells.toArray, .bool true, .bool false, .bool false, .bool false, .bool false] w fun e w' => e = .returned (.bool (zeroB r.v true false false false false)) ∧ Below w.heap.size w w' := by
  obtain ⟨W, hW, b0, b1, hbW, hsW⟩ := boxes2 w r.cells [.bool false, .int .i64 0, .slice none 0 0, .slice none 0 0] 31 28
  have CB : ∀ u, Below w.heap.size w u → _ := fun u hu => l3SameNone_any r.bf u (ReadsO.below hr.bf hu) (fun s hs => by obtain rfl := List.mem_singleton.1 hs; exact hl.bf)
  have CA : ∀ u, Below w.heap.size w u → _ := fun u hu => l3SameNone_any r.af u (ReadsO.below hr.af hu) (fun s hs => by obtain rfl := List.mem_singleton.1 hs; exact hl.af)
  have HZ : Hid (zeroB r.v true false false false false = ((true || (decide (r.tx = 0) && decide (r.prev = 0))) && (false || (decide (r.oid = 0) && isNo r.af.v)) && (false || isNo r.bf.v) && (false || decide (r.next = 0)) && (false || decide (r.txs.length = 0)))) := rfl
  generalize zeroB r.v true false false false false = R at *
  simp only [RecA.cells] at *
  simp only [SlotA.cells] at CA CB
  clear hsW hr hl
  by_cases h_oid : r.oid = 0
  case neg =>
    have HR : Hid (R = false) := by rw [Hid, HZ.out]; simp [h_oid]
    have h_oidb : (r.oid == 0) = false := by simp; exact h_oid
    clear HZ h_oid
    go_enter Tryd.func34, Tryd.ntmps34
    go_wp2
    rw [hW.out]
    go_ret
    exact ⟨ret_bool HR.out.symm, hbW⟩
  case pos =>
  by_cases h_af : isNo r.af.v = true
  case neg =>
    have HR : Hid (R = false) := by rw [Hid, HZ.out]; simp [h_oid, h_af]
    have h_oidb : (r.oid == 0) = true := by simp; exact h_oid
    have h_afb : isNo r.af.v = false := by simpa using h_af
    clear HZ h_oid
    go_enter Tryd.func34, Tryd.ntmps34
    go_wp2_with fail
    rw [hW.out]
    clear hW
    refine (CA W hbW).mono ?_
    rintro e w_af ⟨rfl, hb_af⟩
    rw [h_afb]
    have B_af : Below w.heap.size w w_af := (hbW).trans (hb_af.mono (hbW).size)
    have b0_af := b0.below hb_af (b0).lt
    have b1_af := b1.below hb_af (b1).lt
    have x_af5 := b0_af.cell 5 _ rfl
    have x_af6 := b0_af.cell 6 _ rfl
    have x_af7 := b0_af.cell 7 _ rfl
    have x_af8 := b0_af.cell 8 _ rfl
    have x_af13 := b0_af.cell 13 _ rfl
    have x_af14 := b0_af.cell 14 _ rfl
    have y_af0 := b1_af.cell 0 _ rfl
    have y_af1 := b1_af.cell 1 _ rfl
    have y_af2 := b1_af.cell 2 _ rfl
    have y_af3 := b1_af.cell 3 _ rfl
    go_wp2
    go_ret
    exact ⟨ret_bool HR.out.symm, B_af⟩
  case pos =>
  by_cases h_bf : isNo r.bf.v = true
  case neg =>
    have HR : Hid (R = false) := by rw [Hid, HZ.out]; simp [h_oid, h_af, h_bf]
    have h_oidb : (r.oid == 0) = true := by simp; exact h_oid
    have h_bfb : isNo r.bf.v = false := by simpa using h_bf
    clear HZ h_oid
    go_enter Tryd.func34, Tryd.ntmps34
    go_wp2_with fail
    rw [hW.out]
    clear hW
    refine (CA W hbW).mono ?_
    rintro e w_af ⟨rfl, hb_af⟩
    rw [h_af]
    have B_af : Below w.heap.size w w_af := (hbW).trans (hb_af.mono (hbW).size)
    have b0_af := b0.below hb_af (b0).lt
    have b1_af := b1.below hb_af (b1).lt
    have x_af5 := b0_af.cell 5 _ rfl
    have x_af6 := b0_af.cell 6 _ rfl
    have x_af7 := b0_af.cell 7 _ rfl
    have x_af8 := b0_af.cell 8 _ rfl
    have x_af13 := b0_af.cell 13 _ rfl
    have x_af14 := b0_af.cell 14 _ rfl
    have y_af0 := b1_af.cell 0 _ rfl
    have y_af1 := b1_af.cell 1 _ rfl
    have y_af2 := b1_af.cell 2 _ rfl
    have y_af3 := b1_af.cell 3 _ rfl
    go_wp2_with fail
    refine (CB w_af B_af).mono ?_
    rintro e w_bf ⟨rfl, hb_bf⟩
    rw [h_bfb]
    have B_bf : Below w.heap.size w w_bf := (B_af).trans (hb_bf.mono (B_af).size)
    have b0_bf := b0_af.below hb_bf (b0_af).lt
    have b1_bf := b1_af.below hb_bf (b1_af).lt
    have x_bf13 := b0_bf.cell 13 _ rfl
    have x_bf14 := b0_bf.cell 14 _ rfl
    go_wp2
    go_ret
    exact ⟨ret_bool HR.out.symm, B_bf⟩
  case pos =>
  by_cases h_next : r.next = 0
  case neg =>
    have HR : Hid (R = false) := by rw [Hid, HZ.out]; simp [h_oid, h_af, h_bf, h_next]
    have h_oidb : (r.oid == 0) = true := by simp; exact h_oid
    have h_nextb : (r.next == 0) = false := by simp; exact h_next
    clear HZ h_oid h_next
    go_enter Tryd.func34, Tryd.ntmps34
    go_wp2_with fail
    rw [hW.out]
    clear hW
    refine (CA W hbW).mono ?_
    rintro e w_af ⟨rfl, hb_af⟩
    rw [h_af]
    have B_af : Below w.heap.size w w_af := (hbW).trans (hb_af.mono (hbW).size)
    have b0_af := b0.below hb_af (b0).lt
    have b1_af := b1.below hb_af (b1).lt
    have x_af5 := b0_af.cell 5 _ rfl
    have x_af6 := b0_af.cell 6 _ rfl
    have x_af7 := b0_af.cell 7 _ rfl
    have x_af8 := b0_af.cell 8 _ rfl
    have x_af13 := b0_af.cell 13 _ rfl
    have x_af14 := b0_af.cell 14 _ rfl
    have y_af0 := b1_af.cell 0 _ rfl
    have y_af1 := b1_af.cell 1 _ rfl
    have y_af2 := b1_af.cell 2 _ rfl
    have y_af3 := b1_af.cell 3 _ rfl
    go_wp2_with fail
    refine (CB w_af B_af).mono ?_
    rintro e w_bf ⟨rfl, hb_bf⟩
    rw [h_bf]
    have B_bf : Below w.heap.size w w_bf := (B_af).trans (hb_bf.mono (B_af).size)
    have b0_bf := b0_af.below hb_bf (b0_af).lt
    have b1_bf := b1_af.below hb_bf (b1_af).lt
    have x_bf13 := b0_bf.cell 13 _ rfl
    have x_bf14 := b0_bf.cell 14 _ rfl
    go_wp2
    go_ret
    exact ⟨ret_bool HR.out.symm, B_bf⟩
  case pos =>
  by_cases h_txs : r.txs.length = 0
  case neg =>
    have HR : Hid (R = false) := by rw [Hid, HZ.out]; simp [h_oid, h_af, h_bf, h_next, h_txs]
    have h_oidb : (r.oid == 0) = true := by simp; exact h_oid
    have h_nextb : (r.next == 0) = true := by simp; exact h_next
    have h_txsb : ((r.txs.length : Int) == 0) = false := by simp; exact fun e => h_txs (by rw [e]; rfl)
    clear HZ h_oid h_next h_txs
    go_enter Tryd.func34, Tryd.ntmps34
    go_wp2_with fail
    rw [hW.out]
    clear hW
    refine (CA W hbW).mono ?_
    rintro e w_af ⟨rfl, hb_af⟩
    rw [h_af]
    have B_af : Below w.heap.size w w_af := (hbW).trans (hb_af.mono (hbW).size)
    have b0_af := b0.below hb_af (b0).lt
    have b1_af := b1.below hb_af (b1).lt
    have x_af5 := b0_af.cell 5 _ rfl
    have x_af6 := b0_af.cell 6 _ rfl
    have x_af7 := b0_af.cell 7 _ rfl
    have x_af8 := b0_af.cell 8 _ rfl
    have x_af13 := b0_af.cell 13 _ rfl
    have x_af14 := b0_af.cell 14 _ rfl
    have y_af0 := b1_af.cell 0 _ rfl
    have y_af1 := b1_af.cell 1 _ rfl
    have y_af2 := b1_af.cell 2 _ rfl
    have y_af3 := b1_af.cell 3 _ rfl
    go_wp2_with fail
    refine (CB w_af B_af).mono ?_
    rintro e w_bf ⟨rfl, hb_bf⟩
    rw [h_bf]
    have B_bf : Below w.heap.size w w_bf := (B_af).trans (hb_bf.mono (B_af).size)
    have b0_bf := b0_af.below hb_bf (b0_af).lt
    have b1_bf := b1_af.below hb_bf (b1_af).lt
    have x_bf13 := b0_bf.cell 13 _ rfl
    have x_bf14 := b0_bf.cell 14 _ rfl
    go_wp2
    go_ret
    exact ⟨ret_bool HR.out.symm, B_bf⟩
  case pos =>
  have HR : Hid (R = true) := by rw [Hid, HZ.out]; simp [h_oid, h_af, h_bf, h_next, h_txs]
  have h_oidb : (r.oid == 0) = true := by simp; exact h_oid
  have h_nextb : (r.next == 0) = true := by simp; exact h_next
  have h_txsb : ((r.txs.length : Int) == 0) = true := by simp; exact List.length_eq_zero_iff.1 h_txs
  clear HZ h_oid h_next h_txs
  go_enter Tryd.func34, Tryd.ntmps34
  go_wp2_with fail
  rw [hW.out]
  clear hW
  refine (CA W hbW).mono ?_
  rintro e w_af ⟨rfl, hb_af⟩
  rw [h_af]
  have B_af : Below w.heap.size w w_af := (hbW).trans (hb_af.mono (hbW).size)
  have b0_af := b0.below hb_af (b0).lt
  have b1_af := b1.below hb_af (b1).lt
  have x_af5 := b0_af.cell 5 _ rfl
  have x_af6 := b0_af.cell 6 _ rfl
  have x_af7 := b0_af.cell 7 _ rfl
  have x_af8 := b0_af.cell 8 _ rfl
  have x_af13 := b0_af.cell 13 _ rfl
  have x_af14 := b0_af.cell 14 _ rfl
  have y_af0 := b1_af.cell 0 _ rfl
  have y_af1 := b1_af.cell 1 _ rfl
  have y_af2 := b1_af.cell 2 _ rfl
  have y_af3 := b1_af.cell 3 _ rfl
  go_wp2_with fail
  refine (CB w_af B_af).mono ?_
  rintro e w_bf ⟨rfl, hb_bf⟩
  rw [h_bf]
  have B_bf : Below w.heap.size w w_bf := (B_af).trans (hb_bf.mono (B_af).size)
  have b0_bf := b0_af.below hb_bf (b0_af).lt
  have b1_bf := b1_af.below hb_bf (b1_af).lt
  have x_bf13 := b0_bf.cell 13 _ rfl
  have x_bf14 := b0_bf.cell 14 _ rfl
  go_wp2
  go_ret
  exact ⟨ret_bool HR.out.symm, B_bf⟩

end Go.Proofs.YtjaojcgfgkppgaaDoor
