/- Several texts in one, in their order. -/
import Derived.Test.YtnnehpimkdoeoaaPChainx9
import Derived.Test.YtnnehpimkdoeoaaPChainx5
import Derived.Deep.RegionHeld3
/- The walks of laws.szSlot, szSlotA4, szPage. -/
namespace Go.Proofs.Ytnnehpimkdoeoaa
open Go.RowKit

/-- What a size's reckoner answers: below 0, or what is left, and these slots are small. -/
def SzAns (ss : List SlotA) (left z : Int) : Prop := z < 0 ∨ (0 ≤ z ∧ z ≤ left ∧ ∀ s ∈ ss, s.v.o.ints.length ≤ 1048576 ∧ s.v.o.refs.length ≤ 1048576)

theorem szAns_obj (s : SlotA) (left : Int) (h : 0 ≤ left ∧ left ≤ 1048576) : SzAns [s] left (szObjOf s.v.o left) := by
  unfold SzAns szObjOf
  split
  · exact .inl (by omega)
  · split
    · exact .inl (by omega)
    · exact .inr ⟨by omega, by omega, by intro t ht; obtain rfl := List.mem_singleton.1 ht; omega⟩
def Small (ss : List SlotA) : Prop := ∀ s ∈ ss, s.v.o.ints.length ≤ 9223372036854775807 ∧ s.v.o.refs.length ≤ 9223372036854775807

set_option maxHeartbeats 400000 in
set_option maxRecDepth 100000 in
theorem szSlot_any (s : SlotA) (left : Int) (w : World) (hn : Small [s]) (h0 : 0 ≤ left ∧ left ≤ 1048576) :
    Calls Try.prog 23 #[.agg s.cells.toArray, .int .i64 left] w fun e w' => ∃ z, e = .returned (.int .i64 z) ∧ SzAns [s] left z ∧ Below w.heap.size w w' := by
  have HA : Hid _ := szAns_obj s left h0
  obtain ⟨h1, h2⟩ := hn s (List.mem_singleton.2 rfl)
  obtain ⟨W, hW, b0, hbW, hsW⟩ := boxes1 w s.cells 54
  simp only [SlotA.cells] at *
  go_enter Try.func23, Try.ntmps23
  go_wp2_with fail
  rw [hW.out]
  refine (szObj_any s.v.o s.aI s.cI s.aR s.cR left W h1 h2 h0).mono ?_
  rintro e w1 ⟨rfl, hb1⟩
  generalize szObjOf s.v.o left = z at *
  clear hsW
  by_cases hz : z < 0
  · go_wp2
    go_ret
    exact ⟨-1, rfl, .inl (by omega), hbW.trans (hb1.mono hbW.size)⟩
  · go_wp2
    go_ret
    exact ⟨z, rfl, HA.out, hbW.trans (hb1.mono hbW.size)⟩

end Go.Proofs.Ytnnehpimkdoeoaa

/- The walks of laws.eqSlot, eqSlotA4, eqPage, where both say the same. -/
namespace Go.Proofs.Ytnnehpimkdoeoaa
open Go.RowKit

set_option maxHeartbeats 400000 in
set_option maxRecDepth 100000 in
theorem eqSlot_same (s t : SlotA) (he : t.v = s.v) (w : World) (hs : s.reads w) (ht : t.reads w) (hlI : s.v.o.ints.length ≤ 1099511627776) (hlR : s.v.o.refs.length ≤ 1099511627776) :
    Calls Try.prog 27 #[.agg s.cells.toArray, .agg t.cells.toArray] w fun e w' => e = .returned (.bool true) ∧ Below w.heap.size w w' := by
  obtain ⟨v, aI, cI, aR, cR⟩ := s
  obtain ⟨v', bI, dI, bR, dR⟩ := t
  simp only at he
  subst he
  obtain ⟨h, ⟨k, ints, refs⟩⟩ := v'
  simp only [SlotA.cells, SlotA.reads] at *
  obtain ⟨W, hW, b0, b1, hbW, hsW⟩ := boxes2 w [.bool h, .int .i64 k, .slice aI ints.length cI, .slice aR refs.length cR] [.bool h, .int .i64 k, .slice bI ints.length dI, .slice bR refs.length dR] 41 41
  go_enter Try.func27, Try.ntmps27
  go_wp2_with fail
  rw [hW.out]
  clear hW
  refine (eqObj_same ⟨k, ints, refs⟩ aI cI aR cR bI dI bR dR W (hs.below hbW) (ht.below hbW) hlI hlR).mono ?_
  rintro e w1 ⟨rfl, hb1⟩
  go_wp2
  go_ret
  exact ⟨rfl, hbW.trans (hb1.mono hbW.size)⟩

theorem same_at {ss ts : List SlotA} (h : ts.map (·.v) = ss.map (·.v)) (k : Nat) : (ts.getD k zeroS).v = (ss.getD k zeroS).v := by
  have := congrArg (fun l => l[k]?) h
  simp only [List.getElem?_map] at this
  simp only [List.getD]
  cases h1 : ts[k]? <;> cases h2 : ss[k]? <;> simp_all

end Go.Proofs.Ytnnehpimkdoeoaa

/- The walks of laws.szLiveS, szRec, eqRec. -/
namespace Go.Proofs.Ytnnehpimkdoeoaa
open Go.RowKit

set_option maxHeartbeats 400000 in
theorem szLiveS_any (a : Option Addr) (c n : Nat) (left : Int) (w : World) (hn : n ≤ 9223372036854775807) (h0 : 0 ≤ left ∧ left ≤ 1048576) :
    Calls Try.prog 24 #[.slice a n c, .int .i64 left] w fun e w' => e = .returned (.int .i64 (szOf n left)) ∧ w' = w := by
  by_cases h : left - n < 0
  · have HS : Hid (szOf n left = -1) := by unfold szOf; rw [Hid, if_pos h]
    go_enter Try.func24, Try.ntmps24
    go_wp2
    go_ret
    exact ⟨ret_int HS.out.symm, rfl⟩
  · have HS : Hid (szOf n left = left - n) := by unfold szOf; rw [Hid, if_neg h]
    go_enter Try.func24, Try.ntmps24
    go_wp2
    go_ret
    exact ⟨ret_int HS.out.symm, rfl⟩

/-- A record whose lists are short. -/
structure RecA.short (r : RecA) (m : Nat) : Prop where
  bf : r.bf.v.o.ints.length ≤ m ∧ r.bf.v.o.refs.length ≤ m
  af : r.af.v.o.ints.length ≤ m ∧ r.af.v.o.refs.length ≤ m
  txs : r.txs.length ≤ m

set_option maxHeartbeats 1000000 in
set_option maxRecDepth 100000 in
theorem szRec_any (r : RecA) (left : Int) (w : World) (hn : r.short 9223372036854775807) (h0 : 0 ≤ left ∧ left ≤ 1048576) :
    Calls Try.prog 18 #[.agg r.cells.toArray, .int .i64 left] w fun e w' => ∃ z, e = .returned (.int .i64 z) ∧ (z < 0 ∨ (0 ≤ z ∧ z ≤ left ∧ r.short 1048576)) ∧ Below w.heap.size w w' := by
  obtain ⟨W, hW, b0, hbW, hsW⟩ := boxes1 w r.cells 57
  have hb0 : Below w.heap.size w W := hbW
  have C1 := szSlot_any r.bf left W (by intro s hs; obtain rfl := List.mem_singleton.1 hs; exact hn.bf) h0
  have hnl := hn.txs
  have hna : Small [r.af] := by intro s hs; obtain rfl := List.mem_singleton.1 hs; exact hn.af
  clear hsW hn
  simp only [RecA.cells] at *
  simp only [SlotA.cells] at C1
  go_enter Try.func18, Try.ntmps18
  go_wp2_with fail
  rw [hW.out]
  clear hW
  refine C1.mono ?_
  clear C1
  rintro e w1 ⟨z1, rfl, hz1, hb1⟩
  have b01 := b0.below hb1 b0.lt
  have B1 : Below w.heap.size w w1 := hbW.trans (hb1.mono hbW.size)
  clear b0 hb1 hbW
  rcases hz1 with hz | ⟨hz0, hzl, hs1⟩
  · go_wp2
    go_ret
    exact ⟨-1, rfl, .inl (by omega), B1⟩
  have hzn : ¬ z1 < 0 := by omega
  have c9 := b01.cell 9 _ rfl
  have c10 := b01.cell 10 _ rfl
  have c11 := b01.cell 11 _ rfl
  have c12 := b01.cell 12 _ rfl
  have C2 := szSlot_any r.af z1 w1 hna (by omega)
  simp only [SlotA.cells] at C2
  go_wp2_with fail
  refine C2.mono ?_
  clear C2 c9 c10 c11 c12
  rintro e w2 ⟨z2, rfl, hz2, hb2⟩
  have b02 := b01.below hb2 b01.lt
  have B2 : Below w.heap.size w w2 := B1.trans (hb2.mono B1.size)
  clear b01 hb2 B1
  rcases hz2 with hz | ⟨hz20, hz2l, hs2⟩
  · go_wp2
    go_ret
    exact ⟨-1, rfl, .inl (by omega), B2⟩
  have hzn2 : ¬ z2 < 0 := by omega
  have c14 := b02.cell 14 _ rfl
  have C3 := szLiveS_any r.aL r.cL r.txs.length z2 w2 hnl (by omega)
  go_wp2_with fail
  refine C3.mono ?_
  clear C3 c14
  rintro e w3 ⟨rfl, rfl⟩
  by_cases h : z2 - r.txs.length < 0
  · have HS : Hid (szOf r.txs.length z2 = -1) := by unfold szOf; rw [Hid, if_pos h]
    rw [HS.out]
    go_wp2
    go_ret
    exact ⟨-1, rfl, .inl (by omega), B2⟩
  · have HS : Hid (szOf r.txs.length z2 = z2 - r.txs.length) := by unfold szOf; rw [Hid, if_neg h]
    have HR : Hid (r.short 1048576) := ⟨hs1 _ (List.mem_singleton.2 rfl), hs2 _ (List.mem_singleton.2 rfl), by omega⟩
    rw [HS.out]
    go_wp2
    go_ret
    exact ⟨z2 - r.txs.length, rfl, .inr ⟨by omega, by omega, HR.out⟩, B2⟩

set_option maxHeartbeats 1000000 in
set_option maxRecDepth 100000 in
theorem eqRec_same (r t : RecA) (he : t.v = r.v) (w : World) (hr : r.reads w) (ht : t.reads w) (hl : r.short 1099511627776) :
    Calls Try.prog 21 #[.agg r.cells.toArray, .agg t.cells.toArray] w fun e w' => e = .returned (.bool true) ∧ Below w.heap.size w w' := by
  obtain ⟨W, hW, b0, b1, hbW, hsW⟩ := boxes2 w r.cells t.cells 44 44
  simp only [RecA.v, RecV.mk.injEq] at he
  obtain ⟨e1, e2, e3, e4, e5, e6, e7, e8, e9⟩ := he
  have C1 := eqSlot_same r.bf t.bf e6 W (ReadsO.below hr.bf hbW) (ReadsO.below ht.bf hbW) hl.bf.1 hl.bf.2
  have HL : Hid (_ ∧ _) := ⟨hl.af, hl.txs⟩
  have HR : Hid (_ ∧ _) := ⟨hr, ht⟩
  have HE : Hid (_ ∧ _) := ⟨e7, e9⟩
  clear hsW hl hr ht e6 e7 e9
  simp only [RecA.cells] at *
  simp only [SlotA.cells] at C1
  simp only [e1, e2, e3, e4, e5, e8] at b1 hW ⊢
  clear e1 e2 e3 e4 e5 e8
  go_enter Try.func21, Try.ntmps21
  go_wp2_with fail
  rw [hW.out]
  clear hW
  refine C1.mono ?_
  clear C1
  rintro e w1 ⟨rfl, hb1⟩
  have b01 := b0.below hb1 b0.lt
  have b11 := b1.below hb1 b1.lt
  have B1 : Below w.heap.size w w1 := hbW.trans (hb1.mono hbW.size)
  clear b0 b1 hb1 hbW
  have c9 := b01.cell 9 _ rfl
  have d9 := b11.cell 9 _ rfl
  have c10 := b01.cell 10 _ rfl
  have d10 := b11.cell 10 _ rfl
  have c11 := b01.cell 11 _ rfl
  have d11 := b11.cell 11 _ rfl
  have c12 := b01.cell 12 _ rfl
  have d12 := b11.cell 12 _ rfl
  have C2 := eqSlot_same r.af t.af HE.out.1 w1 (ReadsO.below HR.out.1.af B1) (ReadsO.below HR.out.2.af B1) HL.out.1.1 HL.out.1.2
  simp only [SlotA.cells] at C2
  go_wp2_with fail
  refine C2.mono ?_
  clear C2
  rintro e w2 ⟨rfl, hb2⟩
  have b02 := b01.below hb2 b01.lt
  have b12 := b11.below hb2 b11.lt
  have B2 : Below w.heap.size w w2 := B1.trans (hb2.mono B1.size)
  clear b01 b11 hb2 B1 c9 d9 c10 d10 c11 d11 c12 d12
  have c13 := b02.cell 13 _ rfl
  have d13 := b12.cell 13 _ rfl
  have c14 := b02.cell 14 _ rfl
  have d14 := b12.cell 14 _ rfl
  have C3 := eqLiveS_same r.aL t.aL r.cL t.cL r.txs w2 (HR.out.1.txs.below B2) (by have := HR.out.2.txs.below B2; rw [HE.out.2] at this; exact this) HL.out.2
  have hte : t.txs.length = r.txs.length := by rw [HE.out.2]
  rw [hte] at d14
  go_wp2_with fail
  refine C3.mono ?_
  clear C3
  rintro e w3 ⟨rfl, hb3⟩
  go_wp2
  go_ret
  exact ⟨rfl, B2.trans (hb3.mono B2.size)⟩
end Go.Proofs.Ytnnehpimkdoeoaa
