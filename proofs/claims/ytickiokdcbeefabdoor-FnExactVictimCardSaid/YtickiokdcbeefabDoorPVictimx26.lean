/- Several texts in one, in their order. -/
import Derived.Test.YtickiokdcbeefabDoorPVictimx24
import Derived.Test.YtickiokdcbeefabDoorPVictimx25
import Derived.Test.YtickiokdcbeefabDoorPVictimx21
import Derived.WalkMore
import Derived.ScopeJumps
import Derived.Test.YtickiokdcbeefabDoorPVictimx22
import Derived.Test.YtickiokdcbeefabDoorPVictimx23
import Derived.Test.YtickiokdcbeefabDoorPVictimx14
import Derived.Test.YtickiokdcbeefabDoorPVictimx20
import Derived.Deep.CutRange
/- The walks of spec.Victim and impl.Victim. -/
namespace Go.Proofs.YtickiokdcbeefabDoor
open Go.RowKit

/-- What Victim answers. -/
def VictimAns (p : PoolA) (w : World) (e : Ending) (w' : World) : Prop :=
  ∃ (t : PoolA) (k : Int), e = .returned (.tuple #[.agg t.cells.toArray, .int .i64 k]) ∧ Hid (victimOf p.v = (t.v, k)) ∧ t.own w' w.heap.size w'.heap.size ∧ Below w.heap.size w w'
theorem victimOf_no {p : PoolV} (h : ¬ (okPool p = true ∧ p.seats.length = 3)) : victimOf p = (p, -1) := by rw [victimOf, if_neg h]
theorem victimOf_yes {p : PoolV} {h : Nat} (h1 : okPool p = true) (h2 : p.seats.length = 3) (hh : p.hand = h) : victimOf p = (PoolV.mk (victimV 4 p.seats h).1 ((victimV 4 p.seats h).2.1 : Int), ((victimV 4 p.seats h).2.2 : Int)) := by
  rw [victimOf, if_pos ⟨h1, h2⟩, hh]
  rfl
theorem okPool_handNat {p : PoolV} (h : okPool p = true) : ∃ n : Nat, p.hand = n ∧ n < 3 := by
  have h2 := (okPool_iff h).2.1
  simp only [inB, decide_eq_true_eq] at h2
  exact ⟨p.hand.toNat, by omega, by omega⟩

set_option maxHeartbeats 2000000 in
set_option maxRecDepth 100000 in
theorem specVictim_any (p : PoolA) (w : World) (hr : p.reads w) (hl : p.short 1048576) :
    Calls Tryd.prog 7 #[.agg p.cells.toArray] w fun e w' => VictimAns p w e w' := by
  obtain ⟨W, hW, b0, b1, hbW, hsW⟩ := boxes2 w [.slice p.a p.seats.length p.c, .int .i64 p.hand] [.slice none 0 0, .int .i64 0] 28 28
  have hs0 : w.heap.size + 1 < W.heap.size := by omega
  have p0 := b0.cell 0 _ rfl
  have p1 := b0.cell 1 _ rfl
  have C := l6Copy_any p W (PoolA.reads.below hr hbW) hl
  simp only [PoolA.cells] at *
  clear hsW
  go_enter Tryd.func7, Tryd.ntmps7
  go_upto_region 1 with fail
  rw [hW.out]
  clear hW
  go_wp2_with fail
  refine C.mono ?_
  clear C p0 p1
  rintro e w1 ⟨t, rfl, hv, ho, hb1⟩
  have hs1 := hb1.size
  have b01 := b0.below hb1 b0.lt
  have b11 := b1.below hb1 b1.lt
  obtain ⟨W2, hW2, b2, hb2, hs2⟩ := boxes1 w1 [.slice t.a t.seats.length t.c, .int .i64 t.hand] 28
  have b02 := b01.below hb2 b01.lt
  have b12 := b11.below hb2 b11.lt
  have o2 := ho.below hb2
  have n2 : Below w.heap.size w W2 := (hbW.trans (hb1.mono (by omega))).trans (hb2.mono (by omega))
  have hs2' := b2.lt
  clear b0 b1 b01 b11 ho hb1 hb2 hs2 hbW
  go_upto_region 2 with fail
  rw [hW2.out]
  clear hW2
  have p0 := b02.cell 0 _ rfl
  have p1 := b02.cell 1 _ rfl
  have HV : Hid (t.v = p.v) := hv.out
  clear hv
  have C := specPoolOk_any p W2 (PoolA.reads.below hr n2) (PoolA.short_wide hl)
  simp only [PoolA.cells] at C
  go_wp2_with fail
  refine C.mono ?_
  clear C p0 p1
  rintro e w3 ⟨rfl, hb3⟩
  have hs3 := hb3.size
  have b03 := b02.below hb3 b02.lt
  have b13 := b12.below hb3 b12.lt
  have b23 := b2.below hb3 b2.lt
  have o3 := o2.below hb3
  have n3 : Below w.heap.size w w3 := n2.trans (hb3.mono n2.size)
  have p0 := b03.cell 0 _ rfl
  clear b02 b12 b2 o2 n2 hb3
  by_cases hyes : okPool p.v = true ∧ p.seats.length = 3
  · obtain ⟨h1, h2⟩ := hyes
    obtain ⟨h, hh, h3⟩ := okPool_handNat h1
    have HVO : Hid (victimOf p.v = _) := victimOf_yes (h := h) h1 (by simpa [PoolA.v] using h2) hh
    have hne : ((p.seats.length : Int) != 3) = false := by rw [h2]; rfl
    rw [h1]
    clear h1
    obtain ⟨ts, hand, a, c⟩ := t
    simp only [PoolA.own] at *
    have hth : hand = (h : Int) := by
      have e := congrArg PoolV.hand HV.out
      rw [hh] at e
      exact e
    have htl : ts.length = 3 := by
      have e := congrArg (fun v => v.seats.length) HV.out
      simp only [PoolA.v, List.length_map] at e
      omega
    subst hth
    have hpt : PoolAt w3 W.heap.size w1.heap.size w1.heap.size 0 [.slice a ts.length c, .int .i64 (h : Int)] 28 a c ts h := ⟨b23, rfl, rfl, o3, fun hk => by have := (o3.blocks_lt _ hk).2; omega⟩
    have C := l6Victim_any W.heap.size w1.heap.size w1.heap.size 0 _ _ a c ts h w3 hpt htl h3
    have hltb : ∀ j ∈ blocksSts a c ts, W.heap.size ≤ j ∧ j < w1.heap.size := o3.blocks_lt
    have hw2' : Hid (p.seats.length = 3) := h2
    clear hpt b23 o3 hh h2
    go_wp2_with fail
    refine C.mono ?_
    clear C p0
    rintro e w4 ⟨us, k, hnd, rfl, hvic, hul, p4, hbl, t4⟩
    have hs4 := t4.size
    have b14 := b13.touch t4 (by
      intro hk
      rcases List.mem_cons.1 hk with hk | hk
      · omega
      · have := hltb _ hk; omega)
    have n4 : Below w.heap.size w w4 := n3.trans ((t4.within (lo := W.heap.size) (hi := w1.heap.size + 1) (fun j hj => by
      rcases List.mem_cons.1 hj with rfl | hj
      · omega
      · have := hltb _ hj; omega)).below (by omega) (by omega))
    have e0 : w4.cell? ⟨w1.heap.size, 0, none⟩ = some (.slice a us.length c) := p4.box.cell 0 _ p4.c0
    have e1 : w4.cell? ⟨w1.heap.size, 1, none⟩ = some (.int .i64 (hnd : Int)) := p4.box.cell 1 _ p4.c1
    have m0 := b14.cell 0 _ rfl
    have m1 := b14.cell 1 _ rfl
    have mf0 := b14.frozen 0
    have mf1 := b14.frozen 1
    obtain ⟨WF, hWF, bF, hwF, hsF⟩ := box2_fill b14 (.slice a us.length c) (.int .i64 (hnd : Int))
    have q0 := bF.cell 0 _ rfl
    have q1 := bF.cell 1 _ rfl
    have hoF := (p4.own.within hwF (.inr (by omega))).widen (show w.heap.size ≤ W.heap.size by omega) (show w1.heap.size ≤ WF.heap.size by omega) (Nat.le_refl _)
    have hbF : Below w.heap.size w WF := n4.trans (hwF.below (by omega) (by omega))
    have HFIN : Hid (victimOf p.v = (PoolA.v ⟨us, hnd, a, c⟩, (k : Int))) := by
      rw [Hid, HVO.out]
      have e : p.v.seats = ts.map SeatA.v := by rw [← HV.out]; rfl
      rw [e, hvic.out]
      rfl
    clear hwF hsF bF p4 b14 HVO HV hvic b13 b03 t4 hne hul htl
    go_wp2_with fail
    rw [hWF.out]
    exact bodyPost_ret (v := .tuple #[.agg #[.slice a us.length c, .int .i64 (hnd : Int)], .int .i64 (k : Int)]) (by simp [results, Tryd.results7, go_sem, q0, q1]) rfl ⟨⟨us, hnd, a, c⟩, k, rfl, HFIN, hoF, hbF⟩
  · have HVK : Hid (victimOf p.v = (t.v, -1)) := by
      rw [Hid, victimOf_no (by simpa [PoolA.v] using hyes), HV.out]
    cases h1 : okPool p.v with
    | true =>
      have hne : ((p.seats.length : Int) != 3) = true := by
        have : ¬ p.seats.length = 3 := fun h => hyes ⟨h1, h⟩
        simp only [bne_iff_ne, ne_eq]
        omega
      clear hyes HV h1
      have e0 := b23.cell 0 _ rfl
      have e1 := b23.cell 1 _ rfl
      have m0 := b13.cell 0 _ rfl
      have m1 := b13.cell 1 _ rfl
      have mf0 := b13.frozen 0
      have mf1 := b13.frozen 1
      obtain ⟨WF, hWF, bF, hwF, hsF⟩ := box2_fill b13 (.slice t.a t.seats.length t.c) (.int .i64 t.hand)
      have q0 := bF.cell 0 _ rfl
      have q1 := bF.cell 1 _ rfl
      have hoF := (PoolA.own.within o3 hwF (.inr (by omega))).widen (show w.heap.size ≤ W.heap.size by omega) (show w1.heap.size ≤ WF.heap.size by omega) (Nat.le_refl _)
      have hbF : Below w.heap.size w WF := n3.trans (hwF.below (by omega) (by omega))
      clear hwF hsF bF o3 b13 b23
      go_wp2_with fail
      rw [hWF.out]
      exact bodyPost_ret (v := .tuple #[.agg #[.slice t.a t.seats.length t.c, .int .i64 t.hand], .int .i64 (-1)]) (by simp [results, Tryd.results7, go_sem, q0, q1]) rfl ⟨t, -1, rfl, HVK, hoF, hbF⟩
    | false =>
      clear hyes HV h1
      have e0 := b23.cell 0 _ rfl
      have e1 := b23.cell 1 _ rfl
      have m0 := b13.cell 0 _ rfl
      have m1 := b13.cell 1 _ rfl
      have mf0 := b13.frozen 0
      have mf1 := b13.frozen 1
      obtain ⟨WF, hWF, bF, hwF, hsF⟩ := box2_fill b13 (.slice t.a t.seats.length t.c) (.int .i64 t.hand)
      have q0 := bF.cell 0 _ rfl
      have q1 := bF.cell 1 _ rfl
      have hoF := (PoolA.own.within o3 hwF (.inr (by omega))).widen (show w.heap.size ≤ W.heap.size by omega) (show w1.heap.size ≤ WF.heap.size by omega) (Nat.le_refl _)
      have hbF : Below w.heap.size w WF := n3.trans (hwF.below (by omega) (by omega))
      clear hwF hsF bF o3 b13 b23
      go_wp2_with fail
      rw [hWF.out]
      exact bodyPost_ret (v := .tuple #[.agg #[.slice t.a t.seats.length t.c, .int .i64 t.hand], .int .i64 (-1)]) (by simp [results, Tryd.results7, go_sem, q0, q1]) rfl ⟨t, -1, rfl, HVK, hoF, hbF⟩
/-- The hot ones of a row, counted in memory. -/
def hotAt (w : World) (g k : Nat) : Nat := match w.cell? ⟨g, k * 20 + 19, none⟩ with
  | some (.bool true) => 1
  | _ => 0
theorem three_of {α : Type} {ts : List α} (h : ts.length = 3) : ∃ x y z, ts = [x, y, z] := by
  match ts, h with
  | [x, y, z], _ => exact ⟨x, y, z, rfl⟩
def hotCells (g : Nat) (w : World) : Nat := hotAt w g 0 + hotAt w g 1 + hotAt w g 2
theorem hotAt_of {w : World} {lo hi g c : Nat} {ts : List SeatA} (h : OwnSts w lo hi (some ⟨g, 0, none⟩) c ts) (k : Nat) (hk : k < ts.length) : hotAt w g k = if (ts.getD k zeroSt).hot = true then 1 else 0 := by
  have hx : w.cell? ⟨g, k * 20 + 19, none⟩ = some (.bool (ts.getD k zeroSt).hot) := (row_seat h.row rfl k hk).1 19 _ rfl
  rw [hotAt, hx]
  cases (ts.getD k zeroSt).hot <;> rfl
theorem hotCells_of {w : World} {lo hi g c : Nat} {ts : List SeatA} (h : OwnSts w lo hi (some ⟨g, 0, none⟩) c ts) (hl : ts.length = 3) : hotCells g w = hots (ts.map SeatA.v) := by
  rw [hotCells, hotAt_of h 0 (by omega), hotAt_of h 1 (by omega), hotAt_of h 2 (by omega)]
  obtain ⟨x, y, z, rfl⟩ := three_of hl
  simp only [List.getD_cons_zero, List.getD_cons_succ, hots, List.map_cons, List.map_nil, List.filter_cons, List.filter_nil]
  have e : ∀ s : SeatA, s.v.hot = s.hot := fun _ => rfl
  rw [e, e, e]
  cases x.hot <;> cases y.hot <;> cases z.hot <;> rfl
def victimMeasure (a : Act) (w : World) : Nat :=
  match a.tmps.getD 4 undef with
  | .pointer (some ad) => match w.cell? ⟨ad.block, 0, none⟩ with
    | some (.slice (some b) _ _) => hotCells b.block w
    | _ => 0
  | _ => 0
/-- How things stand at the label. -/
structure VicSt (w : World) (lo B g c : Nat) (ts : List SeatA) (hand : Int) (w' : World) : Prop where
  out : Box w' B [.slice (some ⟨g, 0, none⟩) ts.length c, .int .i64 hand] 28
  res : Box w' (w.heap.size + 1) [.slice none 0 0, .int .i64 0] 28
  own : OwnSts w' lo B (some ⟨g, 0, none⟩) c ts
  lo1 : w.heap.size + 1 < lo
  loB : lo ≤ B
  len : ts.length = 3
  bel : Below w.heap.size w w'
theorem VicSt.cold {w wr : World} {lo B g c : Nat} {ts : List SeatA} {hand : Int} (st : VicSt w lo B g c ts hand wr) (k : Nat) (hk : k < 3) :
    ∃ W1, Hid (wr.setCell ⟨g, k * 20 + 19, none⟩ (.bool false) = W1) ∧ VicSt w lo B g c (ts.set k (ts.getD k zeroSt).cold) hand W1 := by
  have hkt : k < ts.length := by rw [st.len]; exact hk
  have hgl := st.own.blocks_lt g (by simp [blocksSts, Value.ownBlock])
  have hkl : (ts.take k).length = k := by rw [List.length_take]; omega
  have osp := st.own
  rw [seatD_split ts k hkt] at osp
  obtain ⟨o4, t4⟩ := osp.cellSet (z' := (ts.getD k zeroSt).cold) 19 (.bool false) (by omega) rfl rfl
  rw [hkl, ← seat_set ts k _ hkt] at o4
  rw [hkl] at t4
  have h1 := st.lo1
  have h2 := st.loB
  refine ⟨_, rfl, ?_, st.res.touch t4 (by simp; omega), o4, h1, h2, by simp [st.len], st.bel.trans ((t4.within (lo := lo) (hi := B) (fun j hj => by obtain rfl := List.mem_singleton.1 hj; exact hgl)).below (by omega) (by have := st.bel.size; omega))⟩
  have := st.out.touch t4 (by simp; omega)
  rw [List.length_set]
  exact this
theorem placeBehind_any (k : Nat) (hk : k < 3) (w : World) : Calls Tryd.prog 31 #[.int .i64 (k : Int)] w fun e w' => e = .returned (.int .i64 (((k + 1) % 3 : Nat) : Int)) ∧ w' = w := by
  have HM : Hid (((k : Int) + 1) % 3 = (((k + 1) % 3 : Nat) : Int)) := by rw [Hid]; omega
  go_enter Tryd.func31, Tryd.ntmps31
  go_wp2
  go_ret
  exact ⟨ret_int (by first | exact HM.out | omega), rfl⟩

set_option maxHeartbeats 4000000 in
set_option maxRecDepth 100000 in
theorem implVictim_any (p : PoolA) (w : World) (hg : ErrT w) (hr : p.reads w) (hl : p.short 1048576) :
    Calls Tryd.prog 9 #[.agg p.cells.toArray] w fun e w' => VictimAns p w e w' := by
  obtain ⟨W, hW, b0, b1, hbW, hsW⟩ := boxes2 w [.slice p.a p.seats.length p.c, .int .i64 p.hand] [.slice none 0 0, .int .i64 0] 28 28
  have hs0 : w.heap.size + 1 < W.heap.size := by omega
  have p0 := b0.cell 0 _ rfl
  have p1 := b0.cell 1 _ rfl
  have C := copyPool_any p W (PoolA.reads.below hr hbW) hl
  simp only [PoolA.cells] at *
  clear hsW
  go_enter Tryd.func9, Tryd.ntmps9
  go_wp2
  refine wp_scope_jumps 0 (fun a' w' => ∃ (lo B g c k n : Nat) (ts : List SeatA) (hand : Int) (x0 x3 x6 x7 x8 x9 x10 x11 x12 x13 x14 x15 x16 x17 x18 x19 x20 x21 x22 x23 x24 x25 x26 x27 x28 x29 x30 x31 x32 x33 x34 x35 x36 x37 : Value), a' = { tmps := #[x0, .pointer (some ⟨w.heap.size, 0, none⟩), .pointer (some ⟨w.heap.size + 1, 0, none⟩), x3, .pointer (some ⟨B, 0, none⟩), .int .i64 (k : Int), x6, x7, x8, x9, x10, x11, x12, x13, x14, x15, x16, x17, x18, x19, x20, x21, x22, x23, x24, x25, x26, x27, x28, x29, x30, x31, x32, x33, x34, x35, x36, x37], defers := [] } ∧ VicSt w lo B g c ts hand w' ∧ k < 3 ∧ Hid (victimOf p.v = (PoolV.mk (victimV n (ts.map SeatA.v) k).1 ((victimV n (ts.map SeatA.v) k).2.1 : Int), ((victimV n (ts.map SeatA.v) k).2.2 : Int))) ∧ hots (ts.map SeatA.v) < n) victimMeasure rfl ?_ ?_
  · go_upto_region 1 with fail
    rw [hW.out]
    clear hW
    go_wp2_with fail
    refine C.mono ?_
    clear C p0 p1
    rintro e w1 ⟨t, rfl, hv, ho, hb1⟩
    have hs1 := hb1.size
    have b01 := b0.below hb1 b0.lt
    have b11 := b1.below hb1 b1.lt
    obtain ⟨W2, hW2, b2, hb2, hs2⟩ := boxes1 w1 [.slice t.a t.seats.length t.c, .int .i64 t.hand] 28
    have b02 := b01.below hb2 b01.lt
    have b12 := b11.below hb2 b11.lt
    have o2 := ho.below hb2
    have n2 : Below w.heap.size w W2 := (hbW.trans (hb1.mono (by omega))).trans (hb2.mono (by omega))
    have hs2' := b2.lt
    clear b0 b1 b01 b11 ho hb1 hb2 hs2 hbW
    go_upto_region 2 with fail
    rw [hW2.out]
    clear hW2
    have p0 := b02.cell 0 _ rfl
    have p1 := b02.cell 1 _ rfl
    have HV : Hid (t.v = p.v) := hv.out
    clear hv
    have C := implPoolOk_any p W2 (hg.keep n2) (PoolA.reads.below hr n2) (PoolA.short_wide hl)
    simp only [PoolA.cells] at C
    go_wp2_with fail
    refine C.mono ?_
    clear C p0 p1
    rintro e w3 ⟨rfl, hb3⟩
    have hs3 := hb3.size
    have b03 := b02.below hb3 b02.lt
    have b13 := b12.below hb3 b12.lt
    have b23 := b2.below hb3 b2.lt
    have o3 := o2.below hb3
    have n3 : Below w.heap.size w w3 := n2.trans (hb3.mono n2.size)
    have p0 := b03.cell 0 _ rfl
    have p1 := b03.cell 1 _ rfl
    clear b02 b12 b2 o2 n2 hb3
    by_cases hyes : okPool p.v = true ∧ p.seats.length = 3
    · obtain ⟨h1, h2⟩ := hyes
      obtain ⟨k, hh, hk3⟩ := okPool_handNat h1
      have HVO := victimOf_yes (h := k) h1 (by simpa [PoolA.v] using h2) hh
      have hne : ((p.seats.length : Int) != 3) = false := by rw [h2]; rfl
      rw [h1]
      clear h1
      have hph : p.hand = (k : Int) := hh
      rw [hph] at p1
      obtain ⟨ts, hand, a, c⟩ := t
      simp only [PoolA.own] at *
      have htl : ts.length = 3 := by
        have e := congrArg (fun v => v.seats.length) HV.out
        simp only [PoolA.v, List.length_map] at e
        omega
      obtain ⟨g, rfl⟩ : ∃ g, a = some ⟨g, 0, none⟩ := by
        rcases o3.row.2 with ⟨_, h0⟩ | ⟨g, cap', cur, hv, _⟩
        · omega
        · simp only [Value.slice.injEq] at hv; exact ⟨g, hv.1⟩
      have st : VicSt w W.heap.size w1.heap.size g c ts hand w3 := ⟨b23, b13, o3, hs0, hs1, htl, n3⟩
      have eps : p.v.seats = ts.map SeatA.v := by rw [← HV.out]; rfl
      rw [eps] at HVO
      have hvv0 : Hid (victimOf p.v = (PoolV.mk (victimV 4 (ts.map SeatA.v) k).1 ((victimV 4 (ts.map SeatA.v) k).2.1 : Int), ((victimV 4 (ts.map SeatA.v) k).2.2 : Int))) := HVO
      obtain ⟨n, hvv, hhot⟩ : ∃ n, Hid (victimOf p.v = (PoolV.mk (victimV n (ts.map SeatA.v) k).1 ((victimV n (ts.map SeatA.v) k).2.1 : Int), ((victimV n (ts.map SeatA.v) k).2.2 : Int))) ∧ hots (ts.map SeatA.v) < n := ⟨4, hvv0, by have := hots_le (ts.map SeatA.v); rw [List.length_map] at this; omega⟩
      obtain ⟨lo, hlo⟩ : ∃ lo, Hid (W.heap.size = lo) := ⟨_, rfl⟩
      obtain ⟨B, hB⟩ : ∃ B, Hid (w1.heap.size = B) := ⟨_, rfl⟩
      rw [hlo.out, hB.out] at st
      have hs2n : Hid (p.seats.length = 3) := h2
      clear hvv0 HVO eps b23 b13 o3 htl n3 b03 hh h2 hph hlo hs0 hs1 hs2' hs3 HV
      rw [hB.out]
      clear hB
      generalize p.hand = hp at *
      obtain ⟨wr, hwr⟩ : ∃ wr, Hid (w3 = wr) := ⟨_, rfl⟩
      rw [hwr.out] at st p0 p1 ⊢
      clear hwr w3
      go_wp2_with fail
      go_step3
      clear p0 p1
      have hkt : k < ts.length := by rw [st.len]; exact hk3
      have x0 := st.out.cell 0 _ rfl
      have x19 : wr.cell? ⟨g, k * 20 + 19, none⟩ = some (.bool (ts.getD k zeroSt).hot) := (row_seat st.own.row rfl k hkt).1 19 _ rfl
      have f19 := st.own.row.frozenAt (k * 20 + 19)
      have hkk : (k : Int) < (ts.length : Int) := by omega
      have hk0 : (0 : Int) ≤ (k : Int) := by omega
      obtain ⟨m, rfl⟩ : ∃ m, n = m + 1 := ⟨n - 1, by omega⟩
      have hlm : ts.length ≤ 3 := by rw [st.len]; omega
      rw [victim_step] at hvv
      by_cases hot : (ts.getD k zeroSt).hot = true
      ·
        rw [if_pos hot] at hvv
        rw [hot] at x19
        obtain ⟨W1, hW1, st1⟩ := st.cold k hk3
        have C := placeBehind_any k hk3 W1
        have HV1 : Hid (victimOf p.v = (PoolV.mk (victimV m ((ts.set k (ts.getD k zeroSt).cold).map SeatA.v) ((k + 1) % 3)).1 ((victimV m ((ts.set k (ts.getD k zeroSt).cold).map SeatA.v) ((k + 1) % 3)).2.1 : Int), ((victimV m ((ts.set k (ts.getD k zeroSt).cold).map SeatA.v) ((k + 1) % 3)).2.2 : Int))) := by
          rw [List.map_set, cold_v]
          exact hvv
        have HH1 : hots ((ts.set k (ts.getD k zeroSt).cold).map SeatA.v) + 1 = hots (ts.map SeatA.v) := by
          have h := hots_set (ts.map SeatA.v) k (by simpa using hkt) (by rw [seatV_at]; exact hot)
          rw [seatV_at] at h
          rw [List.map_set, cold_v]
          exact h
        have HMS : Hid (hotCells g W1 < hotCells g wr) := by rw [Hid, hotCells_of st1.own st1.len, hotCells_of st.own st.len]; omega
        have HK : Hid ((k + 1) % 3 < 3) := Nat.mod_lt _ (by omega)
        have HCW : Hid (W1.cell? ⟨B, 0, none⟩ = some (.slice (some ⟨g, 0, none⟩) ts.length c) ∧ wr.cell? ⟨B, 0, none⟩ = some (.slice (some ⟨g, 0, none⟩) ts.length c)) := ⟨by have := st1.out.cell 0 _ rfl; rw [List.length_set] at this; exact this, x0⟩
        have HHM : Hid (hots ((ts.set k (ts.getD k zeroSt).cold).map SeatA.v) < m) := by rw [Hid]; omega
        clear hvv hot HH1 hhot st
        generalize hts : ts.set k (ts.getD k zeroSt).cold = ts1 at *
        clear hts
        generalize (k + 1) % 3 = k1 at *
        go_wp2_with fail
        rw [hW1.out]
        refine C.mono ?_
        clear C x0 x19 f19 hW1
        rintro e u ⟨rfl, hu⟩
        rw [hu]
        clear hu u
        go_wp2
        go_step3
        exact ⟨rfl, lo, B, g, c, k1, m, ts1, hand, _, _, _, _, _, _, _, _, _, _, _, _, _, _, _, _, _, _, _, _, _, _, _, _, _, _, _, _, _, _, _, _, _, _, rfl, st1, HK.out, HV1, HHM.out⟩
      ·
        rw [if_neg hot] at hvv
        have hotf : (ts.getD k zeroSt).hot = false := by simpa using hot
        rw [hotf] at x19
        have C := placeBehind_any k hk3 wr
        have HFIN : Hid (victimOf p.v = (PoolA.v ⟨ts, (((k + 1) % 3 : Nat) : Int), some ⟨g, 0, none⟩, c⟩, (k : Int))) := hvv.out
        have y1 := st.out.cell 1 _ rfl
        have yf1 := st.out.frozen 1
        have hl1 := st.lo1
        have hl2 := st.loB
        obtain ⟨W1, hW1, bo1, hw1, hs1⟩ := box_set st.out 1 (.int .i64 (((k + 1) % 3 : Nat) : Int))
        simp only [List.set] at bo1
        have br1 := st.res.within hw1 (by omega)
        have ow1 := st.own.within hw1 (.inl (Nat.le_refl _))
        have n1 : Below w.heap.size w W1 := st.bel.trans (hw1.below (by omega) (by have := st.bel.size; omega))
        have e0 := bo1.cell 0 _ rfl
        have e1 := bo1.cell 1 _ rfl
        have m0 := br1.cell 0 _ rfl
        have m1 := br1.cell 1 _ rfl
        have mf0 := br1.frozen 0
        have mf1 := br1.frozen 1
        obtain ⟨WF, hWF, bF, hwF, hsF⟩ := box2_fill br1 (.slice (some ⟨g, 0, none⟩) ts.length c) (.int .i64 (((k + 1) % 3 : Nat) : Int))
        have q0 := bF.cell 0 _ rfl
        have q1 := bF.cell 1 _ rfl
        have hBW := bo1.lt
        have hoF := (ow1.within hwF (.inr (by omega))).widen (show w.heap.size ≤ lo by omega) (show B ≤ WF.heap.size by omega) (Nat.le_refl _)
        have hbF : Below w.heap.size w WF := n1.trans (hwF.below (by omega) (by have := n1.size; omega))
        clear hvv hot hotf hhot st bo1 br1 ow1 n1 hwF hsF bF hw1 hs1
        generalize (((k + 1) % 3 : Nat) : Int) = k1 at *
        go_wp2_with fail
        refine C.mono ?_
        clear C x0 x19 f19
        rintro e u ⟨rfl, hu⟩
        rw [hu]
        clear hu u
        go_upto_region 9 with fail
        rw [hW1.out]
        clear hW1
        go_wp2_with fail
        rw [hWF.out]
        simp only [Exit.jump]
        exact bodyPost_ret (v := .tuple #[.agg #[.slice (some ⟨g, 0, none⟩) ts.length c, .int .i64 k1], .int .i64 (k : Int)]) (by simp [results, Tryd.results9, go_sem, q0, q1]) rfl ⟨⟨ts, k1, some ⟨g, 0, none⟩, c⟩, k, rfl, HFIN, hoF, hbF⟩
    · have HVK : Hid (victimOf p.v = (t.v, -1)) := by
        rw [Hid, victimOf_no (by simpa [PoolA.v] using hyes), HV.out]
      cases h1 : okPool p.v with
      | true =>
        have hne : ((p.seats.length : Int) != 3) = true := by
          have : ¬ p.seats.length = 3 := fun h => hyes ⟨h1, h⟩
          simp only [bne_iff_ne, ne_eq]
          omega
        clear hyes HV h1
        have e0 := b23.cell 0 _ rfl
        have e1 := b23.cell 1 _ rfl
        have m0 := b13.cell 0 _ rfl
        have m1 := b13.cell 1 _ rfl
        have mf0 := b13.frozen 0
        have mf1 := b13.frozen 1
        obtain ⟨WF, hWF, bF, hwF, hsF⟩ := box2_fill b13 (.slice t.a t.seats.length t.c) (.int .i64 t.hand)
        have q0 := bF.cell 0 _ rfl
        have q1 := bF.cell 1 _ rfl
        have hoF := (PoolA.own.within o3 hwF (.inr (by omega))).widen (show w.heap.size ≤ W.heap.size by omega) (show w1.heap.size ≤ WF.heap.size by omega) (Nat.le_refl _)
        have hbF : Below w.heap.size w WF := n3.trans (hwF.below (by omega) (by omega))
        clear hwF hsF bF o3 b13 b23
        go_wp2_with fail
        rw [hWF.out]
        simp only [Exit.jump]
        exact bodyPost_ret (v := .tuple #[.agg #[.slice t.a t.seats.length t.c, .int .i64 t.hand], .int .i64 (-1)]) (by simp [results, Tryd.results9, go_sem, q0, q1]) rfl ⟨t, -1, rfl, HVK, hoF, hbF⟩
      | false =>
        clear hyes HV h1
        have e0 := b23.cell 0 _ rfl
        have e1 := b23.cell 1 _ rfl
        have m0 := b13.cell 0 _ rfl
        have m1 := b13.cell 1 _ rfl
        have mf0 := b13.frozen 0
        have mf1 := b13.frozen 1
        obtain ⟨WF, hWF, bF, hwF, hsF⟩ := box2_fill b13 (.slice t.a t.seats.length t.c) (.int .i64 t.hand)
        have q0 := bF.cell 0 _ rfl
        have q1 := bF.cell 1 _ rfl
        have hoF := (PoolA.own.within o3 hwF (.inr (by omega))).widen (show w.heap.size ≤ W.heap.size by omega) (show w1.heap.size ≤ WF.heap.size by omega) (Nat.le_refl _)
        have hbF : Below w.heap.size w WF := n3.trans (hwF.below (by omega) (by omega))
        clear hwF hsF bF o3 b13 b23
        go_wp2_with fail
        rw [hWF.out]
        simp only [Exit.jump]
        exact bodyPost_ret (v := .tuple #[.agg #[.slice t.a t.seats.length t.c, .int .i64 t.hand], .int .i64 (-1)]) (by simp [results, Tryd.results9, go_sem, q0, q1]) rfl ⟨t, -1, rfl, HVK, hoF, hbF⟩
  · clear C hW b0 b1 p0 p1 hr hl hg hbW hs0
    rintro a' wr ⟨lo, B, g, c, k, n, ts, hand, z0, x3, x6, x7, x8, x9, x10, x11, x12, x13, x14, x15, x16, x17, x18, z19, x20, x21, x22, x23, x24, x25, x26, x27, x28, x29, x30, x31, x32, x33, x34, x35, x36, x37, rfl, st, hk3, hvv, hhot⟩
    have hkt : k < ts.length := by rw [st.len]; exact hk3
    have x0 := st.out.cell 0 _ rfl
    have x19 : wr.cell? ⟨g, k * 20 + 19, none⟩ = some (.bool (ts.getD k zeroSt).hot) := (row_seat st.own.row rfl k hkt).1 19 _ rfl
    have f19 := st.own.row.frozenAt (k * 20 + 19)
    have hkk : (k : Int) < (ts.length : Int) := by omega
    have hk0 : (0 : Int) ≤ (k : Int) := by omega
    obtain ⟨m, rfl⟩ : ∃ m, n = m + 1 := ⟨n - 1, by omega⟩
    have hlm : ts.length ≤ 3 := by rw [st.len]; omega
    rw [victim_step] at hvv
    by_cases hot : (ts.getD k zeroSt).hot = true
    ·
      rw [if_pos hot] at hvv
      rw [hot] at x19
      obtain ⟨W1, hW1, st1⟩ := st.cold k hk3
      have C := placeBehind_any k hk3 W1
      have HV1 : Hid (victimOf p.v = (PoolV.mk (victimV m ((ts.set k (ts.getD k zeroSt).cold).map SeatA.v) ((k + 1) % 3)).1 ((victimV m ((ts.set k (ts.getD k zeroSt).cold).map SeatA.v) ((k + 1) % 3)).2.1 : Int), ((victimV m ((ts.set k (ts.getD k zeroSt).cold).map SeatA.v) ((k + 1) % 3)).2.2 : Int))) := by
        rw [List.map_set, cold_v]
        exact hvv
      have HH1 : hots ((ts.set k (ts.getD k zeroSt).cold).map SeatA.v) + 1 = hots (ts.map SeatA.v) := by
        have h := hots_set (ts.map SeatA.v) k (by simpa using hkt) (by rw [seatV_at]; exact hot)
        rw [seatV_at] at h
        rw [List.map_set, cold_v]
        exact h
      have HMS : Hid (hotCells g W1 < hotCells g wr) := by rw [Hid, hotCells_of st1.own st1.len, hotCells_of st.own st.len]; omega
      have HK : Hid ((k + 1) % 3 < 3) := Nat.mod_lt _ (by omega)
      have HCW : Hid (W1.cell? ⟨B, 0, none⟩ = some (.slice (some ⟨g, 0, none⟩) ts.length c) ∧ wr.cell? ⟨B, 0, none⟩ = some (.slice (some ⟨g, 0, none⟩) ts.length c)) := ⟨by have := st1.out.cell 0 _ rfl; rw [List.length_set] at this; exact this, x0⟩
      have HHM : Hid (hots ((ts.set k (ts.getD k zeroSt).cold).map SeatA.v) < m) := by rw [Hid]; omega
      clear hvv hot HH1 hhot st
      generalize hts : ts.set k (ts.getD k zeroSt).cold = ts1 at *
      clear hts
      generalize (k + 1) % 3 = k1 at *
      go_wp2_with fail
      rw [hW1.out]
      refine C.mono ?_
      clear C x0 x19 f19 hW1
      rintro e u ⟨rfl, hu⟩
      rw [hu]
      clear hu u
      go_wp2
      go_step3
      refine ⟨rfl, ⟨lo, B, g, c, k1, m, ts1, hand, _, _, _, _, _, _, _, _, _, _, _, _, _, _, _, _, _, _, _, _, _, _, _, _, _, _, _, _, _, _, _, _, _, _, rfl, st1, HK.out, HV1, HHM.out⟩, ?_⟩
      have h1 := HMS.out
      have e1 := HCW.out.1
      have e2 := HCW.out.2
      simp only [victimMeasure]
      simpa [e1, e2] using h1
    ·
      rw [if_neg hot] at hvv
      have hotf : (ts.getD k zeroSt).hot = false := by simpa using hot
      rw [hotf] at x19
      have C := placeBehind_any k hk3 wr
      have HFIN : Hid (victimOf p.v = (PoolA.v ⟨ts, (((k + 1) % 3 : Nat) : Int), some ⟨g, 0, none⟩, c⟩, (k : Int))) := hvv.out
      have y1 := st.out.cell 1 _ rfl
      have yf1 := st.out.frozen 1
      have hl1 := st.lo1
      have hl2 := st.loB
      obtain ⟨W1, hW1, bo1, hw1, hs1⟩ := box_set st.out 1 (.int .i64 (((k + 1) % 3 : Nat) : Int))
      simp only [List.set] at bo1
      have br1 := st.res.within hw1 (by omega)
      have ow1 := st.own.within hw1 (.inl (Nat.le_refl _))
      have n1 : Below w.heap.size w W1 := st.bel.trans (hw1.below (by omega) (by have := st.bel.size; omega))
      have e0 := bo1.cell 0 _ rfl
      have e1 := bo1.cell 1 _ rfl
      have m0 := br1.cell 0 _ rfl
      have m1 := br1.cell 1 _ rfl
      have mf0 := br1.frozen 0
      have mf1 := br1.frozen 1
      obtain ⟨WF, hWF, bF, hwF, hsF⟩ := box2_fill br1 (.slice (some ⟨g, 0, none⟩) ts.length c) (.int .i64 (((k + 1) % 3 : Nat) : Int))
      have q0 := bF.cell 0 _ rfl
      have q1 := bF.cell 1 _ rfl
      have hBW := bo1.lt
      have hoF := (ow1.within hwF (.inr (by omega))).widen (show w.heap.size ≤ lo by omega) (show B ≤ WF.heap.size by omega) (Nat.le_refl _)
      have hbF : Below w.heap.size w WF := n1.trans (hwF.below (by omega) (by have := n1.size; omega))
      clear hvv hot hotf hhot st bo1 br1 ow1 n1 hwF hsF bF hw1 hs1
      generalize (((k + 1) % 3 : Nat) : Int) = k1 at *
      go_wp2_with fail
      refine C.mono ?_
      clear C x0 x19 f19
      rintro e u ⟨rfl, hu⟩
      rw [hu]
      clear hu u
      go_upto_region 9 with fail
      rw [hW1.out]
      clear hW1
      go_wp2_with fail
      rw [hWF.out]
      simp only [Exit.jump]
      exact bodyPost_ret (v := .tuple #[.agg #[.slice (some ⟨g, 0, none⟩) ts.length c, .int .i64 k1], .int .i64 (k : Int)]) (by simp [results, Tryd.results9, go_sem, q0, q1]) rfl ⟨⟨ts, k1, some ⟨g, 0, none⟩, c⟩, k, rfl, HFIN, hoF, hbF⟩
end Go.Proofs.YtickiokdcbeefabDoor

/- What the pool's functions make stays short. -/
namespace Go.Proofs.YtickiokdcbeefabDoor
open Go.RowKit

def SeatV.short (s : SeatV) (m : Nat) : Prop := ∀ x ∈ s.ss, x.o.ints.length ≤ m ∧ x.o.refs.length ≤ m
theorem zeroStV_short (m : Nat) : zeroStV.short m := by
  intro x hx
  have : x = zeroS.v := by
    have e : zeroStV.ss = [zeroS.v, zeroS.v, zeroS.v, zeroS.v] := rfl
    rw [e] at hx
    simpa using hx
  rw [this]
  exact ⟨Nat.zero_le _, Nat.zero_le _⟩
theorem getV_short {ss : List SeatV} {m : Nat} (h : ∀ s ∈ ss, s.short m) (k : Nat) : (ss.getD k zeroStV).short m := by
  by_cases hk : k < ss.length
  · have e : ss.getD k zeroStV = ss[k] := by simp [List.getD, hk]
    rw [e]
    exact h _ (List.getElem_mem hk)
  · have e : ss.getD k zeroStV = zeroStV := by simp [List.getD, List.getElem?_eq_none (by omega : ss.length ≤ k)]
    rw [e]
    exact zeroStV_short m
theorem setV_short {ss : List SeatV} {m k : Nat} {x : SeatV} (h : ∀ s ∈ ss, s.short m) (hx : x.short m) : ∀ s ∈ ss.set k x, s.short m := fun s hs => by
  rcases List.mem_or_eq_of_mem_set hs with hs | rfl
  · exact h s hs
  · exact hx
theorem victimV_short {m : Nat} (n : Nat) : ∀ (ss : List SeatV) (h : Nat), (∀ s ∈ ss, s.short m) → ∀ s ∈ (victimV n ss h).1, s.short m := by
  induction n with
  | zero => intro ss h hs; exact hs
  | succ n ih =>
    intro ss h hs
    rw [victimV]
    split
    · exact ih _ _ (setV_short hs (fun x hx => getV_short hs h x hx))
    · exact hs
theorem pool_shortV {p : PoolA} {m : Nat} (h : p.short m) : ∀ s ∈ p.v.seats, s.short m := fun s hs => by
  obtain ⟨r, hr, rfl⟩ := List.mem_map.1 hs
  intro x hx
  obtain ⟨y, hy, rfl⟩ := List.mem_map.1 hx
  exact h.each r hr y hy
theorem short_by {t : PoolA} {m : Nat} (hlen : t.v.seats.length ≤ m) (h : ∀ s ∈ t.v.seats, s.short m) : t.short m := by
  refine ⟨by simpa [PoolA.v] using hlen, fun r hr x hx => ?_⟩
  exact h r.v (List.mem_map.2 ⟨r, hr, rfl⟩) x.v (List.mem_map.2 ⟨x, hx, rfl⟩)
theorem victim_short {p t : PoolA} (h : t.v = (victimOf p.v).1) (hl : p.short 1048576) : t.short 1048576 := by
  have hs := pool_shortV hl
  have hlen : p.v.seats.length ≤ 1048576 := by have := hl.len; simpa [PoolA.v] using this
  rw [victimOf] at h
  split at h
  · exact short_by (by rw [h]; simpa [victim_len] using hlen) (by rw [h]; exact victimV_short 4 _ _ hs)
  · exact short_by (by rw [h]; exact hlen) (by rw [h]; exact hs)
theorem change_short {p t : PoolA} {no lsn : Int} {ss : List SlotV} (h : t.v = (changeOf6 p.v no lsn ss).1) (hl : p.short 1048576) (hp : ∀ x ∈ ss, x.o.ints.length ≤ 1048576 ∧ x.o.refs.length ≤ 1048576) : t.short 1048576 := by
  have hs := pool_shortV hl
  have hlen : p.v.seats.length ≤ 1048576 := by have := hl.len; simpa [PoolA.v] using this
  rw [changeOf6] at h
  split at h
  · exact short_by (by rw [h]; simpa [setSeatV] using hlen) (by rw [h]; exact setV_short hs hp)
  · exact short_by (by rw [h]; exact hlen) (by rw [h]; exact hs)
theorem bringV_short {m : Nat} {ss : List SeatV} {h : Nat} {new : SeatV} (hs : ∀ s ∈ ss, s.short m) (hn : new.short m) : (∀ s ∈ (bringV ss h new).1, s.short m) ∧ (bringV ss h new).2.2.1.short m := by
  rw [bringV]
  split
  · refine ⟨fun s hs' => ?_, zeroStV_short m⟩
    rcases List.mem_append.1 hs' with h' | h'
    · exact hs s h'
    · rw [List.mem_singleton.1 h']; exact hn
  · exact ⟨setV_short (victimV_short 4 _ _ hs) hn, getV_short (victimV_short 4 _ _ hs) _⟩
theorem bringV_len {ss : List SeatV} {h : Nat} {new : SeatV} (h3 : ss.length ≤ 3) : (bringV ss h new).1.length ≤ 3 := by
  rw [bringV]
  split
  · simp; omega
  · simpa [victim_len] using h3
theorem bring_short {p t : PoolA} {no lsn : Int} {ss : List SlotV} (h : t.v = (bringOf p.v no lsn ss).1) (hl : p.short 1048576) (hp : ∀ x ∈ ss, x.o.ints.length ≤ 1048576 ∧ x.o.refs.length ≤ 1048576) : t.short 1048576 := by
  have hs := pool_shortV hl
  have hlen : p.v.seats.length ≤ 1048576 := by have := hl.len; simpa [PoolA.v] using this
  rw [bringOf] at h
  split at h
  · rename_i hm
    have h3 : p.v.seats.length ≤ 3 := by
      simp only [mayBring, Bool.and_eq_true] at hm
      exact (okPool_iff hm.1).1
    have hb := bringV_short (h := p.v.hand.toNat) hs (new := ⟨no, lsn, ss, false, true⟩) hp
    have hl3 := bringV_len (h := p.v.hand.toNat) (new := ⟨no, lsn, ss, false, true⟩) h3
    exact short_by (by rw [h]; show (bringV p.v.seats p.v.hand.toNat ⟨no, lsn, ss, false, true⟩).1.length ≤ 1048576; omega) (by rw [h]; exact hb.1)
  · exact short_by (by rw [h]; exact hlen) (by rw [h]; exact hs)
theorem bring_gone_short {p : PoolA} {s : SeatA} {no lsn : Int} {ss : List SlotV} (h : s.v = (bringOf p.v no lsn ss).2.1) (hl : p.short 1048576) (hp : ∀ x ∈ ss, x.o.ints.length ≤ 1048576 ∧ x.o.refs.length ≤ 1048576) : s.short 1048576 := by
  have hs := pool_shortV hl
  have key : s.v.short 1048576 := by
    rw [h, bringOf]
    split
    · exact (bringV_short (new := ⟨no, lsn, ss, false, true⟩) hs hp).2
    · exact zeroStV_short _
  intro x hx
  exact key x.v (List.mem_map.2 ⟨x, hx, rfl⟩)
end Go.Proofs.YtickiokdcbeefabDoor

/- The walks of laws.markSeatS, heldSeatS, markPool, heldPool, markSeat, heldSeat. -/
namespace Go.Proofs.YtickiokdcbeefabDoor
open Go.RowKit

/-- A seat with marks from k on. -/
def markSt (s : SeatA) (k : Int) : SeatA := ⟨k, k + 1, s.s0, s.s1, s.s2, s.s3, ((k + 1 + 1) % 3 == 0), ((k + 1 + 1 + 1) % 3 == 0)⟩
def markSts : List SeatA → Int → List SeatA
  | [], _ => []
  | r :: t, k => markSt r k :: markSts t (k + 4)
theorem markSt_blocks (r : SeatA) (k : Int) : (markSt r k).blocks = r.blocks := rfl
theorem markSts_len (rs : List SeatA) : ∀ k, (markSts rs k).length = rs.length := by
  induction rs with
  | nil => intro k; rfl
  | cons x r ih => intro k; simp [markSts, ih]
theorem markSts_app (A B : List SeatA) : ∀ k, markSts (A ++ B) k = markSts A k ++ markSts B (k + 4 * (A.length : Int)) := by
  induction A with
  | nil => intro k; simp [markSts]
  | cons x r ih =>
    intro k
    simp only [List.cons_append, markSts, ih, List.length_cons]
    congr 3
    omega
theorem markSts_blocks (rs : List SeatA) : ∀ k, (markSts rs k).flatMap SeatA.blocks = rs.flatMap SeatA.blocks := by
  induction rs with
  | nil => intro k; rfl
  | cons x r ih => intro k; simp only [markSts, List.flatMap_cons, ih, markSt_blocks]
theorem seats_split (rs : List SeatA) (j : Nat) (h : j < rs.length) : rs.drop j = rs.getD j zeroSt :: rs.drop (j + 1) ∧ rs.take (j + 1) = rs.take j ++ [rs.getD j zeroSt] := by
  have e : rs.getD j zeroSt = rs[j] := by simp [List.getD, h]
  exact ⟨by rw [List.drop_eq_getElem_cons h, e], by rw [List.take_succ_eq_append_getElem h, e]⟩
/-- How far the marks have come. -/
def halfSts (rs : List SeatA) (k : Int) (j : Nat) : List SeatA := markSts (rs.take j) k ++ rs.drop j
theorem halfSts_at (rs : List SeatA) (k : Int) (j : Nat) (h : j < rs.length) : halfSts rs k j = markSts (rs.take j) k ++ rs.getD j zeroSt :: rs.drop (j + 1) := by rw [halfSts, (seats_split rs j h).1]
theorem halfSts_next (rs : List SeatA) (k : Int) (j : Nat) (h : j < rs.length) : halfSts rs k (j + 1) = markSts (rs.take j) k ++ markSt (rs.getD j zeroSt) (k + 4 * (j : Int)) :: rs.drop (j + 1) := by
  rw [halfSts, (seats_split rs j h).2, markSts_app, List.length_take, Nat.min_eq_left (by omega)]
  simp [markSts]
theorem halfSts_len (rs : List SeatA) (k : Int) (j : Nat) (h : j ≤ rs.length) : (halfSts rs k j).length = rs.length := by simp [halfSts, markSts_len]; omega
/-- The four marks of a seat, stored. -/
theorem OwnSts.mark4 {w : World} {lo hi g c j : Nat} {A B : List SeatA} {z : SeatA} (h : OwnSts w lo hi (some ⟨g, 0, none⟩) c (A ++ z :: B)) (hj : A.length = j) (v0 v1 : Int) (d t : Bool) :
    ∃ W, Hid ((((w.setCell ⟨g, j * 20, none⟩ (.int .i64 v0)).setCell ⟨g, j * 20 + 1, none⟩ (.int .i64 v1)).setCell ⟨g, j * 20 + 18, none⟩ (.bool d)).setCell ⟨g, j * 20 + 19, none⟩ (.bool t) = W) ∧ OwnSts W lo hi (some ⟨g, 0, none⟩) c (A ++ ⟨v0, v1, z.s0, z.s1, z.s2, z.s3, d, t⟩ :: B) ∧ Touch [g] w W := by
  subst hj
  obtain ⟨h0, t0⟩ := h.cellSet (z' := ⟨v0, z.lsn, z.s0, z.s1, z.s2, z.s3, z.dirty, z.hot⟩) 0 (.int .i64 v0) (by omega) rfl rfl
  obtain ⟨h1, t1⟩ := h0.cellSet (z' := ⟨v0, v1, z.s0, z.s1, z.s2, z.s3, z.dirty, z.hot⟩) 1 (.int .i64 v1) (by omega) rfl rfl
  obtain ⟨h2, t2⟩ := h1.cellSet (z' := ⟨v0, v1, z.s0, z.s1, z.s2, z.s3, d, z.hot⟩) 18 (.bool d) (by omega) rfl rfl
  obtain ⟨h3, t3⟩ := h2.cellSet (z' := ⟨v0, v1, z.s0, z.s1, z.s2, z.s3, d, t⟩) 19 (.bool t) (by omega) rfl rfl
  exact ⟨_, rfl, h3, ((t0.trans t1).trans t2).trans t3⟩

set_option maxHeartbeats 2000000 in
set_option maxRecDepth 100000 in
theorem markSeatS_touch (lo hi : Nat) (a : Option Addr) (cap : Nat) (k0 : Int) (rs : List SeatA) (w : World) (ho : OwnSts w lo hi a cap rs) (h0 : 0 ≤ k0) (hk : k0 + 4 * (rs.length : Int) ≤ 1152921504606846976) :
    Calls Tryd.prog 33 #[.slice a rs.length cap, .int .i64 k0] w fun e w' => e = .returned (.int .i64 (k0 + 4 * (rs.length : Int))) ∧ OwnSts w' lo hi a cap (markSts rs k0) ∧ Touch (blocksSts a cap rs) w w' := by
  rcases ho.row.2 with ⟨hv, h00⟩ | ⟨g, cap', cur, hv, hg, hgg, hr⟩
  · simp only [Value.slice.injEq] at hv
    obtain ⟨rfl, _, rfl⟩ := hv
    obtain rfl := List.length_eq_zero_iff.1 h00
    go_enter Tryd.func33, Tryd.ntmps33
    go_wp2
    refine wp_loop_rounds 1 ?_
    rw [rounds_succ]
    go_wp2
    go_ret
    exact ⟨by simp, ho, Touch.refl _ _⟩
  · simp only [Value.slice.injEq] at hv
    obtain ⟨rfl, _, rfl⟩ := hv
    have hlm : rs.length ≤ maxLen := Nat.le_trans hr.1 hr.2.1
    simp only [maxLen] at hlm
    clear hgg hr
    have HH : Hid (halfSts rs k0 0 = rs ∧ halfSts rs k0 rs.length = markSts rs k0) := ⟨by simp [halfSts, markSts], by simp [halfSts]⟩
    have HST : Hid (OwnSts w lo hi (some ⟨g, 0, none⟩) cap (halfSts rs k0 0)) := by rw [HH.out.1]; exact ho
    have HSUB : Hid (∀ k ∈ [g], k ∈ blocksSts (some ⟨g, 0, none⟩) cap rs) := fun k hk => by
      obtain rfl := List.mem_singleton.1 hk
      exact List.mem_append.2 (.inl (by simp [Value.ownBlock]))
    clear ho
    go_enter Tryd.func33, Tryd.ntmps33
    go_wp2
    go_loopw [1, 5] (fun kk i wr => ∃ j : Nat, j ≤ rs.length ∧ i = .int .i64 j ∧ kk = .int .i64 (k0 + 4 * (j : Int)) ∧ Hid (OwnSts wr lo hi (some ⟨g, 0, none⟩) cap (halfSts rs k0 j)) ∧ Touch (blocksSts (some ⟨g, 0, none⟩) cap rs) w wr)
      (fun _ i _ => rs.length - (intOf i).toNat)
    case atStart => exact ⟨0, Nat.zero_le _, rfl, by simp, HST, Touch.refl _ _⟩
    case round =>
      obtain ⟨j, hj, rfl, rfl, hown, htw⟩ := hrel
      clear HST
      by_cases hlt : j < rs.length
      · have ho := hown.out
        rw [halfSts_at rs k0 j hlt] at ho
        have HN : Hid (halfSts rs k0 (j + 1) = _) := halfSts_next rs k0 j hlt
        have hA : (markSts (rs.take j) k0).length = j := by rw [markSts_len, List.length_take]; omega
        have hkb : 0 ≤ k0 + 4 * (j : Int) ∧ k0 + 4 * (j : Int) + 4 ≤ 1152921504606846976 := ⟨by omega, by omega⟩
        have HKN : Hid (k0 + 4 * ((j + 1 : Nat) : Int) = k0 + 4 * (j : Int) + 1 + 1 + 1 + 1) := by rw [Hid]; omega
        have hjl : j < (markSts (rs.take j) k0 ++ rs.getD j zeroSt :: rs.drop (j + 1)).length := by simp [hA]
        have hrow := ho.row
        have hat := (row_seat ho.row rfl j hjl).1
        have ez : (markSts (rs.take j) k0 ++ rs.getD j zeroSt :: rs.drop (j + 1)).getD j zeroSt = rs.getD j zeroSt := by simp [List.getD, hA]
        rw [ez] at hat
        have x0 : wr.cell? ⟨g, j * 20, none⟩ = some (.int .i64 (rs.getD j zeroSt).no) := hat 0 _ rfl
        have x1 : wr.cell? ⟨g, j * 20 + 1, none⟩ = some (.int .i64 (rs.getD j zeroSt).lsn) := hat 1 _ rfl
        have x18 : wr.cell? ⟨g, j * 20 + 18, none⟩ = some (.bool (rs.getD j zeroSt).dirty) := hat 18 _ rfl
        have x19 : wr.cell? ⟨g, j * 20 + 19, none⟩ = some (.bool (rs.getD j zeroSt).hot) := hat 19 _ rfl
        have f0 : wr.frozen? ⟨g, j * 20, none⟩ = false := hrow.frozenAt _
        have f1 := hrow.frozenAt (j * 20 + 1)
        have f18 := hrow.frozenAt (j * 20 + 18)
        have f19 := hrow.frozenAt (j * 20 + 19)
        obtain ⟨W, hW, oW, tW⟩ := ho.mark4 hA (k0 + 4 * (j : Int)) (k0 + 4 * (j : Int) + 1) ((k0 + 4 * (j : Int) + 1 + 1) % 3 == 0) ((k0 + 4 * (j : Int) + 1 + 1 + 1) % 3 == 0)
        have HFIN : Hid (OwnSts W lo hi (some ⟨g, 0, none⟩) cap (halfSts rs k0 (j + 1)) ∧ Touch (blocksSts (some ⟨g, 0, none⟩) cap rs) w W) := by
          refine ⟨?_, htw.trans (tW.mono HSUB.out)⟩
          rw [HN.out]
          exact oW
        clear ho hown htw oW tW HN hat hrow hjl ez hA hk h0
        generalize (rs.getD j zeroSt).no = z0 at *
        generalize (rs.getD j zeroSt).lsn = z1 at *
        generalize (rs.getD j zeroSt).dirty = z2 at *
        generalize (rs.getD j zeroSt).hot = z3 at *
        generalize k0 + 4 * (j : Int) = kk at *
        go_wp2_with fail
        rw [hW.out]
        go_roundw
        case rel => exact ⟨j + 1, by omega, by go_num, by rw [HKN.out], HFIN.out.1, HFIN.out.2⟩
        case measure => simp [intOf]; omega
      · have HE : Hid (OwnSts wr lo hi (some ⟨g, 0, none⟩) cap (markSts rs k0) ∧ k0 + 4 * (j : Int) = k0 + 4 * (rs.length : Int)) := by
          have e : j = rs.length := by omega
          rw [e, HH.out.2] at hown
          exact ⟨hown.out, by rw [e]⟩
        go_wp2
        go_ret
        exact ⟨ret_int HE.out.2, HE.out.1, htw⟩

theorem markSts_at (rs : List SeatA) (k : Int) (j : Nat) (h : j < rs.length) : (markSts rs k).getD j zeroSt = markSt (rs.getD j zeroSt) (k + 4 * (j : Int)) := by
  have e : markSts rs k = markSts (rs.take j) k ++ markSts (rs.drop j) (k + 4 * (j : Int)) := by
    have := markSts_app (rs.take j) (rs.drop j) k
    rw [List.take_append_drop, List.length_take, Nat.min_eq_left (by omega)] at this
    exact this
  have hl : (markSts (rs.take j) k).length = j := by rw [markSts_len, List.length_take]; omega
  rw [e, (seats_split rs j h).1, markSts]
  simp [List.getD, hl]

set_option maxHeartbeats 2000000 in
set_option maxRecDepth 100000 in
theorem heldSeatS_any (a : Option Addr) (cap : Nat) (k0 : Int) (rs : List SeatA) (w : World) (hr : ReadsSts w a (markSts rs k0)) (h0 : 0 ≤ k0) (hk : k0 + 4 * (rs.length : Int) ≤ 1152921504606846976) (hlm : rs.length ≤ 9223372036854775807) :
    Calls Tryd.prog 34 #[.slice a rs.length cap, .int .i64 k0] w fun e w' => e = .returned (.int .i64 (k0 + 4 * (rs.length : Int))) ∧ w' = w := by
  have hml := markSts_len rs k0
  rcases hr.cases with h | ⟨b, off, rfl, hpos, hcell⟩
  · have h' := congrArg List.length h
    rw [hml] at h'
    obtain rfl := List.length_eq_zero_iff.1 h'
    go_enter Tryd.func34, Tryd.ntmps34
    go_wp2
    refine wp_loop_rounds 1 ?_
    rw [rounds_succ]
    go_wp2
    go_ret
    exact ⟨by simp, rfl⟩
  · rw [hml] at hpos hcell
    go_enter Tryd.func34, Tryd.ntmps34
    go_wp2
    go_loop [1, 5] (fun kk i => ∃ j : Nat, j ≤ rs.length ∧ i = .int .i64 j ∧ kk = .int .i64 (k0 + 4 * (j : Int))) (fun _ i => rs.length - (intOf i).toNat)
    case atStart => exact ⟨0, Nat.zero_le _, rfl, by simp⟩
    case round =>
      obtain ⟨j, hj, rfl, rfl⟩ := hrel
      by_cases hlt : j < rs.length
      · obtain ⟨hc, hrd⟩ := hcell j hlt
        rw [markSts_at rs k0 j hlt] at hc
        have hkb : 0 ≤ k0 + 4 * (j : Int) ∧ k0 + 4 * (j : Int) + 4 ≤ 1152921504606846976 := ⟨by omega, by omega⟩
        have HKN : Hid (k0 + 4 * ((j + 1 : Nat) : Int) = k0 + 4 * (j : Int) + 1 + 1 + 1 + 1) := by rw [Hid]; omega
        clear hk h0 hcell hpos hr hml hrd
        generalize k0 + 4 * (j : Int) = kk at *
        generalize rs.getD j zeroSt = z at *
        have x0 : w.cell? ⟨b, off + j * 20, none⟩ = some (.int .i64 kk) := hc 0 _ rfl
        have x1 : w.cell? ⟨b, off + j * 20 + 1, none⟩ = some (.int .i64 (kk + 1)) := hc 1 _ rfl
        have x2 : w.cell? ⟨b, off + j * 20 + 18, none⟩ = some (.bool ((kk + 1 + 1) % 3 == 0)) := hc 18 _ rfl
        have x3 : w.cell? ⟨b, off + j * 20 + 19, none⟩ = some (.bool ((kk + 1 + 1 + 1) % 3 == 0)) := hc 19 _ rfl
        clear hc
        go_wp2_with fail
        go_round
        case rel => exact ⟨j + 1, by omega, by go_num, by rw [HKN.out]⟩
        case measure => simp [intOf]; omega
      · have HE : Hid (k0 + 4 * (j : Int) = k0 + 4 * (rs.length : Int)) := by
          have e : j = rs.length := by omega
          rw [Hid, e]
        go_wp2
        go_ret
        exact ⟨ret_int HE.out, rfl⟩

def PoolA.mark (l : PoolA) (k : Int) : PoolA := { l with seats := markSts l.seats k }
def PoolA.count (l : PoolA) : Nat := 4 * l.seats.length
theorem markPool_cells (l : PoolA) (k : Int) : (l.mark k).cells = l.cells := by simp [PoolA.mark, PoolA.cells, markSts_len]
theorem cnt4 (n : Nat) : ((4 * n : Nat) : Int) = 4 * (n : Int) := by omega

set_option maxHeartbeats 1000000 in
theorem markPool_touch (l : PoolA) (lo hi : Nat) (k0 : Int) (w : World) (ho : l.own w lo hi) (hl : l.short 1099511627776) (h0 : 0 ≤ k0) (hk : k0 + l.count ≤ 1152921504606846976) :
    Calls Tryd.prog 11 #[.agg l.cells.toArray, .int .i64 k0] w fun e w' => e = .returned (.int .i64 (k0 + l.count)) ∧ (l.mark k0).own w' lo hi ∧ Touch l.blocks w w' := by
  obtain ⟨rs, s, a, c⟩ := l
  simp only [PoolA.cells, PoolA.own, PoolA.count, PoolA.mark, PoolA.blocks, cnt4] at *
  obtain ⟨W, hW, b0, hbW, hsW⟩ := boxes1 w [.slice a rs.length c, .int .i64 s] 28
  have c0 := b0.cell 0 _ rfl
  have C := markSeatS_touch lo hi a c k0 rs W (ho.below hbW) h0 hk
  clear hsW b0
  go_enter Tryd.func11, Tryd.ntmps11
  go_wp2_with fail
  rw [hW.out]
  clear hW
  refine C.mono ?_
  rintro e w1 ⟨rfl, ho1, ht1⟩
  go_wp2
  go_ret
  exact ⟨rfl, ho1, (Touch.of_below hbW).trans ht1⟩

set_option maxHeartbeats 1000000 in
theorem heldPool_any (l : PoolA) (lo hi : Nat) (k0 : Int) (w : World) (ho : (l.mark k0).own w lo hi) (hl : l.seats.length ≤ 1099511627776) (h0 : 0 ≤ k0) (hk : k0 + l.count ≤ 1152921504606846976) :
    Calls Tryd.prog 12 #[.agg l.cells.toArray, .int .i64 k0] w fun e w' => e = .returned (.int .i64 (k0 + l.count)) ∧ Below w.heap.size w w' := by
  obtain ⟨rs, s, a, c⟩ := l
  simp only [PoolA.cells, PoolA.own, PoolA.count, PoolA.mark, cnt4] at *
  obtain ⟨W, hW, b0, hbW, hsW⟩ := boxes1 w [.slice a rs.length c, .int .i64 s] 28
  have c0 := b0.cell 0 _ rfl
  have C := heldSeatS_any a c k0 rs W (ho.below hbW).reads h0 hk (by omega)
  have hnn : ¬ (k0 + 4 * (rs.length : Int) < 0) := by omega
  clear hsW b0
  go_enter Tryd.func12, Tryd.ntmps12
  go_wp2_with fail
  rw [hW.out]
  clear hW
  refine C.mono ?_
  rintro e w1 ⟨rfl, rfl⟩
  go_wp2
  go_ret
  exact ⟨rfl, hbW⟩
theorem countSt_short {t : PoolA} (h : t.short 1048576) : 1 + (t.count : Int) ≤ 1152921504606846976 := by
  have h2 := h.len
  have e : t.count = 4 * t.seats.length := rfl
  rw [e]
  omega
end Go.Proofs.YtickiokdcbeefabDoor
