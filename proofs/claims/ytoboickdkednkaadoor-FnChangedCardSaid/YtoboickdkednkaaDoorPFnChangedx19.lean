/- Several texts in one, in their order. -/
import Derived.Test.YtoboickdkednkaaDoorPFnChangedx16
import Derived.Test.YtoboickdkednkaaDoorPFnChangedx17
import Derived.Test.YtoboickdkednkaaDoorPFnChangedx14
import Derived.Test.YtoboickdkednkaaDoorPFnChangedx13
import Derived.Test.YtoboickdkednkaaDoorProg
import Derived.Test.YtoboickdkednkaaDoorPFnChangedx1
import Derived.ProofKit
import Derived.OpenShut
import Derived.ChangeOld
import Derived.Test.YtoboickdkednkaaDoorPFnChangedx18
import Derived.Test.YtoboickdkednkaaDoorPFnChangedx10
import Derived.Test.YtoboickdkednkaaDoorRows
import Derived.Test.YtoboickdkednkaaDoorPFnChangedx11
import Derived.LaidLaws
import Derived.LaidHandle
import Derived.Stop.Joined
import Derived.ChangeVars
/- The walks of spec.Used and impl.Used. -/
namespace Go.Proofs.YtoboickdkednkaaDoor
open Go.RowKit

set_option maxHeartbeats 1000000 in
set_option maxRecDepth 100000 in
theorem implUsed_any (p : PoolA) (n : Int) (w : World) (hr : p.reads w) (hl : p.short 1048576) :
    Calls Tryd.prog 17 #[.agg p.cells.toArray, .int .i64 n] w fun e w' => ∃ t : PoolA, e = .returned (.agg t.cells.toArray) ∧ Hid (t.v = usedOf p.v n) ∧ t.own w' w.heap.size w'.heap.size ∧ Below w.heap.size w w' := by
  obtain ⟨W, hW, b0, b1, hbW, hsW⟩ := boxes2 w [.slice p.a p.seats.length p.c, .int .i64 p.hand] [.slice none 0 0, .int .i64 0] 26 26
  have hs0 : w.heap.size + 1 < W.heap.size := by omega
  have p0 := b0.cell 0 _ rfl
  have p1 := b0.cell 1 _ rfl
  have C := copyPool_any p W (PoolA.reads.below hr hbW) hl
  simp only [PoolA.cells] at *
  clear hsW
  go_enter Tryd.func17, Tryd.ntmps17
  go_upto_region 1 with fail
  rw [hW.out]
  clear hW
  go_wp2_with fail
  refine C.mono ?_
  clear C p0 p1
  rintro e w1 ⟨t, rfl, hv, ho, hb1⟩
  have hs1 := hb1.size
  have b01 := b0.below hb1 b0.lt
  have b11 := b1.below hb1 b1.lt
  obtain ⟨W2, hW2, b2, hb2, hs2⟩ := boxes1 w1 [.slice t.a t.seats.length t.c, .int .i64 t.hand] 26
  have b02 := b01.below hb2 b01.lt
  have b12 := b11.below hb2 b11.lt
  have o2 := ho.below hb2
  have n2 : Below w.heap.size w W2 := (hbW.trans (hb1.mono (by omega))).trans (hb2.mono (by omega))
  have hs2' := b2.lt
  clear b0 b1 b01 b11 ho hb1 hb2 hs2 hbW
  go_upto_region 2 with fail
  rw [hW2.out]
  clear hW2
  have p0 := b02.cell 0 _ rfl
  have p1 := b02.cell 1 _ rfl
  have C := implSeated_any p n W2 (PoolA.reads.below hr n2) (PoolA.short_wide hl)
  simp only [PoolA.cells] at C
  have HV : Hid (t.v = p.v) := hv.out
  have HUS : Hid (∀ q : PoolA, q.v = p.v → usedOf q.v n = usedOf p.v n) := fun q h => by rw [h]
  clear hv
  go_wp2_with fail
  refine C.mono ?_
  clear C p0 p1
  rintro e w3 ⟨rfl, hb3⟩
  have hs3 := hb3.size
  have b13 := b12.below hb3 b12.lt
  have b23 := b2.below hb3 b2.lt
  have o3 := o2.below hb3
  have n3 : Below w.heap.size w w3 := n2.trans (hb3.mono n2.size)
  clear b02 b12 b2 o2 n2 hb3
  rcases seated_cases p.v.seats n with ⟨k, hk, _, _, hsk⟩ | ⟨_, hsk⟩
  · have HVK : Hid (usedOf p.v n = setSeatV p.v k usedV) := by
      rw [Hid, usedOf, if_pos (by rw [hsk]; omega), hsk]
      rfl
    have hkt : k < t.seats.length := by
      have e := congrArg (fun v => v.seats.length) HV.out
      simp only [PoolA.v, List.length_map] at e hk
      omega
    rw [hsk]
    clear hsk hk HUS
    obtain ⟨ts, hand, a, c⟩ := t
    simp only [PoolA.own] at *
    obtain ⟨g, rfl⟩ : ∃ g, a = some ⟨g, 0, none⟩ := by
      rcases o3.row.2 with ⟨_, h0⟩ | ⟨g, cap', cur, hv, _⟩
      · omega
      · simp only [Value.slice.injEq] at hv; exact ⟨g, hv.1⟩
    have hgl := (o3.blocks_lt g (by simp [blocksSts, Value.ownBlock]))
    have hkl : (ts.take k).length = k := by rw [List.length_take]; omega
    have osp := o3
    rw [seatD_split ts k hkt] at osp
    obtain ⟨o4, t4⟩ := osp.cellSet (z' := { ts.getD k zeroSt with hot := true }) 19 (.bool true) (by omega) rfl rfl
    rw [hkl, ← seat_set ts k _ hkt] at o4
    rw [hkl] at t4
    have x19 := (row_seat o3.row rfl k hkt).1 19 _ rfl
    have f19 := o3.row.frozenAt (k * 20 + 19)
    have y0 := b23.cell 0 _ rfl
    have hkk : (k : Int) < (ts.length : Int) := by omega
    have hk0 : (0 : Int) ≤ (k : Int) := by omega
    obtain ⟨W4, hW4⟩ : ∃ W4, Hid (w3.setCell ⟨g, k * 20 + 19, none⟩ (.bool true) = W4) := ⟨_, rfl⟩
    have HW4 := hW4.out
    rw [HW4] at o4 t4
    have hs4 := t4.size
    have b14 := b13.touch t4 (by simp; omega)
    have b24 := b23.touch t4 (by simp; omega)
    have n4 : Below w.heap.size w W4 := n3.trans ((t4.within (lo := W.heap.size) (hi := w1.heap.size) (fun j hj => by obtain rfl := List.mem_singleton.1 hj; exact hgl)).below (by omega) (by omega))
    have e0 := b24.cell 0 _ rfl
    have e1 := b24.cell 1 _ rfl
    have m0 := b14.cell 0 _ rfl
    have m1 := b14.cell 1 _ rfl
    have mf0 := b14.frozen 0
    have mf1 := b14.frozen 1
    obtain ⟨WF, hWF, bF, hwF, hsF⟩ := box2_fill b14 (.slice (some ⟨g, 0, none⟩) ts.length c) (.int .i64 hand)
    have q0 := bF.cell 0 _ rfl
    have q1 := bF.cell 1 _ rfl
    have hoF := (o4.within hwF (.inr (by omega))).widen (show w.heap.size ≤ W.heap.size by omega) (show w1.heap.size ≤ WF.heap.size by omega) (Nat.le_refl _)
    have hbF : Below w.heap.size w WF := n4.trans (hwF.below (by omega) (by omega))
    have HFIN : Hid (PoolA.v ⟨ts.set k { ts.getD k zeroSt with hot := true }, hand, some ⟨g, 0, none⟩, c⟩ = usedOf p.v n) := by
      rw [Hid, HVK.out, ← HV.out, setSeatV]
      simp only [PoolA.v, List.map_set, seatV_at]
      rfl
    have HLN : Hid ((ts.set k { ts.getD k zeroSt with hot := true }).length = ts.length) := by rw [Hid]; simp
    clear hwF hsF bF o3 osp t4 b13 b23 b14 b24 HW4 hkl HVK HV o4
    generalize ts.set k { ts.getD k zeroSt with hot := true } = us at *
    go_upto_region 5 with fail
    rw [hW4.out]
    clear hW4 x19 f19 y0
    go_wp2_with fail
    rw [hWF.out]
    exact bodyPost_ret (v := .agg #[.slice (some ⟨g, 0, none⟩) ts.length c, .int .i64 hand]) (by simp [results, Tryd.results17, go_sem, q0, q1]) rfl ⟨⟨us, hand, some ⟨g, 0, none⟩, c⟩, by simp only [HLN.out], HFIN, hoF, hbF⟩
  · have HVK : Hid (t.v = usedOf p.v n) := by
      rw [Hid, usedOf, if_neg (by rw [hsk]; omega)]
      exact HV.out
    rw [hsk]
    clear hsk HUS HV
    have e0 := b23.cell 0 _ rfl
    have e1 := b23.cell 1 _ rfl
    have m0 := b13.cell 0 _ rfl
    have m1 := b13.cell 1 _ rfl
    have mf0 := b13.frozen 0
    have mf1 := b13.frozen 1
    obtain ⟨WF, hWF, bF, hwF, hsF⟩ := box2_fill b13 (.slice t.a t.seats.length t.c) (.int .i64 t.hand)
    have q0 := bF.cell 0 _ rfl
    have q1 := bF.cell 1 _ rfl
    have hoF := (PoolA.own.within o3 hwF (.inr (by omega))).widen (show w.heap.size ≤ W.heap.size by omega) (show w1.heap.size ≤ WF.heap.size by omega) (Nat.le_refl _)
    have hbF : Below w.heap.size w WF := n3.trans (hwF.below (by omega) (by omega))
    clear hwF hsF bF o3 b13 b23
    go_wp2_with fail
    rw [hWF.out]
    exact bodyPost_ret (v := .agg #[.slice t.a t.seats.length t.c, .int .i64 t.hand]) (by simp [results, Tryd.results17, go_sem, q0, q1]) rfl ⟨t, rfl, HVK, hoF, hbF⟩
end Go.Proofs.YtoboickdkednkaaDoor

/- The walks of spec.Clean and impl.Clean. -/
namespace Go.Proofs.YtoboickdkednkaaDoor
open Go.RowKit

set_option maxHeartbeats 1000000 in
set_option maxRecDepth 100000 in
theorem implClean_any (p : PoolA) (n : Int) (w : World) (hr : p.reads w) (hl : p.short 1048576) :
    Calls Tryd.prog 18 #[.agg p.cells.toArray, .int .i64 n] w fun e w' => ∃ t : PoolA, e = .returned (.agg t.cells.toArray) ∧ Hid (t.v = cleanOf p.v n) ∧ t.own w' w.heap.size w'.heap.size ∧ Below w.heap.size w w' := by
  obtain ⟨W, hW, b0, b1, hbW, hsW⟩ := boxes2 w [.slice p.a p.seats.length p.c, .int .i64 p.hand] [.slice none 0 0, .int .i64 0] 26 26
  have hs0 : w.heap.size + 1 < W.heap.size := by omega
  have p0 := b0.cell 0 _ rfl
  have p1 := b0.cell 1 _ rfl
  have C := copyPool_any p W (PoolA.reads.below hr hbW) hl
  simp only [PoolA.cells] at *
  clear hsW
  go_enter Tryd.func18, Tryd.ntmps18
  go_upto_region 1 with fail
  rw [hW.out]
  clear hW
  go_wp2_with fail
  refine C.mono ?_
  clear C p0 p1
  rintro e w1 ⟨t, rfl, hv, ho, hb1⟩
  have hs1 := hb1.size
  have b01 := b0.below hb1 b0.lt
  have b11 := b1.below hb1 b1.lt
  obtain ⟨W2, hW2, b2, hb2, hs2⟩ := boxes1 w1 [.slice t.a t.seats.length t.c, .int .i64 t.hand] 26
  have b02 := b01.below hb2 b01.lt
  have b12 := b11.below hb2 b11.lt
  have o2 := ho.below hb2
  have n2 : Below w.heap.size w W2 := (hbW.trans (hb1.mono (by omega))).trans (hb2.mono (by omega))
  have hs2' := b2.lt
  clear b0 b1 b01 b11 ho hb1 hb2 hs2 hbW
  go_upto_region 2 with fail
  rw [hW2.out]
  clear hW2
  have p0 := b02.cell 0 _ rfl
  have p1 := b02.cell 1 _ rfl
  have C := implSeated_any p n W2 (PoolA.reads.below hr n2) (PoolA.short_wide hl)
  simp only [PoolA.cells] at C
  have HV : Hid (t.v = p.v) := hv.out
  have HUS : Hid (∀ q : PoolA, q.v = p.v → cleanOf q.v n = cleanOf p.v n) := fun q h => by rw [h]
  clear hv
  go_wp2_with fail
  refine C.mono ?_
  clear C p0 p1
  rintro e w3 ⟨rfl, hb3⟩
  have hs3 := hb3.size
  have b13 := b12.below hb3 b12.lt
  have b23 := b2.below hb3 b2.lt
  have o3 := o2.below hb3
  have n3 : Below w.heap.size w w3 := n2.trans (hb3.mono n2.size)
  clear b02 b12 b2 o2 n2 hb3
  rcases seated_cases p.v.seats n with ⟨k, hk, _, _, hsk⟩ | ⟨_, hsk⟩
  · have HVK : Hid (cleanOf p.v n = setSeatV p.v k cleanV) := by
      rw [Hid, cleanOf, if_pos (by rw [hsk]; omega), hsk]
      rfl
    have hkt : k < t.seats.length := by
      have e := congrArg (fun v => v.seats.length) HV.out
      simp only [PoolA.v, List.length_map] at e hk
      omega
    rw [hsk]
    clear hsk hk HUS
    obtain ⟨ts, hand, a, c⟩ := t
    simp only [PoolA.own] at *
    obtain ⟨g, rfl⟩ : ∃ g, a = some ⟨g, 0, none⟩ := by
      rcases o3.row.2 with ⟨_, h0⟩ | ⟨g, cap', cur, hv, _⟩
      · omega
      · simp only [Value.slice.injEq] at hv; exact ⟨g, hv.1⟩
    have hgl := (o3.blocks_lt g (by simp [blocksSts, Value.ownBlock]))
    have hkl : (ts.take k).length = k := by rw [List.length_take]; omega
    have osp := o3
    rw [seatD_split ts k hkt] at osp
    obtain ⟨o4, t4⟩ := osp.cellSet (z' := { ts.getD k zeroSt with dirty := false }) 18 (.bool false) (by omega) rfl rfl
    rw [hkl, ← seat_set ts k _ hkt] at o4
    rw [hkl] at t4
    have x19 := (row_seat o3.row rfl k hkt).1 18 _ rfl
    have f19 := o3.row.frozenAt (k * 20 + 18)
    have y0 := b23.cell 0 _ rfl
    have hkk : (k : Int) < (ts.length : Int) := by omega
    have hk0 : (0 : Int) ≤ (k : Int) := by omega
    obtain ⟨W4, hW4⟩ : ∃ W4, Hid (w3.setCell ⟨g, k * 20 + 18, none⟩ (.bool false) = W4) := ⟨_, rfl⟩
    have HW4 := hW4.out
    rw [HW4] at o4 t4
    have hs4 := t4.size
    have b14 := b13.touch t4 (by simp; omega)
    have b24 := b23.touch t4 (by simp; omega)
    have n4 : Below w.heap.size w W4 := n3.trans ((t4.within (lo := W.heap.size) (hi := w1.heap.size) (fun j hj => by obtain rfl := List.mem_singleton.1 hj; exact hgl)).below (by omega) (by omega))
    have e0 := b24.cell 0 _ rfl
    have e1 := b24.cell 1 _ rfl
    have m0 := b14.cell 0 _ rfl
    have m1 := b14.cell 1 _ rfl
    have mf0 := b14.frozen 0
    have mf1 := b14.frozen 1
    obtain ⟨WF, hWF, bF, hwF, hsF⟩ := box2_fill b14 (.slice (some ⟨g, 0, none⟩) ts.length c) (.int .i64 hand)
    have q0 := bF.cell 0 _ rfl
    have q1 := bF.cell 1 _ rfl
    have hoF := (o4.within hwF (.inr (by omega))).widen (show w.heap.size ≤ W.heap.size by omega) (show w1.heap.size ≤ WF.heap.size by omega) (Nat.le_refl _)
    have hbF : Below w.heap.size w WF := n4.trans (hwF.below (by omega) (by omega))
    have HFIN : Hid (PoolA.v ⟨ts.set k { ts.getD k zeroSt with dirty := false }, hand, some ⟨g, 0, none⟩, c⟩ = cleanOf p.v n) := by
      rw [Hid, HVK.out, ← HV.out, setSeatV]
      simp only [PoolA.v, List.map_set, seatV_at]
      rfl
    have HLN : Hid ((ts.set k { ts.getD k zeroSt with dirty := false }).length = ts.length) := by rw [Hid]; simp
    clear hwF hsF bF o3 osp t4 b13 b23 b14 b24 HW4 hkl HVK HV o4
    generalize ts.set k { ts.getD k zeroSt with dirty := false } = us at *
    go_upto_region 5 with fail
    rw [hW4.out]
    clear hW4 x19 f19 y0
    go_wp2_with fail
    rw [hWF.out]
    exact bodyPost_ret (v := .agg #[.slice (some ⟨g, 0, none⟩) ts.length c, .int .i64 hand]) (by simp [results, Tryd.results18, go_sem, q0, q1]) rfl ⟨⟨us, hand, some ⟨g, 0, none⟩, c⟩, by simp only [HLN.out], HFIN, hoF, hbF⟩
  · have HVK : Hid (t.v = cleanOf p.v n) := by
      rw [Hid, cleanOf, if_neg (by rw [hsk]; omega)]
      exact HV.out
    rw [hsk]
    clear hsk HUS HV
    have e0 := b23.cell 0 _ rfl
    have e1 := b23.cell 1 _ rfl
    have m0 := b13.cell 0 _ rfl
    have m1 := b13.cell 1 _ rfl
    have mf0 := b13.frozen 0
    have mf1 := b13.frozen 1
    obtain ⟨WF, hWF, bF, hwF, hsF⟩ := box2_fill b13 (.slice t.a t.seats.length t.c) (.int .i64 t.hand)
    have q0 := bF.cell 0 _ rfl
    have q1 := bF.cell 1 _ rfl
    have hoF := (PoolA.own.within o3 hwF (.inr (by omega))).widen (show w.heap.size ≤ W.heap.size by omega) (show w1.heap.size ≤ WF.heap.size by omega) (Nat.le_refl _)
    have hbF : Below w.heap.size w WF := n3.trans (hwF.below (by omega) (by omega))
    clear hwF hsF bF o3 b13 b23
    go_wp2_with fail
    rw [hWF.out]
    exact bodyPost_ret (v := .agg #[.slice t.a t.seats.length t.c, .int .i64 t.hand]) (by simp [results, Tryd.results18, go_sem, q0, q1]) rfl ⟨t, rfl, HVK, hoF, hbF⟩
end Go.Proofs.YtoboickdkednkaaDoor

/- What the pool's functions make stays short. -/
namespace Go.Proofs.YtoboickdkednkaaDoor
open Go.RowKit

def SeatV.short (s : SeatV) (m : Nat) : Prop := ∀ x ∈ s.ss, x.o.ints.length ≤ m ∧ x.o.refs.length ≤ m
theorem setV_short {ss : List SeatV} {m k : Nat} {x : SeatV} (h : ∀ s ∈ ss, s.short m) (hx : x.short m) : ∀ s ∈ ss.set k x, s.short m := fun s hs => by
  rcases List.mem_or_eq_of_mem_set hs with hs | rfl
  · exact h s hs
  · exact hx
theorem pool_shortV {p : PoolA} {m : Nat} (h : p.short m) : ∀ s ∈ p.v.seats, s.short m := fun s hs => by
  obtain ⟨r, hr, rfl⟩ := List.mem_map.1 hs
  intro x hx
  obtain ⟨y, hy, rfl⟩ := List.mem_map.1 hx
  exact h.each r hr y hy
theorem short_by {t : PoolA} {m : Nat} (hlen : t.v.seats.length ≤ m) (h : ∀ s ∈ t.v.seats, s.short m) : t.short m := by
  refine ⟨by simpa [PoolA.v] using hlen, fun r hr x hx => ?_⟩
  exact h r.v (List.mem_map.2 ⟨r, hr, rfl⟩) x.v (List.mem_map.2 ⟨x, hx, rfl⟩)
theorem change_short {p t : PoolA} {no lsn : Int} {ss : List SlotV} (h : t.v = (changeOf6 p.v no lsn ss).1) (hl : p.short 1048576) (hp : ∀ x ∈ ss, x.o.ints.length ≤ 1048576 ∧ x.o.refs.length ≤ 1048576) : t.short 1048576 := by
  have hs := pool_shortV hl
  have hlen : p.v.seats.length ≤ 1048576 := by have := hl.len; simpa [PoolA.v] using this
  rw [changeOf6] at h
  split at h
  · exact short_by (by rw [h]; simpa [setSeatV] using hlen) (by rw [h]; exact setV_short hs hp)
  · exact short_by (by rw [h]; exact hlen) (by rw [h]; exact hs)
end Go.Proofs.YtoboickdkednkaaDoor

/- What came in, read: a slice of bytes. -/
namespace Go.Proofs.YtoboickdkednkaaDoor
open Go.ChangeShapes Go.WideShapes Go.ChangeAt Go.RowKit

section
variable {H : Type} {enc : TypeId × Value → H} {w : World} {base : Nat} {spare : Nat → Bool} {held : Bool}

theorem trod_bytes {fuel : Nat} {cs : List Value} {x : DataW H × List MemPlace} (h : DataW.trod enc Tryd.prog w base spare held fuel 22 cs = some x) :
    ∃ (a : Option Addr) (c : Nat) (ns : List Int), cs = [.slice a ns.length c] ∧ Reads w a ns ∧ (a = none → c = 0) ∧ ns.length ≤ maxLen := by
  rcases open_ints Tryd.underlying22 Tryd.underlying5 (by kernel_rfl) h with ⟨rfl, _⟩ | ⟨a, len, cap, zs, rfl, _, hl, hm, hz, _, hcell, hwf⟩
  · exact ⟨none, 0, [], rfl, ⟨by simp, by simp⟩, fun _ => rfl, by simp⟩
  · have hlz : len ≤ zs.length := by rw [hz]; split <;> omega
    refine ⟨some a, cap, zs.take len, by simp; omega, ⟨fun z hzz => ?_, ?_⟩, (fun h => by cases h), by simp; omega⟩
    · have := hwf z (List.mem_of_mem_take hzz)
      simp [Lit.wf, IntKind.min, IntKind.max, IntKind.signed, IntKind.bits] at this
      omega
    · intro hne
      have hpos := List.length_pos_iff.2 hne
      simp at hpos
      obtain ⟨b, off, spot⟩ := a
      have hc0 := hcell 0 (by omega)
      have hspot : spot = none := by simpa [Addr.add] using World.cell?_spot hc0
      subst hspot
      refine ⟨b, off, rfl, fun i hi => ?_⟩
      have hi' : i < len := by simp at hi; omega
      have := hcell i (by omega)
      have e : (List.take len zs).getD i 0 = zs.getD i 0 := by simp [List.getD, hi']
      rw [e, ← Addr_add]
      exact this

set_option maxRecDepth 100000 in
/-- A slice of bytes that came in as an argument. -/
theorem open_bytes {b0 : Nat} {v : Value} {d : DataW H} {ps : List MemPlace} (hval : Value.okWide Tryd.prog w .any b0 22 v) (h : DataW.Trod enc Tryd.prog w base spare held 22 v d ps) :
    ∃ (a : Option Addr) (c : Nat) (ns : List Int), v = .slice a ns.length c ∧ Reads w a ns ∧ (a = none → c = 0) ∧ ns.length ≤ maxLen := by
  obtain ⟨a, len, cap, hv⟩ := okWide_slice (e := 5) Tryd.underlying22 hval
  subst hv
  obtain ⟨fuel, hf⟩ := h
  have e : (Value.slice a len cap).cells.toList = [Value.slice a len cap] := rfl
  rw [e] at hf
  obtain ⟨a', c', ns, hc, rest⟩ := trod_bytes hf
  simp only [List.cons.injEq, and_true] at hc
  exact ⟨a', c', ns, hc, rest⟩
end
end Go.Proofs.YtoboickdkednkaaDoor

/- The walk of laws.FnChanged. -/
namespace Go.Proofs.YtoboickdkednkaaDoor
open Go.RowKit

theorem pool7 {p : PoolA} (h4 : p.seats.length ≤ 4) (h : p.short 7) : p.short 1048576 := ⟨by omega, fun s hs x hx => by have := h.each s hs x hx; omega⟩
/-- A seat of an own row: its row, its page, its marks. -/
theorem own_seat {w : World} {lo hi : Nat} {a : Option Addr} {c : Nat} {ss : List SeatA} (h : OwnSts w lo hi a c ss) (k : Nat) (hk : k < ss.length) :
    ∃ g, a = some ⟨g, 0, none⟩ ∧ w.rangeAt g (k * 20 + 1) (ss.getD k zeroSt).page.cells ∧ w.cell? ⟨g, k * 20 + 18, none⟩ = some (.bool (ss.getD k zeroSt).dirty) ∧ w.cell? ⟨g, k * 20 + 19, none⟩ = some (.bool (ss.getD k zeroSt).hot) ∧ w.cell? ⟨g, k * 20, none⟩ = some (.int .i64 (ss.getD k zeroSt).no) := by
  obtain ⟨g, rfl⟩ : ∃ g, a = some ⟨g, 0, none⟩ := by
    rcases h.row.2 with ⟨_, h0⟩ | ⟨g, cap', cur, hv, _⟩
    · omega
    · simp only [Value.slice.injEq] at hv; exact ⟨g, hv.1⟩
  have r := (row_seat h.row rfl k hk).1
  refine ⟨g, rfl, ?_, r 18 _ rfl, r 19 _ rfl, r 0 _ rfl⟩
  rw [SeatA.cells_page] at r
  intro j v hv
  have hj : j < (ss.getD k zeroSt).page.cells.length := (List.getElem?_eq_some_iff.1 hv).1
  have := r (1 + j) v (by
    rw [Nat.add_comm 1 j, List.getElem?_cons_succ, List.getElem?_append_left hj]
    exact hv)
  rw [show k * 20 + 1 + j = k * 20 + (1 + j) by omega]
  exact this
theorem rd_seat {w : World} {a : Option Addr} {ss : List SeatA} (h : ReadsSts w a ss) (k : Nat) (hk : k < ss.length) : ReadsS w (ss.getD k zeroSt).ss := by
  obtain ⟨b, off, _, hh⟩ := h (by intro e; rw [e] at hk; simp at hk)
  exact (hh k hk).2
theorem cell_below {w x : World} {a : Addr} {v : Value} (hx : Below w.heap.size w x) (h : w.cell? a = some v) : x.cell? a = some v := (hx.cell (World.block_lt_of_cell? w a h)).trans h
theorem rng_below {w x : World} {b o : Nat} {cs : List Value} (hx : Below w.heap.size w x) (h : w.rangeAt b o cs) : x.rangeAt b o cs := fun j v hv => cell_below hx (h j v hv)

set_option maxHeartbeats 16000000 in
set_option maxRecDepth 100000 in
theorem lawChanged_walk (a : Option Addr) (cap : Nat) (zs : List Int) (w : World) (hg : ErrT w) (hr : Reads w a zs) :
    Calls Tryd.prog 4 #[.slice a zs.length cap] w fun e w' => e = .returned (.bool true) ∧ Below w.heap.size w w' := by
  by_cases hbig : 1048576 < zs.length
  · have hd : decide (1048576 < zs.length) = true := decide_eq_true hbig
    go_enter Tryd.func4, Tryd.ntmps4
    go_wp2_with (go_at_call 5; refine (big_any _ _ _ _).mono ?_; rintro e w' ⟨rfl, rfl⟩)
    go_ret
    exact ⟨rfl, Below.refl _ _⟩
  have hd : decide (1048576 < zs.length) = false := decide_eq_false hbig
  go_enter Tryd.func4, Tryd.ntmps4
  go_wp2_with fail
  refine (big_any _ _ _ _).mono ?_
  rintro e w0 ⟨rfl, rfl⟩
  go_wp2_with fail
  refine (drawChange_any a cap zs w0 hr (by omega)).mono ?_
  rintro e w1 ⟨p, no, r, rfl, hp4, hps, hr4, hrs, hrp, hrr, hb1⟩
  have hs1 := hb1.size
  have hpS := pool7 hp4 hps
  have hfr : Fit r.ss := fun s hs => by have := hrs s hs; omega
  have HRS : Hid (_) := hrs
  clear hrs
  have HIr : Hid ((Tryd.prog.info? 34).map (·.size) = some r.cells.length) := by rw [Hid, page_len _ hr4]; kernel_rfl
  have HOr : Hid (_) := all_oneCell_toArray (oneP r)
  obtain ⟨V2, hV2, bz0, bz1, hbz, hsz⟩ := boxes2 w1 [.slice none 0 0, .int .i64 0] [.int .i64 0, .bool false, .int .i64 0, .slice none 0 0, .slice none 0 0, .bool false, .int .i64 0, .slice none 0 0, .slice none 0 0, .bool false, .int .i64 0, .slice none 0 0, .slice none 0 0, .bool false, .int .i64 0, .slice none 0 0, .slice none 0 0] 26 34
  obtain ⟨V3, hV3, hw3, hs3, HT3, _, bp3⟩ := pool_out p _ rfl bz0
  obtain ⟨W2, hW2, hw2, hs2, HT2, _, br⟩ := page_out (C := w1.heap.size + 1) (T := 34) r hr4 _ rfl (bz1.within hw3 (by omega)) Tryd.underlying34 rfl (by kernel_rfl)
  have bp := bp3.within hw2 (by omega)
  have M2 : Below w1.heap.size w1 W2 := (hbz.trans (hw3.below (Nat.le_refl _) (by omega))).trans (hw2.below (by omega) (by omega))
  have rp2 : p.reads W2 := hrp.below M2
  have rr2 := hrr.below M2
  have B2 : Below w0.heap.size w0 W2 := hb1.trans (M2.mono hs1)
  have hRp : ∀ w', Below W2.heap.size W2 w' → p.reads w' := fun w' hh => rp2.below hh
  have hRr : ∀ w', Below W2.heap.size W2 w' → ReadsS w' r.ss := fun w' hh => rr2.below hh
  have hgB : ∀ w', Below W2.heap.size W2 w' → ErrT w' := fun w' hh => hg.keep (B2.trans (hh.mono B2.size))
  have lp := bp.lt
  have lr := br.lt
  have N : Below W2.heap.size W2 W2 := Below.refl _ _
  clear bz0 bz1 hbz hsz hw3 hs3 bp3 hw2 hs2 M2 hrp hrr hd hbig hps
  go_wp2_with (first | (guard_target = wpList _ _ _ (Oper.mk none (Op.store _ (Operand.tmp 3) _) _ _ _ _ :: _) _ _; refine wpList_store_mid rfl 26 (.tmp 3) (.tmp 18) rfl w1.heap.size 0 (p.cells).toArray rfl rfl (by rw [hV2.out]; exact HT3.out) (by rw [List.size_toArray]; exact (pool_info _)) (pool_one _) ?_) | (guard_target = wpList _ _ _ (Oper.mk none (Op.store _ (Operand.tmp 5) _) _ _ _ _ :: _) _ _; refine wpList_store_mid rfl 34 (.tmp 5) (.tmp 20) rfl (w1.heap.size + 1) 0 (r.cells).toArray rfl rfl (by rw [hV2.out, hV3.out]; exact HT2.out) (by rw [List.size_toArray]; exact HIr.out) HOr.out ?_) | (guard_target = wpList _ _ _ (Oper.mk (some 22) _ _ _ _ _ :: _) _ _; refine wpList_load_mid rfl 26 (.tmp 3) rfl w1.heap.size 0 rfl (p.cells) _ (by rw [hV2.out, hV3.out, hW2.out]; exact (Box.range [] (p.cells) [] (by simpa using bp))) Tryd.underlying26 rfl (pool_info _) ?_) | (guard_target = wpList _ _ _ (Oper.mk (some 24) _ _ _ _ _ :: _) _ _; refine wpList_load_mid rfl 34 (.tmp 5) rfl (w1.heap.size + 1) 0 rfl (r.cells) _ (by rw [hV2.out, hV3.out, hW2.out]; exact (Box.range [] (r.cells) [] (by simpa using br))) Tryd.underlying34 rfl HIr.out ?_) | fail)
  rw [hV2.out, hV3.out, hW2.out]
  clear hV2 hV3 hW2 HT3 HT2
  refine (implChange_any p no r hr4 W2 (hgB _ N) (hRp _ N) hpS (hRr _ N) hfr).mono ?_
  rintro e w3 ⟨n, ok, rfl, HVN, on, hb3⟩
  replace bp := bp.below hb3 bp.lt
  replace br := br.below hb3 br.lt
  replace N := N.trans (hb3.mono N.size)
  have s3 := hb3.size
  clear hb3
  obtain ⟨Zw4, hZw4, bZ, hbZ, hsZ⟩ := boxes1 w3 [.slice none 0 0, .int .i64 0] 26
  obtain ⟨w4, hSw4, hwZ, hzZ, HTw4, _, bn⟩ := pool_out n _ rfl bZ
  have hbw4 : Below w3.heap.size w3 w4 := hbZ.trans (hwZ.below (Nat.le_refl _) (by omega))
  clear bZ hbZ hsZ hwZ hzZ
  replace bp := bp.below hbw4 bp.lt
  replace br := br.below hbw4 br.lt
  replace on := on.below hbw4
  replace N := N.trans (hbw4.mono N.size)
  have sw4 := hbw4.size
  have lw4 := bn.lt
  clear hbw4
  go_wp2_with (first | (guard_target = wpList _ _ _ (Oper.mk none (Op.store _ (Operand.tmp 6) _) _ _ _ _ :: _) _ _; refine wpList_store_mid rfl 26 (.tmp 6) (.tmp 26) rfl w3.heap.size 0 (n.cells).toArray rfl rfl (by rw [hZw4.out]; exact HTw4.out) (by rw [List.size_toArray]; exact (pool_info _)) (pool_one _) ?_) | (guard_target = wpList _ _ _ (Oper.mk (some 29) _ _ _ _ _ :: _) _ _; refine wpList_load_mid rfl 26 (.tmp 3) rfl w1.heap.size 0 rfl (p.cells) _ (by rw [hZw4.out, hSw4.out]; exact (Box.range [] (p.cells) [] (by simpa using bp))) Tryd.underlying26 rfl (pool_info _) ?_) | (guard_target = wpList _ _ _ (Oper.mk (some 31) _ _ _ _ _ :: _) _ _; refine wpList_load_mid rfl 34 (.tmp 5) rfl (w1.heap.size + 1) 0 rfl (r.cells) _ (by rw [hZw4.out, hSw4.out]; exact (Box.range [] (r.cells) [] (by simpa using br))) Tryd.underlying34 rfl HIr.out ?_) | fail)
  rw [hZw4.out, hSw4.out]
  clear hZw4 hSw4 HTw4
  refine (specChange_any p no r hr4 w4 (hRp _ N) hpS (hRr _ N) hfr).mono ?_
  rintro e w5 ⟨n', ok', rfl, HVM, _, hb5⟩
  obtain rfl : ok' = ok := by have h := HVN.out.symm.trans HVM.out; exact (Prod.mk.inj h).2.symm
  clear HVM
  replace bp := bp.below hb5 bp.lt
  replace br := br.below hb5 br.lt
  replace bn := bn.below hb5 bn.lt
  replace on := on.below hb5
  replace N := N.trans (hb5.mono N.size)
  have s5 := hb5.size
  clear hb5
  obtain ⟨Zw6, hZw6, bZ, hbZ, hsZ⟩ := boxes1 w5 [.slice none 0 0, .int .i64 0] 26
  obtain ⟨w6, hSw6, hwZ, hzZ, HTw6, _, bm⟩ := pool_out n' _ rfl bZ
  have hbw6 : Below w5.heap.size w5 w6 := hbZ.trans (hwZ.below (Nat.le_refl _) (by omega))
  clear bZ hbZ hsZ hwZ hzZ
  replace bp := bp.below hbw6 bp.lt
  replace br := br.below hbw6 br.lt
  replace bn := bn.below hbw6 bn.lt
  replace on := on.below hbw6
  replace N := N.trans (hbw6.mono N.size)
  have sw6 := hbw6.size
  have lw6 := bm.lt
  clear hbw6
  go_wp2_with (first | (guard_target = wpList _ _ _ (Oper.mk none (Op.store _ (Operand.tmp 8) _) _ _ _ _ :: _) _ _; refine wpList_store_mid rfl 26 (.tmp 8) (.tmp 33) rfl w5.heap.size 0 (n'.cells).toArray rfl rfl (by rw [hZw6.out]; exact HTw6.out) (by rw [List.size_toArray]; exact (pool_info _)) (pool_one _) ?_) | (guard_target = wpList _ _ _ (Oper.mk (some 35) _ _ _ _ _ :: _) _ _; refine wpList_load_mid rfl 26 (.tmp 3) rfl w1.heap.size 0 rfl (p.cells) _ (by rw [hZw6.out, hSw6.out]; exact (Box.range [] (p.cells) [] (by simpa using bp))) Tryd.underlying26 rfl (pool_info _) ?_) | fail)
  rw [hZw6.out, hSw6.out]
  clear hZw6 hSw6 HTw6
  refine (implUsed_any p no w6 (hRp _ N) hpS).mono ?_
  rintro e w7 ⟨u, rfl, HVU, ou, hb7⟩
  replace bp := bp.below hb7 bp.lt
  replace br := br.below hb7 br.lt
  replace bn := bn.below hb7 bn.lt
  replace bm := bm.below hb7 bm.lt
  replace on := on.below hb7
  replace N := N.trans (hb7.mono N.size)
  have s7 := hb7.size
  clear hb7 bm
  obtain ⟨Zw8, hZw8, bZ, hbZ, hsZ⟩ := boxes1 w7 [.slice none 0 0, .int .i64 0] 26
  obtain ⟨w8, hSw8, hwZ, hzZ, HTw8, _, bu⟩ := pool_out u _ rfl bZ
  have hbw8 : Below w7.heap.size w7 w8 := hbZ.trans (hwZ.below (Nat.le_refl _) (by omega))
  clear bZ hbZ hsZ hwZ hzZ
  replace bp := bp.below hbw8 bp.lt
  replace br := br.below hbw8 br.lt
  replace bn := bn.below hbw8 bn.lt
  replace on := on.below hbw8
  replace ou := ou.below hbw8
  replace N := N.trans (hbw8.mono N.size)
  have sw8 := hbw8.size
  have lw8 := bu.lt
  clear hbw8
  go_upto_region 7 with (first | (guard_target = wpList _ _ _ (Oper.mk none (Op.store _ (Operand.tmp 10) _) _ _ _ _ :: _) _ _; refine wpList_store_mid rfl 26 (.tmp 10) (.tmp 37) rfl w7.heap.size 0 (u.cells).toArray rfl rfl (by rw [hZw8.out]; exact HTw8.out) (by rw [List.size_toArray]; exact (pool_info _)) (pool_one _) ?_) | fail)
  rw [hZw8.out, hSw8.out]
  clear hZw8 hSw8 HTw8
  have rP := Box.range [] p.cells [] (by simpa using bp)
  have x3 := bp.cell 0 _ rfl
  have HUL : Hid (u.seats.length = p.seats.length) := by
    have h := congrArg (fun v => v.seats.length) HVU.out
    simp only [PoolA.v, List.length_map] at h
    rw [Hid, h, usedOf]
    split <;> simp [setSeatV]
  have x10 : w8.cell? ⟨w7.heap.size, 0, none⟩ = some (.slice u.a p.seats.length u.c) := by have := bu.cell 0 _ rfl; rwa [HUL.out] at this
  have C9 := implSeated_any p no w8 (hRp _ N) (PoolA.short_wide hpS)
  cases ok' with
  | false =>
    obtain ⟨hnl, _, hsd⟩ := unchanged_parts HVN.out
    have HNL : Hid (n.seats.length = p.seats.length) := by rw [Hid]; simpa [PoolA.v] using hnl
    have x6 : w8.cell? ⟨w3.heap.size, 0, none⟩ = some (.slice n.a p.seats.length n.c) := by have := bn.cell 0 _ rfl; rwa [HNL.out] at this
    have HSD : Hid (_) := hsd
    clear hnl HVN hsd
    go_wp2_with (first | (guard_target = wpList _ _ _ (Oper.mk (some 50) _ _ _ _ _ :: _) _ _; refine wpList_load_mid rfl 26 (.tmp 3) rfl w1.heap.size 0 rfl (p.cells) _ (Box.range [] (p.cells) [] (by simpa using bp)) Tryd.underlying26 rfl (pool_info _) ?_) | fail)
    refine C9.mono ?_
    clear C9 x3 x6 x10
    rintro e w9 ⟨rfl, hb9⟩
    replace bp := bp.below hb9 bp.lt
    replace br := br.below hb9 br.lt
    replace bn := bn.below hb9 bn.lt
    replace bu := bu.below hb9 bu.lt
    replace on := on.below hb9
    replace ou := ou.below hb9
    replace N := N.trans (hb9.mono N.size)
    have s9 := hb9.size
    clear hb9
    have HEND : Hid (Below w0.heap.size w0 w9) := B2.trans (N.mono B2.size)
    have x3 := bp.cell 0 _ rfl
    have x6 : w9.cell? ⟨w3.heap.size, 0, none⟩ = some (.slice n.a p.seats.length n.c) := by have := bn.cell 0 _ rfl; rwa [HNL.out] at this
    have x10 : w9.cell? ⟨w7.heap.size, 0, none⟩ = some (.slice u.a p.seats.length u.c) := by have := bu.cell 0 _ rfl; rwa [HUL.out] at this
    have hsd := HSD.out
    rcases hsd with hneg | ⟨k, hk, hse, hhot⟩
    · generalize seatedOf p.v.seats no = kk at *
      go_wp2
      go_ret
      exact ⟨rfl, HEND.out⟩
    · have hk2 : k < u.seats.length := by rw [HUL.out]; simpa [PoolA.v] using hk
      obtain ⟨g, hga, _, _, ch, _⟩ := own_seat ou k hk2
      have hh : (u.seats.getD k zeroSt).hot = true := by
        rw [← HVU.out, PoolA.v] at hhot
        simp only at hhot
        rwa [seatV_at] at hhot
      rw [hh] at ch
      rw [hga] at x10
      rw [hse]
      have hkp : (k : Int) < (p.seats.length : Int) := by have := HUL.out; omega
      have hk0 : ¬ (k : Int) < 0 := by omega
      clear hh hga hk2 hse hhot hk
      go_wp2
      go_ret
      exact ⟨rfl, HEND.out⟩
  | true =>
    obtain ⟨k, hk, hse, hnl, hnk, hcl, hck, hul, huk, hokn⟩ := changed_parts HVN.out
    have HNL : Hid (n.seats.length = p.seats.length) := by rw [Hid]; simpa [PoolA.v] using hnl
    have hks : k < p.seats.length := by simpa [PoolA.v] using hk
    have HNK : Hid ((n.seats.getD k zeroSt).v = ⟨no, r.lsn, r.ss.map (·.v), true, true⟩) := by rw [PoolA.v] at hnk; simp only at hnk; rw [seatV_at] at hnk; exact hnk
    have HUK : Hid ((u.seats.getD k zeroSt).hot = true) := by rw [← HVU.out, PoolA.v] at huk; simp only at huk; rw [seatV_at] at huk; exact huk
    have HSN : Hid (n.short 1048576) := change_short (by rw [HVN.out]) hpS (fun s hs => by obtain ⟨x, hx, rfl⟩ := List.mem_map.1 hs; have := HRS.out x hx; omega)
    have HCL : Hid ((cleanOf n.v no).seats.length = p.seats.length) := by rw [Hid, hcl]; simp [PoolA.v]
    have HCK : Hid ((cleanOf n.v no).seats.getD k zeroStV = ⟨no, r.lsn, r.ss.map (·.v), false, true⟩) := hck
    have HOK : Hid (okPool n.v = true) := hokn
    rw [hse] at C9
    clear hnl hnk hcl hck hul huk hokn hse hk HVN
    go_wp2_with (first | (guard_target = wpList _ _ _ (Oper.mk (some 50) _ _ _ _ _ :: _) _ _; refine wpList_load_mid rfl 26 (.tmp 3) rfl w1.heap.size 0 rfl (p.cells) _ (Box.range [] (p.cells) [] (by simpa using bp)) Tryd.underlying26 rfl (pool_info _) ?_) | fail)
    refine C9.mono ?_
    clear C9 x3 x10
    rintro e w9 ⟨rfl, hb9⟩
    replace bp := bp.below hb9 bp.lt
    replace br := br.below hb9 br.lt
    replace bn := bn.below hb9 bn.lt
    replace bu := bu.below hb9 bu.lt
    replace on := on.below hb9
    replace ou := ou.below hb9
    replace N := N.trans (hb9.mono N.size)
    have s9 := hb9.size
    clear hb9
    go_wp2_with (first | (guard_target = wpList _ _ _ (Oper.mk (some 74) _ _ _ _ _ :: _) _ _; refine wpList_load_mid rfl 26 (.tmp 6) rfl w3.heap.size 0 rfl (n.cells) _ (Box.range [] (n.cells) [] (by simpa using bn)) Tryd.underlying26 rfl (pool_info _) ?_) | fail)
    refine (implClean_any n no w9 on.reads HSN.out).mono ?_
    rintro e w10 ⟨c, rfl, HVC, oc, hb10⟩
    replace bp := bp.below hb10 bp.lt
    replace br := br.below hb10 br.lt
    replace bn := bn.below hb10 bn.lt
    replace bu := bu.below hb10 bu.lt
    replace on := on.below hb10
    replace ou := ou.below hb10
    replace N := N.trans (hb10.mono N.size)
    have s10 := hb10.size
    clear hb10
    obtain ⟨Zw11, hZw11, bZ, hbZ, hsZ⟩ := boxes1 w10 [.slice none 0 0, .int .i64 0] 26
    obtain ⟨w11, hSw11, hwZ, hzZ, HTw11, _, bc⟩ := pool_out c _ rfl bZ
    have hbw11 : Below w10.heap.size w10 w11 := hbZ.trans (hwZ.below (Nat.le_refl _) (by omega))
    clear bZ hbZ hsZ hwZ hzZ
    replace bp := bp.below hbw11 bp.lt
    replace br := br.below hbw11 br.lt
    replace bn := bn.below hbw11 bn.lt
    replace bu := bu.below hbw11 bu.lt
    replace on := on.below hbw11
    replace ou := ou.below hbw11
    replace oc := oc.below hbw11
    replace N := N.trans (hbw11.mono N.size)
    have sw11 := hbw11.size
    have lw11 := bc.lt
    clear hbw11
    go_upto_region 13 with (first | (guard_target = wpList _ _ _ (Oper.mk none (Op.store _ (Operand.tmp 12) _) _ _ _ _ :: _) _ _; refine wpList_store_mid rfl 26 (.tmp 12) (.tmp 76) rfl w10.heap.size 0 (c.cells).toArray rfl rfl (by rw [hZw11.out]; exact HTw11.out) (by rw [List.size_toArray]; exact (pool_info _)) (pool_one _) ?_) | fail)
    rw [hZw11.out, hSw11.out]
    clear hZw11 hSw11 HTw11
    have HCL' : Hid (c.seats.length = p.seats.length) := by have h := congrArg (fun v => v.seats.length) HVC.out; simp only [PoolA.v, List.length_map] at h; exact h.trans HCL.out
    have HCK' : Hid ((c.seats.getD k zeroSt).v = ⟨no, r.lsn, r.ss.map (·.v), false, true⟩) := by have h := HCK.out; rw [← HVC.out, PoolA.v] at h; simp only at h; rw [seatV_at] at h; exact h
    clear HCL HCK HVC
    obtain ⟨gn, hgn, pn, dn, _, _⟩ := own_seat on k (by rw [HNL.out]; exact hks)
    obtain ⟨gc, hgc, pc, dc, _, _⟩ := own_seat oc k (by rw [HCL'.out]; exact hks)
    obtain ⟨gu, hgu, _, _, ch, _⟩ := own_seat ou k (by rw [HUL.out]; exact hks)
    have rn := rd_seat on.reads k (by rw [HNL.out]; exact hks)
    have rc := rd_seat oc.reads k (by rw [HCL'.out]; exact hks)
    have xn := bn.cell 0 _ rfl
    have xc := bc.cell 0 _ rfl
    have xu := bu.cell 0 _ rfl
    rw [HNL.out, hgn] at xn
    rw [HCL'.out, hgc] at xc
    rw [HUL.out, hgu] at xu
    rw [HUK.out] at ch
    have HN1 : Hid ((n.seats.getD k zeroSt).lsn = r.lsn ∧ (n.seats.getD k zeroSt).ss.map (·.v) = r.ss.map (·.v) ∧ (n.seats.getD k zeroSt).dirty = true) := by have h := HNK.out; simp only [SeatA.v, SeatV.mk.injEq] at h; exact ⟨h.2.1, h.2.2.1, h.2.2.2.1⟩
    have HC1 : Hid ((c.seats.getD k zeroSt).lsn = r.lsn ∧ (c.seats.getD k zeroSt).ss.map (·.v) = r.ss.map (·.v) ∧ (c.seats.getD k zeroSt).dirty = false) := by have h := HCK'.out; simp only [SeatA.v, SeatV.mk.injEq] at h; exact ⟨h.2.1, h.2.2.1, h.2.2.2.1⟩
    rw [HN1.out.2.2] at dn
    rw [HC1.out.2.2] at dc
    obtain ⟨sn, hsn⟩ : ∃ sn, Hid ((n.seats.getD k zeroSt).ss = sn) := ⟨_, rfl⟩
    obtain ⟨sc, hsc⟩ : ∃ sc, Hid ((c.seats.getD k zeroSt).ss = sc) := ⟨_, rfl⟩
    rw [SeatA.page, HN1.out.1, hsn.out] at pn
    rw [SeatA.page, HC1.out.1, hsc.out] at pc
    rw [hsn.out] at rn
    rw [hsc.out] at rc
    have hen : sn.map (·.v) = r.ss.map (·.v) := by rw [← hsn.out]; exact HN1.out.2.1
    have hec : sc.map (·.v) = r.ss.map (·.v) := by rw [← hsc.out]; exact HC1.out.2.1
    have hn4 : sn.length = 4 := by have h := congrArg List.length hen; simpa [hr4] using h
    have hc4 : sc.length = 4 := by have h := congrArg List.length hec; simpa [hr4] using h
    have HFN : Hid (∀ s ∈ sn, s.v.o.ints.length ≤ 1099511627776 ∧ s.v.o.refs.length ≤ 1099511627776) := fun s hs => by
      have h : s.v ∈ r.ss.map (·.v) := by rw [← hen]; exact List.mem_map.2 ⟨s, hs, rfl⟩
      obtain ⟨x, hx, e⟩ := List.mem_map.1 h
      rw [← e]; exact hfr x hx
    have HFC : Hid (∀ s ∈ sc, s.v.o.ints.length ≤ 1099511627776 ∧ s.v.o.refs.length ≤ 1099511627776) := fun s hs => by
      have h : s.v ∈ r.ss.map (·.v) := by rw [← hec]; exact List.mem_map.2 ⟨s, hs, rfl⟩
      obtain ⟨x, hx, e⟩ := List.mem_map.1 h
      rw [← e]; exact hfr x hx
    have HIn : Hid (∀ us : List SlotA, us.length = 4 → (Tryd.prog.info? 34).map (·.size) = some (PageA.cells ⟨r.lsn, us⟩).length) := fun us hu => by rw [page_len _ hu]; kernel_rfl
    have HEN : Hid (r.ss.map (·.v) = sn.map (·.v)) := hen.symm
    have HEC : Hid (r.ss.map (·.v) = sc.map (·.v)) := hec.symm
    clear hen hec HNK HCK' HN1 HC1 hsn hsc HUK
    obtain ⟨uc, huc⟩ : ∃ uc, Hid (u.c = uc) := ⟨_, rfl⟩
    rw [huc.out] at xu
    clear huc
    have HRG : Hid (∀ x, Below w11.heap.size w11 x → ((fun u => u.cell? ⟨w3.heap.size, 0, none⟩ = some (.slice (some ⟨gn, 0, none⟩) p.seats.length n.c) ∧ u.rangeAt gn (k * 20 + 1) (PageA.cells ⟨r.lsn, sn⟩) ∧ u.rangeAt (w1.heap.size + 1) 0 r.cells ∧ u.cell? ⟨gn, k * 20 + 18, none⟩ = some (.bool true) ∧ u.cell? ⟨w10.heap.size, 0, none⟩ = some (.slice (some ⟨gc, 0, none⟩) p.seats.length c.c) ∧ u.cell? ⟨gc, k * 20 + 18, none⟩ = some (.bool false) ∧ u.rangeAt gc (k * 20 + 1) (PageA.cells ⟨r.lsn, sc⟩) ∧ u.cell? ⟨w7.heap.size, 0, none⟩ = some (.slice (some ⟨gu, 0, none⟩) p.seats.length uc) ∧ u.cell? ⟨gu, k * 20 + 19, none⟩ = some (.bool true) ∧ u.rangeAt w3.heap.size 0 n.cells) x)) := fun x hx => by
      refine ⟨?_, ?_, ?_, ?_, ?_, ?_, ?_, ?_, ?_, ?_⟩
      · exact cell_below hx xn
      · exact rng_below hx pn
      · exact Box.range [] r.cells [] (by simpa using br.below hx br.lt)
      · exact cell_below hx dn
      · exact cell_below hx xc
      · exact cell_below hx dc
      · exact rng_below hx pc
      · exact cell_below hx xu
      · exact cell_below hx ch
      · exact Box.range [] n.cells [] (by simpa using bn.below hx bn.lt)
    have D0 : Below w11.heap.size w11 w11.drew := (Below.refl _ _).drew
    have hkp : (k : Int) < (p.seats.length : Int) := by omega
    have hk0 : (0 : Int) ≤ (k : Int) := by omega
    refine wp_region_held_drew (S := fun u => u.cell? ⟨w3.heap.size, 0, none⟩ = some (.slice (some ⟨gn, 0, none⟩) p.seats.length n.c) ∧ u.rangeAt gn (k * 20 + 1) (PageA.cells ⟨r.lsn, sn⟩) ∧ u.rangeAt (w1.heap.size + 1) 0 r.cells ∧ u.cell? ⟨gn, k * 20 + 18, none⟩ = some (.bool true) ∧ u.cell? ⟨w10.heap.size, 0, none⟩ = some (.slice (some ⟨gc, 0, none⟩) p.seats.length c.c) ∧ u.cell? ⟨gc, k * 20 + 18, none⟩ = some (.bool false) ∧ u.rangeAt gc (k * 20 + 1) (PageA.cells ⟨r.lsn, sc⟩) ∧ u.cell? ⟨w7.heap.size, 0, none⟩ = some (.slice (some ⟨gu, 0, none⟩) p.seats.length uc) ∧ u.cell? ⟨gu, k * 20 + 19, none⟩ = some (.bool true) ∧ u.rangeAt w3.heap.size 0 n.cells) (by kernel_rfl) (HRG.out _ D0) (fun hHeld => ?_)
    clear xn pn dn xc dc pc xu ch
    generalize hd0 : w11.drew = d0 at *
    clear hd0
    refine wpAnyH_take (i := 0) (v := .int .i64 (k : Int)) rfl (by kernel_rfl) (by kernel_rfl) (by kernel_rfl) (fun _ _ _ h => h) (Or.inl ⟨by rfl, ?_⟩) hHeld ?_
    · intro w' hSw
      go_simp <;> rfl
    try simp only [Act.put, List.getElem_toArray, List.getElem_cons_zero, List.setIfInBounds_toArray, List.set_cons_zero, List.set_cons_succ]
    refine wpAnyH_take (i := 1) (v := .bool true) rfl (by kernel_rfl) (by kernel_rfl) (by kernel_rfl) (fun _ _ _ h => h) (Or.inl ⟨by rfl, ?_⟩) hHeld ?_
    · intro w' hSw
      go_simp <;> rfl
    try simp only [Act.put, List.getElem_toArray, List.getElem_cons_zero, List.getElem_cons_succ, List.setIfInBounds_toArray, List.set_cons_zero, List.set_cons_succ]
    refine wpAnyH_take (i := 2) (v := .bool true) rfl (by kernel_rfl) (by kernel_rfl) (by kernel_rfl) (fun _ _ _ h => h) (Or.inl ⟨by rfl, ?_⟩) hHeld ?_
    · intro w' hSw
      go_simp <;> rfl
    try simp only [Act.put, List.getElem_toArray, List.getElem_cons_zero, List.getElem_cons_succ, List.setIfInBounds_toArray, List.set_cons_zero, List.set_cons_succ]
    refine wpAnyH_take (i := 3) (v := .pointer (some ⟨w3.heap.size, 0, none⟩)) rfl (by kernel_rfl) (by kernel_rfl) (by kernel_rfl) (fun _ _ _ h => h) (Or.inl ⟨by rfl, ?_⟩) hHeld ?_
    · intro w' hSw
      go_simp <;> rfl
    try simp only [Act.put, List.getElem_toArray, List.getElem_cons_zero, List.getElem_cons_succ, List.setIfInBounds_toArray, List.set_cons_zero, List.set_cons_succ]
    refine wpAnyH_take (i := 4) (v := .slice (some ⟨gn, 0, none⟩) p.seats.length n.c) rfl (by kernel_rfl) (by kernel_rfl) (by kernel_rfl) (fun _ _ _ h => h) (Or.inl ⟨by rfl, ?_⟩) hHeld ?_
    · intro w' hSw
      have hx := hSw.1
      go_simp <;> rfl
    try simp only [Act.put, List.getElem_toArray, List.getElem_cons_zero, List.getElem_cons_succ, List.setIfInBounds_toArray, List.set_cons_zero, List.set_cons_succ]
    refine wpAnyH_take (i := 5) (v := .int .i64 (k : Int)) rfl (by kernel_rfl) (by kernel_rfl) (by kernel_rfl) (fun _ _ _ h => h) (Or.inl ⟨by rfl, ?_⟩) hHeld ?_
    · intro w' hSw
      go_simp <;> rfl
    try simp only [Act.put, List.getElem_toArray, List.getElem_cons_zero, List.getElem_cons_succ, List.setIfInBounds_toArray, List.set_cons_zero, List.set_cons_succ]
    refine wpAnyH_take (i := 6) (v := .pointer (some ⟨gn, k * 20, none⟩)) rfl (by kernel_rfl) (by kernel_rfl) (by kernel_rfl) (fun _ _ _ h => h) (Or.inl ⟨by rfl, ?_⟩) hHeld ?_
    · intro w' hSw
      go_simp <;> rfl
    try simp only [Act.put, List.getElem_toArray, List.getElem_cons_zero, List.getElem_cons_succ, List.setIfInBounds_toArray, List.set_cons_zero, List.set_cons_succ]
    refine wpAnyH_take (i := 7) (v := .pointer (some ⟨gn, k * 20 + 1, none⟩)) rfl (by kernel_rfl) (by kernel_rfl) (by kernel_rfl) (fun _ _ _ h => h) (Or.inl ⟨by rfl, ?_⟩) hHeld ?_
    · intro w' hSw
      go_simp <;> rfl
    try simp only [Act.put, List.getElem_toArray, List.getElem_cons_zero, List.getElem_cons_succ, List.setIfInBounds_toArray, List.set_cons_zero, List.set_cons_succ]
    refine wpAnyH_take (i := 8) rfl (by kernel_rfl) (by kernel_rfl) (by kernel_rfl) (fun _ _ _ h => h) (yieldsIf_load_mid (by rfl) _ _ rfl _ _ rfl (PageA.cells ⟨r.lsn, sn⟩) _ (fun _ h => h.2.1) Tryd.underlying34 rfl (HIn.out _ hn4)) hHeld ?_
    try simp only [Act.put, List.getElem_toArray, List.getElem_cons_zero, List.getElem_cons_succ, List.setIfInBounds_toArray, List.set_cons_zero, List.set_cons_succ]
    refine wpAnyH_take (i := 9) rfl (by kernel_rfl) (by kernel_rfl) (by kernel_rfl) (fun _ _ _ h => h) (yieldsIf_load_mid (by rfl) _ _ rfl _ _ rfl (r.cells) _ (fun _ h => h.2.2.1) Tryd.underlying34 rfl HIr.out) hHeld ?_
    try simp only [Act.put, List.getElem_toArray, List.getElem_cons_zero, List.getElem_cons_succ, List.setIfInBounds_toArray, List.set_cons_zero, List.set_cons_succ]
    refine wpAnyH_ready (rs := [10]) (by kernel_rfl) (by simp) ?_
    refine AllReadyH.cons rfl (fun K hK => ?_) AllReadyH.nil
    go_simp
    refine (samePage_same r.lsn sn r.ss hn4 HEN.out _ (rn.below D0) (hRr _ (N.trans (D0.mono N.size))) HFN.out).mono ?_
    rintro e d1 ⟨rfl, hbx⟩
    have Dd1 : Below w11.heap.size w11 d1 := D0.trans (hbx.mono D0.size)
    refine hK.out _ _ (HRG.out _ Dd1) (fun hHeld => ?_)
    clear hK K hbx
    try simp only [Act.put, List.getElem_toArray, List.getElem_cons_zero, List.getElem_cons_succ, List.setIfInBounds_toArray, List.set_cons_zero, List.set_cons_succ]
    refine wpAnyH_take (i := 11) (v := .bool true) rfl (by kernel_rfl) (by kernel_rfl) (by kernel_rfl) (fun _ _ _ h => h) (Or.inl ⟨by rfl, ?_⟩) hHeld ?_
    · intro w' hSw
      go_simp <;> rfl
    try simp only [Act.put, List.getElem_toArray, List.getElem_cons_zero, List.getElem_cons_succ, List.setIfInBounds_toArray, List.set_cons_zero, List.set_cons_succ]
    refine wpAnyH_take (i := 12) (v := .bool true) rfl (by kernel_rfl) (by kernel_rfl) (by kernel_rfl) (fun _ _ _ h => h) (Or.inl ⟨by rfl, ?_⟩) hHeld ?_
    · intro w' hSw
      go_simp <;> rfl
    try simp only [Act.put, List.getElem_toArray, List.getElem_cons_zero, List.getElem_cons_succ, List.setIfInBounds_toArray, List.set_cons_zero, List.set_cons_succ]
    refine wpAnyH_take (i := 13) (v := .pointer (some ⟨w3.heap.size, 0, none⟩)) rfl (by kernel_rfl) (by kernel_rfl) (by kernel_rfl) (fun _ _ _ h => h) (Or.inl ⟨by rfl, ?_⟩) hHeld ?_
    · intro w' hSw
      go_simp <;> rfl
    try simp only [Act.put, List.getElem_toArray, List.getElem_cons_zero, List.getElem_cons_succ, List.setIfInBounds_toArray, List.set_cons_zero, List.set_cons_succ]
    refine wpAnyH_take (i := 14) (v := .slice (some ⟨gn, 0, none⟩) p.seats.length n.c) rfl (by kernel_rfl) (by kernel_rfl) (by kernel_rfl) (fun _ _ _ h => h) (Or.inl ⟨by rfl, ?_⟩) hHeld ?_
    · intro w' hSw
      have hx := hSw.1
      go_simp <;> rfl
    try simp only [Act.put, List.getElem_toArray, List.getElem_cons_zero, List.getElem_cons_succ, List.setIfInBounds_toArray, List.set_cons_zero, List.set_cons_succ]
    refine wpAnyH_take (i := 15) (v := .int .i64 (k : Int)) rfl (by kernel_rfl) (by kernel_rfl) (by kernel_rfl) (fun _ _ _ h => h) (Or.inl ⟨by rfl, ?_⟩) hHeld ?_
    · intro w' hSw
      go_simp <;> rfl
    try simp only [Act.put, List.getElem_toArray, List.getElem_cons_zero, List.getElem_cons_succ, List.setIfInBounds_toArray, List.set_cons_zero, List.set_cons_succ]
    refine wpAnyH_take (i := 16) (v := .pointer (some ⟨gn, k * 20, none⟩)) rfl (by kernel_rfl) (by kernel_rfl) (by kernel_rfl) (fun _ _ _ h => h) (Or.inl ⟨by rfl, ?_⟩) hHeld ?_
    · intro w' hSw
      go_simp <;> rfl
    try simp only [Act.put, List.getElem_toArray, List.getElem_cons_zero, List.getElem_cons_succ, List.setIfInBounds_toArray, List.set_cons_zero, List.set_cons_succ]
    refine wpAnyH_take (i := 17) (v := .pointer (some ⟨gn, k * 20 + 18, none⟩)) rfl (by kernel_rfl) (by kernel_rfl) (by kernel_rfl) (fun _ _ _ h => h) (Or.inl ⟨by rfl, ?_⟩) hHeld ?_
    · intro w' hSw
      go_simp <;> rfl
    try simp only [Act.put, List.getElem_toArray, List.getElem_cons_zero, List.getElem_cons_succ, List.setIfInBounds_toArray, List.set_cons_zero, List.set_cons_succ]
    refine wpAnyH_take (i := 18) (v := .bool true) rfl (by kernel_rfl) (by kernel_rfl) (by kernel_rfl) (fun _ _ _ h => h) (Or.inl ⟨by rfl, ?_⟩) hHeld ?_
    · intro w' hSw
      have hx := hSw.2.2.2.1
      go_simp <;> rfl
    try simp only [Act.put, List.getElem_toArray, List.getElem_cons_zero, List.getElem_cons_succ, List.setIfInBounds_toArray, List.set_cons_zero, List.set_cons_succ]
    refine wpAnyH_take (i := 19) (v := .bool true) rfl (by kernel_rfl) (by kernel_rfl) (by kernel_rfl) (fun _ _ _ h => h) (Or.inl ⟨by rfl, ?_⟩) hHeld ?_
    · intro w' hSw
      go_simp <;> rfl
    try simp only [Act.put, List.getElem_toArray, List.getElem_cons_zero, List.getElem_cons_succ, List.setIfInBounds_toArray, List.set_cons_zero, List.set_cons_succ]
    refine wpAnyH_take (i := 20) (v := .bool true) rfl (by kernel_rfl) (by kernel_rfl) (by kernel_rfl) (fun _ _ _ h => h) (Or.inl ⟨by rfl, ?_⟩) hHeld ?_
    · intro w' hSw
      go_simp <;> rfl
    try simp only [Act.put, List.getElem_toArray, List.getElem_cons_zero, List.getElem_cons_succ, List.setIfInBounds_toArray, List.set_cons_zero, List.set_cons_succ]
    refine wpAnyH_take (i := 21) (v := .pointer (some ⟨w10.heap.size, 0, none⟩)) rfl (by kernel_rfl) (by kernel_rfl) (by kernel_rfl) (fun _ _ _ h => h) (Or.inl ⟨by rfl, ?_⟩) hHeld ?_
    · intro w' hSw
      go_simp <;> rfl
    try simp only [Act.put, List.getElem_toArray, List.getElem_cons_zero, List.getElem_cons_succ, List.setIfInBounds_toArray, List.set_cons_zero, List.set_cons_succ]
    refine wpAnyH_take (i := 22) (v := .slice (some ⟨gc, 0, none⟩) p.seats.length c.c) rfl (by kernel_rfl) (by kernel_rfl) (by kernel_rfl) (fun _ _ _ h => h) (Or.inl ⟨by rfl, ?_⟩) hHeld ?_
    · intro w' hSw
      have hx := hSw.2.2.2.2.1
      go_simp <;> rfl
    try simp only [Act.put, List.getElem_toArray, List.getElem_cons_zero, List.getElem_cons_succ, List.setIfInBounds_toArray, List.set_cons_zero, List.set_cons_succ]
    refine wpAnyH_take (i := 23) (v := .int .i64 (k : Int)) rfl (by kernel_rfl) (by kernel_rfl) (by kernel_rfl) (fun _ _ _ h => h) (Or.inl ⟨by rfl, ?_⟩) hHeld ?_
    · intro w' hSw
      go_simp <;> rfl
    try simp only [Act.put, List.getElem_toArray, List.getElem_cons_zero, List.getElem_cons_succ, List.setIfInBounds_toArray, List.set_cons_zero, List.set_cons_succ]
    refine wpAnyH_take (i := 24) (v := .pointer (some ⟨gc, k * 20, none⟩)) rfl (by kernel_rfl) (by kernel_rfl) (by kernel_rfl) (fun _ _ _ h => h) (Or.inl ⟨by rfl, ?_⟩) hHeld ?_
    · intro w' hSw
      go_simp <;> rfl
    try simp only [Act.put, List.getElem_toArray, List.getElem_cons_zero, List.getElem_cons_succ, List.setIfInBounds_toArray, List.set_cons_zero, List.set_cons_succ]
    refine wpAnyH_take (i := 25) (v := .pointer (some ⟨gc, k * 20 + 18, none⟩)) rfl (by kernel_rfl) (by kernel_rfl) (by kernel_rfl) (fun _ _ _ h => h) (Or.inl ⟨by rfl, ?_⟩) hHeld ?_
    · intro w' hSw
      go_simp <;> rfl
    try simp only [Act.put, List.getElem_toArray, List.getElem_cons_zero, List.getElem_cons_succ, List.setIfInBounds_toArray, List.set_cons_zero, List.set_cons_succ]
    refine wpAnyH_take (i := 26) (v := .bool false) rfl (by kernel_rfl) (by kernel_rfl) (by kernel_rfl) (fun _ _ _ h => h) (Or.inl ⟨by rfl, ?_⟩) hHeld ?_
    · intro w' hSw
      have hx := hSw.2.2.2.2.2.1
      go_simp <;> rfl
    try simp only [Act.put, List.getElem_toArray, List.getElem_cons_zero, List.getElem_cons_succ, List.setIfInBounds_toArray, List.set_cons_zero, List.set_cons_succ]
    refine wpAnyH_take (i := 27) (v := .bool true) rfl (by kernel_rfl) (by kernel_rfl) (by kernel_rfl) (fun _ _ _ h => h) (Or.inl ⟨by rfl, ?_⟩) hHeld ?_
    · intro w' hSw
      go_simp <;> rfl
    try simp only [Act.put, List.getElem_toArray, List.getElem_cons_zero, List.getElem_cons_succ, List.setIfInBounds_toArray, List.set_cons_zero, List.set_cons_succ]
    refine wpAnyH_take (i := 28) (v := .bool true) rfl (by kernel_rfl) (by kernel_rfl) (by kernel_rfl) (fun _ _ _ h => h) (Or.inl ⟨by rfl, ?_⟩) hHeld ?_
    · intro w' hSw
      go_simp <;> rfl
    try simp only [Act.put, List.getElem_toArray, List.getElem_cons_zero, List.getElem_cons_succ, List.setIfInBounds_toArray, List.set_cons_zero, List.set_cons_succ]
    refine wpAnyH_take (i := 29) (v := .bool true) rfl (by kernel_rfl) (by kernel_rfl) (by kernel_rfl) (fun _ _ _ h => h) (Or.inl ⟨by rfl, ?_⟩) hHeld ?_
    · intro w' hSw
      go_simp <;> rfl
    try simp only [Act.put, List.getElem_toArray, List.getElem_cons_zero, List.getElem_cons_succ, List.setIfInBounds_toArray, List.set_cons_zero, List.set_cons_succ]
    refine wpAnyH_take (i := 30) (v := .pointer (some ⟨w10.heap.size, 0, none⟩)) rfl (by kernel_rfl) (by kernel_rfl) (by kernel_rfl) (fun _ _ _ h => h) (Or.inl ⟨by rfl, ?_⟩) hHeld ?_
    · intro w' hSw
      go_simp <;> rfl
    try simp only [Act.put, List.getElem_toArray, List.getElem_cons_zero, List.getElem_cons_succ, List.setIfInBounds_toArray, List.set_cons_zero, List.set_cons_succ]
    refine wpAnyH_take (i := 31) (v := .slice (some ⟨gc, 0, none⟩) p.seats.length c.c) rfl (by kernel_rfl) (by kernel_rfl) (by kernel_rfl) (fun _ _ _ h => h) (Or.inl ⟨by rfl, ?_⟩) hHeld ?_
    · intro w' hSw
      have hx := hSw.2.2.2.2.1
      go_simp <;> rfl
    try simp only [Act.put, List.getElem_toArray, List.getElem_cons_zero, List.getElem_cons_succ, List.setIfInBounds_toArray, List.set_cons_zero, List.set_cons_succ]
    refine wpAnyH_take (i := 32) (v := .int .i64 (k : Int)) rfl (by kernel_rfl) (by kernel_rfl) (by kernel_rfl) (fun _ _ _ h => h) (Or.inl ⟨by rfl, ?_⟩) hHeld ?_
    · intro w' hSw
      go_simp <;> rfl
    try simp only [Act.put, List.getElem_toArray, List.getElem_cons_zero, List.getElem_cons_succ, List.setIfInBounds_toArray, List.set_cons_zero, List.set_cons_succ]
    refine wpAnyH_take (i := 33) (v := .pointer (some ⟨gc, k * 20, none⟩)) rfl (by kernel_rfl) (by kernel_rfl) (by kernel_rfl) (fun _ _ _ h => h) (Or.inl ⟨by rfl, ?_⟩) hHeld ?_
    · intro w' hSw
      go_simp <;> rfl
    try simp only [Act.put, List.getElem_toArray, List.getElem_cons_zero, List.getElem_cons_succ, List.setIfInBounds_toArray, List.set_cons_zero, List.set_cons_succ]
    refine wpAnyH_take (i := 34) (v := .pointer (some ⟨gc, k * 20 + 1, none⟩)) rfl (by kernel_rfl) (by kernel_rfl) (by kernel_rfl) (fun _ _ _ h => h) (Or.inl ⟨by rfl, ?_⟩) hHeld ?_
    · intro w' hSw
      go_simp <;> rfl
    try simp only [Act.put, List.getElem_toArray, List.getElem_cons_zero, List.getElem_cons_succ, List.setIfInBounds_toArray, List.set_cons_zero, List.set_cons_succ]
    refine wpAnyH_take (i := 35) rfl (by kernel_rfl) (by kernel_rfl) (by kernel_rfl) (fun _ _ _ h => h) (yieldsIf_load_mid (by rfl) _ _ rfl _ _ rfl (PageA.cells ⟨r.lsn, sc⟩) _ (fun _ h => h.2.2.2.2.2.2.1) Tryd.underlying34 rfl (HIn.out _ hc4)) hHeld ?_
    try simp only [Act.put, List.getElem_toArray, List.getElem_cons_zero, List.getElem_cons_succ, List.setIfInBounds_toArray, List.set_cons_zero, List.set_cons_succ]
    refine wpAnyH_take (i := 36) rfl (by kernel_rfl) (by kernel_rfl) (by kernel_rfl) (fun _ _ _ h => h) (yieldsIf_load_mid (by rfl) _ _ rfl _ _ rfl (r.cells) _ (fun _ h => h.2.2.1) Tryd.underlying34 rfl HIr.out) hHeld ?_
    try simp only [Act.put, List.getElem_toArray, List.getElem_cons_zero, List.getElem_cons_succ, List.setIfInBounds_toArray, List.set_cons_zero, List.set_cons_succ]
    refine wpAnyH_ready (rs := [37]) (by kernel_rfl) (by simp) ?_
    refine AllReadyH.cons rfl (fun K hK => ?_) AllReadyH.nil
    go_simp
    refine (samePage_same r.lsn sc r.ss hc4 HEC.out _ (rc.below Dd1) (hRr _ (N.trans (Dd1.mono N.size))) HFC.out).mono ?_
    rintro e d2 ⟨rfl, hbx⟩
    have Dd2 : Below w11.heap.size w11 d2 := Dd1.trans (hbx.mono Dd1.size)
    refine hK.out _ _ (HRG.out _ Dd2) (fun hHeld => ?_)
    clear hK K hbx
    try simp only [Act.put, List.getElem_toArray, List.getElem_cons_zero, List.getElem_cons_succ, List.setIfInBounds_toArray, List.set_cons_zero, List.set_cons_succ]
    refine wpAnyH_take (i := 38) (v := .bool true) rfl (by kernel_rfl) (by kernel_rfl) (by kernel_rfl) (fun _ _ _ h => h) (Or.inl ⟨by rfl, ?_⟩) hHeld ?_
    · intro w' hSw
      go_simp <;> rfl
    try simp only [Act.put, List.getElem_toArray, List.getElem_cons_zero, List.getElem_cons_succ, List.setIfInBounds_toArray, List.set_cons_zero, List.set_cons_succ]
    refine wpAnyH_take (i := 39) (v := .bool true) rfl (by kernel_rfl) (by kernel_rfl) (by kernel_rfl) (fun _ _ _ h => h) (Or.inl ⟨by rfl, ?_⟩) hHeld ?_
    · intro w' hSw
      go_simp <;> rfl
    try simp only [Act.put, List.getElem_toArray, List.getElem_cons_zero, List.getElem_cons_succ, List.setIfInBounds_toArray, List.set_cons_zero, List.set_cons_succ]
    refine wpAnyH_take (i := 40) (v := .pointer (some ⟨w7.heap.size, 0, none⟩)) rfl (by kernel_rfl) (by kernel_rfl) (by kernel_rfl) (fun _ _ _ h => h) (Or.inl ⟨by rfl, ?_⟩) hHeld ?_
    · intro w' hSw
      go_simp <;> rfl
    try simp only [Act.put, List.getElem_toArray, List.getElem_cons_zero, List.getElem_cons_succ, List.setIfInBounds_toArray, List.set_cons_zero, List.set_cons_succ]
    refine wpAnyH_take (i := 41) (v := .slice (some ⟨gu, 0, none⟩) p.seats.length uc) rfl (by kernel_rfl) (by kernel_rfl) (by kernel_rfl) (fun _ _ _ h => h) (Or.inl ⟨by rfl, ?_⟩) hHeld ?_
    · intro w' hSw
      have hx := hSw.2.2.2.2.2.2.2.1
      go_simp <;> rfl
    try simp only [Act.put, List.getElem_toArray, List.getElem_cons_zero, List.getElem_cons_succ, List.setIfInBounds_toArray, List.set_cons_zero, List.set_cons_succ]
    refine wpAnyH_take (i := 42) (v := .int .i64 (k : Int)) rfl (by kernel_rfl) (by kernel_rfl) (by kernel_rfl) (fun _ _ _ h => h) (Or.inl ⟨by rfl, ?_⟩) hHeld ?_
    · intro w' hSw
      go_simp <;> rfl
    try simp only [Act.put, List.getElem_toArray, List.getElem_cons_zero, List.getElem_cons_succ, List.setIfInBounds_toArray, List.set_cons_zero, List.set_cons_succ]
    refine wpAnyH_take (i := 43) (v := .pointer (some ⟨gu, k * 20, none⟩)) rfl (by kernel_rfl) (by kernel_rfl) (by kernel_rfl) (fun _ _ _ h => h) (Or.inl ⟨by rfl, ?_⟩) hHeld ?_
    · intro w' hSw
      go_simp <;> rfl
    try simp only [Act.put, List.getElem_toArray, List.getElem_cons_zero, List.getElem_cons_succ, List.setIfInBounds_toArray, List.set_cons_zero, List.set_cons_succ]
    refine wpAnyH_take (i := 44) (v := .pointer (some ⟨gu, k * 20 + 19, none⟩)) rfl (by kernel_rfl) (by kernel_rfl) (by kernel_rfl) (fun _ _ _ h => h) (Or.inl ⟨by rfl, ?_⟩) hHeld ?_
    · intro w' hSw
      go_simp <;> rfl
    try simp only [Act.put, List.getElem_toArray, List.getElem_cons_zero, List.getElem_cons_succ, List.setIfInBounds_toArray, List.set_cons_zero, List.set_cons_succ]
    refine wpAnyH_take (i := 45) (v := .bool true) rfl (by kernel_rfl) (by kernel_rfl) (by kernel_rfl) (fun _ _ _ h => h) (Or.inl ⟨by rfl, ?_⟩) hHeld ?_
    · intro w' hSw
      have hx := hSw.2.2.2.2.2.2.2.2.1
      go_simp <;> rfl
    try simp only [Act.put, List.getElem_toArray, List.getElem_cons_zero, List.getElem_cons_succ, List.setIfInBounds_toArray, List.set_cons_zero, List.set_cons_succ]
    refine wpAnyH_take (i := 46) (v := .bool true) rfl (by kernel_rfl) (by kernel_rfl) (by kernel_rfl) (fun _ _ _ h => h) (Or.inl ⟨by rfl, ?_⟩) hHeld ?_
    · intro w' hSw
      go_simp <;> rfl
    try simp only [Act.put, List.getElem_toArray, List.getElem_cons_zero, List.getElem_cons_succ, List.setIfInBounds_toArray, List.set_cons_zero, List.set_cons_succ]
    refine wpAnyH_take (i := 47) (v := .bool true) rfl (by kernel_rfl) (by kernel_rfl) (by kernel_rfl) (fun _ _ _ h => h) (Or.inl ⟨by rfl, ?_⟩) hHeld ?_
    · intro w' hSw
      go_simp <;> rfl
    try simp only [Act.put, List.getElem_toArray, List.getElem_cons_zero, List.getElem_cons_succ, List.setIfInBounds_toArray, List.set_cons_zero, List.set_cons_succ]
    refine wpAnyH_take (i := 48) rfl (by kernel_rfl) (by kernel_rfl) (by kernel_rfl) (fun _ _ _ h => h) (yieldsIf_load_mid (by rfl) _ _ rfl _ _ rfl (n.cells) _ (fun _ h => h.2.2.2.2.2.2.2.2.2) Tryd.underlying26 rfl (pool_info _)) hHeld ?_
    try simp only [Act.put, List.getElem_toArray, List.getElem_cons_zero, List.getElem_cons_succ, List.setIfInBounds_toArray, List.set_cons_zero, List.set_cons_succ]
    refine wpAnyH_ready (rs := [49]) (by kernel_rfl) (by simp) ?_
    refine AllReadyH.cons rfl (fun K hK => ?_) AllReadyH.nil
    go_simp
    refine (implPoolOk_any n _ (hgB _ (N.trans (Dd2.mono N.size))) (PoolA.own.reads on |>.below Dd2) (PoolA.short_wide HSN.out)).mono ?_
    rintro e d3 ⟨rfl, hbx⟩
    rw [HOK.out]
    have Dd3 : Below w11.heap.size w11 d3 := Dd2.trans (hbx.mono Dd2.size)
    refine hK.out _ _ (HRG.out _ Dd3) (fun hHeld => ?_)
    clear hK K hbx
    try simp only [Act.put, List.getElem_toArray, List.getElem_cons_zero, List.getElem_cons_succ, List.setIfInBounds_toArray, List.set_cons_zero, List.set_cons_succ]
    refine wpAnyH_take (i := 50) (v := .bool true) rfl (by kernel_rfl) (by kernel_rfl) (by kernel_rfl) (fun _ _ _ h => h) (Or.inl ⟨by rfl, ?_⟩) hHeld ?_
    · intro w' hSw
      go_simp <;> rfl
    try simp only [Act.put, List.getElem_toArray, List.getElem_cons_zero, List.getElem_cons_succ, List.setIfInBounds_toArray, List.set_cons_zero, List.set_cons_succ]
    refine wpAnyH_take (i := 51) (v := .bool true) rfl (by kernel_rfl) (by kernel_rfl) (by kernel_rfl) (fun _ _ _ h => h) (Or.inl ⟨by rfl, ?_⟩) hHeld ?_
    · intro w' hSw
      go_simp <;> rfl
    try simp only [Act.put, List.getElem_toArray, List.getElem_cons_zero, List.getElem_cons_succ, List.setIfInBounds_toArray, List.set_cons_zero, List.set_cons_succ]
    refine wpAnyH_done (by kernel_rfl) ?_ _
    clear hHeld
    have HEND : Hid (Below w0.heap.size w0 d3) := B2.trans ((N.trans (Dd3.mono N.size)).mono B2.size)
    go_wp2_with fail
    go_ret
    exact ⟨rfl, HEND.out⟩
end Go.Proofs.YtoboickdkednkaaDoor

/- What the row's condition on errors.errorType gives a walk; a world that meets it. -/
namespace Go.Proofs.YtoboickdkednkaaDoor
open Go.ChangeShapes Go.WideShapes Go.RowKit

theorem Tryd.et : Tryd.prog.globalNamed "errors.errorType" = some 0 := by kernel_rfl
theorem Tryd.rt : (Tryd.prog.cutTypes.find? (·.1 == "internal/reflectlite.rtype")).map (·.2) = some 108 := by kernel_rfl
theorem Tryd.oneRow : ((List.range 151).filter fun t => Tryd.prog.rowNamed t [101, 114, 114, 111, 114]) = [87] := by kernel_rfl
theorem Tryd.typesSize : Tryd.prog.types.size = 151 := by kernel_rfl

theorem errT_of_handles {W : World} {laid : List (String × DataW Unit)} (hm : ("errors.errorType", Rows.laid_errors_errorType) ∈ laid) (h : handlesMet Tryd.prog laid W) : ErrT W := by
  obtain ⟨name, u, ty, e1, e2, e3, e4, e5⟩ := h _ hm
  have en : name = [101, 114, 114, 111, 114] := (Option.some.inj e1).symm
  subst en
  obtain rfl := Option.some.inj (Tryd.rt.symm.trans e2)
  have hm : ty ∈ (List.range 151).filter fun t => Tryd.prog.rowNamed t [101, 114, 114, 111, 114] := List.mem_filter.2 ⟨List.mem_range.2 (by rw [← Tryd.typesSize]; exact e3), e4⟩
  rw [Tryd.oneRow] at hm
  obtain rfl := List.mem_singleton.1 hm
  have hh : typeHandle Tryd.prog 87 = .pointer (some ⟨1, 87, none⟩) := by kernel_rfl
  rw [hh] at e5
  unfold ErrT
  simpa using World.var?_cell Tryd.et e5 0

/-- The one listed variable. -/
def laid1 : List (String × DataW Unit) := [("errors.errorType", Rows.laid_errors_errorType)]
theorem errT_of_laid1 {W : World} (h : laidMetH Tryd.prog laid1 W) : ErrT W := by
  have h' : laidMet Tryd.prog [] W ∧ handlesMet Tryd.prog laid1 W := h
  exact errT_of_handles (List.mem_singleton.2 rfl) h'.2
end Go.Proofs.YtoboickdkednkaaDoor
