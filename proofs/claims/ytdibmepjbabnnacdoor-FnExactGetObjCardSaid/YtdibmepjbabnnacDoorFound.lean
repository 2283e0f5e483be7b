/- The walk of impl.foundObj. -/
import Derived.Test.YtdibmepjbabnnacDoorObjV
import Derived.Test.YtdibmepjbabnnacDoorBox3
import Derived.Test.YtdibmepjbabnnacDoorAs
namespace Go.Proofs.YtdibmepjbabnnacDoor
open Go.RowKit

set_option maxHeartbeats 1000000 in
set_option maxRecDepth 100000 in
theorem foundObj_ok (k : Int) (aI : Option Addr) (nI cI : Nat) (aR : Option Addr) (nR cR : Nat) (w : World) : Calls Tryd.prog 25 #[.agg #[.int .i64 k, .slice aI nI cI, .slice aR nR cR], .nilIface] w fun e w' => e = .returned (.tuple #[.agg #[.int .i64 k, .slice aI nI cI, .slice aR nR cR], .bool true]) ∧ Below w.heap.size w w' := by
  obtain ⟨W, hW, b0, b1, hbW, hsW⟩ := boxes2 w [.int .i64 k, .slice aI nI cI, .slice aR nR cR] [.int .i64 0, .slice none 0 0, .slice none 0 0] 25 25
  go_enter Tryd.func25, Tryd.ntmps25
  go_wp2_with fail
  rw [hW.out]
  refine (isNo_nil W).mono ?_
  rintro e w1 ⟨rfl, hb1⟩
  have B1 : Below w.heap.size w w1 := hbW.trans (hb1.mono hbW.size)
  obtain ⟨x0, x1, x2, _, _, _⟩ := (b0.below hb1 b0.lt).three
  have bR := b1.below hb1 b1.lt
  obtain ⟨y0, y1, y2, f0, f1, f2⟩ := bR.three
  obtain ⟨WF, hWF, bF, hwF, _⟩ := box3_fill bR (.int .i64 k) (.slice aI nI cI) (.slice aR nR cR)
  have HB : Hid (Below w.heap.size w WF) := B1.trans (hwF.below (by omega) (by have := hb1.size; omega))
  clear hwF hb1 B1
  go_wp2
  rw [hWF.out]
  obtain ⟨q0, q1, q2, _, _, _⟩ := bF.three
  exact bodyPost_ret (v := .tuple #[.agg #[.int .i64 k, .slice aI nI cI, .slice aR nR cR], .bool true]) (by simp [results, Tryd.results25, go_sem, q0, q1, q2]) rfl ⟨rfl, HB.out⟩

set_option maxHeartbeats 1000000 in
set_option maxRecDepth 100000 in
theorem foundObj_no (k : Int) (aI : Option Addr) (nI cI : Nat) (aR : Option Addr) (nR cR : Nat) (s : ByteArray) (w : World) (hg : ErrT w) : Calls Tryd.prog 25 #[.agg #[.int .i64 k, .slice aI nI cI, .slice aR nR cR], .iface 72 (.agg #[.string s])] w fun e w' => e = .returned (.tuple #[.agg #[.int .i64 0, .slice none 0 0, .slice none 0 0], .bool false]) ∧ Below w.heap.size w w' := by
  obtain ⟨W, hW, b0, b1, hbW, hsW⟩ := boxes2 w [.int .i64 k, .slice aI nI cI, .slice aR nR cR] [.int .i64 0, .slice none 0 0, .slice none 0 0] 25 25
  go_enter Tryd.func25, Tryd.ntmps25
  go_wp2_with fail
  rw [hW.out]
  refine (isNo_hit s W (hg.keep hbW)).mono ?_
  rintro e w1 ⟨rfl, hb1⟩
  have B1 : Below w.heap.size w w1 := hbW.trans (hb1.mono hbW.size)
  have bR := b1.below hb1 b1.lt
  obtain ⟨y0, y1, y2, f0, f1, f2⟩ := bR.three
  obtain ⟨WF, hWF, bF, hwF, _⟩ := box3_fill bR (.int .i64 0) (.slice none 0 0) (.slice none 0 0)
  have HB : Hid (Below w.heap.size w WF) := B1.trans (hwF.below (by omega) (by have := hb1.size; omega))
  clear hwF hb1 B1
  go_wp2
  rw [hWF.out]
  obtain ⟨q0, q1, q2, _, _, _⟩ := bF.three
  exact bodyPost_ret (v := .tuple #[.agg #[.int .i64 0, .slice none 0 0, .slice none 0 0], .bool false]) (by simp [results, Tryd.results25, go_sem, q0, q1, q2]) rfl ⟨rfl, HB.out⟩
end Go.Proofs.YtdibmepjbabnnacDoor
