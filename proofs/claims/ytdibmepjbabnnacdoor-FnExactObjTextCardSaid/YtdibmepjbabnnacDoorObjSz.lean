/- The walks of laws.szIntS and szObj. -/
import Derived.Test.YtdibmepjbabnnacDoorObjV
namespace Go.Proofs.YtdibmepjbabnnacDoor
open Go.RowKit

/-- What is left of a size. -/
def szOf (n : Nat) (left : Int) : Int := if left - n < 0 then -1 else left - n

set_option maxHeartbeats 400000 in
theorem szIntS_any (a : Option Addr) (c n : Nat) (left : Int) (w : World) (hn : n ≤ 9223372036854775807) (h0 : 0 ≤ left ∧ left ≤ 1048576) :
    Calls Tryd.prog 30 #[.slice a n c, .int .i64 left] w fun e w' => e = .returned (.int .i64 (szOf n left)) ∧ w' = w := by
  by_cases h : left - n < 0
  · have HS : Hid (szOf n left = -1) := by unfold szOf; rw [Hid, if_pos h]
    go_enter Tryd.func30, Tryd.ntmps30
    go_wp2
    go_ret
    exact ⟨ret_int HS.out.symm, rfl⟩
  · have HS : Hid (szOf n left = left - n) := by unfold szOf; rw [Hid, if_neg h]
    go_enter Tryd.func30, Tryd.ntmps30
    go_wp2
    go_ret
    exact ⟨ret_int HS.out.symm, rfl⟩

def szObjOf (o : ObjV) (left : Int) : Int := if left - o.ints.length < 0 then -1 else if left - o.ints.length - o.refs.length < 0 then -1 else left - o.ints.length - o.refs.length

set_option maxHeartbeats 400000 in
set_option maxRecDepth 100000 in
theorem szObj_any (o : ObjV) (aI : Option Addr) (cI : Nat) (aR : Option Addr) (cR : Nat) (left : Int) (w : World) (hnI : o.ints.length ≤ 9223372036854775807) (hnR : o.refs.length ≤ 9223372036854775807) (h0 : 0 ≤ left ∧ left ≤ 1048576) :
    Calls Tryd.prog 14 #[.agg #[.int .i64 o.kind, .slice aI o.ints.length cI, .slice aR o.refs.length cR], .int .i64 left] w fun e w' => e = .returned (.int .i64 (szObjOf o left)) ∧ Below w.heap.size w w' := by
  obtain ⟨k, ints, refs⟩ := o
  simp only at *
  obtain ⟨W, hW, b0, hbW, hsW⟩ := boxes1 w [.int .i64 k, .slice aI ints.length cI, .slice aR refs.length cR] 34
  have c2 := b0.cell 2 _ rfl
  by_cases h : left - ints.length < 0
  · have HS : Hid (szObjOf ⟨k, ints, refs⟩ left = -1) := by unfold szObjOf; rw [Hid, if_pos h]
    have HZ : Hid (szOf ints.length left = -1) := by unfold szOf; rw [Hid, if_pos h]
    go_enter Tryd.func14, Tryd.ntmps14
    go_wp2_with fail
    rw [hW.out]
    refine (szIntS_any aI cI ints.length left W hnI h0).mono ?_
    rintro e w' ⟨rfl, rfl⟩
    rw [HZ.out]
    go_wp2
    go_ret
    exact ⟨ret_int HS.out.symm, hbW⟩
  · have HZ : Hid (szOf ints.length left = left - ints.length) := by unfold szOf; rw [Hid, if_neg h]
    have hn1 : ¬ left < ints.length := by omega
    by_cases h2 : left - ints.length - refs.length < 0
    · have HS : Hid (szObjOf ⟨k, ints, refs⟩ left = -1) := by unfold szObjOf; rw [Hid, if_neg h, if_pos h2]
      have HZ2 : Hid (szOf refs.length (left - ints.length) = -1) := by unfold szOf; rw [Hid, if_pos h2]
      go_enter Tryd.func14, Tryd.ntmps14
      go_wp2_with fail
      rw [hW.out]
      refine (szIntS_any aI cI ints.length left W hnI h0).mono ?_
      rintro e w' ⟨rfl, rfl⟩
      rw [HZ.out]
      go_wp2_with fail
      refine (szIntS_any aR cR refs.length (left - ints.length) _ hnR (by omega)).mono ?_
      rintro e w' ⟨rfl, rfl⟩
      rw [HZ2.out]
      go_wp2
      go_ret
      exact ⟨ret_int HS.out.symm, hbW⟩
    · have HS : Hid (szObjOf ⟨k, ints, refs⟩ left = left - ints.length - refs.length) := by unfold szObjOf; rw [Hid, if_neg h, if_neg h2]
      have HZ2 : Hid (szOf refs.length (left - ints.length) = left - ints.length - refs.length) := by unfold szOf; rw [Hid, if_neg h2]
      go_enter Tryd.func14, Tryd.ntmps14
      go_wp2_with fail
      rw [hW.out]
      refine (szIntS_any aI cI ints.length left W hnI h0).mono ?_
      rintro e w' ⟨rfl, rfl⟩
      rw [HZ.out]
      go_wp2_with fail
      refine (szIntS_any aR cR refs.length (left - ints.length) _ hnR (by omega)).mono ?_
      rintro e w' ⟨rfl, rfl⟩
      rw [HZ2.out]
      go_wp2
      go_ret
      exact ⟨ret_int HS.out.symm, hbW⟩

end Go.Proofs.YtdibmepjbabnnacDoor
