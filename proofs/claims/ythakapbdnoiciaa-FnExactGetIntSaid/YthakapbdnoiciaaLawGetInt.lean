/- The walk of laws.FnExactGetInt. -/
import Derived.Test.YthakapbdnoiciaaGetInt
import Derived.Test.YthakapbdnoiciaaHeld
import Derived.Test.YthakapbdnoiciaaLenCap
namespace Go.Proofs.Ythakapbdnoiciaa
open Go.RowKit

set_option maxHeartbeats 400000 in
theorem lawGetInt_walk (a : Option Addr) (cap : Nat) (zs : List Int) (p : Int) (w : World) (hr : Reads w a zs) :
    Calls Try.prog 6 #[.slice a zs.length cap, .int .i64 p] w fun e w' => e = .returned (.bool true) ∧ Below w.heap.size w w' := by
  by_cases hbig : 1048576 < zs.length
  · go_enter Try.func6, Try.ntmps6
    go_wp2
    go_ret
    exact ⟨rfl, Below.refl _ _⟩
  have HT : Hid (∃ (n q : Int) (ok : Bool), triple (getAt zs p) = .tuple #[.int .i64 n, .int .i64 q, .bool ok]) := by
    cases getAt zs p with
    | some r => exact ⟨_, _, _, rfl⟩
    | none => exact ⟨_, _, _, rfl⟩
  obtain ⟨n, q, ok, hT⟩ := HT.out
  have HTT : Hid (_ = _) := hT
  clear hT HT
  go_enter Try.func6, Try.ntmps6
  go_wp2_with fail
  refine (toByteS_own a cap zs w hr (by omega)).mono ?_
  rintro e w1 ⟨t1, c1, rfl, ho1, hb1⟩
  go_wp2_with fail
  refine (specGetInt_any t1 c1 zs p w1 ho1.reads (by omega)).mono ?_
  rintro e w1' ⟨rfl, rfl⟩
  rw [HTT.out]
  have hr1 := hr.below hb1
  go_wp2_with fail
  refine (toByteS_own a cap zs w1' hr1 (by omega)).mono ?_
  rintro e w2 ⟨t2, c2, rfl, ho2, hb2⟩
  have B2 : Below w.heap.size w w2 := hb1.trans (hb2.mono hb1.size)
  have hr2 := hr.below B2
  go_wp2_with fail
  refine (implGetInt_any t2 c2 zs p w2 ho2.reads (by omega) ho2.len_cap).mono ?_
  rintro e w2' ⟨rfl, rfl⟩
  rw [HTT.out]
  go_wp2_with fail
  refine (toByteS_own a cap zs w2' hr2 (by omega)).mono ?_
  rintro e w3 ⟨t3, c3, rfl, ho3, hb3⟩
  have ho2' := ho2.below hb3
  go_wp2_with fail
  refine (eqByteS_same t2 t3 c2 c3 zs w3 ho2'.reads ho3.reads (by omega)).mono ?_
  rintro e w4 ⟨rfl, n4, rfl⟩
  go_wp2
  go_ret
  exact ⟨rfl, below_drewN (B2.trans (hb3.mono B2.size)) n4⟩
end Go.Proofs.Ythakapbdnoiciaa
