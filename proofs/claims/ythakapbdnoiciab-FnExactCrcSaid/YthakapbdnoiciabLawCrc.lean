/- The walk of laws.FnExactCrc. -/
import Derived.Test.YthakapbdnoiciabCrcSpec
import Derived.Test.YthakapbdnoiciabCopy
import Derived.Test.YthakapbdnoiciabEq
import Derived.WalkSmall
namespace Go.Proofs.Ythakapbdnoiciab
open Go.RowKit

set_option maxHeartbeats 400000 in
theorem lawCrc_walk (a : Option Addr) (cap : Nat) (zs : List Int) (w : World) (hr : Reads w a zs) :
    Calls Try.prog 3 #[.slice a zs.length cap] w fun e w' => e = .returned (.bool true) ∧ Below w.heap.size w w' := by
  by_cases hbig : 1048576 < zs.length
  · go_enter Try.func3, Try.ntmps3
    go_wp2
    go_ret
    exact ⟨rfl, Below.refl _ _⟩
  · go_enter Try.func3, Try.ntmps3
    go_wp2_with fail
    refine (toByteS_any a cap zs w hr (by omega)).mono ?_
    rintro e w1 ⟨rfl, ho1, hb1⟩
    go_wp2_with fail
    refine (specCrc_any _ _ zs w1 (Reads.of_own hr.byte ho1) (by omega)).mono ?_
    rintro e w1' ⟨rfl, rfl⟩
    have hr1 : Reads w1' a zs := hr.below hb1
    go_wp2_with fail
    refine (toByteS_any a cap zs w1' hr1 (by omega)).mono ?_
    rintro e w2 ⟨rfl, ho2, hb2⟩
    go_wp2_with fail
    refine (implCrc_any _ _ zs w2 (Reads.of_own hr.byte ho2) (by omega)).mono ?_
    rintro e w2' ⟨rfl, rfl⟩
    have hr2 : Reads w2' a zs := hr1.below hb2
    go_wp2_with fail
    refine (toByteS_any a cap zs w2' hr2 (by omega)).mono ?_
    rintro e w3 ⟨rfl, ho3, hb3⟩
    go_wp2_with fail
    refine (eqByteS_same _ _ _ _ zs w3 ((Reads.of_own hr.byte ho2).below hb3) (Reads.of_own hr.byte ho3) (by omega)).mono ?_
    rintro e w4 ⟨rfl, n, rfl⟩
    go_wp2
    go_ret
    exact ⟨rfl, below_drewN ((hb1.trans (hb2.mono hb1.size)).trans (hb3.mono (Nat.le_trans hb1.size hb2.size))) n⟩
end Go.Proofs.Ythakapbdnoiciab
