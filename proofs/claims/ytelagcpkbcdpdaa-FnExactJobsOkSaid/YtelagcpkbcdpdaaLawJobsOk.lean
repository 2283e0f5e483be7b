/- The walk of laws.FnExactJobsOk. -/
import Derived.Test.YtelagcpkbcdpdaaJobsOkSpec
import Derived.Test.YtelagcpkbcdpdaaJobsOk
namespace Go.Proofs.Ytelagcpkbcdpdaa
open Go.RowKit

set_option maxHeartbeats 1000000 in
set_option maxRecDepth 100000 in
theorem lawJobsOk_walk (a : Option Addr) (c : Nat) (js : List JobA) (w : World) (hr : ReadsJ w a js) (hlen : JobsShort js maxLen) :
    Calls Try.prog 3 #[.slice a js.length c] w fun e w' => e = .returned (.bool true) ∧ Below w.heap.size w w' := by
  have hsz : JobsShort js 9223372036854775807 := hlen.mono (by simp only [maxLen]; omega)
  clear hlen
  go_enter Try.func3, Try.ntmps3
  go_wp2_with fail
  refine (szOpSS_any a c js 1048576 w hr hsz (by omega)).mono ?_
  rintro e w1 ⟨left, rfl, hcase, rfl⟩
  rcases hcase with hs | ⟨hs, _, hsh⟩
  · go_wp2
    go_ret
    exact ⟨rfl, Below.refl _ _⟩
  have hs2 : JobsShort js 1099511627776 := hsh.mono (by decide)
  clear hsh hsz
  go_wp2_with fail
  refine (toOpSS_any a c js w1 hr hs2).mono ?_
  rintro e w2 ⟨a2, c2, j2, rfl, he2, ho2, hb2⟩
  go_wp2_with fail
  refine (specJobsOk_any a2 c2 j2 w2 ho2.reads (hs2.of_ops he2.out)).mono ?_
  rintro e w3 ⟨rfl, hb3⟩
  have K3 : Below w1.heap.size w1 w3 := hb2.trans (hb3.mono hb2.size)
  go_wp2_with fail
  refine (toOpSS_any a c js w3 (hr.below K3) hs2).mono ?_
  rintro e w4 ⟨a4, c4, j4, rfl, he4, ho4, hb4⟩
  have K4 : Below w1.heap.size w1 w4 := K3.trans (hb4.mono K3.size)
  go_wp2_with fail
  refine (implJobsOk_any a4 c4 j4 w4 ho4.reads (hs2.of_ops he4.out)).mono ?_
  rintro e w5 ⟨rfl, hb5⟩
  have K5 : Below w1.heap.size w1 w5 := K4.trans (hb5.mono K4.size)
  rw [he2.out, he4.out]
  have ho5 := ho4.below hb5
  have hr5 := hr.below K5
  generalize jobsB (opsJ js) = B at *
  have hBB : (B != B) = false := by cases B <;> rfl
  clear ho2 ho4 hb2 hb3 hb4 hb5 K3 K4 he2
  go_wp2_with fail
  refine (toOpSS_any a c js w5 hr5 hs2).mono ?_
  rintro e w6 ⟨a6, c6, j6, rfl, he6, ho6, hb6⟩
  have K6 : Below w1.heap.size w1 w6 := K5.trans (hb6.mono K5.size)
  go_wp2_with fail
  refine (eqOpSS_same a4 a6 c4 c6 j4 j6 w6 (ho5.below hb6).reads ho6.reads (he6.out.trans he4.out.symm) (hs2.of_ops he4.out)).mono ?_
  rintro e w7 ⟨rfl, hb7⟩
  go_wp2
  go_ret
  exact ⟨rfl, K6.trans (hb7.mono K6.size)⟩
end Go.Proofs.Ytelagcpkbcdpdaa
