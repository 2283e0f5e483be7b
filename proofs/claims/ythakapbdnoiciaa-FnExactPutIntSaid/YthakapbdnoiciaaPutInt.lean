/- The walk of impl.PutInt. -/
import Derived.Test.YthakapbdnoiciaaPutInts
namespace Go.Proofs.Ythakapbdnoiciaa
open Go.RowKit

theorem readsI_one (w : World) (n : Int) (e : TypeId) : ReadsI (w.alloc (.cells #[.int .i64 n] e)) (some ⟨w.heap.size, 0, none⟩) [n] := by
  intro _
  refine ⟨_, _, rfl, fun i hi => ?_⟩
  simp at hi
  subst hi
  simp

set_option maxHeartbeats 400000 in
theorem implPutInt_any (a : Option Addr) (c : Nat) (zs : List Int) (n : Int) (w : World) (hr : Reads w a zs) (hc : a = none → c = 0) (hl : zs.length ≤ 70368744160000) :
    Calls Try.prog 11 #[.slice a zs.length c, .int .i64 n] w fun e w' => ∃ a' c' ys, e = .returned (.slice a' ys.length c') ∧ ys = zs ++ putOf n ∧ OwnB w' w.heap.size a' c' ys ∧ Below w.heap.size w w' := by
  have HC : Hid (a = none → c = 0) := hc
  clear hc
  go_enter Try.func11, Try.ntmps11
  go_wp2_with fail
  refine (putInts_any a c zs _ _ [n] _ (hr.alloc _) HC.out (readsI_one w n _) (by simp; omega)).mono ?_
  rintro e w1 ⟨a1, c1, y1, rfl, hy1, ho1, hb1⟩
  have HY1 : Hid (y1 = zs ++ putOf n) := by rw [Hid, hy1]; simp
  clear hy1
  go_wp2
  go_ret
  exact ⟨a1, c1, y1, rfl, HY1.out, ho1.base (by simp), ((Below.refl _ _).alloc (Nat.le_refl _) _).trans (hb1.mono (by simp))⟩

end Go.Proofs.Ythakapbdnoiciaa
