/- The walk of spec.l1Four. -/
import Derived.Test.YthakapbdnoiciabSum
namespace Go.Proofs.Ythakapbdnoiciab
open Go.RowKit

set_option maxHeartbeats 400000 in
theorem l1Four_any (x : Nat) (w : World) (hx : x < 4294967296) :
    Calls Try.prog 18 #[.int .i64 x] w fun e w' => ∃ a' c' ys, e = .returned (.slice a' ys.length c') ∧ ys = four x ∧ OwnB w' w.heap.size a' c' ys ∧ Below w.heap.size w w' := by
  go_enter Try.func18, Try.ntmps18
  go_wp2
  go_ret
  refine ⟨some ⟨w.heap.size, 0, none⟩, 4, [(x : Int) % 256, (x : Int) / 256 % 256, (x : Int) / 65536 % 256, (x : Int) / 16777216], rfl, ?_, own_lit4 w _ _ _ _ ?_, (Below.refl _ _).alloc (Nat.le_refl _) _⟩
  · rw [four_eq, Nat.mod_eq_of_lt (show x / 16777216 < 256 from by omega)]; simp
  · simp; omega
end Go.Proofs.Ythakapbdnoiciab
