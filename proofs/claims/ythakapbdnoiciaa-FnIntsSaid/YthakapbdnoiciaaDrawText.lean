/- The walk of spec.DrawPutText. -/
import Derived.Test.YthakapbdnoiciaaDrawBytes
import Derived.Test.YthakapbdnoiciaaStrOf
import Derived.Deep.RegionWith
namespace Go.Proofs.Ythakapbdnoiciaa
open Go.RowKit

set_option maxHeartbeats 1000000 in
theorem drawPutText_any (a : Option Addr) (c : Nat) (zs : List Int) (w : World) (hr : Reads w a zs) (hl : zs.length ≤ 70368744177664) :
    Calls Try.prog 13 #[.slice a zs.length c] w fun e w' => ∃ a' c' ys s, e = .returned (.tuple #[.slice a' ys.length c', .string (strOf s)]) ∧ ys.length ≤ 9 ∧ s.length ≤ 9 ∧ (∀ z ∈ s, 0 ≤ z ∧ z < 256) ∧ OwnB w' w.heap.size a' c' ys ∧ Below w.heap.size w w' := by
  go_enter Try.func13, Try.ntmps13
  go_wp2_with fail
  refine (l1New_any a c zs w hr hl).mono ?_
  rintro e w1 ⟨rfl, hc1, hb1⟩
  go_wp2_with fail
  go_region_with (first | (go_at_call 30; refine (l1Some_any w.heap.size zs _ (by exact hc1) hl).mono ?_; rintro e w2 ⟨a2, c2, y2, rfl, hy2, ho2, hc2, hg2⟩) | (go_at_call 30; refine (l1Some_any w.heap.size zs _ (by exact hc2) hl).mono ?_; rintro e w3 ⟨a3, c3, y3, rfl, hy3, ho3, hc3, hg3⟩; have hcv := run_text_own ho3))
  all_goals go_wp2
  go_ret2
  have hb2 := grown_below hb1.drew hg2
  have hb3 := grown_below hb2 hg3
  have hs1 : w.heap.size < w1.heap.size := hc1.lt
  have ho2' : OwnB w3 w1.heap.size a2 c2 y2 := ⟨ho2.1, ho2.2.kept hg3 (by
    cases hv : (Value.slice a2 y2.length c2).ownBlock with
    | none => exact .inl rfl
    | some g => exact .inr (fun e => by have h1 := (ho2.2.lt g hv).1; have h2 : w.heap.size < w1.drew.heap.size := hs1; cases e; omega))⟩
  exact ⟨a2, c2, y2, y3, rfl, hy2, hy3, ho3.1, ho2'.base (Nat.le_of_lt hs1), hb3⟩
end Go.Proofs.Ythakapbdnoiciaa
