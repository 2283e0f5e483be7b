/- The walk of spec.Frame: it comes to frameOf. -/
import Derived.Test.YthakapbdnoiciabFrame
import Derived.Test.YthakapbdnoiciabCrcSpec
import Derived.Test.YthakapbdnoiciabSumSpec
import Derived.Test.YthakapbdnoiciabSpecPut
namespace Go.Proofs.Ythakapbdnoiciab
open Go.RowKit

set_option maxHeartbeats 400000 in
set_option maxRecDepth 100000 in
theorem specFrame_any (a : Option Addr) (c : Nat) (zs : List Int) (w : World) (hr : Reads w a zs) (hc : a = none → c = 0) (hl : zs.length ≤ 70368744100000) :
    Calls Try.prog 10 #[.slice a zs.length c] w fun e w' => ∃ a' c' ys, e = .returned (.slice a' ys.length c') ∧ ys = frameOf zs ∧ OwnB w' w.heap.size a' c' ys ∧ Below w.heap.size w w' := by
  have HC : Hid (a = none → c = 0) := hc
  have HB : Hid (∀ z ∈ zs, 0 ≤ z ∧ z < 256) := hr.byte
  have HL : Hid ((putOf (zs.length : Int)).length ≤ 65) := (putOf_len _).2
  clear hc
  go_enter Try.func10, Try.ntmps10
  go_wp2_with fail
  refine (specPutInt_any _ 0 [] (zs.length : Int) _ (own_lit0 w).reads (fun h => by cases h) (by simp)).mono ?_
  rintro e w1 ⟨a1, c1, y1, rfl, hy1, ho1, hb1⟩
  have hbw : Below w.heap.size w w1 := ((Below.refl _ _).alloc (Nat.le_refl _) _).trans (hb1.mono (by simp))
  have hr1 := hr.below hbw
  have HY1 : Hid (y1 = putOf zs.length) := by rw [Hid, hy1]; simp
  have hl1 : y1.length ≤ 65 := by rw [HY1.out]; exact HL.out
  have ho1' : OwnB w1 w.heap.size a1 c1 y1 := ho1.base (by simp)
  have hs1 := hbw.size
  clear hy1 hb1 ho1
  go_wp2_with (at_builtin; refine append_bytes rfl _ _ rfl w.heap.size a1 c1 y1 rfl ho1' a c zs rfl hr1 HC.out (by omega) hs1 ?_; intro a2 c2 y2 w2 hy2 ho2 hg2)
  have hbw2 := hbw.grown hg2 hs1 (fun j hj => (ho1'.2.lt j hj).1)
  have hr2 := hr.below hbw2
  have HY2 : Hid (y2 = putOf zs.length ++ zs) := by rw [Hid, hy2.out, HY1.out]
  have hl2 : y2.length ≤ 70368744177000 := by
    have e := congrArg List.length HY2.out
    have := HL.out
    rw [List.length_append] at e
    omega
  clear hr hr1 hbw ho1' hg2 hs1 hl1
  refine (specCrc_any a c zs w2 hr2 (by omega)).mono ?_
  rintro e w3 ⟨rfl, rfl⟩
  have hcl := crcOf_lt zs HB.out
  go_wp2_with fail
  refine (l1Four_any (crcOf zs) w3 hcl).mono ?_
  rintro e w4 ⟨a4, c4, y4, rfl, hy4, ho4, hb4⟩
  have HY4 : Hid (y4 = four (crcOf zs)) := hy4
  have hl4 : y4.length = 4 := by rw [hy4]; simp [four, fourTo]
  have hl4' : y4.length ≤ 4 := by omega
  have ho2' := ho2.below hb4
  have hs4 : w.heap.size ≤ w4.heap.size := Nat.le_trans hbw2.size hb4.size
  clear hy4 hl4 ho2
  go_wp2_with (at_builtin; refine append_bytes rfl _ _ rfl w.heap.size a2 c2 y2 rfl ho2' a4 c4 y4 rfl ho4.reads ho4.nocap (by omega) hs4 ?_; intro a5 c5 y5 w5 hy5 ho5 hg5)
  go_ret
  exact ⟨a5, c5, y5, rfl, by rw [hy5.out, HY2.out, HY4.out]; rfl, ho5, (hbw2.trans (hb4.mono hbw2.size)).grown hg5 hs4 (fun j hj => (ho2'.2.lt j hj).1)⟩

end Go.Proofs.Ythakapbdnoiciab
