/- The walks of impl.PutText and spec.PutText. -/
import Derived.Test.YthakapbdnoiciaaPutInt
import Derived.Test.YthakapbdnoiciaaSpecPut
import Derived.Test.YthakapbdnoiciaaRunes
namespace Go.Proofs.Ythakapbdnoiciaa
open Go.RowKit

def putTextOf (s : ByteArray) : List Int := putOf s.size ++ sBytes s

set_option maxHeartbeats 400000 in
theorem implPutText_any (a : Option Addr) (c : Nat) (zs : List Int) (s : ByteArray) (w : World) (hr : Reads w a zs) (hc : a = none → c = 0) (hl : zs.length + s.size ≤ 70368744160000) :
    Calls Try.prog 14 #[.slice a zs.length c, .string s] w fun e w' => ∃ a' c' ys, e = .returned (.slice a' ys.length c') ∧ ys = zs ++ putTextOf s ∧ OwnB w' w.heap.size a' c' ys ∧ Below w.heap.size w w' := by
  have HC : Hid (a = none → c = 0) := hc
  have HL : Hid ((putOf (s.size : Int)).length ≤ 65) := (putOf_len _).2
  clear hc
  go_enter Try.func14, Try.ntmps14
  go_wp2_with fail
  refine (putInts_any a c zs _ _ [(s.size : Int)] _ (hr.alloc _) HC.out (readsI_one w _ _) (by simp; omega)).mono ?_
  rintro e w1 ⟨a1, c1, y1, rfl, hy1, ho1, hb1⟩
  have HY1 : Hid (y1 = zs ++ putOf s.size) := by rw [Hid, hy1]; simp
  have hyl : y1.length + s.size ≤ 70368744177000 := by
    have e := congrArg List.length HY1.out
    have := HL.out
    rw [List.length_append] at e
    omega
  have hbw : Below w.heap.size w w1 := ((Below.refl _ _).alloc (Nat.le_refl _) _).trans (hb1.mono (by simp))
  have ho1' : OwnB w1 w.heap.size a1 c1 y1 := ho1.base (by simp)
  clear hy1 hb1 ho1 hr
  go_wp2_with fail
  refine (appendRunes_any w.heap.size a1 c1 y1 s w1 ho1' hyl hbw.size).mono ?_
  rintro e w2 ⟨a2, c2, y2, rfl, hy2, ho2, hb2⟩
  have HY2 : Hid (y2 = zs ++ putTextOf s) := by rw [Hid, hy2, HY1.out, List.append_assoc]; rfl
  clear hy2
  go_wp2
  go_ret
  exact ⟨a2, c2, y2, rfl, HY2.out, ho2, hbw.trans hb2⟩

set_option maxHeartbeats 400000 in
set_option maxRecDepth 100000 in
theorem specPutText_any (a : Option Addr) (c : Nat) (zs : List Int) (s : ByteArray) (w : World) (hr : Reads w a zs) (hc : a = none → c = 0) (hl : zs.length + s.size ≤ 70368744160000) :
    Calls Try.prog 27 #[.slice a zs.length c, .string s] w fun e w' => ∃ a' c' ys, e = .returned (.slice a' ys.length c') ∧ ys = zs ++ putTextOf s ∧ OwnB w' w.heap.size a' c' ys ∧ Below w.heap.size w w' := by
  have HC : Hid (a = none → c = 0) := hc
  have HL : Hid ((putOf (s.size : Int)).length ≤ 65) := (putOf_len _).2
  clear hc
  go_enter Try.func27, Try.ntmps27
  go_wp2_with fail
  refine (specPutInt_any a c zs (s.size : Int) w hr HC.out (by omega)).mono ?_
  rintro e w1 ⟨a1, c1, y1, rfl, hy1, ho1, hb1⟩
  have HY1 : Hid (y1 = zs ++ putOf s.size) := hy1
  have hyl : y1.length + s.size ≤ 70368744177664 := by
    have e := congrArg List.length HY1.out
    have := HL.out
    rw [List.length_append] at e
    omega
  have hs1 := hb1.size
  clear hy1
  go_wp2_with (at_builtin; refine append_text rfl _ _ rfl w.heap.size a1 c1 y1 rfl ho1 s rfl hyl hs1 ?_; intro a2 c2 y2 w2 hy2 ho2 hg2)
  go_ret
  exact ⟨a2, c2, y2, rfl, by rw [hy2.out, HY1.out, List.append_assoc]; rfl, ho2, hb1.grown hg2 hs1 (fun j hj => (ho1.2.lt j hj).1)⟩

end Go.Proofs.Ythakapbdnoiciaa
