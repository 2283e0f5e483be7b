/- The walk of impl.Frame: it comes to frameOf. -/
import Derived.Test.YthakapbdnoiciaaCrc
import Derived.Test.YthakapbdnoiciaaSum
import Derived.Test.YthakapbdnoiciaaPutInts
namespace Go.Proofs.Ythakapbdnoiciaa
open Go.RowKit

def frameOf (zs : List Int) : List Int := (putOf zs.length ++ zs) ++ four (crcOf zs)

theorem crcOf_lt (zs : List Int) (h : ∀ z ∈ zs, 0 ≤ z ∧ z < 256) : crcOf zs < 4294967296 := by
  have := crcTo_lt zs h zs.length
  exact Nat.xor_lt_two_pow (n := 32) (by omega) (by omega)
theorem frameOf_len (zs : List Int) : (frameOf zs).length ≤ zs.length + 69 := by
  have := (putOf_len zs.length).2
  simp [frameOf, four, fourTo]; omega

theorem readsI_lit1 (w : World) (n : Int) (e : TypeId) : ReadsI (w.alloc (.cells #[.int .i64 n] e)) (some ⟨w.heap.size, 0, none⟩) [n] := by
  intro _
  refine ⟨_, _, rfl, fun i hi => ?_⟩
  simp at hi
  subst hi
  simp

theorem reads_nil (w : World) (a : Option Addr) : Reads w a [] := ⟨by simp, by simp⟩

set_option maxHeartbeats 400000 in
set_option maxRecDepth 100000 in
theorem implFrame_any (a : Option Addr) (c : Nat) (zs : List Int) (w : World) (hr : Reads w a zs) (hc : a = none → c = 0) (hl : zs.length ≤ 70368744100000) :
    Calls Try.prog 17 #[.slice a zs.length c] w fun e w' => ∃ a' c' ys, e = .returned (.slice a' ys.length c') ∧ ys = frameOf zs ∧ OwnB w' w.heap.size a' c' ys ∧ Below w.heap.size w w' := by
  have HC : Hid (a = none → c = 0) := hc
  have HB : Hid (∀ z ∈ zs, 0 ≤ z ∧ z < 256) := hr.byte
  have HL : Hid ((putOf (zs.length : Int)).length ≤ 65) := (putOf_len _).2
  clear hc
  go_enter Try.func17, Try.ntmps17
  go_wp2_with fail
  refine (putInts_any none 0 [] _ _ [(zs.length : Int)] _ (reads_nil _ _) (fun _ => rfl) (readsI_lit1 w _ _) (by simp)).mono ?_
  rintro e w1 ⟨a1, c1, y1, rfl, hy1, ho1, hb1⟩
  have hbw : Below w.heap.size w w1 := ((Below.refl _ _).alloc (Nat.le_refl _) _).trans (hb1.mono (by simp))
  have hr1 := hr.below hbw
  have HY1 : Hid (y1 = putOf zs.length) := by rw [Hid, hy1]; simp
  have hl1 : y1.length ≤ 65 := by rw [HY1.out]; exact HL.out
  have ho1' : OwnB w1 w.heap.size a1 c1 y1 := ho1.base (by simp)
  have hs1 := hbw.size
  clear hy1 hb1 ho1
  go_wp2_with (at_builtin; refine append_bytes rfl _ _ rfl w.heap.size a1 c1 y1 rfl ho1' a c zs rfl hr1 HC.out (by omega) hs1 ?_; intro a2 c2 y2 w2 hy2 ho2 hg2)
  have hbw2 := hbw.grown hg2 hs1 (fun j hj => (ho1'.2.lt j hj).1)
  have hr2 := hr.below hbw2
  have HY2 : Hid (y2 = putOf zs.length ++ zs) := by rw [Hid, hy2.out, HY1.out]
  have hl2 : y2.length ≤ 70368744177000 := by
    have e := congrArg List.length HY2.out
    have := HL.out
    rw [List.length_append] at e
    omega
  clear hr hr1 hbw ho1' hg2 hs1 hl1
  refine (implCrc_any a c zs w2 hr2 (by omega)).mono ?_
  rintro e w3 ⟨rfl, rfl⟩
  go_wp2_with fail
  refine (appendSum_any w.heap.size a2 c2 y2 (crcOf zs) w3 ho2 hl2 hbw2.size).mono ?_
  rintro e w4 ⟨a4, c4, y4, rfl, hy4, ho4, hb4⟩
  have HY4 : Hid (y4 = frameOf zs) := by rw [Hid, hy4, HY2.out]; rfl
  clear hy4
  go_wp2
  go_ret
  exact ⟨a4, c4, y4, rfl, HY4.out, ho4, hbw2.trans hb4⟩
end Go.Proofs.Ythakapbdnoiciaa
