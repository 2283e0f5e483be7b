/- The walks of spec.l1Some and l1Number, and of DrawPutInt and DrawFrame. -/
import Derived.Test.YthakapbdnoiciaaDraw2
namespace Go.Proofs.Ythakapbdnoiciaa
open Go.RowKit

theorem some_le (j : Nat) (h : j < 5) : ∃ m : Nat, ([0, 1, 2, 5, 9] : List Int).getD j 0 = (m : Int) ∧ m ≤ 9 := by
  match j, h with
  | 0, _ => exact ⟨0, rfl, by omega⟩
  | 1, _ => exact ⟨1, rfl, by omega⟩
  | 2, _ => exact ⟨2, rfl, by omega⟩
  | 3, _ => exact ⟨5, rfl, by omega⟩
  | 4, _ => exact ⟨9, rfl, by omega⟩

set_option maxHeartbeats 400000 in
theorem l1Some_any (B : Nat) (zs : List Int) (w : World) (hc : CurAt w B zs) (hl : zs.length ≤ 70368744177664) :
    Calls Try.prog 30 #[.pointer (some ⟨B, 0, none⟩)] w fun e w' => ∃ a' c' ys, e = .returned (.slice a' ys.length c') ∧ ys.length ≤ 9 ∧ OwnB w' w.heap.size a' c' ys ∧ CurAt w' B zs ∧ w.grownBy w' (some B) := by
  have hB := hc.lt
  go_enter Try.func30, Try.ntmps30
  go_wp2_with fail
  refine (l1Int_any B zs _ _ [0, 1, 2, 5, 9] _ (hc.alloc _) hl (readsI_lit w [0, 1, 2, 5, 9] _) (fun b off e => by cases e; omega) (by simp) (by simp)).mono ?_
  rintro e w1 ⟨j, hj, rfl, hc1, hg1⟩
  obtain ⟨m, hm, hm9⟩ := some_le j hj
  rw [hm]
  have hg0 := grownBy_trans (World.grownBy_alloc w _ (some B)) hg1
  have hs0 := hg0.size
  clear hm hj hg1
  go_wp2_with fail
  refine (l1Bytes_any B zs m w1 hc1 hl (by omega)).mono ?_
  rintro e w2 ⟨a2, c2, y2, rfl, hy2, ho2, hc2, hg2⟩
  have hyl : y2.length ≤ 9 := by omega
  clear hy2
  go_wp2
  go_ret
  exact ⟨a2, c2, y2, rfl, hyl, ho2.base hs0, hc2, grownBy_trans hg0 hg2⟩

set_option maxHeartbeats 400000 in
theorem l1Number_any (B : Nat) (zs : List Int) (w : World) (hc : CurAt w B zs) (hl : zs.length ≤ 70368744177664) :
    Calls Try.prog 31 #[.pointer (some ⟨B, 0, none⟩)] w fun e w' => ∃ n : Int, e = .returned (.int .i64 n) ∧ CurAt w' B zs ∧ w.grownBy w' (some B) := by
  go_enter Try.func31, Try.ntmps31
  go_wp2_with fail
  refine (l1Below_any B zs 100000 w hc hl (by omega)).mono ?_
  rintro e w1 ⟨x, rfl, _, hc1, hg1⟩
  have hB := hc1.lt
  go_wp2_with fail
  refine (l1Int_any B zs _ _ [0, 1, -1, 63, 64, -64, -65, 8191, 8192, 1000000000000, -1000000000000, 1000000000001, -9223372036854775808, 9223372036854775807, (x : Int)] _ (hc1.alloc _) hl (readsI_lit w1 _ _) (fun b off e => by cases e; omega) (by simp) (by simp)).mono ?_
  rintro e w2 ⟨j, hj, rfl, hc2, hg2⟩
  generalize List.getD _ j (0 : Int) = n
  go_wp2
  go_ret
  exact ⟨n, rfl, hc2, grownBy_trans hg1 (grownBy_trans (World.grownBy_alloc w1 _ (some B)) hg2)⟩

theorem grown_below {w w1 w2 : World} (h : Below w.heap.size w w1) (hg : w1.grownBy w2 (some w.heap.size)) : Below w.heap.size w w2 :=
  h.grown hg h.size (fun k e => by cases e; exact Nat.le_refl _)

set_option maxHeartbeats 400000 in
theorem drawPutInt_any (a : Option Addr) (c : Nat) (zs : List Int) (w : World) (hr : Reads w a zs) (hl : zs.length ≤ 70368744177664) :
    Calls Try.prog 10 #[.slice a zs.length c] w fun e w' => ∃ a' c' ys n, e = .returned (.tuple #[.slice a' ys.length c', .int .i64 n]) ∧ ys.length ≤ 9 ∧ OwnB w' w.heap.size a' c' ys ∧ Below w.heap.size w w' := by
  go_enter Try.func10, Try.ntmps10
  go_wp2_with fail
  refine (l1New_any a c zs w hr hl).mono ?_
  rintro e w1 ⟨rfl, hc1, hb1⟩
  go_wp2_with fail
  refine (l1Some_any w.heap.size zs w1 hc1 hl).mono ?_
  rintro e w2 ⟨a2, c2, y2, rfl, hy2, ho2, hc2, hg2⟩
  have hb2 := grown_below hb1 hg2
  have hs1 : w.heap.size < w1.heap.size := hc1.lt
  clear hg2 hc1
  go_wp2_with fail
  refine (l1Number_any w.heap.size zs w2 hc2 hl).mono ?_
  rintro e w3 ⟨n, rfl, hc3, hg3⟩
  have hb3 := grown_below hb2 hg3
  have ho3 : OwnB w3 w1.heap.size a2 c2 y2 := ⟨ho2.1, ho2.2.kept hg3 (by
    cases hv : (Value.slice a2 y2.length c2).ownBlock with
    | none => exact .inl rfl
    | some g => exact .inr (fun e => by have := (ho2.2.lt g hv).1; cases e; omega))⟩
  go_wp2
  go_ret2
  exact ⟨a2, c2, y2, n, rfl, hy2, ho3.base (Nat.le_of_lt hs1), hb3⟩

set_option maxHeartbeats 400000 in
theorem drawFrame_any (a : Option Addr) (c : Nat) (zs : List Int) (w : World) (hr : Reads w a zs) (hl : zs.length ≤ 70368744177664) :
    Calls Try.prog 16 #[.slice a zs.length c] w fun e w' => ∃ a' c' ys, e = .returned (.slice a' ys.length c') ∧ ys.length ≤ 9 ∧ OwnB w' w.heap.size a' c' ys ∧ Below w.heap.size w w' := by
  go_enter Try.func16, Try.ntmps16
  go_wp2_with fail
  refine (l1New_any a c zs w hr hl).mono ?_
  rintro e w1 ⟨rfl, hc1, hb1⟩
  go_wp2_with fail
  refine (l1Some_any w.heap.size zs w1 hc1 hl).mono ?_
  rintro e w2 ⟨a2, c2, y2, rfl, hy2, ho2, hc2, hg2⟩
  have hb2 := grown_below hb1 hg2
  have hs1 : w.heap.size < w1.heap.size := hc1.lt
  go_wp2
  go_ret
  exact ⟨a2, c2, y2, rfl, hy2, ho2.base (Nat.le_of_lt hs1), hb2⟩
end Go.Proofs.Ythakapbdnoiciaa
