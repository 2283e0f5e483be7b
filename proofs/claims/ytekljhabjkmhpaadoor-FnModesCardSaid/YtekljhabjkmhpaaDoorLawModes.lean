/- The walks of spec.DrawGoes and laws.FnModes. -/
import Derived.Test.YtekljhabjkmhpaaDoorLockTab
import Derived.Test.YtekljhabjkmhpaaDoorDraw2
import Derived.Test.YtekljhabjkmhpaaDoorBig
import Derived.Test.YtekljhabjkmhpaaDoorHeld
import Derived.Test.YtekljhabjkmhpaaDoorOpenB
namespace Go.Proofs.YtekljhabjkmhpaaDoor
open Go.RowKit

theorem TabGo.drewN {w : World} (h : TabGo w) (n : Nat) : TabGo (w.drewN n) := h.keep (below_drewN (Below.refl _ _) n)
theorem TabBoth.drewN {w : World} (h : TabBoth w) (n : Nat) : TabBoth (w.drewN n) := h.keep (below_drewN (Below.refl _ _) n)

set_option maxHeartbeats 400000 in
set_option maxRecDepth 100000 in
theorem drawGoes_any (a : Option Addr) (c : Nat) (zs : List Int) (w : World) (hr : Reads w a zs) (hl : zs.length ≤ 70368744177664) :
    Calls Tryd.prog 10 #[.slice a zs.length c] w fun e w' => ∃ x y : Nat, e = .returned (.tuple #[.int .i64 x, .int .i64 y]) ∧ Below w.heap.size w w' := by
  go_enter Tryd.func10, Tryd.ntmps10
  go_wp2_with fail
  refine (l1New_any a c zs w hr hl).mono ?_
  rintro e w1 ⟨rfl, hc1, hb1⟩
  go_wp2_with fail
  refine (l1Below_any w.heap.size zs 6 w1 hc1 hl (by omega)).mono ?_
  rintro e w2 ⟨x, rfl, _, hc2, hg2⟩
  go_wp2_with fail
  refine (l1Below_any w.heap.size zs 6 w2 hc2 hl (by omega)).mono ?_
  rintro e w3 ⟨y, rfl, _, hc3, hg3⟩
  go_wp2
  go_ret2
  exact ⟨x, y, rfl, (hb1.grown hg2 (by have := hc1.lt; omega) (fun k hk => by cases hk; omega)).grown hg3 (by have := hc1.lt; have := hg2.size; omega) (fun k hk => by cases hk; omega)⟩

set_option maxHeartbeats 4000000 in
set_option maxRecDepth 100000 in
theorem lawModes_walk (a : Option Addr) (c : Nat) (zs : List Int) (w : World) (hG : TabGo w) (hB : TabBoth w) (hr : Reads w a zs) :
    Calls Tryd.prog 3 #[.slice a zs.length c] w fun e w' => e = .returned (.bool true) ∧ Below w.heap.size w w' := by
  have C0 := big_any a c zs.length w
  by_cases hbig : 1048576 < zs.length
  · rw [decide_eq_true hbig] at C0
    go_enter Tryd.func3, Tryd.ntmps3
    go_wp2_with fail
    refine C0.mono ?_
    rintro e w' ⟨rfl, rfl⟩
    go_wp2
    go_ret
    exact ⟨rfl, Below.refl _ _⟩
  rw [decide_eq_false hbig] at C0
  go_enter Tryd.func3, Tryd.ntmps3
  go_wp2_with fail
  refine C0.mono ?_
  rintro e w' ⟨rfl, rfl⟩
  go_wp2_with fail
  refine (drawGoes_any a c zs w' hr (by omega)).mono ?_
  rintro e w1 ⟨x, y, rfl, hb1⟩
  have hG1 := hG.keep hb1
  have hB1 := hB.keep hb1
  have HG : Hid (∀ (p q : Int), Calls Tryd.prog 12 #[.int .i64 p, .int .i64 q] w1 fun e w' => e = .returned (.bool (goesB p q)) ∧ w' = w1) := fun p q => implGoes_any p q _ hG1
  have HB : Hid (∀ (p q : Int), Calls Tryd.prog 11 #[.int .i64 p, .int .i64 q] w1 fun e w' => e = .returned (.int .i64 (bothZ p q)) ∧ w' = w1) := fun p q => implBoth_any p q _ hB1
  have HM : Hid (∀ k : Int, goesB (bothZ x y) k = true → goesB x k = true ∧ goesB y k = true) := fun k h => both_goes _ _ _ h
  have HT : Hid (¬ bothZ x y = 0 → bothZ (bothZ x y) x = bothZ x y ∧ bothZ (bothZ x y) y = bothZ x y) := fun h => by
    have h' : (modeB x && modeB y) = true := by
      cases e : (modeB x && modeB y)
      · exact absurd ((bothZ_nil _ _).2 e) h
      · rfl
    simp only [Bool.and_eq_true] at h'
    exact both_same h'.1 h'.2
  have C1 := HB.out x y
  have C2 := HG.out x y
  have C3 := HG.out y x
  have C4 := HB.out y x
  have C5 := specBoth_any x y w1
  have C6 := HG.out x y
  have C7 := specGoes_any x y w1
  rw [bothZ_symm (y : Int)] at C4
  rw [goesB_symm (y : Int)] at C3
  generalize bothZ x y = m at *
  generalize goesB x y = g at *
  clear hG hB hr hG1 hB1 C0 hbig
  go_wp2_with fail
  refine C1.mono ?_
  rintro e w' ⟨rfl, rfl⟩
  clear C1
  go_wp2_with fail
  refine C2.mono ?_
  rintro e w' ⟨rfl, rfl⟩
  clear C2
  go_wp2_with fail
  refine C3.mono ?_
  rintro e w' ⟨rfl, rfl⟩
  clear C3
  have hgg : (g != g) = false := by cases g <;> rfl
  go_wp2_with fail
  refine C4.mono ?_
  rintro e w' ⟨rfl, rfl⟩
  clear C4
  go_wp2_with fail
  refine C5.mono ?_
  rintro e w' ⟨rfl, rfl⟩
  clear C5
  go_wp2_with fail
  refine C6.mono ?_
  rintro e w' ⟨rfl, rfl⟩
  clear C6
  go_wp2_with fail
  refine C7.mono ?_
  rintro e w' ⟨rfl, rfl⟩
  clear C7
  go_wp2_with fail
  go_loop [6] (fun i => ∃ k : Nat, 1 ≤ k ∧ k ≤ 5 ∧ i = .int .i64 k) (fun i => 5 - (intOf i).toNat)
  case atStart => exact ⟨1, by omega, by omega, rfl⟩
  case round =>
    obtain ⟨k, h1, h5, rfl⟩ := hrel
    by_cases hk : k ≤ 4
    · have D1 := HG.out m k
      have D2 := HG.out x k
      have D3 := HG.out y k
      have HK : Hid (goesB m k = true → goesB x k = true ∧ goesB y k = true) := HM.out k
      generalize goesB m k = gm at *
      generalize goesB x k = gx at *
      generalize goesB y k = gy at *
      by_cases hm : 0 < m
      · cases gm
        · clear D2 D3
          go_wp2_with fail
          refine D1.mono ?_
          rintro e w' ⟨rfl, rfl⟩
          go_wp2_with fail
          go_round
          case rel => exact ⟨k + 1, by omega, by omega, by go_num⟩
          case measure => simp [intOf]; omega
        · obtain ⟨rfl, rfl⟩ := HK.out rfl
          go_wp2_with fail
          refine D1.mono ?_
          rintro e w' ⟨rfl, rfl⟩
          go_wp2_with fail
          refine D2.mono ?_
          rintro e w' ⟨rfl, rfl⟩
          go_wp2_with fail
          refine D3.mono ?_
          rintro e w' ⟨rfl, rfl⟩
          go_wp2_with fail
          go_round
          case rel => exact ⟨k + 1, by omega, by omega, by go_num⟩
          case measure => simp [intOf]; omega
      · clear D1 D2 D3
        go_wp2_with fail
        go_round
        case rel => exact ⟨k + 1, by omega, by omega, by go_num⟩
        case measure => simp [intOf]; omega
    · have HK : Hid (Below _ _ _) := hb1
      clear hb1
      by_cases hm : m = 0
      · subst hm
        go_wp2_with fail
        go_ret
        exact ⟨rfl, HK.out⟩
      · have D1 := HB.out m x
        have D2 := HB.out m y
        rw [(HT.out hm).1] at D1
        rw [(HT.out hm).2] at D2
        go_wp2_with fail
        refine D1.mono ?_
        rintro e w' ⟨rfl, rfl⟩
        go_wp2_with fail
        refine D2.mono ?_
        rintro e w' ⟨rfl, rfl⟩
        go_wp2_with fail
        go_ret
        exact ⟨rfl, HK.out⟩
end Go.Proofs.YtekljhabjkmhpaaDoor
