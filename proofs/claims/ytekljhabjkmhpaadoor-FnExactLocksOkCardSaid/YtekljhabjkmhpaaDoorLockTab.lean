/- The two tables of modes in memory; the walks of impl.modeOk, Goes, Both. -/
import Derived.Test.YtekljhabjkmhpaaDoorLockMath
import Derived.Test.YtekljhabjkmhpaaDoorL1In
namespace Go.Proofs.YtekljhabjkmhpaaDoor
open Go.RowKit

def TabGo (w : World) : Prop := ∃ t f, w.heap[1]? = some (.cells (goTab.map Value.bool).toArray t f)
def TabBoth (w : World) : Prop := ∃ t f, w.heap[0]? = some (.cells (bothTab.map (Value.int .i64)).toArray t f)
theorem TabGo.lt {w : World} (h : TabGo w) : 1 < w.heap.size := by obtain ⟨t, f, h⟩ := h; exact (Array.getElem?_eq_some_iff.1 h).1
theorem TabBoth.lt {w : World} (h : TabBoth w) : 0 < w.heap.size := by obtain ⟨t, f, h⟩ := h; exact (Array.getElem?_eq_some_iff.1 h).1
theorem TabGo.keep {w w' : World} (h : TabGo w) (hb : Below w.heap.size w w') : TabGo w' := by
  have := hb.block _ h.lt
  obtain ⟨t, f, h⟩ := h
  exact ⟨t, f, by rw [this]; exact h⟩
theorem TabBoth.keep {w w' : World} (h : TabBoth w) (hb : Below w.heap.size w w') : TabBoth w' := by
  have := hb.block _ h.lt
  obtain ⟨t, f, h⟩ := h
  exact ⟨t, f, by rw [this]; exact h⟩
theorem TabGo.cell {w : World} (h : TabGo w) (i : Nat) (hi : i < 16) : w.cell? ⟨1, i, none⟩ = some (.bool (goTab.getD i false)) := by
  obtain ⟨t, f, h⟩ := h
  have e : goTab.length = 16 := rfl
  simp [World.cell?, h, List.getD, e, hi]
theorem TabBoth.cell {w : World} (h : TabBoth w) (i : Nat) (hi : i < 16) : w.cell? ⟨0, i, none⟩ = some (.int .i64 (bothTab.getD i 0)) := by
  obtain ⟨t, f, h⟩ := h
  have e : bothTab.length = 16 := rfl
  simp [World.cell?, h, List.getD, e, hi]

set_option maxHeartbeats 400000 in
theorem modeOk_any (m : Int) (w : World) : Calls Tryd.prog 32 #[.int .i64 m] w fun e w' => e = .returned (.bool (modeB m)) ∧ w' = w := by
  by_cases h1 : 1 ≤ m
  · by_cases h2 : m ≤ 4
    · have HB : Hid (modeB m = true) := (modeB_iff m).2 ⟨h1, h2⟩
      go_enter Tryd.func32, Tryd.ntmps32
      go_wp2
      go_ret
      exact ⟨ret_bool HB.out.symm, rfl⟩
    · have HB : Hid (modeB m = false) := by simp [Hid, modeB, inB, h2]
      go_enter Tryd.func32, Tryd.ntmps32
      go_wp2
      go_ret
      exact ⟨ret_bool HB.out.symm, rfl⟩
  · have HB : Hid (modeB m = false) := by simp [Hid, modeB, inB, h1]
    go_enter Tryd.func32, Tryd.ntmps32
    go_wp2
    go_ret
    exact ⟨ret_bool HB.out.symm, rfl⟩

set_option maxHeartbeats 400000 in
theorem l9Mode_any (m : Int) (w : World) : Calls Tryd.prog 33 #[.int .i64 m] w fun e w' => e = .returned (.bool (modeB m)) ∧ w' = w := by
  go_enter Tryd.func33, Tryd.ntmps33
  go_wp2_with fail
  refine (l1In_any m 1 4 w).mono ?_
  rintro e w' ⟨rfl, rfl⟩
  go_wp2
  go_ret
  exact ⟨rfl, rfl⟩

set_option maxHeartbeats 2000000 in
set_option maxRecDepth 100000 in
theorem implGoes_any (a b : Int) (w : World) (hT : TabGo w) : Calls Tryd.prog 12 #[.int .i64 a, .int .i64 b] w fun e w' => e = .returned (.bool (goesB a b)) ∧ w' = w := by
  have Ca := modeOk_any a w
  have Cb := modeOk_any b w
  cases ha : modeB a
  · have HB : Hid (goesB a b = false) := goesB_left ha
    rw [ha] at Ca
    go_enter Tryd.func12, Tryd.ntmps12
    go_wp2_with fail
    refine Ca.mono ?_
    rintro e w' ⟨rfl, rfl⟩
    go_wp2_with fail
    go_ret
    exact ⟨ret_bool HB.out.symm, rfl⟩
  cases hb : modeB b
  · have HB : Hid (goesB a b = false) := goesB_right hb
    rw [ha] at Ca
    rw [hb] at Cb
    go_enter Tryd.func12, Tryd.ntmps12
    go_wp2_with fail
    refine Ca.mono ?_
    rintro e w' ⟨rfl, rfl⟩
    go_wp2_with fail
    refine Cb.mono ?_
    rintro e w' ⟨rfl, rfl⟩
    go_wp2_with fail
    go_ret
    exact ⟨ret_bool HB.out.symm, rfl⟩
  have HC : Hid (∀ i, i < 16 → w.cell? ⟨1, i, none⟩ = some (.bool (goTab.getD i false))) := fun i hi => hT.cell i hi
  clear hT
  rw [ha] at Ca
  rw [hb] at Cb
  have h1 := modeB_cases ha
  have h2 := modeB_cases hb
  clear ha hb
  rcases h1 with rfl | rfl | rfl | rfl <;> rcases h2 with rfl | rfl | rfl | rfl <;>
  · go_enter Tryd.func12, Tryd.ntmps12
    go_wp2_with fail
    refine Ca.mono ?_
    rintro e w' ⟨rfl, rfl⟩
    go_wp2_with fail
    refine Cb.mono ?_
    rintro e w' ⟨rfl, rfl⟩
    have g0 := HC.out 0 (by decide)
    have g1 := HC.out 1 (by decide)
    have g2 := HC.out 2 (by decide)
    have g3 := HC.out 3 (by decide)
    have g4 := HC.out 4 (by decide)
    have g5 := HC.out 5 (by decide)
    have g6 := HC.out 6 (by decide)
    have g7 := HC.out 7 (by decide)
    have g8 := HC.out 8 (by decide)
    have g9 := HC.out 9 (by decide)
    have g10 := HC.out 10 (by decide)
    have g11 := HC.out 11 (by decide)
    have g12 := HC.out 12 (by decide)
    have g13 := HC.out 13 (by decide)
    have g14 := HC.out 14 (by decide)
    have g15 := HC.out 15 (by decide)
    go_wp2_with fail
    go_ret
    exact ⟨rfl, rfl⟩
set_option maxHeartbeats 2000000 in
set_option maxRecDepth 100000 in
theorem implBoth_any (a b : Int) (w : World) (hT : TabBoth w) : Calls Tryd.prog 11 #[.int .i64 a, .int .i64 b] w fun e w' => e = .returned (.int .i64 (bothZ a b)) ∧ w' = w := by
  have Ca := modeOk_any a w
  have Cb := modeOk_any b w
  cases ha : modeB a
  · have HB : Hid (bothZ a b = 0) := bothZ_left ha
    rw [ha] at Ca
    go_enter Tryd.func11, Tryd.ntmps11
    go_wp2_with fail
    refine Ca.mono ?_
    rintro e w' ⟨rfl, rfl⟩
    go_wp2_with fail
    go_ret
    exact ⟨ret_int HB.out.symm, rfl⟩
  cases hb : modeB b
  · have HB : Hid (bothZ a b = 0) := bothZ_right hb
    rw [ha] at Ca
    rw [hb] at Cb
    go_enter Tryd.func11, Tryd.ntmps11
    go_wp2_with fail
    refine Ca.mono ?_
    rintro e w' ⟨rfl, rfl⟩
    go_wp2_with fail
    refine Cb.mono ?_
    rintro e w' ⟨rfl, rfl⟩
    go_wp2_with fail
    go_ret
    exact ⟨ret_int HB.out.symm, rfl⟩
  have HC : Hid (∀ i, i < 16 → w.cell? ⟨0, i, none⟩ = some (.int .i64 (bothTab.getD i 0))) := fun i hi => hT.cell i hi
  clear hT
  rw [ha] at Ca
  rw [hb] at Cb
  have h1 := modeB_cases ha
  have h2 := modeB_cases hb
  clear ha hb
  rcases h1 with rfl | rfl | rfl | rfl <;> rcases h2 with rfl | rfl | rfl | rfl <;>
  · go_enter Tryd.func11, Tryd.ntmps11
    go_wp2_with fail
    refine Ca.mono ?_
    rintro e w' ⟨rfl, rfl⟩
    go_wp2_with fail
    refine Cb.mono ?_
    rintro e w' ⟨rfl, rfl⟩
    have g0 := HC.out 0 (by decide)
    have g1 := HC.out 1 (by decide)
    have g2 := HC.out 2 (by decide)
    have g3 := HC.out 3 (by decide)
    have g4 := HC.out 4 (by decide)
    have g5 := HC.out 5 (by decide)
    have g6 := HC.out 6 (by decide)
    have g7 := HC.out 7 (by decide)
    have g8 := HC.out 8 (by decide)
    have g9 := HC.out 9 (by decide)
    have g10 := HC.out 10 (by decide)
    have g11 := HC.out 11 (by decide)
    have g12 := HC.out 12 (by decide)
    have g13 := HC.out 13 (by decide)
    have g14 := HC.out 14 (by decide)
    have g15 := HC.out 15 (by decide)
    go_wp2_with fail
    go_ret
    exact ⟨rfl, rfl⟩
set_option maxHeartbeats 2000000 in
set_option maxRecDepth 100000 in
theorem specGoes_any (a b : Int) (w : World) : Calls Tryd.prog 14 #[.int .i64 a, .int .i64 b] w fun e w' => e = .returned (.bool (goesB a b)) ∧ w' = w := by
  have Ca := l9Mode_any a w
  have Cb := l9Mode_any b w
  cases ha : modeB a
  · have HB : Hid (goesB a b = false) := goesB_left ha
    rw [ha] at Ca
    go_enter Tryd.func14, Tryd.ntmps14
    go_wp2_with fail
    refine Ca.mono ?_
    rintro e w' ⟨rfl, rfl⟩
    go_wp2_with fail
    go_ret
    exact ⟨ret_bool HB.out.symm, rfl⟩
  cases hb : modeB b
  · have HB : Hid (goesB a b = false) := goesB_right hb
    rw [ha] at Ca
    rw [hb] at Cb
    go_enter Tryd.func14, Tryd.ntmps14
    go_wp2_with fail
    refine Ca.mono ?_
    rintro e w' ⟨rfl, rfl⟩
    go_wp2_with fail
    refine Cb.mono ?_
    rintro e w' ⟨rfl, rfl⟩
    go_wp2_with fail
    go_ret
    exact ⟨ret_bool HB.out.symm, rfl⟩
  rw [ha] at Ca
  rw [hb] at Cb
  have h1 := modeB_cases ha
  have h2 := modeB_cases hb
  clear ha hb
  rcases h1 with rfl | rfl | rfl | rfl <;> rcases h2 with rfl | rfl | rfl | rfl <;>
  · go_enter Tryd.func14, Tryd.ntmps14
    go_wp2_with fail
    refine Ca.mono ?_
    rintro e w' ⟨rfl, rfl⟩
    go_wp2_with fail
    refine Cb.mono ?_
    rintro e w' ⟨rfl, rfl⟩
    go_wp2_with fail
    go_ret
    exact ⟨rfl, rfl⟩
set_option maxHeartbeats 2000000 in
set_option maxRecDepth 100000 in
theorem specBoth_any (a b : Int) (w : World) : Calls Tryd.prog 13 #[.int .i64 a, .int .i64 b] w fun e w' => e = .returned (.int .i64 (bothZ a b)) ∧ w' = w := by
  have Ca := l9Mode_any a w
  have Cb := l9Mode_any b w
  cases ha : modeB a
  · have HB : Hid (bothZ a b = 0) := bothZ_left ha
    rw [ha] at Ca
    go_enter Tryd.func13, Tryd.ntmps13
    go_wp2_with fail
    refine Ca.mono ?_
    rintro e w' ⟨rfl, rfl⟩
    go_wp2_with fail
    go_ret
    exact ⟨ret_int HB.out.symm, rfl⟩
  cases hb : modeB b
  · have HB : Hid (bothZ a b = 0) := bothZ_right hb
    rw [ha] at Ca
    rw [hb] at Cb
    go_enter Tryd.func13, Tryd.ntmps13
    go_wp2_with fail
    refine Ca.mono ?_
    rintro e w' ⟨rfl, rfl⟩
    go_wp2_with fail
    refine Cb.mono ?_
    rintro e w' ⟨rfl, rfl⟩
    go_wp2_with fail
    go_ret
    exact ⟨ret_int HB.out.symm, rfl⟩
  rw [ha] at Ca
  rw [hb] at Cb
  have h1 := modeB_cases ha
  have h2 := modeB_cases hb
  clear ha hb
  rcases h1 with rfl | rfl | rfl | rfl <;> rcases h2 with rfl | rfl | rfl | rfl <;>
  · go_enter Tryd.func13, Tryd.ntmps13
    go_wp2_with fail
    refine Ca.mono ?_
    rintro e w' ⟨rfl, rfl⟩
    go_wp2_with fail
    refine Cb.mono ?_
    rintro e w' ⟨rfl, rfl⟩
    go_wp2_with fail
    go_ret
    exact ⟨rfl, rfl⟩
end Go.Proofs.YtekljhabjkmhpaaDoor
