/- Several texts in one, in their order. -/
import Derived.Test.YtekljhabjkmhpaaDoorPFnLockedx6
import Derived.Test.YtekljhabjkmhpaaDoorProg
import Derived.Test.YtekljhabjkmhpaaDoorPFnLockedx1
/- Modes: when two go together, and what is both. -/
namespace Go.Proofs.YtekljhabjkmhpaaDoor

def modeB (m : Int) : Bool := inB m 1 4
def goTab : List Bool := [true, true, true, false, true, true, false, false, true, false, true, false, false, false, false, false]
def bothTab : List Int := [1, 2, 3, 4, 2, 2, 4, 4, 3, 4, 3, 4, 4, 4, 4, 4]
def goesB (a b : Int) : Bool := modeB a && modeB b && goTab.getD ((a.toNat - 1) * 4 + (b.toNat - 1)) false
def bothZ (a b : Int) : Int := if modeB a && modeB b then bothTab.getD ((a.toNat - 1) * 4 + (b.toNat - 1)) 0 else 0

theorem modeB_iff (m : Int) : modeB m = true ↔ 1 ≤ m ∧ m ≤ 4 := by simp [modeB, inB]
theorem modeB_cases {m : Int} (h : modeB m = true) : m = 1 ∨ m = 2 ∨ m = 3 ∨ m = 4 := by
  have := (modeB_iff m).1 h; omega
theorem goesB_symm (a b : Int) : goesB a b = goesB b a := by
  cases ha : modeB a <;> cases hb : modeB b
  · simp [goesB, ha, hb]
  · simp [goesB, ha, hb]
  · simp [goesB, ha, hb]
  · rcases modeB_cases ha with rfl | rfl | rfl | rfl <;> rcases modeB_cases hb with rfl | rfl | rfl | rfl <;> rfl
theorem bothZ_symm (a b : Int) : bothZ a b = bothZ b a := by
  cases ha : modeB a <;> cases hb : modeB b
  · simp [bothZ, ha, hb]
  · simp [bothZ, ha, hb]
  · simp [bothZ, ha, hb]
  · rcases modeB_cases ha with rfl | rfl | rfl | rfl <;> rcases modeB_cases hb with rfl | rfl | rfl | rfl <;> rfl
theorem goesB_left {a b : Int} (h : modeB a = false) : goesB a b = false := by simp [goesB, h]
theorem goesB_right {a b : Int} (h : modeB b = false) : goesB a b = false := by simp [goesB, h]
theorem bothZ_left {a b : Int} (h : modeB a = false) : bothZ a b = 0 := by simp [bothZ, h]
theorem bothZ_right {a b : Int} (h : modeB b = false) : bothZ a b = 0 := by simp [bothZ, h]
theorem bothZ_mode {a b : Int} (ha : modeB a = true) (hb : modeB b = true) : modeB (bothZ a b) = true := by
  rcases modeB_cases ha with rfl | rfl | rfl | rfl <;> rcases modeB_cases hb with rfl | rfl | rfl | rfl <;> rfl
theorem both_same {a b : Int} (ha : modeB a = true) (hb : modeB b = true) : bothZ (bothZ a b) a = bothZ a b ∧ bothZ (bothZ a b) b = bothZ a b := by
  rcases modeB_cases ha with rfl | rfl | rfl | rfl <;> rcases modeB_cases hb with rfl | rfl | rfl | rfl <;> exact ⟨rfl, rfl⟩
end Go.Proofs.YtekljhabjkmhpaaDoor

/- The walk of spec.l1In. -/
namespace Go.Proofs.YtekljhabjkmhpaaDoor
open Go.RowKit

set_option maxHeartbeats 400000 in
theorem l1In_any (x l m : Int) (w : World) : Calls Tryd.prog 58 #[.int .i64 x, .int .i64 l, .int .i64 m] w fun e w' => e = .returned (.bool (inB x l m)) ∧ w' = w := by
  by_cases h1 : l ≤ x
  · by_cases h2 : x ≤ m
    · have HB : Hid (inB x l m = true) := by simp [Hid, inB, h1, h2]
      go_enter Tryd.func58, Tryd.ntmps58
      go_wp2
      go_ret
      exact ⟨ret_bool HB.out.symm, rfl⟩
    · have HB : Hid (inB x l m = false) := by simp [Hid, inB, h2]
      go_enter Tryd.func58, Tryd.ntmps58
      go_wp2
      go_ret
      exact ⟨ret_bool HB.out.symm, rfl⟩
  · have HB : Hid (inB x l m = false) := by simp [Hid, inB, h1]
    go_enter Tryd.func58, Tryd.ntmps58
    go_wp2
    go_ret
    exact ⟨ret_bool HB.out.symm, rfl⟩

end Go.Proofs.YtekljhabjkmhpaaDoor

/- The two tables of modes in memory; the walks of impl.modeOk, Goes, Both. -/
namespace Go.Proofs.YtekljhabjkmhpaaDoor
open Go.RowKit

def TabGo (w : World) : Prop := ∃ t f, w.heap[1]? = some (.cells (goTab.map Value.bool).toArray t f)
def TabBoth (w : World) : Prop := ∃ t f, w.heap[0]? = some (.cells (bothTab.map (Value.int .i64)).toArray t f)
theorem TabGo.lt {w : World} (h : TabGo w) : 1 < w.heap.size := by obtain ⟨t, f, h⟩ := h; exact (Array.getElem?_eq_some_iff.1 h).1
theorem TabBoth.lt {w : World} (h : TabBoth w) : 0 < w.heap.size := by obtain ⟨t, f, h⟩ := h; exact (Array.getElem?_eq_some_iff.1 h).1
theorem TabGo.keep {w w' : World} (h : TabGo w) (hb : Below w.heap.size w w') : TabGo w' := by
  have := hb.block _ h.lt
  obtain ⟨t, f, h⟩ := h
  exact ⟨t, f, by rw [this]; exact h⟩
theorem TabBoth.keep {w w' : World} (h : TabBoth w) (hb : Below w.heap.size w w') : TabBoth w' := by
  have := hb.block _ h.lt
  obtain ⟨t, f, h⟩ := h
  exact ⟨t, f, by rw [this]; exact h⟩
theorem TabGo.cell {w : World} (h : TabGo w) (i : Nat) (hi : i < 16) : w.cell? ⟨1, i, none⟩ = some (.bool (goTab.getD i false)) := by
  obtain ⟨t, f, h⟩ := h
  have e : goTab.length = 16 := rfl
  simp [World.cell?, h, List.getD, e, hi]
theorem TabBoth.cell {w : World} (h : TabBoth w) (i : Nat) (hi : i < 16) : w.cell? ⟨0, i, none⟩ = some (.int .i64 (bothTab.getD i 0)) := by
  obtain ⟨t, f, h⟩ := h
  have e : bothTab.length = 16 := rfl
  simp [World.cell?, h, List.getD, e, hi]

set_option maxHeartbeats 400000 in
theorem modeOk_any (m : Int) (w : World) : Calls Tryd.prog 32 #[.int .i64 m] w fun e w' => e = .returned (.bool (modeB m)) ∧ w' = w := by
  by_cases h1 : 1 ≤ m
  · by_cases h2 : m ≤ 4
    · have HB : Hid (modeB m = true) := (modeB_iff m).2 ⟨h1, h2⟩
      go_enter Tryd.func32, Tryd.ntmps32
      go_wp2
      go_ret
      exact ⟨ret_bool HB.out.symm, rfl⟩
    · have HB : Hid (modeB m = false) := by simp [Hid, modeB, inB, h2]
      go_enter Tryd.func32, Tryd.ntmps32
      go_wp2
      go_ret
      exact ⟨ret_bool HB.out.symm, rfl⟩
  · have HB : Hid (modeB m = false) := by simp [Hid, modeB, inB, h1]
    go_enter Tryd.func32, Tryd.ntmps32
    go_wp2
    go_ret
    exact ⟨ret_bool HB.out.symm, rfl⟩

set_option maxHeartbeats 400000 in
theorem l9Mode_any (m : Int) (w : World) : Calls Tryd.prog 33 #[.int .i64 m] w fun e w' => e = .returned (.bool (modeB m)) ∧ w' = w := by
  go_enter Tryd.func33, Tryd.ntmps33
  go_wp2_with fail
  refine (l1In_any m 1 4 w).mono ?_
  rintro e w' ⟨rfl, rfl⟩
  go_wp2
  go_ret
  exact ⟨rfl, rfl⟩

set_option maxHeartbeats 2000000 in
set_option maxRecDepth 100000 in
theorem implGoes_any (a b : Int) (w : World) (hT : TabGo w) : Calls Tryd.prog 12 #[.int .i64 a, .int .i64 b] w fun e w' => e = .returned (.bool (goesB a b)) ∧ w' = w := by
  have Ca := modeOk_any a w
  have Cb := modeOk_any b w
  cases ha : modeB a
  · have HB : Hid (goesB a b = false) := goesB_left ha
    rw [ha] at Ca
    go_enter Tryd.func12, Tryd.ntmps12
    go_wp2_with fail
    refine Ca.mono ?_
    rintro e w' ⟨rfl, rfl⟩
    go_wp2_with fail
    go_ret
    exact ⟨ret_bool HB.out.symm, rfl⟩
  cases hb : modeB b
  · have HB : Hid (goesB a b = false) := goesB_right hb
    rw [ha] at Ca
    rw [hb] at Cb
    go_enter Tryd.func12, Tryd.ntmps12
    go_wp2_with fail
    refine Ca.mono ?_
    rintro e w' ⟨rfl, rfl⟩
    go_wp2_with fail
    refine Cb.mono ?_
    rintro e w' ⟨rfl, rfl⟩
    go_wp2_with fail
    go_ret
    exact ⟨ret_bool HB.out.symm, rfl⟩
  have HC : Hid (∀ i, i < 16 → w.cell? ⟨1, i, none⟩ = some (.bool (goTab.getD i false))) := fun i hi => hT.cell i hi
  clear hT
  rw [ha] at Ca
  rw [hb] at Cb
  have h1 := modeB_cases ha
  have h2 := modeB_cases hb
  clear ha hb
  rcases h1 with rfl | rfl | rfl | rfl <;> rcases h2 with rfl | rfl | rfl | rfl <;>
  · go_enter Tryd.func12, Tryd.ntmps12
    go_wp2_with fail
    refine Ca.mono ?_
    rintro e w' ⟨rfl, rfl⟩
    go_wp2_with fail
    refine Cb.mono ?_
    rintro e w' ⟨rfl, rfl⟩
    have g0 := HC.out 0 (by decide)
    have g1 := HC.out 1 (by decide)
    have g2 := HC.out 2 (by decide)
    have g3 := HC.out 3 (by decide)
    have g4 := HC.out 4 (by decide)
    have g5 := HC.out 5 (by decide)
    have g6 := HC.out 6 (by decide)
    have g7 := HC.out 7 (by decide)
    have g8 := HC.out 8 (by decide)
    have g9 := HC.out 9 (by decide)
    have g10 := HC.out 10 (by decide)
    have g11 := HC.out 11 (by decide)
    have g12 := HC.out 12 (by decide)
    have g13 := HC.out 13 (by decide)
    have g14 := HC.out 14 (by decide)
    have g15 := HC.out 15 (by decide)
    go_wp2_with fail
    go_ret
    exact ⟨rfl, rfl⟩
set_option maxHeartbeats 2000000 in
set_option maxRecDepth 100000 in
theorem implBoth_any (a b : Int) (w : World) (hT : TabBoth w) : Calls Tryd.prog 11 #[.int .i64 a, .int .i64 b] w fun e w' => e = .returned (.int .i64 (bothZ a b)) ∧ w' = w := by
  have Ca := modeOk_any a w
  have Cb := modeOk_any b w
  cases ha : modeB a
  · have HB : Hid (bothZ a b = 0) := bothZ_left ha
    rw [ha] at Ca
    go_enter Tryd.func11, Tryd.ntmps11
    go_wp2_with fail
    refine Ca.mono ?_
    rintro e w' ⟨rfl, rfl⟩
    go_wp2_with fail
    go_ret
    exact ⟨ret_int HB.out.symm, rfl⟩
  cases hb : modeB b
  · have HB : Hid (bothZ a b = 0) := bothZ_right hb
    rw [ha] at Ca
    rw [hb] at Cb
    go_enter Tryd.func11, Tryd.ntmps11
    go_wp2_with fail
    refine Ca.mono ?_
    rintro e w' ⟨rfl, rfl⟩
    go_wp2_with fail
    refine Cb.mono ?_
    rintro e w' ⟨rfl, rfl⟩
    go_wp2_with fail
    go_ret
    exact ⟨ret_int HB.out.symm, rfl⟩
  have HC : Hid (∀ i, i < 16 → w.cell? ⟨0, i, none⟩ = some (.int .i64 (bothTab.getD i 0))) := fun i hi => hT.cell i hi
  clear hT
  rw [ha] at Ca
  rw [hb] at Cb
  have h1 := modeB_cases ha
  have h2 := modeB_cases hb
  clear ha hb
  rcases h1 with rfl | rfl | rfl | rfl <;> rcases h2 with rfl | rfl | rfl | rfl <;>
  · go_enter Tryd.func11, Tryd.ntmps11
    go_wp2_with fail
    refine Ca.mono ?_
    rintro e w' ⟨rfl, rfl⟩
    go_wp2_with fail
    refine Cb.mono ?_
    rintro e w' ⟨rfl, rfl⟩
    have g0 := HC.out 0 (by decide)
    have g1 := HC.out 1 (by decide)
    have g2 := HC.out 2 (by decide)
    have g3 := HC.out 3 (by decide)
    have g4 := HC.out 4 (by decide)
    have g5 := HC.out 5 (by decide)
    have g6 := HC.out 6 (by decide)
    have g7 := HC.out 7 (by decide)
    have g8 := HC.out 8 (by decide)
    have g9 := HC.out 9 (by decide)
    have g10 := HC.out 10 (by decide)
    have g11 := HC.out 11 (by decide)
    have g12 := HC.out 12 (by decide)
    have g13 := HC.out 13 (by decide)
    have g14 := HC.out 14 (by decide)
    have g15 := HC.out 15 (by decide)
    go_wp2_with fail
    go_ret
    exact ⟨rfl, rfl⟩
set_option maxHeartbeats 2000000 in
set_option maxRecDepth 100000 in
theorem specGoes_any (a b : Int) (w : World) : Calls Tryd.prog 14 #[.int .i64 a, .int .i64 b] w fun e w' => e = .returned (.bool (goesB a b)) ∧ w' = w := by
  have Ca := l9Mode_any a w
  have Cb := l9Mode_any b w
  cases ha : modeB a
  · have HB : Hid (goesB a b = false) := goesB_left ha
    rw [ha] at Ca
    go_enter Tryd.func14, Tryd.ntmps14
    go_wp2_with fail
    refine Ca.mono ?_
    rintro e w' ⟨rfl, rfl⟩
    go_wp2_with fail
    go_ret
    exact ⟨ret_bool HB.out.symm, rfl⟩
  cases hb : modeB b
  · have HB : Hid (goesB a b = false) := goesB_right hb
    rw [ha] at Ca
    rw [hb] at Cb
    go_enter Tryd.func14, Tryd.ntmps14
    go_wp2_with fail
    refine Ca.mono ?_
    rintro e w' ⟨rfl, rfl⟩
    go_wp2_with fail
    refine Cb.mono ?_
    rintro e w' ⟨rfl, rfl⟩
    go_wp2_with fail
    go_ret
    exact ⟨ret_bool HB.out.symm, rfl⟩
  rw [ha] at Ca
  rw [hb] at Cb
  have h1 := modeB_cases ha
  have h2 := modeB_cases hb
  clear ha hb
  rcases h1 with rfl | rfl | rfl | rfl <;> rcases h2 with rfl | rfl | rfl | rfl <;>
  · go_enter Tryd.func14, Tryd.ntmps14
    go_wp2_with fail
    refine Ca.mono ?_
    rintro e w' ⟨rfl, rfl⟩
    go_wp2_with fail
    refine Cb.mono ?_
    rintro e w' ⟨rfl, rfl⟩
    go_wp2_with fail
    go_ret
    exact ⟨rfl, rfl⟩
set_option maxHeartbeats 2000000 in
set_option maxRecDepth 100000 in
theorem specBoth_any (a b : Int) (w : World) : Calls Tryd.prog 13 #[.int .i64 a, .int .i64 b] w fun e w' => e = .returned (.int .i64 (bothZ a b)) ∧ w' = w := by
  have Ca := l9Mode_any a w
  have Cb := l9Mode_any b w
  cases ha : modeB a
  · have HB : Hid (bothZ a b = 0) := bothZ_left ha
    rw [ha] at Ca
    go_enter Tryd.func13, Tryd.ntmps13
    go_wp2_with fail
    refine Ca.mono ?_
    rintro e w' ⟨rfl, rfl⟩
    go_wp2_with fail
    go_ret
    exact ⟨ret_int HB.out.symm, rfl⟩
  cases hb : modeB b
  · have HB : Hid (bothZ a b = 0) := bothZ_right hb
    rw [ha] at Ca
    rw [hb] at Cb
    go_enter Tryd.func13, Tryd.ntmps13
    go_wp2_with fail
    refine Ca.mono ?_
    rintro e w' ⟨rfl, rfl⟩
    go_wp2_with fail
    refine Cb.mono ?_
    rintro e w' ⟨rfl, rfl⟩
    go_wp2_with fail
    go_ret
    exact ⟨ret_int HB.out.symm, rfl⟩
  rw [ha] at Ca
  rw [hb] at Cb
  have h1 := modeB_cases ha
  have h2 := modeB_cases hb
  clear ha hb
  rcases h1 with rfl | rfl | rfl | rfl <;> rcases h2 with rfl | rfl | rfl | rfl <;>
  · go_enter Tryd.func13, Tryd.ntmps13
    go_wp2_with fail
    refine Ca.mono ?_
    rintro e w' ⟨rfl, rfl⟩
    go_wp2_with fail
    refine Cb.mono ?_
    rintro e w' ⟨rfl, rfl⟩
    go_wp2_with fail
    go_ret
    exact ⟨rfl, rfl⟩
end Go.Proofs.YtekljhabjkmhpaaDoor

/- Lists looked through from the front. -/
namespace Go.Proofs.YtekljhabjkmhpaaDoor

theorem take_step {α : Type} (ls : List α) (z : α) (k : Nat) (h : k < ls.length) : ls.take (k + 1) = ls.take k ++ [ls.getD k z] := by
  rw [List.take_succ_eq_append_getElem h]
  simp [List.getD, h]
theorem any_step {α : Type} {p : α → Bool} {ls : List α} {z : α} {k : Nat} (h : k < ls.length) (h0 : (ls.take k).any p = false) (h1 : p (ls.getD k z) = false) : (ls.take (k + 1)).any p = false := by
  rw [take_step ls z k h, List.any_append, h0, List.any_cons, h1]
  rfl
theorem any_hit {α : Type} {p : α → Bool} {ls : List α} {z : α} {k : Nat} (h : k < ls.length) (h1 : p (ls.getD k z) = true) : ls.any p = true := by
  rw [List.any_eq_true]
  exact ⟨ls.getD k z, by simp [List.getD, h], h1⟩
theorem any_end {α : Type} {p : α → Bool} {ls : List α} {k : Nat} (h : ¬ k < ls.length) (h0 : (ls.take k).any p = false) : ls.any p = false := by
  rwa [List.take_of_length_le (by omega)] at h0
/-- The first place of one that is so; -1, where there is none. -/
def placeZ {α : Type} (p : α → Bool) (ls : List α) : Int := match ls.findIdx? p with | some i => i | none => -1
theorem placeZ_hit {α : Type} {p : α → Bool} {ls : List α} {z : α} {k : Nat} (h : k < ls.length) (h0 : (ls.take k).any p = false) (h1 : p (ls.getD k z) = true) : placeZ p ls = k := by
  have e : ls.findIdx? p = some k := by
    rw [List.findIdx?_eq_some_iff_getElem]
    refine ⟨h, by simpa [List.getD, h] using h1, fun j hj => ?_⟩
    have := List.any_eq_false.1 h0 ls[j] (by rw [List.mem_take_iff_getElem]; exact ⟨j, by omega, rfl⟩)
    simpa using this
  rw [placeZ, e]
theorem placeZ_none {α : Type} {p : α → Bool} {ls : List α} (h : ls.any p = false) : placeZ p ls = -1 := by
  have e : ls.findIdx? p = none := by
    rw [List.findIdx?_eq_none_iff]
    intro x hx
    have := List.any_eq_false.1 h x hx
    simpa using this
  rw [placeZ, e]
theorem placeZ_end {α : Type} {p : α → Bool} {ls : List α} {k : Nat} (h : ¬ k < ls.length) (h0 : (ls.take k).any p = false) : placeZ p ls = -1 := placeZ_none (any_end h h0)
theorem placeZ_neg {α : Type} (p : α → Bool) (ls : List α) : 0 ≤ placeZ p ls ↔ ls.any p = true := by
  constructor
  · intro h
    cases e : ls.any p
    · rw [placeZ_none e] at h; omega
    · rfl
  · intro h
    cases e : ls.findIdx? p with
    | none =>
      rw [List.findIdx?_eq_none_iff] at e
      obtain ⟨x, hx, hp⟩ := List.any_eq_true.1 h
      rw [e x hx] at hp; cases hp
    | some i => rw [placeZ, e]; simp
theorem placeZ_lt {α : Type} {p : α → Bool} {ls : List α} (h : 0 ≤ placeZ p ls) : ∃ k : Nat, k < ls.length ∧ placeZ p ls = k := by
  cases e : ls.findIdx? p with
  | none => rw [placeZ, e] at h; simp at h
  | some i =>
    obtain ⟨hi, _⟩ := List.findIdx?_eq_some_iff_getElem.1 e
    exact ⟨i, hi, by rw [placeZ, e]⟩
theorem placeZ_at {α : Type} {p : α → Bool} {ls : List α} {k : Nat} (h : placeZ p ls = k) (z : α) : k < ls.length ∧ p (ls.getD k z) = true ∧ (ls.take k).any p = false := by
  cases e : ls.findIdx? p with
  | none => rw [placeZ, e] at h; simp at h
  | some i =>
    rw [placeZ, e] at h
    simp only [Int.natCast_inj] at h
    subst h
    obtain ⟨hi, h1, h2⟩ := List.findIdx?_eq_some_iff_getElem.1 e
    refine ⟨hi, by simpa [List.getD, hi] using h1, ?_⟩
    rw [List.any_eq_false]
    intro x hx
    obtain ⟨j, hj, rfl⟩ := List.mem_take_iff_getElem.1 hx
    have := h2 j (by omega)
    simpa using this
end Go.Proofs.YtekljhabjkmhpaaDoor
