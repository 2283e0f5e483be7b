/- Modes: when two go together, and what is both. -/
import Derived.Test.YtekljhabjkmhpaaDoorInB
namespace Go.Proofs.YtekljhabjkmhpaaDoor

def modeB (m : Int) : Bool := inB m 1 4
def goTab : List Bool := [true, true, true, false, true, true, false, false, true, false, true, false, false, false, false, false]
def bothTab : List Int := [1, 2, 3, 4, 2, 2, 4, 4, 3, 4, 3, 4, 4, 4, 4, 4]
def goesB (a b : Int) : Bool := modeB a && modeB b && goTab.getD ((a.toNat - 1) * 4 + (b.toNat - 1)) false
def bothZ (a b : Int) : Int := if modeB a && modeB b then bothTab.getD ((a.toNat - 1) * 4 + (b.toNat - 1)) 0 else 0

theorem modeB_iff (m : Int) : modeB m = true ↔ 1 ≤ m ∧ m ≤ 4 := by simp [modeB, inB]
theorem modeB_cases {m : Int} (h : modeB m = true) : m = 1 ∨ m = 2 ∨ m = 3 ∨ m = 4 := by
  have := (modeB_iff m).1 h; omega
theorem goesB_symm (a b : Int) : goesB a b = goesB b a := by
  cases ha : modeB a <;> cases hb : modeB b
  · simp [goesB, ha, hb]
  · simp [goesB, ha, hb]
  · simp [goesB, ha, hb]
  · rcases modeB_cases ha with rfl | rfl | rfl | rfl <;> rcases modeB_cases hb with rfl | rfl | rfl | rfl <;> rfl
theorem bothZ_symm (a b : Int) : bothZ a b = bothZ b a := by
  cases ha : modeB a <;> cases hb : modeB b
  · simp [bothZ, ha, hb]
  · simp [bothZ, ha, hb]
  · simp [bothZ, ha, hb]
  · rcases modeB_cases ha with rfl | rfl | rfl | rfl <;> rcases modeB_cases hb with rfl | rfl | rfl | rfl <;> rfl
theorem goesB_left {a b : Int} (h : modeB a = false) : goesB a b = false := by simp [goesB, h]
theorem goesB_right {a b : Int} (h : modeB b = false) : goesB a b = false := by simp [goesB, h]
theorem bothZ_left {a b : Int} (h : modeB a = false) : bothZ a b = 0 := by simp [bothZ, h]
theorem bothZ_right {a b : Int} (h : modeB b = false) : bothZ a b = 0 := by simp [bothZ, h]
theorem bothZ_mode {a b : Int} (ha : modeB a = true) (hb : modeB b = true) : modeB (bothZ a b) = true := by
  rcases modeB_cases ha with rfl | rfl | rfl | rfl <;> rcases modeB_cases hb with rfl | rfl | rfl | rfl <;> rfl
theorem bothZ_nil (a b : Int) : bothZ a b = 0 ↔ (modeB a && modeB b) = false := by
  cases ha : modeB a <;> cases hb : modeB b
  · simp [bothZ, ha]
  · simp [bothZ, ha]
  · simp [bothZ, hb]
  · have := (modeB_iff _).1 (bothZ_mode ha hb)
    simp; omega
/-- What is both goes with no more than each. -/
theorem both_goes (a b k : Int) (h : goesB (bothZ a b) k = true) : goesB a k = true ∧ goesB b k = true := by
  cases ha : modeB a
  · rw [bothZ_left ha] at h; simp [goesB, modeB, inB] at h
  cases hb : modeB b
  · rw [bothZ_right hb] at h; simp [goesB, modeB, inB] at h
  cases hk : modeB k
  · rw [goesB_right hk] at h; cases h
  rcases modeB_cases ha with rfl | rfl | rfl | rfl <;> rcases modeB_cases hb with rfl | rfl | rfl | rfl <;> rcases modeB_cases hk with rfl | rfl | rfl | rfl <;> revert h <;> decide
theorem both_same {a b : Int} (ha : modeB a = true) (hb : modeB b = true) : bothZ (bothZ a b) a = bothZ a b ∧ bothZ (bothZ a b) b = bothZ a b := by
  rcases modeB_cases ha with rfl | rfl | rfl | rfl <;> rcases modeB_cases hb with rfl | rfl | rfl | rfl <;> exact ⟨rfl, rfl⟩
end Go.Proofs.YtekljhabjkmhpaaDoor
