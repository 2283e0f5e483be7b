/- Lists looked through from the front. -/
namespace Go.Proofs.Ytajcffchopcamaa

theorem take_step {α : Type} (ls : List α) (z : α) (k : Nat) (h : k < ls.length) : ls.take (k + 1) = ls.take k ++ [ls.getD k z] := by
  rw [List.take_succ_eq_append_getElem h]
  simp [List.getD, h]
theorem any_step {α : Type} {p : α → Bool} {ls : List α} {z : α} {k : Nat} (h : k < ls.length) (h0 : (ls.take k).any p = false) (h1 : p (ls.getD k z) = false) : (ls.take (k + 1)).any p = false := by
  rw [take_step ls z k h, List.any_append, h0, List.any_cons, h1]
  rfl
theorem any_hit {α : Type} {p : α → Bool} {ls : List α} {z : α} {k : Nat} (h : k < ls.length) (h1 : p (ls.getD k z) = true) : ls.any p = true := by
  rw [List.any_eq_true]
  exact ⟨ls.getD k z, by simp [List.getD, h], h1⟩
theorem any_end {α : Type} {p : α → Bool} {ls : List α} {k : Nat} (h : ¬ k < ls.length) (h0 : (ls.take k).any p = false) : ls.any p = false := by
  rwa [List.take_of_length_le (by omega)] at h0
theorem all_step {α : Type} {p : α → Bool} {ls : List α} {z : α} {k : Nat} (h : k < ls.length) (h0 : (ls.take k).all p = true) (h1 : p (ls.getD k z) = true) : (ls.take (k + 1)).all p = true := by
  rw [take_step ls z k h, List.all_append, h0, List.all_cons, h1]
  rfl
theorem all_hit {α : Type} {p : α → Bool} {ls : List α} {z : α} {k : Nat} (h : k < ls.length) (h1 : p (ls.getD k z) = false) : ls.all p = false := by
  rw [List.all_eq_false]
  exact ⟨ls.getD k z, by simp [List.getD, h], by rw [h1]; decide⟩
theorem all_end {α : Type} {p : α → Bool} {ls : List α} {k : Nat} (h : ¬ k < ls.length) (h0 : (ls.take k).all p = true) : ls.all p = true := by
  rwa [List.take_of_length_le (by omega)] at h0

/-- The first place of one that is so; -1, where there is none. -/
def placeZ {α : Type} (p : α → Bool) (ls : List α) : Int := match ls.findIdx? p with | some i => i | none => -1
theorem placeZ_hit {α : Type} {p : α → Bool} {ls : List α} {z : α} {k : Nat} (h : k < ls.length) (h0 : (ls.take k).any p = false) (h1 : p (ls.getD k z) = true) : placeZ p ls = k := by
  have e : ls.findIdx? p = some k := by
    rw [List.findIdx?_eq_some_iff_getElem]
    refine ⟨h, by simpa [List.getD, h] using h1, fun j hj => ?_⟩
    have := List.any_eq_false.1 h0 ls[j] (by rw [List.mem_take_iff_getElem]; exact ⟨j, by omega, rfl⟩)
    simpa using this
  rw [placeZ, e]
theorem placeZ_none {α : Type} {p : α → Bool} {ls : List α} (h : ls.any p = false) : placeZ p ls = -1 := by
  have e : ls.findIdx? p = none := by
    rw [List.findIdx?_eq_none_iff]
    intro x hx
    have := List.any_eq_false.1 h x hx
    simpa using this
  rw [placeZ, e]
theorem placeZ_end {α : Type} {p : α → Bool} {ls : List α} {k : Nat} (h : ¬ k < ls.length) (h0 : (ls.take k).any p = false) : placeZ p ls = -1 := placeZ_none (any_end h h0)
theorem placeZ_neg {α : Type} (p : α → Bool) (ls : List α) : 0 ≤ placeZ p ls ↔ ls.any p = true := by
  constructor
  · intro h
    cases e : ls.any p
    · rw [placeZ_none e] at h; omega
    · rfl
  · intro h
    cases e : ls.findIdx? p with
    | none =>
      rw [List.findIdx?_eq_none_iff] at e
      obtain ⟨x, hx, hp⟩ := List.any_eq_true.1 h
      rw [e x hx] at hp; cases hp
    | some i => rw [placeZ, e]; simp
theorem placeZ_lt {α : Type} {p : α → Bool} {ls : List α} (h : 0 ≤ placeZ p ls) : ∃ k : Nat, k < ls.length ∧ placeZ p ls = k := by
  cases e : ls.findIdx? p with
  | none => rw [placeZ, e] at h; simp at h
  | some i =>
    obtain ⟨hi, _⟩ := List.findIdx?_eq_some_iff_getElem.1 e
    exact ⟨i, hi, by rw [placeZ, e]⟩
theorem placeZ_at {α : Type} {p : α → Bool} {ls : List α} {k : Nat} (h : placeZ p ls = k) (z : α) : k < ls.length ∧ p (ls.getD k z) = true ∧ (ls.take k).any p = false := by
  cases e : ls.findIdx? p with
  | none => rw [placeZ, e] at h; simp at h
  | some i =>
    rw [placeZ, e] at h
    simp only [Int.natCast_inj] at h
    subst h
    obtain ⟨hi, h1, h2⟩ := List.findIdx?_eq_some_iff_getElem.1 e
    refine ⟨hi, by simpa [List.getD, hi] using h1, ?_⟩
    rw [List.any_eq_false]
    intro x hx
    obtain ⟨j, hj, rfl⟩ := List.mem_take_iff_getElem.1 hx
    have := h2 j (by omega)
    simpa using this
end Go.Proofs.Ytajcffchopcamaa
