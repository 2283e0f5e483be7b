/- Plain mathematics: a number comes back of its bytes; cut, it does not. -/
import Derived.Test.YtdibmepjbabnnacDoorPutMath
import Derived.Test.YtdibmepjbabnnacDoorGetMath
import Derived.Test.YtdibmepjbabnnacDoorSpecGet
namespace Go.Proofs.YtdibmepjbabnnacDoor

theorem groups_ind (P : Nat → Prop) (small : ∀ m, m < 128 → P m) (big : ∀ m, 128 ≤ m → m < 2 ^ 64 → P (m / 128) → P m) : ∀ m, m < 2 ^ 64 → P m := by
  intro m
  induction m using Nat.strongRecOn with
  | _ m ih =>
    intro hm
    by_cases h : m < 128
    · exact small m h
    · exact big m (by omega) hm (ih (m / 128) (by omega) (by omega))

theorem groups_val (m : Nat) (hm : m < 2 ^ 64) : valOf (groups m) = m := by
  refine groups_ind (fun m => valOf (groups m) = m) ?_ ?_ m hm
  · intro m h; rw [groups_small m h]; simp only [valOf]; omega
  · intro m h1 h2 h3; rw [groups_big m h1 h2]; simp only [valOf, h3]; omega

theorem groups_lead (rest : List Int) (m : Nat) (hm : m < 2 ^ 64) : lead (groups m ++ rest) + 1 = (groups m).length := by
  refine groups_ind (fun m => lead (groups m ++ rest) + 1 = (groups m).length) ?_ ?_ m hm
  · intro m h; rw [groups_small m h]; simp only [List.cons_append, List.nil_append, lead]; rw [if_neg (by omega)]; rfl
  · intro m h1 h2 h3; rw [groups_big m h1 h2]; simp only [List.cons_append, lead]; rw [if_pos (by omega), h3]; rfl

theorem groups_cut (m : Nat) (hm : m < 2 ^ 64) : lead ((groups m).dropLast) = (groups m).dropLast.length := by
  refine groups_ind (fun m => lead ((groups m).dropLast) = (groups m).dropLast.length) ?_ ?_ m hm
  · intro m h; rw [groups_small m h]; rfl
  · intro m h1 h2 h3
    rw [groups_big m h1 h2]
    have hne : groups (m / 128) ≠ [] := by
      intro e
      have := (groups_len (m / 128)).1
      rw [e] at this
      simp at this
    rw [List.dropLast_cons_of_ne_nil hne]
    simp only [lead]
    rw [if_pos (by omega), h3]
    rfl

theorem groups_last (m : Nat) (hm : m < 2 ^ 64) : 0 < m → (groups m).getD ((groups m).length - 1) 0 ≠ 0 := by
  refine groups_ind (fun m => 0 < m → (groups m).getD ((groups m).length - 1) 0 ≠ 0) ?_ ?_ m hm
  · intro m h h0; rw [groups_small m h]; simp; omega
  · intro m h1 h2 h3 _
    have hl := (groups_len (m / 128)).1
    have h4 := h3 (by omega)
    rw [groups_big m h1 h2]
    have e : (((m % 128 + 128 : Nat) : Int) :: groups (m / 128)).length - 1 = ((groups (m / 128)).length - 1) + 1 := by simp; omega
    rw [e]
    simpa using h4

theorem groups_len_le (k : Nat) : ∀ m, m < 128 ^ (k + 1) → m < 2 ^ 64 → (groups m).length ≤ k + 1 := by
  induction k with
  | zero => intro m h _; rw [groups_small m (by omega)]; simp
  | succ k ih =>
    intro m h hm
    by_cases hs : m < 128
    · rw [groups_small m hs]; simp
    · rw [groups_big m (by omega) hm]
      have := ih (m / 128) (by rw [Nat.pow_succ] at h; omega) (by omega)
      simp; omega

theorem getOf_groups (rest : List Int) (m : Nat) (hm : m ≤ 2000000000000) : getOf (groups m ++ rest) = some (unzig m, (groups m).length) := by
  have h64 : m < 2 ^ 64 := by omega
  have hl := groups_lead rest m h64
  have h6 := groups_len_le 5 m (by omega) h64
  have h1 := (groups_len m).1
  have htake : (groups m ++ rest).take (lead (groups m ++ rest) + 1) = groups m := by rw [hl]; simp
  rw [getOf_some (groups m ++ rest) (lead (groups m ++ rest)) rfl (by rw [List.length_append]; omega) (by omega) ?_ (by rw [htake, groups_val m h64]; exact hm)]
  · rw [htake, groups_val m h64, hl]
  · rintro ⟨h0, hz⟩
    have hlt : lead (groups m ++ rest) < (groups m).length := by omega
    have hpos : 0 < m := by
      by_cases e : 128 ≤ m
      · omega
      · have := groups_small m (by omega)
        rw [this] at hl h0
        simp only [List.length_cons, List.length_nil] at hl
        omega
    have := groups_last m h64 hpos
    apply this
    have e : (groups m).length - 1 = lead (groups m ++ rest) := by omega
    rw [e, ← hz]
    simp [List.getD, List.getElem?_append, hlt]

theorem unzig_zig (n : Int) : unzig (zig n) = clampI n := by
  unfold unzig zig
  have := clampI_bd n
  split <;> split at * <;> omega

theorem back_int (zs rest : List Int) (n : Int) : getAt (zs ++ (putOf n ++ rest)) zs.length = some (clampI n, zs.length + (putOf n).length) := by
  rw [getAt_nat, List.drop_left]
  show Option.map _ (getOf (groups (zig n) ++ rest)) = _
  rw [getOf_groups rest (zig n) (zig_le n), unzig_zig]
  rfl

theorem cut_int (zs : List Int) (n : Int) : getAt ((zs ++ putOf n).take ((zs ++ putOf n).length - 1)) zs.length = none := by
  have hl := (putOf_len n).1
  have e : (zs ++ putOf n).take ((zs ++ putOf n).length - 1) = zs ++ (putOf n).dropLast := by
    rw [← List.dropLast_eq_take, List.dropLast_append_of_ne_nil]
    intro h; rw [h] at hl; simp at hl
  rw [e, getAt_nat, List.drop_left]
  show Option.map _ (getOf ((groups (zig n)).dropLast)) = _
  rw [getOf_none _ (.inl (groups_cut (zig n) (zig_lt n)))]
  rfl

end Go.Proofs.YtdibmepjbabnnacDoor
