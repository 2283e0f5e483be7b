/- The walks of impl.unfoldSign and impl.joinGroups. -/
import Derived.Test.YtdibmepjbabnnacDoorProg
import Derived.Test.YtdibmepjbabnnacDoorReads
import Derived.Test.YtdibmepjbabnnacDoorGetMath
namespace Go.Proofs.YtdibmepjbabnnacDoor
open Go.RowKit

theorem unzig_even (m : Nat) (h : (m : Int) % 2 = 0) : unzig m = (m : Int) / 2 := by unfold unzig; rw [if_pos (by omega)]; omega
theorem unzig_odd (m : Nat) (h : ¬ (m : Int) % 2 = 0) : unzig m = -((m : Int) / 2) - 1 := by unfold unzig; rw [if_neg (by omega)]; omega

set_option maxHeartbeats 400000 in
theorem unfoldSign_any (m : Nat) (w : World) (hm : m ≤ 4398046511104) :
    Calls Tryd.prog 70 #[.int .i64 m] w fun e w' => e = .returned (.int .i64 (unzig m)) ∧ w' = w := by
  by_cases ho : (m : Int) % 2 = 0
  · have HU : Hid (_ = _) := unzig_even m ho
    go_enter Tryd.func70, Tryd.ntmps70
    go_wp2
    go_ret
    exact ⟨ret_int HU.out.symm, rfl⟩
  · have HU : Hid (_ = _) := unzig_odd m ho
    have ho' : ((m : Int) % 2 == 0) = false := by simp; omega
    go_enter Tryd.func70, Tryd.ntmps70
    go_wp2
    go_ret
    exact ⟨ret_int HU.out.symm, rfl⟩

/-- May these groups be a number's? -/
def fits (G : List Int) : Prop := G.length ≤ 6 ∧ ¬ (1 < G.length ∧ G.getD (G.length - 1) 0 = 0)

theorem shl_go (c j : Nat) (hj : j < 6) : wrap64 ((c : Int) % 128 * 2 ^ (7 * j)) = (((c % 128) * 128 ^ j : Nat) : Int) ∧ (c % 128) * 128 ^ j ≤ 4398046511104 := by
  have e7 : (128 : Nat) ^ j = 2 ^ (7 * j) := by rw [Nat.pow_mul]
  have hp : (128 : Nat) ^ j ≤ 128 ^ 5 := Nat.pow_le_pow_right (by omega) (by omega)
  have h5 : (128 : Nat) ^ 5 = 34359738368 := by decide
  have hb : (c % 128) * 128 ^ j ≤ 127 * 34359738368 := Nat.mul_le_mul (by omega) (by omega)
  have e : ((c : Int) % 128 * 2 ^ (7 * j)) = (((c % 128) * 128 ^ j : Nat) : Int) := by
    rw [e7]; simp
  rw [e]
  constructor
  · unfold wrap64; omega
  · omega

set_option maxHeartbeats 400000 in
theorem joinGroups_no (a : Option Addr) (c : Nat) (G : List Int) (w : World) (hr : Reads w a G) (hl : G.length ≤ 6) (hf : ¬ fits G) :
    Calls Tryd.prog 69 #[.slice a G.length c] w fun e w' => e = .returned (.tuple #[.int .i64 0, .bool false]) ∧ w' = w := by
  have h2 : 1 < G.length ∧ G.getD (G.length - 1) 0 = 0 := by
    by_cases h : 1 < G.length ∧ G.getD (G.length - 1) 0 = 0
    · exact h
    · exact absurd ⟨by omega, h⟩ hf
  rcases hr.cases with rfl | ⟨b, off, rfl, hpos, hcell⟩
  · simp at h2
  have hc := hcell (G.length - 1) (by omega)
  rw [h2.2] at hc
  have h3 := h2.1
  have hgt : (0 : Int) < (G.length : Int) - 1 := by omega
  have hcc : w.cell? ⟨b, off + ((G.length : Int) - 1).toNat, none⟩ = some (.int .u8 0) := by
    rw [show ((G.length : Int) - 1).toNat = G.length - 1 from by omega]; exact hc
  clear hf h2 hcell
  go_enter Tryd.func69, Tryd.ntmps69
  go_wp2
  go_ret2
  exact ⟨rfl, rfl⟩

theorem join_end (m v : Nat) (h : m = v) : Ending.returned (.tuple #[.int .i64 (m : Int), .bool (decide ((m : Int) ≤ 2000000000000))]) = .returned (.tuple #[.int .i64 ((v : Nat) : Int), .bool (decide (v ≤ 2000000000000))]) := by
  subst h
  have e : decide ((m : Int) ≤ 2000000000000) = decide (m ≤ 2000000000000) := decide_eq_decide.2 (by omega)
  rw [e]

set_option maxHeartbeats 400000 in
theorem joinGroups_yes (a : Option Addr) (c : Nat) (G : List Int) (w : World) (hr : Reads w a G) (h1 : 1 ≤ G.length) (hf : fits G) :
    Calls Tryd.prog 69 #[.slice a G.length c] w fun e w' => e = .returned (.tuple #[.int .i64 (valOf G : Nat), .bool (decide (valOf G ≤ 2000000000000))]) ∧ w' = w := by
  have hby := hr.byte
  rcases hr.cases with rfl | ⟨b, off, rfl, hpos, hcell⟩
  · simp at h1
  obtain ⟨h6, h2⟩ := hf
  have hc := hcell (G.length - 1) (by omega)
  obtain ⟨hn, hn2⟩ := bytes_nat hby (G.length - 1)
  have hcc : w.cell? ⟨b, off + ((G.length : Int) - 1).toNat, none⟩ = some (.int .u8 ((G.getD (G.length - 1) 0).toNat : Int)) := by
    rw [show ((G.length : Int) - 1).toNat = G.length - 1 from by omega, ← hn]; exact hc
  have hcs : G.length < 2 ∨ (1 < G.length ∧ (((G.getD (G.length - 1) 0).toNat : Int) == 0) = false) := by
    by_cases e : 1 < G.length
    · refine .inr ⟨e, ?_⟩
      have : ¬ G.getD (G.length - 1) 0 = 0 := fun h => h2 ⟨e, h⟩
      simp only [beq_eq_false_iff_ne, ne_eq]
      omega
    · exact .inl (by omega)
  have HTA : Hid (valOf (G.take G.length) = valOf G) := by rw [Hid, List.take_of_length_le (Nat.le_refl _)]
  rw [hn] at hc
  generalize (G.getD (G.length - 1) 0).toNat = last at *
  clear hn h2
  rcases hcs with hlt | ⟨hgt, hnz⟩
  all_goals
    go_enter Tryd.func69, Tryd.ntmps69
    go_wp2
    go_loop [5, 22] (fun m i => ∃ k : Nat, k ≤ G.length ∧ i = .int .i64 k ∧ m = .int .i64 (valOf (G.take k) : Nat)) (fun _ i => G.length - (intOf i).toNat)
    case atStart => exact ⟨0, by omega, rfl, rfl⟩
    case round =>
      obtain ⟨k, hk, rfl, rfl⟩ := hrel
      have hm := (valOf_take_lt G k (by omega)).1
      by_cases hlt : k < G.length
      · have hck := hcell k hlt
        obtain ⟨hkn, hkn2⟩ := bytes_nat hby k
        have HV : Hid (_ = _) := valOf_take G k hlt
        rw [hkn] at hck
        have HT : Hid ((G.getD k 0 % 128).toNat = (G.getD k 0).toNat % 128) := by rw [Hid]; omega
        clear hkn hcell hby
        generalize (G.getD k 0).toNat = cc at *
        obtain ⟨hsh, hshl⟩ := shl_go cc k (by omega)
        have HV2 : Hid (valOf (G.take (k + 1)) = valOf (G.take k) + cc % 128 * 128 ^ k) := by rw [Hid, HV.out, HT.out]
        clear HV HT
        generalize cc % 128 * 128 ^ k = t at *
        generalize valOf (G.take k) = m at *
        go_wp2
        go_round
        case rel => exact ⟨k + 1, by omega, by go_num, by rw [HV2.out]; go_num⟩
        case measure => simp [intOf]; omega
      · have HE : Hid (valOf (G.take k) = valOf G) := by
          have e : k = G.length := by omega
          rw [e]; exact HTA
        generalize valOf (G.take k) = m at *
        go_wp2
        go_ret2
        exact ⟨join_end _ _ HE.out, rfl⟩
end Go.Proofs.YtdibmepjbabnnacDoor
