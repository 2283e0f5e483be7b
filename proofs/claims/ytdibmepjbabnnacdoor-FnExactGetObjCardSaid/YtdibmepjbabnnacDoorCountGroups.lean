/- The walk of impl.countGroups. -/
import Derived.Test.YtdibmepjbabnnacDoorProg
import Derived.Test.YtdibmepjbabnnacDoorReads
import Derived.Test.YtdibmepjbabnnacDoorGetMath
namespace Go.Proofs.YtdibmepjbabnnacDoor
open Go.RowKit

/-- How many groups are counted: those that say more, up to six, and one. -/
def countOf (L : List Int) : Nat := min (lead L) 6 + 1

theorem countOf_go (L : List Int) (j : Nat) (hj : j ≤ 6) (hl : j ≤ L.length) (hall : ∀ i, i < j → 128 ≤ L.getD i 0) (hs : j = 6 ∨ j = L.length ∨ (j < L.length ∧ L.getD j 0 < 128)) : countOf L = j + 1 := by
  have h1 := lead_ge j L hl hall
  have h2 := lead_le L
  unfold countOf
  rcases hs with h | h | ⟨h, h'⟩
  · omega
  · omega
  · have := lead_stop j L h h'
    omega

set_option maxHeartbeats 400000 in
set_option maxRecDepth 100000 in
theorem countGroups_any (a : Option Addr) (c : Nat) (zs : List Int) (w : World) (hr : Reads w a zs) (hl : zs.length ≤ 70368744177664) :
    Calls Tryd.prog 68 #[.slice a zs.length c] w fun e w' => e = .returned (.int .i64 (countOf zs : Nat)) ∧ w' = w := by
  have hby := hr.byte
  rcases hr.cases with rfl | ⟨b, off, rfl, hpos, hcell⟩
  · go_enter Tryd.func68, Tryd.ntmps68
    go_wp2
    refine wp_loop_rounds 1 ?_
    rw [rounds_succ]
    go_wp2
    go_ret
    exact ⟨rfl, rfl⟩
  go_enter Tryd.func68, Tryd.ntmps68
  go_wp2
  go_loop [3] (fun i => ∃ j : Nat, j ≤ 6 ∧ j ≤ zs.length ∧ i = .int .i64 ((j + 1 : Nat) : Int) ∧ Hid (∀ i, i < j → 128 ≤ zs.getD i 0)) (fun i => 7 - (intOf i).toNat)
  case atStart => exact ⟨0, by omega, by omega, rfl, fun i hi => by omega⟩
  case round =>
    obtain ⟨j, hj6, hjl, rfl, hall⟩ := hrel
    by_cases hm : (zs.length : Int) < 6
    all_goals
    by_cases h6 : j < 6
    · by_cases hlt : j < zs.length
      · have hc := hcell j hlt
        obtain ⟨hn, hn2⟩ := bytes_nat hby j
        have HCC : Hid (zs.getD j 0 = ((zs.getD j 0).toNat : Int)) := hn
        rw [hn] at hc
        clear hn
        generalize (zs.getD j 0).toNat = cc at *
        by_cases hcc : 128 ≤ cc
        · have HN : Hid (∀ i, i < j + 1 → 128 ≤ zs.getD i 0) := by
            intro i hi
            by_cases e : i = j
            · rw [e, HCC.out]; omega
            · exact hall.out i (by omega)
          clear hcell hby
          go_wp2
          go_round
          case rel => exact ⟨j + 1, by omega, by omega, by go_num, HN⟩
          case measure => simp [intOf]; omega
        · have HE : Hid (countOf zs = j + 1) := countOf_go zs j hj6 hjl hall.out (.inr (.inr ⟨hlt, by rw [HCC.out]; omega⟩))
          clear hcell hby
          go_wp2
          go_ret
          exact ⟨ret_int (by rw [HE.out]; omega), rfl⟩
      · have HE : Hid (countOf zs = j + 1) := countOf_go zs j hj6 hjl hall.out (.inr (.inl (by omega)))
        clear hcell hby
        go_wp2
        all_goals go_ret
        all_goals exact ⟨ret_int (by rw [HE.out]; omega), rfl⟩
    · have HE : Hid (countOf zs = j + 1) := countOf_go zs j hj6 hjl hall.out (.inl (by omega))
      clear hcell hby
      go_wp2
      all_goals go_ret
      all_goals exact ⟨ret_int (by rw [HE.out]; omega), rfl⟩
end Go.Proofs.YtdibmepjbabnnacDoor
