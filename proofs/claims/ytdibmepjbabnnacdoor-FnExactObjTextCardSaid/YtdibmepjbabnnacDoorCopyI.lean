/- The walk of laws.toIntS: a new row with the same numbers. -/
import Derived.Test.YtdibmepjbabnnacDoorInts
namespace Go.Proofs.YtdibmepjbabnnacDoor
open Go.RowKit

def partI (zs : List Int) (k : Nat) : List Int := zs.take k ++ List.replicate (zs.length - k) 0

theorem partI_len (zs : List Int) (k : Nat) (h : k ≤ zs.length) : (partI zs k).length = zs.length := by simp [partI]; omega
theorem partI_all (zs : List Int) : partI zs zs.length = zs := by simp [partI]
theorem partI_none (zs : List Int) : partI zs 0 = List.replicate zs.length 0 := by simp [partI]
theorem partI_set (zs : List Int) (k : Nat) (h : k < zs.length) : (partI zs k).set k (zs.getD k 0) = partI zs (k + 1) := by
  unfold partI
  rw [List.set_append, if_neg (by simp; omega), List.take_succ_eq_append_getElem h]
  have e : zs.length - k = (zs.length - (k + 1)) + 1 := by omega
  have e2 : k - (List.take k zs).length = 0 := by simp; omega
  rw [e2, e, List.replicate_succ, List.set_cons_zero]
  simp only [List.getD, h, List.getElem?_eq_getElem, Option.getD_some, List.append_assoc, List.singleton_append]
theorem partI_set_map (zs : List Int) (k : Nat) (h : k < zs.length) : ((partI zs k).map (Value.int .i64)).set k (.int .i64 (zs.getD k 0)) = (partI zs (k + 1)).map (Value.int .i64) := by
  rw [← partI_set zs k h, List.map_set]

set_option maxHeartbeats 400000 in
theorem toIntS_any (a : Option Addr) (cap : Nat) (zs : List Int) (w : World) (hr : ReadsI w a zs) (hl : zs.length ≤ 1099511627776) :
    Calls Tryd.prog 33 #[.slice a zs.length cap] w fun e w' => e = .returned (.slice (some ⟨w.heap.size, 0, none⟩) zs.length zs.length) ∧
      w'.ownsRow w.heap.size 3 1 (.slice (some ⟨w.heap.size, 0, none⟩) zs.length zs.length) zs.length (zs.map (Value.int .i64)) ∧ Below w.heap.size w w' := by
  obtain ⟨i0, hi, hz0, hz1, hz2⟩ := info_parts Tryd.infoInt
  rcases hr.cases with rfl | ⟨b, off, rfl, hpos, hcell⟩
  · go_enter Tryd.func33, Tryd.ntmps33
    go_wp2_with (at_make; refine wpList_make_full _ rfl _ _ 23 rfl w.heap.size 3 i0 (.int .i64 0) 1 Tryd.underlying23 hi hz0 hz1 _ _ _ _ 0 rfl rfl (by simp) (by simp) (by omega) (by simp [maxLen]) (Nat.le_refl _) ?_)
    intro w0 hown0 hgrow0
    go_wp2
    refine wp_loop_rounds 1 ?_
    rw [rounds_succ]
    go_wp2
    go_ret
    exact ⟨rfl, by simpa [toList_madeCells_one] using hown0, (Below.refl _ _).grown hgrow0 (Nat.le_refl _) (fun k h => by cases h)⟩
  · have hbB : b < w.heap.size := by
      have := hcell 0 hpos
      simp only [World.cell?] at this
      by_cases hb : b < w.heap.size
      · exact hb
      · simp [Array.getElem?_eq_none (Nat.le_of_not_lt hb)] at this
    go_enter Tryd.func33, Tryd.ntmps33
    go_wp2_with (at_make; refine wpList_make_full _ rfl _ _ 23 rfl w.heap.size 3 i0 (.int .i64 0) 1 Tryd.underlying23 hi hz0 hz1 _ _ _ _ zs.length rfl rfl rfl rfl (by rw [hz2]; omega) (by simp [maxLen]; omega) (Nat.le_refl _) ?_)
    intro w0 hown0 hgrow0
    have hown1 : w0.ownsRow w.heap.size 3 1 (.slice (some ⟨w.heap.size, 0, none⟩) zs.length zs.length) zs.length ((partI zs 0).map (Value.int .i64)) := by
      rw [partI_none, List.map_replicate]
      simpa [Value.cells, toList_madeCells_one] using hown0
    have hb0 : Below w.heap.size w w0 := (Below.refl _ _).grown hgrow0 (Nat.le_refl _) (fun k h => by cases h)
    clear hown0 hgrow0
    go_wp2
    go_loopw [4] (fun i wr => ∃ k : Nat, k ≤ zs.length ∧ i = .int .i64 k ∧ wr.ownsRow w.heap.size 3 1 (.slice (some ⟨w.heap.size, 0, none⟩) zs.length zs.length) zs.length ((partI zs k).map (Value.int .i64)) ∧ Below w.heap.size w wr)
      (fun i _ => zs.length - (intOf i).toNat)
    case atStart => exact ⟨0, Nat.zero_le _, rfl, hown1, hb0⟩
    case round =>
      obtain ⟨k, hk, rfl, hown, hnx⟩ := hrel
      by_cases hlt : k < zs.length
      · have hc : wr.cell? ⟨b, off + k, none⟩ = some (.int .i64 (zs.getD k 0)) := (hnx.cell (by exact hbB)).trans (hcell k hlt)
        have hfz := hown.frozenAt k
        have hct := hown.cellAt k (by omega)
        have hp := partI_len zs k hk
        have HS := hown.stored k (.int .i64 (zs.getD k 0))
        rw [partI_set_map zs k hlt] at HS
        have HN : Below w.heap.size w (wr.setCell ⟨w.heap.size, k, none⟩ (.int .i64 (zs.getD k 0))) := hnx.setCell (Nat.le_refl _) _
        have HSS : Hid (_ ∧ _) := ⟨HS.1, HN⟩
        clear HS HN hown hcell hnx hown1 hb0
        generalize zs.getD k 0 = z at *
        go_wp2
        go_roundw
        case rel => exact ⟨k + 1, by omega, by go_num, HSS.out.1, HSS.out.2⟩
        case measure => simp [intOf]; omega
      · have HE : Hid (wr.ownsRow w.heap.size 3 1 (.slice (some ⟨w.heap.size, 0, none⟩) zs.length zs.length) zs.length (zs.map (Value.int .i64))) := by
          have e : k = zs.length := by omega
          rw [e, partI_all] at hown
          exact hown
        go_wp2
        go_ret
        exact ⟨rfl, HE.out, hnx⟩

theorem toIntS_own (a : Option Addr) (cap : Nat) (zs : List Int) (w : World) (hr : ReadsI w a zs) (hl : zs.length ≤ 1099511627776) :
    Calls Tryd.prog 33 #[.slice a zs.length cap] w fun e w' => ∃ a' c', e = .returned (.slice a' zs.length c') ∧ OwnI w' w.heap.size w'.heap.size a' c' zs ∧ Below w.heap.size w w' := by
  refine (toIntS_any a cap zs w hr hl).mono ?_
  rintro e w' ⟨rfl, ho, hb⟩
  exact ⟨_, _, rfl, ⟨ho, Nat.le_refl _, fun k hk => (ho.lt k hk).2⟩, hb⟩
end Go.Proofs.YtdibmepjbabnnacDoor
