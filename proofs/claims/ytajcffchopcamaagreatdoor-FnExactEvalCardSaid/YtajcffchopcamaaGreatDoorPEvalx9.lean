/- Several texts in one, in their order. -/
import Derived.WalkKit
import Derived.Test.YtajcffchopcamaaGreatDoorPEvalx8
import Derived.Test.YtajcffchopcamaaGreatDoorPEvalx2
import Derived.Deep.RegionWith
import Derived.Test.YtajcffchopcamaaGreatDoorPEvalx3
import Derived.Deep.RegionHeld3
/- Plain mathematics: the digits of a number. -/
namespace Go.Proofs.YtajcffchopcamaaGreatDoor

end Go.Proofs.YtajcffchopcamaaGreatDoor

/- The text of a number; the walk of spec.l2Text. -/
namespace Go.Proofs.YtajcffchopcamaaGreatDoor
open Go.RowKit

end Go.Proofs.YtajcffchopcamaaGreatDoor

/- When an object is right; the walk of spec.ObjOk. -/
namespace Go.Proofs.YtajcffchopcamaaGreatDoor
open Go.RowKit

def okB (o : ObjV) : Bool := inB o.kind 1 99 && (decide (o.ints.length ≤ 5) && (decide (o.refs.length ≤ 5) && (o.ints.all (fun z => inB z (-1000000) 1000000) && o.refs.all (fun z => inB z 0 31))))

theorem okB_kind {o : ObjV} (h : inB o.kind 1 99 = false) : okB o = false := by simp [okB, h]
theorem okB_ints {o : ObjV} (h : ¬ o.ints.length ≤ 5) : okB o = false := by simp [okB, h]
theorem okB_refs {o : ObjV} (h : ¬ o.refs.length ≤ 5) : okB o = false := by simp [okB, h]
theorem okB_int {o : ObjV} (j : Nat) (hj : j < o.ints.length) (h : inB (o.ints.getD j 0) (-1000000) 1000000 = false) : okB o = false := by
  have : (o.ints.all (fun z => inB z (-1000000) 1000000)) = false := by
    rw [List.all_eq_false]
    exact ⟨o.ints.getD j 0, by simp [List.getD, hj], by rw [h]; decide⟩
  simp [okB, this]
theorem okB_ref {o : ObjV} (j : Nat) (hj : j < o.refs.length) (h : inB (o.refs.getD j 0) 0 31 = false) : okB o = false := by
  have : (o.refs.all (fun z => inB z 0 31)) = false := by
    rw [List.all_eq_false]
    exact ⟨o.refs.getD j 0, by simp [List.getD, hj], by rw [h]; decide⟩
  simp [okB, this]
theorem okB_true {o : ObjV} (h1 : inB o.kind 1 99 = true) (h2 : o.ints.length ≤ 5) (h3 : o.refs.length ≤ 5) (h4 : ∀ j, j < o.ints.length → inB (o.ints.getD j 0) (-1000000) 1000000 = true) (h5 : ∀ j, j < o.refs.length → inB (o.refs.getD j 0) 0 31 = true) : okB o = true := by
  have a4 : (o.ints.all (fun z => inB z (-1000000) 1000000)) = true := by
    rw [List.all_eq_true]
    intro z hz
    obtain ⟨j, hj, rfl⟩ := List.getElem_of_mem hz
    have := h4 j hj
    simpa [List.getD, hj] using this
  have a5 : (o.refs.all (fun z => inB z 0 31)) = true := by
    rw [List.all_eq_true]
    intro z hz
    obtain ⟨j, hj, rfl⟩ := List.getElem_of_mem hz
    have := h5 j hj
    simpa [List.getD, hj] using this
  simp [okB, h1, h2, h3, a4, a5]

set_option maxHeartbeats 1000000 in
set_option maxRecDepth 100000 in
theorem specObjOk_any (o : ObjV) (aI : Option Addr) (cI : Nat) (aR : Option Addr) (cR : Nat) (w : World) (hr : ReadsO w aI cI aR cR o) (hnI : o.ints.length ≤ 140737488355328) (hnR : o.refs.length ≤ 140737488355328) :
    Calls Tryz.prog 92 #[.agg #[.int .i64 o.kind, .slice aI o.ints.length cI, .slice aR o.refs.length cR]] w fun e w' => e = .returned (.bool (okB o)) ∧ Below w.heap.size w w' := by
  obtain ⟨k, ints, refs⟩ := o
  obtain ⟨hI, hR, _, _⟩ := hr
  simp only at *
  obtain ⟨W, hW, b0, hbW, hsW⟩ := boxes1 w [.int .i64 k, .slice aI ints.length cI, .slice aR refs.length cR] 39
  have hI' := hI.below hbW
  have hR' := hR.below hbW
  have x1 := b0.cell 1 _ rfl
  have x2 := b0.cell 2 _ rfl
  cases hk : inB k 1 99 with
  | false =>
    have HK : Hid (_ = _) := hk
    have HE : Hid (okB ⟨k, ints, refs⟩ = false) := okB_kind hk
    clear hk
    go_enter Tryz.func92, Tryz.ntmps92
    go_wp2_with fail
    rw [hW.out]
    refine (l1In_any _ _ _ _).mono ?_
    rintro e w' ⟨rfl, rfl⟩
    rw [HK.out]
    go_wp2
    go_ret
    exact ⟨ret_bool HE.out.symm, hbW⟩
  | true =>
  have HK : Hid (_ = _) := hk
  clear hk
  by_cases h5 : ints.length ≤ 5
  case neg =>
    have HE : Hid (okB ⟨k, ints, refs⟩ = false) := okB_ints h5
    go_enter Tryz.func92, Tryz.ntmps92
    go_wp2_with fail
    rw [hW.out]
    refine (l1In_any _ _ _ _).mono ?_
    rintro e w' ⟨rfl, rfl⟩
    rw [HK.out]
    go_wp2
    go_ret
    exact ⟨ret_bool HE.out.symm, hbW⟩
  case pos =>
  by_cases h6 : refs.length ≤ 5
  case neg =>
    have HE : Hid (okB ⟨k, ints, refs⟩ = false) := okB_refs h6
    go_enter Tryz.func92, Tryz.ntmps92
    go_wp2_with fail
    rw [hW.out]
    refine (l1In_any _ _ _ _).mono ?_
    rintro e w' ⟨rfl, rfl⟩
    rw [HK.out]
    go_wp2
    go_ret
    exact ⟨ret_bool HE.out.symm, hbW⟩
  case pos =>
  go_enter Tryz.func92, Tryz.ntmps92
  go_wp2_with fail
  rw [hW.out]
  refine (l1In_any _ _ _ _).mono ?_
  rintro e w' ⟨rfl, rfl⟩
  rw [HK.out]
  go_wp2
  go_loop [3] (fun i => ∃ j : Nat, j ≤ ints.length ∧ i = .int .i64 j ∧ Hid (∀ t, t < j → inB (ints.getD t 0) (-1000000) 1000000 = true)) (fun i => ints.length - (RowKit.intOf i).toNat)
  case atStart => exact ⟨0, by omega, rfl, fun t ht => by omega⟩
  case round =>
    obtain ⟨j, hj, rfl, hall⟩ := hrel
    by_cases hlt : j < ints.length
    · rcases hI'.cases with rfl | ⟨b, off, rfl, hpos, hcell⟩
      · simp at hlt
      have hc := hcell j hlt
      clear hcell
      cases hz : inB (ints.getD j 0) (-1000000) 1000000 with
      | false =>
        have HE : Hid (okB ⟨k, ints, refs⟩ = false) := okB_int j hlt hz
        have HZ : Hid (_ = _) := hz
        clear hz
        generalize ints.getD j 0 = z at *
        go_wp2_with fail
        refine (l1In_any _ _ _ _).mono ?_
        rintro e w' ⟨rfl, rfl⟩
        rw [HZ.out]
        go_wp2
        go_ret
        exact ⟨ret_bool HE.out.symm, hbW⟩
      | true =>
        have HN : Hid (∀ t, t < j + 1 → inB (ints.getD t 0) (-1000000) 1000000 = true) := by
          intro t ht
          by_cases e : t = j
          · rw [e]; exact hz
          · exact hall.out t (by omega)
        have HZ : Hid (_ = _) := hz
        clear hz
        generalize ints.getD j 0 = z at *
        go_wp2_with fail
        refine (l1In_any _ _ _ _).mono ?_
        rintro e w' ⟨rfl, rfl⟩
        rw [HZ.out]
        go_wp2
        go_round
        case rel => exact ⟨j + 1, by omega, by go_num, HN⟩
        case measure => simp [RowKit.intOf]; omega
    · have HALL : Hid (∀ t, t < ints.length → inB (ints.getD t 0) (-1000000) 1000000 = true) := fun t ht => hall.out t (by omega)
      go_wp2
      go_loop [4] (fun i => ∃ j : Nat, j ≤ refs.length ∧ i = .int .i64 j ∧ Hid (∀ t, t < j → inB (refs.getD t 0) 0 31 = true)) (fun i => refs.length - (RowKit.intOf i).toNat)
      case atStart => exact ⟨0, by omega, rfl, fun t ht => by omega⟩
      case round =>
        obtain ⟨i, hi, rfl, hall2⟩ := hrel
        by_cases hlt2 : i < refs.length
        · rcases hR'.cases with rfl | ⟨b, off, rfl, hpos, hcell⟩
          · simp at hlt2
          have hc := hcell i hlt2
          clear hcell
          cases hz : inB (refs.getD i 0) 0 31 with
          | false =>
            have HE : Hid (okB ⟨k, ints, refs⟩ = false) := okB_ref i hlt2 hz
            have HZ : Hid (_ = _) := hz
            clear hz
            generalize refs.getD i 0 = z at *
            go_wp2_with fail
            refine (l1In_any _ _ _ _).mono ?_
            rintro e w' ⟨rfl, rfl⟩
            rw [HZ.out]
            go_wp2
            go_ret
            exact ⟨ret_bool HE.out.symm, hbW⟩
          | true =>
            have HN : Hid (∀ t, t < i + 1 → inB (refs.getD t 0) 0 31 = true) := by
              intro t ht
              by_cases e : t = i
              · rw [e]; exact hz
              · exact hall2.out t (by omega)
            have HZ : Hid (_ = _) := hz
            clear hz
            generalize refs.getD i 0 = z at *
            go_wp2_with fail
            refine (l1In_any _ _ _ _).mono ?_
            rintro e w' ⟨rfl, rfl⟩
            rw [HZ.out]
            go_wp2
            go_round
            case rel => exact ⟨i + 1, by omega, by go_num, HN⟩
            case measure => simp [RowKit.intOf]; omega
        · have HE : Hid (okB ⟨k, ints, refs⟩ = true) := okB_true HK.out h5 h6 HALL.out (fun t ht => hall2.out t (by simp only at ht; omega))
          go_wp2
          go_ret
          exact ⟨ret_bool HE.out.symm, hbW⟩
end Go.Proofs.YtajcffchopcamaaGreatDoor

/- The text of an object; the walks of spec.l2Join and spec.ObjText. -/
namespace Go.Proofs.YtajcffchopcamaaGreatDoor
open Go.RowKit

end Go.Proofs.YtajcffchopcamaaGreatDoor
