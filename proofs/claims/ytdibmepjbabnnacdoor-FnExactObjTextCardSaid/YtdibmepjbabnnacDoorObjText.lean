/- The walk of impl.ObjText. -/
import Derived.Test.YtdibmepjbabnnacDoorItoa
import Derived.Test.YtdibmepjbabnnacDoorObjOk
import Derived.Deep.RegionHeld3
namespace Go.Proofs.YtdibmepjbabnnacDoor
open Go.RowKit

set_option maxHeartbeats 1000000 in
set_option maxRecDepth 100000 in
theorem implObjText_any (o : ObjV) (aI : Option Addr) (cI : Nat) (aR : Option Addr) (cR : Nat) (w : World) (he : EnvT w) (hr : ReadsO w aI cI aR cR o) (hnI : o.ints.length ≤ 140737488355328) (hnR : o.refs.length ≤ 140737488355328) :
    Calls Tryd.prog 17 #[.agg #[.int .i64 o.kind, .slice aI o.ints.length cI, .slice aR o.refs.length cR]] w fun e w' => e = .returned (.string (strOf (textObjOf o))) ∧ Below w.heap.size w w' := by
  have hok := fun w' (g : ErrT w') (h : ReadsO w' aI cI aR cR o) => implObjOk_any o aI cI aR cR w' g h hnI hnR
  have HPT : Hid (okB o = true → textObjOf o = textO o) := fun h => by unfold textObjOf; rw [if_pos h]
  have HPF : Hid (okB o = false → strOf (textObjOf o) = ⟨#[]⟩) := fun h => by unfold textObjOf; rw [if_neg (by rw [h]; decide)]; rfl
  have HLN : Hid (okB o = true → _) := fun h => okB_nums h
  have hcs : okB o = true ∨ okB o = false := by cases okB o <;> simp
  obtain ⟨k, ints, refs⟩ := o
  have hr' := hr
  obtain ⟨hI, hR, _, _⟩ := hr
  simp only at *
  obtain ⟨W, hW, b0, hbW, hsW⟩ := boxes1 w [.int .i64 k, .slice aI ints.length cI, .slice aR refs.length cR] 25
  go_enter Tryd.func17, Tryd.ntmps17
  go_wp2_with fail
  rw [hW.out]
  refine (hok W (he.err.keep hbW) (hr'.below hbW)).mono ?_
  rintro e w1 ⟨rfl, hb1⟩
  have hbw1 : Below w.heap.size w w1 := hbW.trans (hb1.mono hbW.size)
  have b1 := b0.below hb1 b0.lt
  rcases hcs with hB | hB
  · obtain ⟨hkb, h5, h6, hzI, hzR⟩ := HLN.out hB
    have HP : Hid (strOf (textObjOf ⟨k, ints, refs⟩) = ((((strOf (numText k) ++ ⟨#[40]⟩) ++ strOf (joinOf ints)) ++ ⟨#[59]⟩) ++ strOf (joinOf refs)) ++ ⟨#[41]⟩) := by
      rw [Hid, HPT.out hB]
      simp only [textO, strOf_append]
      rfl
    have hs1 : (strOf (numText k)).size ≤ 11 := by rw [strOf_size]; exact num_len k hkb
    have hs2 : (strOf (joinOf ints)).size ≤ 60 := by rw [strOf_size]; have := join_len ints hzI ints.length (Nat.le_refl _); unfold joinOf; omega
    have hs3 : (strOf (joinOf refs)).size ≤ 60 := by rw [strOf_size]; have := join_len refs hzR refs.length (Nat.le_refl _); unfold joinOf; omega
    have hK := fun w' (g : EnvT w') => itoa_any k (by omega) w' g
    have hJI := fun w' (g : EnvT w') (h : ReadsI w' aI ints) => partsText_any aI cI ints w' g h (by omega) hzI
    have hJR := fun w' (g : EnvT w') (h : ReadsI w' aR refs) => partsText_any aR cR refs w' g h (by omega) hzR
    have he1 := he.keep hbw1
    rw [hB]
    clear hB hok HPT HPF HLN
    generalize strOf (numText k) = SK at *
    generalize strOf (joinOf ints) = SI at *
    generalize strOf (joinOf refs) = SR at *
    have hlt1 := b1.lt
    have hkeep : ∀ w', Below w1.heap.size w1 w' → w'.cell? ⟨w.heap.size, 0, none⟩ = some (.int .i64 k) ∧ w'.cell? ⟨w.heap.size, 1, none⟩ = some (.slice aI ints.length cI) ∧ w'.cell? ⟨w.heap.size, 2, none⟩ = some (.slice aR refs.length cR) :=
      fun w' hh => ⟨(b1.below hh hlt1).cell 0 _ rfl, (b1.below hh hlt1).cell 1 _ rfl, (b1.below hh hlt1).cell 2 _ rfl⟩
    have c1 : SK.size + 1 ≤ 9223372036854775807 := by omega
    have c2 : SK.size + 1 + SI.size ≤ 9223372036854775807 := by omega
    have c3 : SK.size + 1 + SI.size + 1 ≤ 9223372036854775807 := by omega
    have c4 : SK.size + 1 + SI.size + 1 + SR.size ≤ 9223372036854775807 := by omega
    have c5 : SK.size + 1 + SI.size + 1 + SR.size + 1 ≤ 9223372036854775807 := by omega
    have n1 : ¬ 9223372036854775807 < SK.size + 1 := by omega
    have n2 : ¬ 9223372036854775807 < SK.size + 1 + SI.size := by omega
    have n3 : ¬ 9223372036854775807 < SK.size + 1 + SI.size + 1 := by omega
    have n4 : ¬ 9223372036854775807 < SK.size + 1 + SI.size + 1 + SR.size := by omega
    have n5 : ¬ 9223372036854775807 < SK.size + 1 + SI.size + 1 + SR.size + 1 := by omega
    have hh := hkeep w1 (Below.refl _ _)
    go_wp2_with fail
    go_region_held3 (fun w' => w'.cell? ⟨w.heap.size, 0, none⟩ = some (.int .i64 k) ∧ w'.cell? ⟨w.heap.size, 1, none⟩ = some (.slice aI ints.length cI) ∧ w'.cell? ⟨w.heap.size, 2, none⟩ = some (.slice aR refs.length cR))
      (first | exact hkeep _ hw4 | exact hkeep _ hw3 | exact hkeep _ hw2 | go_keep)
      (first
      | (go_at_call 35; refine (hK w1.drew (he1.keep (Below.refl _ _).drew)).mono ?_; rintro e w2 ⟨rfl, hb2⟩; have hw2 : Below w1.heap.size w1 w2 := (Below.refl _ _).drew.trans hb2)
      | (go_at_call_of 36 (Value.slice aI ints.length cI); refine (hJI w2 (he1.keep hw2) (hI.below (hbw1.trans (hw2.mono hbw1.size)))).mono ?_; rintro e w3 ⟨rfl, hb3⟩; have hw3 : Below w1.heap.size w1 w3 := hw2.trans (hb3.mono hw2.size))
      | (go_at_call_of 36 (Value.slice aR refs.length cR); refine (hJR w3 (he1.keep hw3) (hR.below (hbw1.trans (hw3.mono hbw1.size)))).mono ?_; rintro e w4 ⟨rfl, hb4⟩; have hw4 : Below w1.heap.size w1 w4 := hw3.trans (hb4.mono hw3.size)))
    go_wp2
    go_ret
    exact ⟨by rw [HP.out]; rfl, hbw1.trans (hw4.mono hbw1.size)⟩
  · have HP : Hid (_ = _) := HPF.out hB
    rw [hB]
    clear hB hok
    go_wp2
    go_ret
    exact ⟨by rw [HP.out]; rfl, hbw1⟩
end Go.Proofs.YtdibmepjbabnnacDoor
