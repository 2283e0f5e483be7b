/- The walk of laws.toObj. -/
import Derived.Test.YtdibmepjbabnnacDoorCopyI
import Derived.Test.YtdibmepjbabnnacDoorObjV
namespace Go.Proofs.YtdibmepjbabnnacDoor
open Go.RowKit

set_option maxHeartbeats 400000 in
set_option maxRecDepth 100000 in
theorem toObj_own (o : ObjV) (aI : Option Addr) (cI : Nat) (aR : Option Addr) (cR : Nat) (w : World) (hr : ReadsO w aI cI aR cR o) (hlI : o.ints.length ≤ 1099511627776) (hlR : o.refs.length ≤ 1099511627776) :
    Calls Tryd.prog 16 #[.agg #[.int .i64 o.kind, .slice aI o.ints.length cI, .slice aR o.refs.length cR]] w fun e w' => ∃ aI' cI' aR' cR', e = .returned (.agg #[.int .i64 o.kind, .slice aI' o.ints.length cI', .slice aR' o.refs.length cR']) ∧
      OwnO w' w.heap.size w'.heap.size aI' cI' aR' cR' o ∧ Below w.heap.size w w' := by
  obtain ⟨k, ints, refs⟩ := o
  obtain ⟨hI, hR, _, _⟩ := hr
  simp only at *
  go_enter Tryd.func16, Tryd.ntmps16
  go_wp2_with fail
  obtain ⟨W, hW, b0, b1, b2, hbW, hsW⟩ := boxes3 w [.int .i64 k, .slice aI ints.length cI, .slice aR refs.length cR] [.int .i64 0, .slice none 0 0, .slice none 0 0] [.int .i64 k, .slice none 0 0, .slice none 0 0] 34 25 25
  rw [hW.out]
  clear hW
  refine (toIntS_own aI cI ints W (hI.below hbW) hlI).mono ?_
  rintro e w1 ⟨a1, c1, rfl, ho1, hb1⟩
  have b0' := b0.below hb1 b0.lt
  have b1' := b1.below hb1 b1.lt
  have b2' := b2.below hb1 b2.lt
  have h02 := b0'.cell 2 _ rfl
  have h21 := b2'.cell 1 _ rfl
  have f21 := b2'.frozen 1
  go_wp2_with fail
  obtain ⟨W2, hW2, b2s, hw2, hs2⟩ := box_set b2' 1 (.slice a1 ints.length c1)
  rw [hW2.out]
  clear hW2
  have hWb : Below w.heap.size w W2 := (hbW.trans (hb1.mono (by omega))).trans (hw2.below (by omega) (by have := hb1.size; omega))
  have ho1' : OwnI W2 W.heap.size w1.heap.size a1 c1 ints := ho1.within hw2 (.inr (by omega))
  refine (toIntS_own aR cR refs W2 (hR.below hWb) hlR).mono ?_
  rintro e w3 ⟨a3, c3, rfl, ho3, hb3⟩
  have ho13 := ho1'.below hb3
  have b23 := b2s.below hb3 b2s.lt
  have b13 := (b1'.within hw2 (by omega)).below hb3 (by have := (b1'.within hw2 (by omega)).lt; exact this)
  simp only [List.set] at b23
  have g22 := b23.cell 2 _ rfl
  have e22 := b23.frozen 2
  have bS := b23.set 2 (.slice a3 refs.length c3)
  have bT := b13.other (C := w.heap.size + 1 + 1) (i := 2) (v := .slice a3 refs.length c3) (by omega)
  simp only [List.set] at bS
  have s0 := bS.cell 0 _ rfl
  have s1 := bS.cell 1 _ rfl
  have s2 := bS.cell 2 _ rfl
  have t0 := bT.cell 0 _ rfl
  have t1 := bT.cell 1 _ rfl
  have t2 := bT.cell 2 _ rfl
  have u0 := bT.frozen 0
  have u1 := bT.frozen 1
  have u2 := bT.frozen 2
  have bF := ((bT.set 0 (.int .i64 k)).set 1 (.slice a1 ints.length c1)).set 2 (.slice a3 refs.length c3)
  simp only [List.set] at bF
  have hwF : Within (w.heap.size + 1) (w.heap.size + 3) w3 _ := (((within_set w3 (w.heap.size + 1 + 1) 2 (.slice a3 refs.length c3) (by omega)).trans (within_set _ (w.heap.size + 1) 0 (.int .i64 k) (by omega))).trans (within_set _ (w.heap.size + 1) 1 (.slice a1 ints.length c1) (by omega))).trans (within_set _ (w.heap.size + 1) 2 (.slice a3 refs.length c3) (by omega))
  have HF : Hid (_ ∧ _ ∧ _ ∧ _) := ⟨bF.cell 0 _ rfl, bF.cell 1 _ rfl, bF.cell 2 _ rfl, hwF⟩
  clear bF hwF
  go_wp2
  obtain ⟨f0, f1, f2, hwF⟩ := HF.out
  generalize (((w3.setCell ⟨w.heap.size + 1 + 1, 2, none⟩ (.slice a3 refs.length c3)).setCell ⟨w.heap.size + 1, 0, none⟩ (.int .i64 k)).setCell ⟨w.heap.size + 1, 1, none⟩ (.slice a1 ints.length c1)).setCell ⟨w.heap.size + 1, 2, none⟩ (.slice a3 refs.length c3) = WF at *
  have hs3 := hb3.size
  have hs1 := hb1.size
  have hsF := hwF.size
  refine bodyPost_ret (v := .agg #[.int .i64 k, .slice a1 ints.length c1, .slice a3 refs.length c3]) (by simp [results, Tryd.results16, go_sem, f0, f1, f2]) rfl ⟨a1, c1, a3, c3, rfl, ⟨(ho13.within hwF (.inr (by omega))).widen (by omega) (by omega) (Nat.le_refl _), (ho3.within hwF (.inr (by omega))).widen (by omega) (by omega) (Nat.le_refl _), fun j hj hj' => by have := (ho1.lt j hj).2; have := (ho3.lt j hj').1; omega⟩, (hWb.trans (hb3.mono (by omega))).trans (hwF.below (by omega) (by omega))⟩
end Go.Proofs.YtdibmepjbabnnacDoor
