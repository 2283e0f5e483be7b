/- The walk of spec.GetObj. -/
import Derived.Test.YtdibmepjbabnnacDoorObjMath
import Derived.Test.YtdibmepjbabnnacDoorSameBSpec
namespace Go.Proofs.YtdibmepjbabnnacDoor
open Go.RowKit

set_option maxHeartbeats 2000000 in
set_option maxRecDepth 100000 in
theorem specGetObj_any (a : Option Addr) (c : Nat) (zs : List Int) (w : World) (hr : Reads w a zs) (hl : zs.length ≤ 1099511627776) :
    Calls Tryd.prog 6 #[.slice a zs.length c] w fun e w' => ∃ aI cI aR cR o ok, e = .returned (.tuple #[.agg #[.int .i64 o.kind, .slice aI o.ints.length cI, .slice aR o.refs.length cR], .bool ok]) ∧ Hid (getPair zs = (o, ok)) ∧ OwnO w' w.heap.size w'.heap.size aI cI aR cR o ∧ Below w.heap.size w w' := by
  have HGR : Hid (_ = _) := getO_read zs
  have HRO : Hid (readO zs = (⟨(nextOf zs (0, false)).1, (listOf zs 5 (nextOf zs (0, false)).2).1, (listOf zs 5 (listOf zs 5 (nextOf zs (0, false)).2).2).1⟩, (listOf zs 5 (listOf zs 5 (nextOf zs (0, false)).2).2).2.2)) := rfl
  have HBR : Hid (zs ≠ [] → ∀ b off, a = some ⟨b, off, none⟩ → b ≠ w.heap.size + 1) := by
    intro hne b off ha
    obtain ⟨b', off', ha', hc⟩ := hr.2 hne
    rw [ha] at ha'
    cases ha'
    have := block_lt (hc 0 (List.length_pos_iff.2 hne))
    omega
  go_enter Tryd.func6, Tryd.ntmps6
  go_wp2_with fail
  obtain ⟨W, hW, bR, bB, bO, hbW, hsW⟩ := boxes3 w [.int .i64 0, .slice none 0 0, .slice none 0 0] [.slice a zs.length c, .int .i64 0, .bool false] [.int .i64 0, .slice none 0 0, .slice none 0 0] 25 43 25
  rw [hW.out]
  clear hW
  refine (l2Next_any (w.heap.size + 1) a c zs (0, false) W bB (hr.below hbW) (by omega)).mono ?_
  rintro e w1 ⟨⟨rfl, hb1⟩, hw1⟩
  generalize nextOf zs (0, false) = Y at *
  have hs1 := hw1.size
  have B1 : Below w.heap.size w w1 := hbW.trans (hw1.below (by omega) (by omega))
  have bO1 := bO.within hw1 (by omega)
  have bR1 := bR.within hw1 (by omega)
  have x10 := bO1.cell 0 _ rfl
  have f10 := bO1.frozen 0
  go_wp2_with fail
  obtain ⟨W2, hW2, bO2, hw2, hs2⟩ := box_set bO1 0 (.int .i64 Y.1)
  rw [hW2.out]
  clear hW2
  simp only [List.set] at bO2
  have rd2 : RdAt W2 (w.heap.size + 1) a c zs Y.2 := Box.within hb1 hw2 (by omega)
  have bR2 := bR1.within hw2 (by omega)
  have B2 : Below w.heap.size w W2 := B1.trans (hw2.below (by omega) (by omega))
  refine (l2List_any (w.heap.size + 1) a c zs Y.2 5 W2 rd2 (hr.below B2) (by omega) (by omega) HBR.out).mono ?_
  rintro e w3 ⟨aI, cI, L1, rfl, hn1, HL1, rd3, ho3, hw3⟩
  generalize listOf zs 5 Y.2 = Z1 at *
  have hs3 := hw3.size
  have B3 : Below w.heap.size w w3 := B2.trans (hw3.below (by omega) (by omega))
  have bO3 := bO2.within hw3 (by omega)
  have bR3 := bR2.within hw3 (by omega)
  have x31 := bO3.cell 1 _ rfl
  have f31 := bO3.frozen 1
  go_wp2_with fail
  obtain ⟨W4, hW4, bO4, hw4, hs4⟩ := box_set bO3 1 (.slice aI L1.length cI)
  rw [hW4.out]
  clear hW4
  simp only [List.set] at bO4
  have rd4 : RdAt W4 (w.heap.size + 1) a c zs Z1.2 := Box.within rd3 hw4 (by omega)
  have bR4 := bR3.within hw4 (by omega)
  have ho4 : OwnI W4 W2.heap.size w3.heap.size aI cI L1 := ho3.within hw4 (.inr (by omega))
  have B4 : Below w.heap.size w W4 := B3.trans (hw4.below (by omega) (by omega))
  refine (l2List_any (w.heap.size + 1) a c zs Z1.2 5 W4 rd4 (hr.below B4) (by omega) (by omega) HBR.out).mono ?_
  rintro e w5 ⟨aR, cR, L2, rfl, hn2, HL2, rd5, ho5, hw5⟩
  generalize listOf zs 5 Z1.2 = Z2 at *
  have hs5 := hw5.size
  have B5 : Below w.heap.size w w5 := B4.trans (hw5.below (by omega) (by omega))
  have bO5 := bO4.within hw5 (by omega)
  have bR5 := bR4.within hw5 (by omega)
  have ho45 : OwnI w5 W2.heap.size w3.heap.size aI cI L1 := ho4.within hw5 (.inr (by omega))
  have x52 := bO5.cell 2 _ rfl
  have f52 := bO5.frozen 2
  obtain ⟨W6, hW6, bO6, hw6, hs6⟩ := box_set bO5 2 (.slice aR L2.length cR)
  simp only [List.set] at bO6
  have rd6 : RdAt W6 (w.heap.size + 1) a c zs Z2.2 := Box.within rd5 hw6 (by omega)
  have bR6 := bR5.within hw6 (by omega)
  have ho46 : OwnI W6 W2.heap.size w3.heap.size aI cI L1 := ho45.within hw6 (.inr (by omega))
  have ho56 : OwnI W6 W4.heap.size w5.heap.size aR cR L2 := ho5.within hw6 (.inr (by omega))
  have B6 : Below w.heap.size w W6 := B5.trans (hw6.below (by omega) (by omega))
  have HO : Hid (readO zs = (⟨Y.1, L1, L2⟩, Z2.2.2)) := by rw [Hid, HRO.out, HL1.out, HL2.out]
  rw [HO.out] at HGR
  clear HRO HO HL1 HL2 rd2 rd3 rd4 rd5 bR1 bR2 bR3 bR4 bR5 bO1 bO2 bO3 bO4 B1 B2 B3 B4 ho3 ho4 ho5 ho45 bO bR bB hb1
  obtain ⟨k, sY⟩ := Y
  obtain ⟨lZ, p2, bd⟩ := Z2
  unfold RdAt at rd6
  simp only at *
  have r2 := rd6.cell 2 _ rfl
  have hB6 := bR6.lt
  have HPF : Hid (¬ (bd = false ∧ okB ⟨k, L1, L2⟩ = true ∧ putObjOf ⟨k, L1, L2⟩ = zs) → getPair zs = (noO, false)) := by
    intro h
    unfold getPair
    rw [HGR.out, if_neg h]
  have HPT : Hid (bd = false → okB ⟨k, L1, L2⟩ = true → putObjOf ⟨k, L1, L2⟩ = zs → getPair zs = (⟨k, L1, L2⟩, true)) := by
    intro h1 h2 h3
    unfold getPair
    rw [HGR.out, if_pos ⟨h1, h2, h3⟩]
  -- what is answered where it is none
  have fail : ∀ w', Below (w.heap.size + 1) W6 w' → Box w' w.heap.size [.int .i64 0, .slice none 0 0, .slice none 0 0] 25 := fun w' hh => bR6.below hh (by omega)
  have W6e := hW6.out
  cases bd with
  | true =>
    have HP : Hid (_ = _) := HPF.out (by simp)
    have g0 := bR6.cell 0 _ rfl
    have g1 := bR6.cell 1 _ rfl
    have g2 := bR6.cell 2 _ rfl
    have e0 := bR6.frozen 0
    have e1 := bR6.frozen 1
    have e2 := bR6.frozen 2
    have bF := ((bR6.set 0 (.int .i64 0)).set 1 (.slice none 0 0)).set 2 (.slice none 0 0)
    simp only [List.set] at bF
    have hwF : Within w.heap.size (w.heap.size + 1) W6 _ := ((within_set W6 w.heap.size 0 (.int .i64 0) (by omega)).trans (within_set _ w.heap.size 1 (.slice none 0 0) (by omega))).trans (within_set _ w.heap.size 2 (.slice none 0 0) (by omega))
    have HF : Hid (_ ∧ _ ∧ _ ∧ _) := ⟨bF.cell 0 _ rfl, bF.cell 1 _ rfl, bF.cell 2 _ rfl, hwF⟩
    clear bF hwF
    go_wp2
    obtain ⟨q0, q1, q2, hwF⟩ := HF.out
    generalize ((W6.setCell ⟨w.heap.size, 0, none⟩ (.int .i64 0)).setCell ⟨w.heap.size, 1, none⟩ (.slice none 0 0)).setCell ⟨w.heap.size, 2, none⟩ (.slice none 0 0) = WF at *
    refine bodyPost_ret (v := .tuple #[.agg #[.int .i64 0, .slice none 0 0, .slice none 0 0], .bool false]) (by simp [results, Tryd.results6, go_sem, q0, q1, q2]) rfl ⟨none, 0, none, 0, noO, false, rfl, HP.out, ⟨ownI_nil _ _ _ (Nat.le_refl _), ownI_nil _ _ _ (Nat.le_refl _), fun k hk => by cases hk⟩, B6.trans (hwF.below (Nat.le_refl _) (by omega))⟩
  | false =>
    have c0 := bO6.cell 0 _ rfl
    have c1 := bO6.cell 1 _ rfl
    have c2 := bO6.cell 2 _ rfl
    have hrO : ReadsO W6 aI cI aR cR ⟨k, L1, L2⟩ := ⟨ho46.reads, ho56.reads, ho46.nocap, ho56.nocap⟩
    have hok := specObjOk_any ⟨k, L1, L2⟩ aI cI aR cR W6 hrO (by simp only; omega) (by simp only; omega)
    go_wp2_with fail
    refine hok.mono ?_
    clear hok
    rintro e w7 ⟨rfl, hb7⟩
    have B7 : Below w.heap.size w w7 := B6.trans (hb7.mono (by omega))
    have bR7 := bR6.below hb7 (by omega)
    have bO7 := bO6.below hb7 bO6.lt
    have hs7 := hb7.size
    cases hB : okB ⟨k, L1, L2⟩ with
    | false =>
      have HP : Hid (_ = _) := HPF.out (by rw [hB]; simp)
      clear hB
      have g0 := (bR7).cell 0 _ rfl
      have g1 := (bR7).cell 1 _ rfl
      have g2 := (bR7).cell 2 _ rfl
      have e0 := (bR7).frozen 0
      have e1 := (bR7).frozen 1
      have e2 := (bR7).frozen 2
      have bF := (((bR7).set 0 (.int .i64 0)).set 1 (.slice none 0 0)).set 2 (.slice none 0 0)
      simp only [List.set] at bF
      have hwF : Within w.heap.size (w.heap.size + 1) w7 _ := ((within_set w7 w.heap.size 0 (.int .i64 0) (by omega)).trans (within_set _ w.heap.size 1 (.slice none 0 0) (by omega))).trans (within_set _ w.heap.size 2 (.slice none 0 0) (by omega))
      have HF : Hid (_ ∧ _ ∧ _ ∧ _) := ⟨bF.cell 0 _ rfl, bF.cell 1 _ rfl, bF.cell 2 _ rfl, hwF⟩
      clear bF hwF
      go_wp2
      obtain ⟨q0, q1, q2, hwF⟩ := HF.out
      generalize ((w7.setCell ⟨w.heap.size, 0, none⟩ (.int .i64 0)).setCell ⟨w.heap.size, 1, none⟩ (.slice none 0 0)).setCell ⟨w.heap.size, 2, none⟩ (.slice none 0 0) = WF at *
      refine bodyPost_ret (v := .tuple #[.agg #[.int .i64 0, .slice none 0 0, .slice none 0 0], .bool false]) (by simp [results, Tryd.results6, go_sem, q0, q1, q2]) rfl ⟨none, 0, none, 0, noO, false, rfl, HP.out, ⟨ownI_nil _ _ _ (Nat.le_refl _), ownI_nil _ _ _ (Nat.le_refl _), fun k hk => by cases hk⟩, (B7).trans (hwF.below (Nat.le_refl _) (by have := (B7).size; omega))⟩
    | true =>
      have HOK : Hid (_ = _) := hB
      clear hB
      have d0 := bO7.cell 0 _ rfl
      have d1 := bO7.cell 1 _ rfl
      have d2 := bO7.cell 2 _ rfl
      have hput := specPutObj_any ⟨k, L1, L2⟩ aI cI aR cR w7 (hrO.below hb7) (by simp only; omega) (by simp only; omega)
      go_wp2_with fail
      refine hput.mono ?_
      clear hput
      rintro e w8 ⟨a8, c8, y8, rfl, HY8, ho8, hb8⟩
      have B8 : Below w.heap.size w w8 := B7.trans (hb8.mono (by omega))
      have hs8 := hb8.size
      have hyl : y8.length ≤ 1000000 := by
        have h1 := putList_len L1
        have h2 := putList_len L2
        have h3 := (putOf_len k).2
        have h4 := put_ok HOK.out
        rw [HY8.out, h4, List.length_append, List.length_append]
        simp only
        omega
      have hsm := l2Same_any a8 a c8 c y8 zs w8 ho8.reads (hr.below B8) (by omega) hl
      go_wp2_with fail
      refine hsm.mono ?_
      clear hsm
      rintro e w9 ⟨rfl, n9, rfl⟩
      have B9 : Below w.heap.size w (w8.drewN n9) := below_drewN B8 n9
      have hb79 : Below w7.heap.size w7 (w8.drewN n9) := below_drewN hb8 n9
      have bR9 := bR7.below hb79 (by omega)
      have bO9 := bO7.below hb79 bO7.lt
      have ho49 := (ho46.below hb7).below hb79
      have ho59 := (ho56.below hb7).below hb79
      have hs9 : w7.heap.size ≤ (w8.drewN n9).heap.size := hb79.size
      have HD1 : Hid (decide (y8 = zs) = false → getPair zs = (noO, false)) := by
        intro h
        apply HPF.out
        rintro ⟨_, _, h3⟩
        rw [decide_eq_false_iff_not] at h
        exact h (HY8.out.trans h3)
      have HD2 : Hid (decide (y8 = zs) = true → getPair zs = (⟨k, L1, L2⟩, true)) := by
        intro h
        rw [decide_eq_true_eq] at h
        exact HPT.out (by first | rfl | trivial) HOK.out (HY8.out.symm.trans h)
      generalize w8.drewN n9 = w9 at *
      generalize decide (y8 = zs) = D at *
      cases D with
      | false =>
        have HP : Hid (_ = _) := HD1.out rfl
        have g0 := (bR9).cell 0 _ rfl
        have g1 := (bR9).cell 1 _ rfl
        have g2 := (bR9).cell 2 _ rfl
        have e0 := (bR9).frozen 0
        have e1 := (bR9).frozen 1
        have e2 := (bR9).frozen 2
        have bF := (((bR9).set 0 (.int .i64 0)).set 1 (.slice none 0 0)).set 2 (.slice none 0 0)
        simp only [List.set] at bF
        have hwF : Within w.heap.size (w.heap.size + 1) w9 _ := ((within_set w9 w.heap.size 0 (.int .i64 0) (by omega)).trans (within_set _ w.heap.size 1 (.slice none 0 0) (by omega))).trans (within_set _ w.heap.size 2 (.slice none 0 0) (by omega))
        have HF : Hid (_ ∧ _ ∧ _ ∧ _) := ⟨bF.cell 0 _ rfl, bF.cell 1 _ rfl, bF.cell 2 _ rfl, hwF⟩
        clear bF hwF
        go_wp2
        obtain ⟨q0, q1, q2, hwF⟩ := HF.out
        generalize ((w9.setCell ⟨w.heap.size, 0, none⟩ (.int .i64 0)).setCell ⟨w.heap.size, 1, none⟩ (.slice none 0 0)).setCell ⟨w.heap.size, 2, none⟩ (.slice none 0 0) = WF at *
        refine bodyPost_ret (v := .tuple #[.agg #[.int .i64 0, .slice none 0 0, .slice none 0 0], .bool false]) (by simp [results, Tryd.results6, go_sem, q0, q1, q2]) rfl ⟨none, 0, none, 0, noO, false, rfl, HP.out, ⟨ownI_nil _ _ _ (Nat.le_refl _), ownI_nil _ _ _ (Nat.le_refl _), fun k hk => by cases hk⟩, (B9).trans (hwF.below (Nat.le_refl _) (by have := (B9).size; omega))⟩
      | true =>
        have HP : Hid (_ = _) := HD2.out rfl
        have m0 := bO9.cell 0 _ rfl
        have m1 := bO9.cell 1 _ rfl
        have m2 := bO9.cell 2 _ rfl
        have g0 := (bR9).cell 0 _ rfl
        have g1 := (bR9).cell 1 _ rfl
        have g2 := (bR9).cell 2 _ rfl
        have e0 := (bR9).frozen 0
        have e1 := (bR9).frozen 1
        have e2 := (bR9).frozen 2
        have bF := (((bR9).set 0 (.int .i64 k)).set 1 (.slice aI L1.length cI)).set 2 (.slice aR L2.length cR)
        simp only [List.set] at bF
        have hwF : Within w.heap.size (w.heap.size + 1) w9 _ := ((within_set w9 w.heap.size 0 (.int .i64 k) (by omega)).trans (within_set _ w.heap.size 1 (.slice aI L1.length cI) (by omega))).trans (within_set _ w.heap.size 2 (.slice aR L2.length cR) (by omega))
        have HF : Hid (_ ∧ _ ∧ _ ∧ _) := ⟨bF.cell 0 _ rfl, bF.cell 1 _ rfl, bF.cell 2 _ rfl, hwF⟩
        clear bF hwF
        go_wp2
        obtain ⟨q0, q1, q2, hwF⟩ := HF.out
        generalize ((w9.setCell ⟨w.heap.size, 0, none⟩ (.int .i64 k)).setCell ⟨w.heap.size, 1, none⟩ (.slice aI L1.length cI)).setCell ⟨w.heap.size, 2, none⟩ (.slice aR L2.length cR) = WF at *
        have hsF := hwF.size
        refine bodyPost_ret (v := .tuple #[.agg #[.int .i64 k, .slice aI L1.length cI, .slice aR L2.length cR], .bool true]) (by simp [results, Tryd.results6, go_sem, q0, q1, q2]) rfl ⟨aI, cI, aR, cR, ⟨k, L1, L2⟩, true, rfl, HP.out, ⟨(ho49.within hwF (.inr (by omega))).widen (by omega) (by omega) (Nat.le_refl _), (ho59.within hwF (.inr (by omega))).widen (by omega) (by omega) (Nat.le_refl _), fun j hj hj' => by have := (ho46.lt j hj).2; have := (ho56.lt j hj').1; omega⟩, B9.trans (hwF.below (Nat.le_refl _) (by have := B9.size; omega))⟩
end Go.Proofs.YtdibmepjbabnnacDoor
