/- Several texts in one, in their order. -/
import Derived.Test.YtbpdocjkhmiimabGreatDoorPReadLogx36
import Derived.Test.YtbpdocjkhmiimabGreatDoorPReadLogx19
import Derived.Test.YtbpdocjkhmiimabGreatDoorPReadLogx22
import Derived.Test.YtbpdocjkhmiimabGreatDoorPReadLogx21
import Derived.Test.YtbpdocjkhmiimabGreatDoorPReadLogx30
import Derived.Test.YtbpdocjkhmiimabGreatDoorPReadLogx31
import Derived.Deep.CutRange
/- The walk of spec.GetRec. -/
namespace Go.Proofs.YtbpdocjkhmiimabGreatDoor
open Go.RowKit

theorem livesOf_stop (zs : List Int) (m : Nat) (l : List LiveV) (s : Int × Bool) (h : s.2 = true) : livesOf zs m l s = (l, s) := by
  cases m with
  | zero => rfl
  | succ m => rw [livesOf, if_pos h]
theorem livesOf_step (zs : List Int) (m : Nat) (l : List LiveV) (s : Int × Bool) (h : s.2 = false) : livesOf zs (m + 1) l s = livesOf zs m (l ++ [(liveNext zs s).1]) (liveNext zs s).2 := by rw [livesOf, if_neg (by rw [h]; decide)]
set_option maxHeartbeats 8000000 in
set_option maxRecDepth 100000 in
theorem specGetRec_any (a : Option Addr) (c : Nat) (zs : List Int) (w : World) (hr : Reads w a zs) (hl : zs.length ≤ 1099511627776) (hcap : zs.length ≤ c) :
    Calls Tryz.prog 37 #[.slice a zs.length c] w fun e w' => GotR w w' zs e := by
  have HBR : Hid (zs ≠ [] → ∀ b off, a = some ⟨b, off, none⟩ → b ≠ (w.heap.size + 1)) := by
    intro hne b off ha
    obtain ⟨b', off', ha', hc⟩ := hr.2 hne
    rw [ha] at ha'
    cases ha'
    have := block_lt (hc 0 (List.length_pos_iff.2 hne))
    omega
  have HE1 : Hid ((sL zs).2.2 = true → pairR zs = (noR, false)) := fun h => pairR_bad h
  have HE2 : Hid (okR (recR zs) = false → pairR zs = (noR, false)) := fun h => pairR_no h
  have HE3 : Hid (putRecOf (recR zs) ≠ zs → pairR zs = (noR, false)) := fun h => pairR_ne h
  have HE4 : Hid ((sL zs).2.2 = false → okR (recR zs) = true → putRecOf (recR zs) = zs → pairR zs = (recR zs, true)) := fun h h1 h2 => pairR_yes h h1 h2
  have HPL : Hid ((putRecOf (recR zs)).length ≤ 100000) := putRec_len _
  obtain ⟨W, hW, bR, rd, bX, hbW, hsW⟩ := boxes3 w [.int .i64 0, .int .i64 0, .int .i64 0, .int .i64 0, .int .i64 0, .bool false, .int .i64 0, .slice none 0 0, .slice none 0 0, .bool false, .int .i64 0, .slice none 0 0, .slice none 0 0, .int .i64 0, .slice none 0 0] [.slice a zs.length c, .int .i64 0, .bool false] [.int .i64 0, .int .i64 0, .int .i64 0, .int .i64 0, .int .i64 0, .bool false, .int .i64 0, .slice none 0 0, .slice none 0 0, .bool false, .int .i64 0, .slice none 0 0, .slice none 0 0, .int .i64 0, .slice none 0 0] 59 95 59
  replace rd : RdAt W (w.heap.size + 1) a c zs (stR zs 0) := rd
  have BW : Below w.heap.size w W := hbW
  have hW3 : w.heap.size + 1 + 1 < W.heap.size := by omega
  clear hsW hbW
  go_enter Tryz.func37, Tryz.ntmps37
  go_wp2_with fail
  rw [hW.out]
  clear hW
  refine (show Calls Tryz.prog 63 #[.pointer (some ⟨(w.heap.size + 1), 0, none⟩)] W (fun e w' => (e = .returned (.int .i64 (valR zs 0)) ∧ RdAt w' (w.heap.size + 1) a c zs (stR zs 1)) ∧ Within (w.heap.size + 1) ((w.heap.size + 1) + 1) W w') from l2Next_any (w.heap.size + 1) a c zs (stR zs 0) W rd (hr.below BW) (by omega)).mono ?_
  clear rd
  rintro e p0 ⟨⟨rfl, rd⟩, hwp0⟩
  have sp0 := hwp0.size
  replace bR := bR.within hwp0 (by omega)
  replace bX := bX.within hwp0 (by omega)
  replace BW := BW.trans (hwp0.below (by omega) BW.size)
  have x0 := bX.cell 0 _ rfl
  have f0 := bX.frozen 0
  obtain ⟨q0, hq0, bX', hwq0, hsq0⟩ := box_set bX 0 (.int .i64 (valR zs 0))
  have e1q0 := Nat.le_of_eq hsq0
  have e2q0 := Nat.le_of_eq hsq0.symm
  clear hsq0
  simp only [List.set] at bX'
  replace rd := Box.within rd hwq0 (by omega)
  replace rd : RdAt q0 (w.heap.size + 1) a c zs (stR zs 1) := rd
  replace bR := bR.within hwq0 (by omega)
  replace BW := BW.trans (hwq0.below (by omega) BW.size)
  clear bX hwp0 hwq0
  have bX := bX'
  clear bX'
  go_wp2_with fail
  rw [hq0.out]
  clear hq0 x0 f0
  refine (show Calls Tryz.prog 63 #[.pointer (some ⟨(w.heap.size + 1), 0, none⟩)] q0 (fun e w' => (e = .returned (.int .i64 (valR zs 1)) ∧ RdAt w' (w.heap.size + 1) a c zs (stR zs 2)) ∧ Within (w.heap.size + 1) ((w.heap.size + 1) + 1) q0 w') from l2Next_any (w.heap.size + 1) a c zs (stR zs 1) q0 rd (hr.below BW) (by omega)).mono ?_
  clear rd
  rintro e p1 ⟨⟨rfl, rd⟩, hwp1⟩
  have sp1 := hwp1.size
  replace bR := bR.within hwp1 (by omega)
  replace bX := bX.within hwp1 (by omega)
  replace BW := BW.trans (hwp1.below (by omega) BW.size)
  have x1 := bX.cell 1 _ rfl
  have f1 := bX.frozen 1
  obtain ⟨q1, hq1, bX', hwq1, hsq1⟩ := box_set bX 1 (.int .i64 (valR zs 1))
  have e1q1 := Nat.le_of_eq hsq1
  have e2q1 := Nat.le_of_eq hsq1.symm
  clear hsq1
  simp only [List.set] at bX'
  replace rd := Box.within rd hwq1 (by omega)
  replace rd : RdAt q1 (w.heap.size + 1) a c zs (stR zs 2) := rd
  replace bR := bR.within hwq1 (by omega)
  replace BW := BW.trans (hwq1.below (by omega) BW.size)
  clear bX hwp1 hwq1
  have bX := bX'
  clear bX'
  go_wp2_with fail
  rw [hq1.out]
  clear hq1 x1 f1
  refine (show Calls Tryz.prog 63 #[.pointer (some ⟨(w.heap.size + 1), 0, none⟩)] q1 (fun e w' => (e = .returned (.int .i64 (valR zs 2)) ∧ RdAt w' (w.heap.size + 1) a c zs (stR zs 3)) ∧ Within (w.heap.size + 1) ((w.heap.size + 1) + 1) q1 w') from l2Next_any (w.heap.size + 1) a c zs (stR zs 2) q1 rd (hr.below BW) (by omega)).mono ?_
  clear rd
  rintro e p2 ⟨⟨rfl, rd⟩, hwp2⟩
  have sp2 := hwp2.size
  replace bR := bR.within hwp2 (by omega)
  replace bX := bX.within hwp2 (by omega)
  replace BW := BW.trans (hwp2.below (by omega) BW.size)
  have x2 := bX.cell 2 _ rfl
  have f2 := bX.frozen 2
  obtain ⟨q2, hq2, bX', hwq2, hsq2⟩ := box_set bX 2 (.int .i64 (valR zs 2))
  have e1q2 := Nat.le_of_eq hsq2
  have e2q2 := Nat.le_of_eq hsq2.symm
  clear hsq2
  simp only [List.set] at bX'
  replace rd := Box.within rd hwq2 (by omega)
  replace rd : RdAt q2 (w.heap.size + 1) a c zs (stR zs 3) := rd
  replace bR := bR.within hwq2 (by omega)
  replace BW := BW.trans (hwq2.below (by omega) BW.size)
  clear bX hwp2 hwq2
  have bX := bX'
  clear bX'
  go_wp2_with fail
  rw [hq2.out]
  clear hq2 x2 f2
  refine (show Calls Tryz.prog 63 #[.pointer (some ⟨(w.heap.size + 1), 0, none⟩)] q2 (fun e w' => (e = .returned (.int .i64 (valR zs 3)) ∧ RdAt w' (w.heap.size + 1) a c zs (stR zs 4)) ∧ Within (w.heap.size + 1) ((w.heap.size + 1) + 1) q2 w') from l2Next_any (w.heap.size + 1) a c zs (stR zs 3) q2 rd (hr.below BW) (by omega)).mono ?_
  clear rd
  rintro e p3 ⟨⟨rfl, rd⟩, hwp3⟩
  have sp3 := hwp3.size
  replace bR := bR.within hwp3 (by omega)
  replace bX := bX.within hwp3 (by omega)
  replace BW := BW.trans (hwp3.below (by omega) BW.size)
  have x3 := bX.cell 3 _ rfl
  have f3 := bX.frozen 3
  obtain ⟨q3, hq3, bX', hwq3, hsq3⟩ := box_set bX 3 (.int .i64 (valR zs 3))
  have e1q3 := Nat.le_of_eq hsq3
  have e2q3 := Nat.le_of_eq hsq3.symm
  clear hsq3
  simp only [List.set] at bX'
  replace rd := Box.within rd hwq3 (by omega)
  replace rd : RdAt q3 (w.heap.size + 1) a c zs (stR zs 4) := rd
  replace bR := bR.within hwq3 (by omega)
  replace BW := BW.trans (hwq3.below (by omega) BW.size)
  clear bX hwp3 hwq3
  have bX := bX'
  clear bX'
  go_wp2_with fail
  rw [hq3.out]
  clear hq3 x3 f3
  refine (show Calls Tryz.prog 63 #[.pointer (some ⟨(w.heap.size + 1), 0, none⟩)] q3 (fun e w' => (e = .returned (.int .i64 (valR zs 4)) ∧ RdAt w' (w.heap.size + 1) a c zs (stR zs 5)) ∧ Within (w.heap.size + 1) ((w.heap.size + 1) + 1) q3 w') from l2Next_any (w.heap.size + 1) a c zs (stR zs 4) q3 rd (hr.below BW) (by omega)).mono ?_
  clear rd
  rintro e p4 ⟨⟨rfl, rd⟩, hwp4⟩
  have sp4 := hwp4.size
  replace bR := bR.within hwp4 (by omega)
  replace bX := bX.within hwp4 (by omega)
  replace BW := BW.trans (hwp4.below (by omega) BW.size)
  have x4 := bX.cell 4 _ rfl
  have f4 := bX.frozen 4
  obtain ⟨q4, hq4, bX', hwq4, hsq4⟩ := box_set bX 4 (.int .i64 (valR zs 4))
  have e1q4 := Nat.le_of_eq hsq4
  have e2q4 := Nat.le_of_eq hsq4.symm
  clear hsq4
  simp only [List.set] at bX'
  replace rd := Box.within rd hwq4 (by omega)
  replace rd : RdAt q4 (w.heap.size + 1) a c zs (stR zs 5) := rd
  replace bR := bR.within hwq4 (by omega)
  replace BW := BW.trans (hwq4.below (by omega) BW.size)
  clear bX hwp4 hwq4
  have bX := bX'
  clear bX'
  go_wp2_with fail
  rw [hq4.out]
  clear hq4 x4 f4
  refine (show Calls Tryz.prog 63 #[.pointer (some ⟨(w.heap.size + 1), 0, none⟩)] q4 (fun e w' => (e = .returned (.int .i64 (valR zs 5)) ∧ RdAt w' (w.heap.size + 1) a c zs (stR zs 6)) ∧ Within (w.heap.size + 1) ((w.heap.size + 1) + 1) q4 w') from l2Next_any (w.heap.size + 1) a c zs (stR zs 5) q4 rd (hr.below BW) (by omega)).mono ?_
  clear rd
  rintro e p5 ⟨⟨rfl, rd⟩, hwp5⟩
  have sp5 := hwp5.size
  replace bR := bR.within hwp5 (by omega)
  replace bX := bX.within hwp5 (by omega)
  replace BW := BW.trans (hwp5.below (by omega) BW.size)
  have x13 := bX.cell 13 _ rfl
  have f13 := bX.frozen 13
  obtain ⟨q5, hq5, bX', hwq5, hsq5⟩ := box_set bX 13 (.int .i64 (valR zs 5))
  have e1q5 := Nat.le_of_eq hsq5
  have e2q5 := Nat.le_of_eq hsq5.symm
  clear hsq5
  simp only [List.set] at bX'
  replace rd := Box.within rd hwq5 (by omega)
  replace rd : RdAt q5 (w.heap.size + 1) a c zs (stR zs 6) := rd
  replace bR := bR.within hwq5 (by omega)
  replace BW := BW.trans (hwq5.below (by omega) BW.size)
  clear bX hwp5 hwq5
  have bX := bX'
  clear bX'
  go_wp2_with fail
  rw [hq5.out]
  clear hq5 x13 f13
  refine (show Calls Tryz.prog 64 #[.pointer (some ⟨(w.heap.size + 1), 0, none⟩)] q5 (fun e w' => ∃ t : SlotA, e = .returned (.agg t.cells.toArray) ∧ Hid (t.v = (sB zs).1) ∧ t.own w' q5.heap.size w'.heap.size ∧ RdAt w' (w.heap.size + 1) a c zs (sB zs).2 ∧ Within (w.heap.size + 1) ((w.heap.size + 1) + 1) q5 w') from l3NextSlot_any (w.heap.size + 1) a c zs (stR zs 6) q5 rd (hr.below BW) hl hcap HBR.out).mono ?_
  clear rd
  rintro e sp1 ⟨t1, rfl, hvt1, ot1, rd, hwsp1⟩
  have ssp1 := hwsp1.size
  replace bR := bR.within hwsp1 (by omega)
  replace bX := bX.within hwsp1 (by omega)
  replace BW := BW.trans (hwsp1.below (by omega) BW.size)
  have x5 := bX.cell 5 _ rfl
  have f5 := bX.frozen 5
  have x6 := bX.cell 6 _ rfl
  have f6 := bX.frozen 6
  have x7 := bX.cell 7 _ rfl
  have f7 := bX.frozen 7
  have x8 := bX.cell 8 _ rfl
  have f8 := bX.frozen 8
  obtain ⟨sq1, hsq1, bX', hwsq1, hssq1⟩ := box_quad bX 5 6 7 8 (.bool t1.v.has) (.int .i64 t1.v.o.kind) (.slice t1.aI t1.v.o.ints.length t1.cI) (.slice t1.aR t1.v.o.refs.length t1.cR)
  have e1sq1 := Nat.le_of_eq hssq1
  have e2sq1 := Nat.le_of_eq hssq1.symm
  clear hssq1
  simp only [List.set] at bX'
  replace rd := Box.within rd hwsq1 (by omega)
  replace rd : RdAt sq1 (w.heap.size + 1) a c zs (sB zs).2 := rd
  replace bR := bR.within hwsq1 (by omega)
  replace ot1 : t1.own sq1 q5.heap.size sp1.heap.size := OwnO.within ot1 hwsq1 (by omega)
  have h_dummy := True.intro
  replace BW := BW.trans (hwsq1.below (by omega) BW.size)
  clear bX hwsp1 hwsq1
  have bX := bX'
  clear bX'
  simp only [SlotA.cells]
  go_wp2_with fail
  rw [hsq1.out]
  clear hsq1 x5 f5 x6 f6 x7 f7 x8 f8
  refine (show Calls Tryz.prog 64 #[.pointer (some ⟨(w.heap.size + 1), 0, none⟩)] sq1 (fun e w' => ∃ t : SlotA, e = .returned (.agg t.cells.toArray) ∧ Hid (t.v = (sA zs).1) ∧ t.own w' sq1.heap.size w'.heap.size ∧ RdAt w' (w.heap.size + 1) a c zs (sA zs).2 ∧ Within (w.heap.size + 1) ((w.heap.size + 1) + 1) sq1 w') from l3NextSlot_any (w.heap.size + 1) a c zs (sB zs).2 sq1 rd (hr.below BW) hl hcap HBR.out).mono ?_
  clear rd
  rintro e sp2 ⟨t2, rfl, hvt2, ot2, rd, hwsp2⟩
  have ssp2 := hwsp2.size
  replace bR := bR.within hwsp2 (by omega)
  replace bX := bX.within hwsp2 (by omega)
  replace BW := BW.trans (hwsp2.below (by omega) BW.size)
  replace ot1 := OwnO.within ot1 hwsp2 (by omega)
  have x9 := bX.cell 9 _ rfl
  have f9 := bX.frozen 9
  have x10 := bX.cell 10 _ rfl
  have f10 := bX.frozen 10
  have x11 := bX.cell 11 _ rfl
  have f11 := bX.frozen 11
  have x12 := bX.cell 12 _ rfl
  have f12 := bX.frozen 12
  obtain ⟨sq2, hsq2, bX', hwsq2, hssq2⟩ := box_quad bX 9 10 11 12 (.bool t2.v.has) (.int .i64 t2.v.o.kind) (.slice t2.aI t2.v.o.ints.length t2.cI) (.slice t2.aR t2.v.o.refs.length t2.cR)
  have e1sq2 := Nat.le_of_eq hssq2
  have e2sq2 := Nat.le_of_eq hssq2.symm
  clear hssq2
  simp only [List.set] at bX'
  replace rd := Box.within rd hwsq2 (by omega)
  replace rd : RdAt sq2 (w.heap.size + 1) a c zs (sA zs).2 := rd
  replace bR := bR.within hwsq2 (by omega)
  replace ot2 : t2.own sq2 sq1.heap.size sp2.heap.size := OwnO.within ot2 hwsq2 (by omega)
  replace ot1 := OwnO.within ot1 hwsq2 (by omega)
  replace BW := BW.trans (hwsq2.below (by omega) BW.size)
  clear bX hwsp2 hwsq2
  have bX := bX'
  clear bX'
  simp only [SlotA.cells]
  go_wp2_with fail
  rw [hsq2.out]
  clear hsq2 x9 f9 x10 f10 x11 f11 x12 f12
  refine (show Calls Tryz.prog 63 #[.pointer (some ⟨(w.heap.size + 1), 0, none⟩)] sq2 (fun e w' => (e = .returned (.int .i64 (sN zs).1) ∧ RdAt w' (w.heap.size + 1) a c zs (sN zs).2) ∧ Within (w.heap.size + 1) ((w.heap.size + 1) + 1) sq2 w') from l2Next_any (w.heap.size + 1) a c zs (sA zs).2 sq2 rd (hr.below BW) (by omega)).mono ?_
  clear rd
  rintro e W0 ⟨⟨rfl, rd⟩, hw0⟩
  have s0 := hw0.size
  replace bR := bR.within hw0 (by omega)
  replace bX := bX.within hw0 (by omega)
  replace BW := BW.trans (hw0.below (by omega) BW.size)
  replace ot1 := OwnO.within ot1 hw0 (by omega)
  replace ot2 := OwnO.within ot2 hw0 (by omega)
  have HSL : Hid (sL zs = livesOf zs (min (sN zs).1.toNat 30) [] (sN zs).2) := rfl
  clear hw0
  generalize hn : (sN zs).1 = n at *
  generalize (sN zs).2 = st0 at *
  clear hn
  go_wp2_with fail
  go_loopw [7] (fun i wr => ∃ (k : Nat) (ls : List LiveV) (aL : Option Addr) (cL : Nat) (st : Int × Bool), i = .int .i64 k ∧ k ≤ min n.toNat 30 ∧ Hid (ls.length = k ∧ sL zs = livesOf zs (min n.toNat 30 - k) ls st) ∧ OwnL wr W0.heap.size wr.heap.size aL cL ls ∧ t1.own wr q5.heap.size sp1.heap.size ∧ t2.own wr sq1.heap.size sp2.heap.size ∧ Box wr (w.heap.size + 1 + 1) [.int .i64 (valR zs 0), .int .i64 (valR zs 1), .int .i64 (valR zs 2), .int .i64 (valR zs 3), .int .i64 (valR zs 4), .bool t1.v.has, .int .i64 t1.v.o.kind, .slice t1.aI t1.v.o.ints.length t1.cI, .slice t1.aR t1.v.o.refs.length t1.cR, .bool t2.v.has, .int .i64 t2.v.o.kind, .slice t2.aI t2.v.o.ints.length t2.cI, .slice t2.aR t2.v.o.refs.length t2.cR, .int .i64 (valR zs 5), .slice aL ls.length cL] 59 ∧ Box wr w.heap.size [.int .i64 0, .int .i64 0, .int .i64 0, .int .i64 0, .int .i64 0, .bool false, .int .i64 0, .slice none 0 0, .slice none 0 0, .bool false, .int .i64 0, .slice none 0 0, .slice none 0 0, .int .i64 0, .slice none 0 0] 59 ∧ RdAt wr (w.heap.size + 1) a c zs st ∧ W0.heap.size ≤ wr.heap.size ∧ Below w.heap.size w wr)
    (fun i _ => min n.toNat 30 - (intOf i).toNat)
  case atStart => exact ⟨0, [], none, 0, st0, rfl, Nat.zero_le _, ⟨rfl, HSL.out⟩, ownL_nil _ _ _ (Nat.le_refl _), ot1, ot2, bX, bR, rd, Nat.le_refl _, BW⟩
  case round =>
    obtain ⟨k, ls, aL, cL, st, rfl, hk, hls, oL, q1, q2, bXr, bRr, rdr, hsr, Br⟩ := hrel
    clear bX bR rd ot1 ot2 BW
    obtain ⟨pos, bad⟩ := st
    unfold RdAt at rdr
    simp only at rdr
    have y2 := rdr.cell 2 _ rfl
    have hknn : (0 : Int) ≤ (k : Int) := by omega
    by_cases hgo : k < min n.toNat 30 ∧ bad = false
    case pos =>
      obtain ⟨hlt, rfl⟩ := hgo
      have c1 : (k : Int) < n := by omega
      have c2 : (k : Int) < 30 := by omega
      have HK1 : Hid (min n.toNat 30 - k = (min n.toNat 30 - (k + 1)) + 1) := by rw [Hid]; omega
      have HST : Hid (sL zs = livesOf zs (min n.toNat 30 - (k + 1)) (ls ++ [(liveNext zs (pos, false)).1]) (liveNext zs (pos, false)).2) := by rw [Hid, hls.out.2, HK1.out]; exact livesOf_step zs _ ls (pos, false) rfl
      have HLN : Hid (liveNext zs (pos, false) = (⟨(nextOf zs (pos, false)).1, (nextOf zs (nextOf zs (pos, false)).2).1, (nextOf zs (nextOf zs (nextOf zs (pos, false)).2).2).1 == 1⟩, (nextOf zs (nextOf zs (nextOf zs (pos, false)).2).2).2)) := rfl
      obtain ⟨V, hV, bLv, hbV, _⟩ := boxes1 wr [.int .i64 0, .int .i64 0, .bool false] 87
      have hzV := hbV.size
      have hlV := bLv.lt
      replace rdr : RdAt V (w.heap.size + 1) a c zs (pos, false) := Box.below rdr hbV (Box.lt rdr)
      replace oL := oL.below hbV
      replace q1 := OwnO.below q1 hbV
      replace q2 := OwnO.below q2 hbV
      replace bXr := bXr.below hbV bXr.lt
      replace bRr := bRr.below hbV bRr.lt
      replace Br := Br.trans (hbV.mono Br.size)
      clear hbV
      go_wp2_with fail
      rw [hV.out]
      clear hV y2
      refine (l2Next_any (w.heap.size + 1) a c zs (pos, false) V rdr (hr.below Br) (by omega)).mono ?_
      clear rdr
      generalize hY0 : nextOf zs (pos, false) = Y0 at *
      rintro e r0 ⟨⟨rfl, rdr⟩, hwr0⟩
      obtain ⟨vv0, ss0⟩ := Y0
      simp only at rdr ⊢
      have sr0 := hwr0.size
      replace bLv := bLv.within hwr0 (by omega)
      replace oL := oL.within hwr0 (by omega)
      replace q1 := OwnO.within q1 hwr0 (by omega)
      replace q2 := OwnO.within q2 hwr0 (by omega)
      replace bXr := bXr.within hwr0 (by omega)
      replace bRr := bRr.within hwr0 (by omega)
      replace Br := Br.trans (hwr0.below (by omega) Br.size)
      have x := bLv.cell 0 _ rfl
      have f := bLv.frozen 0
      obtain ⟨u0, hu0, bLv', hwu0, hsu0⟩ := box_set bLv 0 (.int .i64 vv0)
      have e1u0 := Nat.le_of_eq hsu0
      have e2u0 := Nat.le_of_eq hsu0.symm
      clear hsu0
      simp only [List.set] at bLv'
      replace rdr : RdAt u0 (w.heap.size + 1) a c zs ss0 := Box.within rdr hwu0 (by have := Box.lt rdr; omega)
      replace oL := oL.within hwu0 (by omega)
      replace q1 := OwnO.within q1 hwu0 (by omega)
      replace q2 := OwnO.within q2 hwu0 (by omega)
      replace bXr := bXr.within hwu0 (by have := bXr.lt; omega)
      replace bRr := bRr.within hwu0 (by have := bRr.lt; omega)
      replace Br := Br.trans (hwu0.below (by omega) Br.size)
      clear bLv hwr0 hwu0
      have bLv := bLv'
      clear bLv'
      go_wp2_with fail
      rw [hu0.out]
      clear hu0 x f
      refine (l2Next_any (w.heap.size + 1) a c zs ss0 u0 rdr (hr.below Br) (by omega)).mono ?_
      clear rdr
      generalize hY1 : nextOf zs ss0 = Y1 at *
      rintro e r1 ⟨⟨rfl, rdr⟩, hwr1⟩
      obtain ⟨vv1, ss1⟩ := Y1
      simp only at rdr ⊢
      have sr1 := hwr1.size
      replace bLv := bLv.within hwr1 (by omega)
      replace oL := oL.within hwr1 (by omega)
      replace q1 := OwnO.within q1 hwr1 (by omega)
      replace q2 := OwnO.within q2 hwr1 (by omega)
      replace bXr := bXr.within hwr1 (by omega)
      replace bRr := bRr.within hwr1 (by omega)
      replace Br := Br.trans (hwr1.below (by omega) Br.size)
      have x := bLv.cell 1 _ rfl
      have f := bLv.frozen 1
      obtain ⟨u1, hu1, bLv', hwu1, hsu1⟩ := box_set bLv 1 (.int .i64 vv1)
      have e1u1 := Nat.le_of_eq hsu1
      have e2u1 := Nat.le_of_eq hsu1.symm
      clear hsu1
      simp only [List.set] at bLv'
      replace rdr : RdAt u1 (w.heap.size + 1) a c zs ss1 := Box.within rdr hwu1 (by have := Box.lt rdr; omega)
      replace oL := oL.within hwu1 (by omega)
      replace q1 := OwnO.within q1 hwu1 (by omega)
      replace q2 := OwnO.within q2 hwu1 (by omega)
      replace bXr := bXr.within hwu1 (by have := bXr.lt; omega)
      replace bRr := bRr.within hwu1 (by have := bRr.lt; omega)
      replace Br := Br.trans (hwu1.below (by omega) Br.size)
      clear bLv hwr1 hwu1
      have bLv := bLv'
      clear bLv'
      go_wp2_with fail
      rw [hu1.out]
      clear hu1 x f
      refine (l2Next_any (w.heap.size + 1) a c zs ss1 u1 rdr (hr.below Br) (by omega)).mono ?_
      clear rdr
      generalize hY2 : nextOf zs ss1 = Y2 at *
      rintro e r2 ⟨⟨rfl, rdr⟩, hwr2⟩
      obtain ⟨vv2, ss2⟩ := Y2
      simp only at rdr ⊢
      have sr2 := hwr2.size
      replace bLv := bLv.within hwr2 (by omega)
      replace oL := oL.within hwr2 (by omega)
      replace q1 := OwnO.within q1 hwr2 (by omega)
      replace q2 := OwnO.within q2 hwr2 (by omega)
      replace bXr := bXr.within hwr2 (by omega)
      replace bRr := bRr.within hwr2 (by omega)
      replace Br := Br.trans (hwr2.below (by omega) Br.size)
      have x := bLv.cell 2 _ rfl
      have f := bLv.frozen 2
      obtain ⟨u2, hu2, bLv', hwu2, hsu2⟩ := box_set bLv 2 (.bool (vv2 == 1))
      have e1u2 := Nat.le_of_eq hsu2
      have e2u2 := Nat.le_of_eq hsu2.symm
      clear hsu2
      simp only [List.set] at bLv'
      replace rdr : RdAt u2 (w.heap.size + 1) a c zs ss2 := Box.within rdr hwu2 (by have := Box.lt rdr; omega)
      replace oL := oL.within hwu2 (by omega)
      replace q1 := OwnO.within q1 hwu2 (by omega)
      replace q2 := OwnO.within q2 hwu2 (by omega)
      replace bXr := bXr.within hwu2 (by have := bXr.lt; omega)
      replace bRr := bRr.within hwu2 (by have := bRr.lt; omega)
      replace Br := Br.trans (hwu2.below (by omega) Br.size)
      clear bLv hwr2 hwu2
      have bLv := bLv'
      clear bLv'
      generalize hzz : (⟨vv0, vv1, vv2 == 1⟩ : LiveV) = z at *
      have HZ : Hid (z = ⟨vv0, vv1, vv2 == 1⟩) := hzz.symm
      have HNX : Hid (liveNext zs (pos, false) = (z, ss2)) := HLN.out.trans rfl
      rw [HNX.out] at HST
      simp only at HST
      clear hzz HLN HNX hY0 hY1 hY2
      go_upto_region 19 with fail
      rw [hu2.out]
      clear hu2 x f
      have y14 := bXr.cell 14 _ rfl
      obtain ⟨l0, l1, l2, _⟩ := bLv.three
      have hrz := readsL_one u2 z 87
      rw [HZ.out] at hrz
      simp only at hrz
      have oLA := oL.below ((Below.refl _ _).alloc (Nat.le_refl u2.heap.size) (.cells #[.int .i64 vv0, .int .i64 vv1, .bool (vv2 == 1)] 87))
      have hA1 : ls.length + ([⟨vv0, vv1, vv2 == 1⟩] : List LiveV).length ≤ 1099511627776 := by simp only [List.length_cons, List.length_nil]; have := hls.out.1; omega
      have hA2 : W0.heap.size ≤ (u2.alloc (.cells #[.int .i64 vv0, .int .i64 vv1, .bool (vv2 == 1)] 87)).heap.size := by rw [World.size_alloc]; omega
      go_wp2_with (at_builtin; refine append_lives rfl _ _ rfl W0.heap.size _ aL cL ls rfl oLA (some ⟨u2.heap.size, 0, none⟩) 1 [⟨vv0, vv1, vv2 == 1⟩] rfl hrz (fun h => by cases h) hA1 hA2 ?_)
      intro a9 c9 ys w9 hys o9 g9

      have hw9 : Within W0.heap.size wr.heap.size (u2.alloc (.cells #[.int .i64 vv0, .int .i64 vv1, .bool (vv2 == 1)] 87)) w9 := Within.of_grown g9 (fun j hj => oLA.lt j hj)
      have hbA : Below u2.heap.size u2 (u2.alloc (.cells #[.int .i64 vv0, .int .i64 vv1, .bool (vv2 == 1)] 87)) := (Below.refl _ _).alloc (Nat.le_refl _) _
      have sA : u2.heap.size ≤ (u2.alloc (.cells #[.int .i64 vv0, .int .i64 vv1, .bool (vv2 == 1)] 87)).heap.size := hbA.size
      have s9 := hw9.size
      replace rdr : RdAt w9 (w.heap.size + 1) a c zs ss2 := Box.within (Box.below rdr hbA (Box.lt rdr)) hw9 (by have := Box.lt rdr; omega)
      replace q1 := OwnO.within (OwnO.below q1 hbA) hw9 (by omega)
      replace q2 := OwnO.within (OwnO.below q2 hbA) hw9 (by omega)
      replace bXr := (bXr.below hbA bXr.lt).within hw9 (by omega)
      replace bRr := (bRr.below hbA bRr.lt).within hw9 (by omega)
      replace Br := (Br.trans (hbA.mono Br.size)).trans (hw9.below (by have := Br.size; omega) (by have := Br.size; omega))
      clear oLA hw9 hbA g9 hrz bLv l0 l1 l2 y14 oL hA1 hA2
      have y14 := bXr.cell 14 _ rfl
      have f14 := bXr.frozen 14
      obtain ⟨V2, hV2, bX2, hw2, hs2⟩ := box_set bXr 14 (.slice a9 ys.length c9)
      simp only [List.set] at bX2
      replace rdr : RdAt V2 (w.heap.size + 1) a c zs ss2 := Box.within rdr hw2 (by omega)
      replace o9 : OwnL V2 W0.heap.size V2.heap.size a9 c9 ys := (o9.within hw2 (by omega)).widen (Nat.le_refl _) (by omega) (Nat.le_refl _)
      replace q1 := OwnO.within q1 hw2 (by omega)
      replace q2 := OwnO.within q2 hw2 (by omega)
      replace bRr := bRr.within hw2 (by omega)
      replace Br := Br.trans (hw2.below (by omega) Br.size)
      have HFIN : Hid (ys.length = k + 1 ∧ sL zs = livesOf zs (min n.toNat 30 - (k + 1)) ys ss2) := by
        have hyz : ys = ls ++ [z] := by rw [hys.out, HZ.out]
        exact ⟨by rw [hyz]; simp [hls.out.1], by rw [HST.out, hyz]⟩
      have hsz : W0.heap.size ≤ V2.heap.size := by omega
      clear hw2 bXr hs2
      go_wp2_with fail
      rw [hV2.out]
      go_roundw
      case rel => exact ⟨k + 1, ys, a9, c9, ss2, by go_num, by omega, HFIN, o9, q1, q2, bX2, bRr, rdr, hsz, Br⟩
      case measure => simp [intOf]; omega
    case neg =>
      have HSLE : Hid (sL zs = (ls, (pos, bad))) := by
        rw [Hid, hls.out.2]
        by_cases hb : bad = true
        · exact livesOf_stop zs _ ls _ hb
        · have hbf : bad = false := by simpa using hb
          have hk' : min n.toNat 30 - k = 0 := by
            have : ¬ k < min n.toNat 30 := fun h => hgo ⟨h, hbf⟩
            omega
          rw [hk']; rfl
      have h30 : ls.length ≤ 30 := by have := hls.out.1; omega
      let TT : RecA := ⟨valR zs 0, valR zs 1, valR zs 2, valR zs 3, valR zs 4, t1, t2, valR zs 5, ls, aL, cL⟩
      have bT : Box wr (w.heap.size + 1 + 1) TT.cells 59 := bXr
      have HTV : Hid (TT.v = recR zs) := by
        have h1 := hvt1.out
        have h2 := hvt2.out
        simp only [Hid, TT, RecA.v, recR, HSLE.out, h1, h2]
      have HTS : Hid (TT.short 1099511627776) := by
        have h1 := nextSlot_small zs (stR zs 6)
        have h2 := nextSlot_small zs (sB zs).2
        have e1 : t1.v = (nextSlotOf zs (stR zs 6)).1 := hvt1.out
        have e2 : t2.v = (nextSlotOf zs (sB zs).2).1 := hvt2.out
        rw [← e1] at h1
        rw [← e2] at h2
        exact ⟨by show t1.v.o.ints.length ≤ _ ∧ t1.v.o.refs.length ≤ _; omega, by show t2.v.o.ints.length ≤ _ ∧ t2.v.o.refs.length ≤ _; omega, by show ls.length ≤ _; omega⟩
      have HTO : Hid (TT.own wr q5.heap.size wr.heap.size) := ⟨OwnO.widen q1 (by omega) (by omega) (Nat.le_refl _), OwnO.widen q2 (by omega) (by omega) (Nat.le_refl _), oL.widen (by omega) (Nat.le_refl _) (Nat.le_refl _), rec_apart (b := sq1.heap.size) (c := W0.heap.size) (OwnO.widen q1 (Nat.le_refl _) (by omega) (by omega)) (OwnO.widen q2 (Nat.le_refl _) (by omega) (by omega)) oL (by omega)⟩
      have HBAD : Hid ((sL zs).2.2 = bad) := by rw [Hid, HSLE.out]
      have hWp : W.heap.size ≤ q5.heap.size := by omega
      clear bXr q1 q2 oL hls h30
      clear_value TT
      have hck : Hid (¬ (k < min n.toNat 30 ∧ bad = false)) := hgo
      clear hgo
      have hWr := Br.size
      have HCK : Hid (_) := hck.out
      clear hck
      by_cases hc1 : (k : Int) < n
      case neg =>
        cases bad with
        | true =>
          have HP : Hid (pairR zs = (noR, false)) := HE1.out HBAD.out
          obtain ⟨WF, hWF, hwF, hsF, HTF, HLF, _⟩ := rec_out zeroR _ rfl bRr
          have HEN : Hid (GotR w WF zs _) := gotR_no HP.out ((Br).trans (hwF.below (Nat.le_refl _) (Br).size))
          clear hwF hsF
          go_wp2_with (first | (guard_target = wpList _ _ _ (Oper.mk none (Op.store _ (Operand.tmp 2) _) _ _ _ _ :: _) _ _; refine wpList_store_mid rfl 59 (.tmp 2) (.tmp 88) rfl w.heap.size 0 zeroR.cells.toArray rfl rfl HTF.out (by rw [List.size_toArray]; exact rec_info _) (rec_one _) ?_) | fail)
          rw [hWF.out]
          exact bodyPost_ret (v := .tuple #[.agg zeroR.cells.toArray, .bool false]) (results_cell_flag Tryz.results37 rfl HLF.out rfl) rfl HEN.out
        | false =>
          have rT := Box.range [] TT.cells [] (by simpa using bT : Box wr (w.heap.size + 1 + 1) ([] ++ (TT.cells ++ [])) 59)
          have C1 := specRecOk_any TT wr HTO.out.reads HTS.out
          rw [HTV.out] at C1
          go_wp2_with (first | (guard_target = wpList _ _ _ (Oper.mk (some 77) _ _ _ _ _ :: _) _ _; refine wpList_load_mid_if (by rfl) 59 (.tmp 5) rfl (w.heap.size + 1 + 1) 0 rfl TT.cells _ rT Tryz.underlying59 rfl (rec_info _) ?_) | fail)
          clear rT y2
          refine C1.mono ?_
          clear C1
          rintro e m1 ⟨rfl, hm1⟩
          have bT1 := bT.below hm1 bT.lt
          have bR1 := bRr.below hm1 bRr.lt
          have HTO1 : Hid (TT.own m1 q5.heap.size wr.heap.size) := HTO.out.below hm1
          have Bm1 := Br.trans (hm1.mono Br.size)
          have sm1 := hm1.size
          cases hok : okR (recR zs) with
          | false =>
            have HP : Hid (pairR zs = (noR, false)) := HE2.out hok
            obtain ⟨WF, hWF, hwF, hsF, HTF, HLF, _⟩ := rec_out zeroR _ rfl bR1
            have HEN : Hid (GotR w WF zs _) := gotR_no HP.out ((Bm1).trans (hwF.below (Nat.le_refl _) (Bm1).size))
            clear hwF hsF
            go_wp2_with (first | (guard_target = wpList _ _ _ (Oper.mk none (Op.store _ (Operand.tmp 2) _) _ _ _ _ :: _) _ _; refine wpList_store_mid rfl 59 (.tmp 2) (.tmp 88) rfl w.heap.size 0 zeroR.cells.toArray rfl rfl HTF.out (by rw [List.size_toArray]; exact rec_info _) (rec_one _) ?_) | fail)
            rw [hWF.out]
            exact bodyPost_ret (v := .tuple #[.agg zeroR.cells.toArray, .bool false]) (results_cell_flag Tryz.results37 rfl HLF.out rfl) rfl HEN.out
          | true =>
          have rT := Box.range [] TT.cells [] (by simpa using bT1 : Box m1 (w.heap.size + 1 + 1) ([] ++ (TT.cells ++ [])) 59)
          have C2 := specPutRec_any TT m1 HTO1.out.reads HTS.out
          rw [HTV.out] at C2
          go_wp2_with (first | (guard_target = wpList _ _ _ (Oper.mk (some 82) _ _ _ _ _ :: _) _ _; refine wpList_load_mid_if (by rfl) 59 (.tmp 5) rfl (w.heap.size + 1 + 1) 0 rfl TT.cells _ rT Tryz.underlying59 rfl (rec_info _) ?_) | fail)
          clear rT
          refine C2.mono ?_
          clear C2
          rintro e m2 ⟨a2, c2', y2', rfl, HY2, oy, hm2⟩
          have Bm2 := Bm1.trans (hm2.mono Bm1.size)
          have sm2 := hm2.size
          have bT2 := bT1.below hm2 bT1.lt
          have bR2 := bR1.below hm2 bR1.lt
          have HTO2 : Hid (TT.own m2 q5.heap.size wr.heap.size) := HTO1.out.below hm2
          have hyl : y2'.length ≤ 100000 := by rw [HY2.out]; exact HPL.out
          go_wp2_with fail
          refine (l2Same_any a2 a c2' c y2' zs m2 oy.reads (hr.below Bm2) (by omega) hl).mono ?_
          rintro e m3 ⟨rfl, nn, hm3⟩
          have N3 : Below m2.heap.size m2 m3 := by rw [hm3]; exact below_drewN (Below.refl _ _) nn
          clear hm3
          have Bm3 := Bm2.trans (N3.mono Bm2.size)
          have sm3 := N3.size
          have bT3 := bT2.below N3 bT2.lt
          have bR3 := bR2.below N3 bR2.lt
          have HTO3 : Hid (TT.own m3 q5.heap.size wr.heap.size) := HTO2.out.below N3
          by_cases hyz : y2' = zs
          case neg =>
            have hd : decide (y2' = zs) = false := decide_eq_false hyz
            rw [hd]
            have HP : Hid (pairR zs = (noR, false)) := HE3.out (by rw [← HY2.out]; exact hyz)
            obtain ⟨WF, hWF, hwF, hsF, HTF, HLF, _⟩ := rec_out zeroR _ rfl bR3
            have HEN : Hid (GotR w WF zs _) := gotR_no HP.out ((Bm3).trans (hwF.below (Nat.le_refl _) (Bm3).size))
            clear hwF hsF
            go_wp2_with (first | (guard_target = wpList _ _ _ (Oper.mk none (Op.store _ (Operand.tmp 2) _) _ _ _ _ :: _) _ _; refine wpList_store_mid rfl 59 (.tmp 2) (.tmp 88) rfl w.heap.size 0 zeroR.cells.toArray rfl rfl HTF.out (by rw [List.size_toArray]; exact rec_info _) (rec_one _) ?_) | fail)
            rw [hWF.out]
            exact bodyPost_ret (v := .tuple #[.agg zeroR.cells.toArray, .bool false]) (results_cell_flag Tryz.results37 rfl HLF.out rfl) rfl HEN.out
          case pos =>
            have hd : decide (y2' = zs) = true := decide_eq_true hyz
            rw [hd]
            have HP : Hid (pairR zs = (recR zs, true)) := HE4.out HBAD.out hok (by rw [← HY2.out]; exact hyz)
            obtain ⟨WF, hWF, hwF, hsF, HTF, HLF, _⟩ := rec_out TT _ rfl bR3
            have HEN : Hid (GotR w WF zs _) := gotR_yes HP.out HTV.out ((HTO3.out.within hwF (.inr (by omega))).widen (by omega) (by omega) (Nat.le_refl _)) (Bm3.trans (hwF.below (Nat.le_refl _) Bm3.size))
            have rT := Box.range [] TT.cells [] (by simpa using bT3 : Box m3 (w.heap.size + 1 + 1) ([] ++ (TT.cells ++ [])) 59)
            clear hwF hsF hyz hd
            go_wp2_with (first | (guard_target = wpList _ _ _ (Oper.mk (some 89) _ _ _ _ _ :: _) _ _; refine wpList_load_mid rfl 59 (.tmp 5) rfl (w.heap.size + 1 + 1) 0 rfl TT.cells _ rT Tryz.underlying59 rfl (rec_info _) ?_) | (guard_target = wpList _ _ _ (Oper.mk none (Op.store _ (Operand.tmp 2) _) _ _ _ _ :: _) _ _; refine wpList_store_mid rfl 59 (.tmp 2) (.tmp 89) rfl w.heap.size 0 TT.cells.toArray rfl rfl HTF.out (by rw [List.size_toArray]; exact rec_info _) (rec_one _) ?_) | fail)
            rw [hWF.out]
            exact bodyPost_ret (v := .tuple #[.agg TT.cells.toArray, .bool true]) (results_cell_flag Tryz.results37 rfl HLF.out rfl) rfl HEN.out
      case pos =>
      by_cases hc2 : (k : Int) < 30
      case neg =>
        cases bad with
        | true =>
          have HP : Hid (pairR zs = (noR, false)) := HE1.out HBAD.out
          obtain ⟨WF, hWF, hwF, hsF, HTF, HLF, _⟩ := rec_out zeroR _ rfl bRr
          have HEN : Hid (GotR w WF zs _) := gotR_no HP.out ((Br).trans (hwF.below (Nat.le_refl _) (Br).size))
          clear hwF hsF
          go_wp2_with (first | (guard_target = wpList _ _ _ (Oper.mk none (Op.store _ (Operand.tmp 2) _) _ _ _ _ :: _) _ _; refine wpList_store_mid rfl 59 (.tmp 2) (.tmp 88) rfl w.heap.size 0 zeroR.cells.toArray rfl rfl HTF.out (by rw [List.size_toArray]; exact rec_info _) (rec_one _) ?_) | fail)
          rw [hWF.out]
          exact bodyPost_ret (v := .tuple #[.agg zeroR.cells.toArray, .bool false]) (results_cell_flag Tryz.results37 rfl HLF.out rfl) rfl HEN.out
        | false =>
          have rT := Box.range [] TT.cells [] (by simpa using bT : Box wr (w.heap.size + 1 + 1) ([] ++ (TT.cells ++ [])) 59)
          have C1 := specRecOk_any TT wr HTO.out.reads HTS.out
          rw [HTV.out] at C1
          go_wp2_with (first | (guard_target = wpList _ _ _ (Oper.mk (some 77) _ _ _ _ _ :: _) _ _; refine wpList_load_mid_if (by rfl) 59 (.tmp 5) rfl (w.heap.size + 1 + 1) 0 rfl TT.cells _ rT Tryz.underlying59 rfl (rec_info _) ?_) | fail)
          clear rT y2
          refine C1.mono ?_
          clear C1
          rintro e m1 ⟨rfl, hm1⟩
          have bT1 := bT.below hm1 bT.lt
          have bR1 := bRr.below hm1 bRr.lt
          have HTO1 : Hid (TT.own m1 q5.heap.size wr.heap.size) := HTO.out.below hm1
          have Bm1 := Br.trans (hm1.mono Br.size)
          have sm1 := hm1.size
          cases hok : okR (recR zs) with
          | false =>
            have HP : Hid (pairR zs = (noR, false)) := HE2.out hok
            obtain ⟨WF, hWF, hwF, hsF, HTF, HLF, _⟩ := rec_out zeroR _ rfl bR1
            have HEN : Hid (GotR w WF zs _) := gotR_no HP.out ((Bm1).trans (hwF.below (Nat.le_refl _) (Bm1).size))
            clear hwF hsF
            go_wp2_with (first | (guard_target = wpList _ _ _ (Oper.mk none (Op.store _ (Operand.tmp 2) _) _ _ _ _ :: _) _ _; refine wpList_store_mid rfl 59 (.tmp 2) (.tmp 88) rfl w.heap.size 0 zeroR.cells.toArray rfl rfl HTF.out (by rw [List.size_toArray]; exact rec_info _) (rec_one _) ?_) | fail)
            rw [hWF.out]
            exact bodyPost_ret (v := .tuple #[.agg zeroR.cells.toArray, .bool false]) (results_cell_flag Tryz.results37 rfl HLF.out rfl) rfl HEN.out
          | true =>
          have rT := Box.range [] TT.cells [] (by simpa using bT1 : Box m1 (w.heap.size + 1 + 1) ([] ++ (TT.cells ++ [])) 59)
          have C2 := specPutRec_any TT m1 HTO1.out.reads HTS.out
          rw [HTV.out] at C2
          go_wp2_with (first | (guard_target = wpList _ _ _ (Oper.mk (some 82) _ _ _ _ _ :: _) _ _; refine wpList_load_mid_if (by rfl) 59 (.tmp 5) rfl (w.heap.size + 1 + 1) 0 rfl TT.cells _ rT Tryz.underlying59 rfl (rec_info _) ?_) | fail)
          clear rT
          refine C2.mono ?_
          clear C2
          rintro e m2 ⟨a2, c2', y2', rfl, HY2, oy, hm2⟩
          have Bm2 := Bm1.trans (hm2.mono Bm1.size)
          have sm2 := hm2.size
          have bT2 := bT1.below hm2 bT1.lt
          have bR2 := bR1.below hm2 bR1.lt
          have HTO2 : Hid (TT.own m2 q5.heap.size wr.heap.size) := HTO1.out.below hm2
          have hyl : y2'.length ≤ 100000 := by rw [HY2.out]; exact HPL.out
          go_wp2_with fail
          refine (l2Same_any a2 a c2' c y2' zs m2 oy.reads (hr.below Bm2) (by omega) hl).mono ?_
          rintro e m3 ⟨rfl, nn, hm3⟩
          have N3 : Below m2.heap.size m2 m3 := by rw [hm3]; exact below_drewN (Below.refl _ _) nn
          clear hm3
          have Bm3 := Bm2.trans (N3.mono Bm2.size)
          have sm3 := N3.size
          have bT3 := bT2.below N3 bT2.lt
          have bR3 := bR2.below N3 bR2.lt
          have HTO3 : Hid (TT.own m3 q5.heap.size wr.heap.size) := HTO2.out.below N3
          by_cases hyz : y2' = zs
          case neg =>
            have hd : decide (y2' = zs) = false := decide_eq_false hyz
            rw [hd]
            have HP : Hid (pairR zs = (noR, false)) := HE3.out (by rw [← HY2.out]; exact hyz)
            obtain ⟨WF, hWF, hwF, hsF, HTF, HLF, _⟩ := rec_out zeroR _ rfl bR3
            have HEN : Hid (GotR w WF zs _) := gotR_no HP.out ((Bm3).trans (hwF.below (Nat.le_refl _) (Bm3).size))
            clear hwF hsF
            go_wp2_with (first | (guard_target = wpList _ _ _ (Oper.mk none (Op.store _ (Operand.tmp 2) _) _ _ _ _ :: _) _ _; refine wpList_store_mid rfl 59 (.tmp 2) (.tmp 88) rfl w.heap.size 0 zeroR.cells.toArray rfl rfl HTF.out (by rw [List.size_toArray]; exact rec_info _) (rec_one _) ?_) | fail)
            rw [hWF.out]
            exact bodyPost_ret (v := .tuple #[.agg zeroR.cells.toArray, .bool false]) (results_cell_flag Tryz.results37 rfl HLF.out rfl) rfl HEN.out
          case pos =>
            have hd : decide (y2' = zs) = true := decide_eq_true hyz
            rw [hd]
            have HP : Hid (pairR zs = (recR zs, true)) := HE4.out HBAD.out hok (by rw [← HY2.out]; exact hyz)
            obtain ⟨WF, hWF, hwF, hsF, HTF, HLF, _⟩ := rec_out TT _ rfl bR3
            have HEN : Hid (GotR w WF zs _) := gotR_yes HP.out HTV.out ((HTO3.out.within hwF (.inr (by omega))).widen (by omega) (by omega) (Nat.le_refl _)) (Bm3.trans (hwF.below (Nat.le_refl _) Bm3.size))
            have rT := Box.range [] TT.cells [] (by simpa using bT3 : Box m3 (w.heap.size + 1 + 1) ([] ++ (TT.cells ++ [])) 59)
            clear hwF hsF hyz hd
            go_wp2_with (first | (guard_target = wpList _ _ _ (Oper.mk (some 89) _ _ _ _ _ :: _) _ _; refine wpList_load_mid rfl 59 (.tmp 5) rfl (w.heap.size + 1 + 1) 0 rfl TT.cells _ rT Tryz.underlying59 rfl (rec_info _) ?_) | (guard_target = wpList _ _ _ (Oper.mk none (Op.store _ (Operand.tmp 2) _) _ _ _ _ :: _) _ _; refine wpList_store_mid rfl 59 (.tmp 2) (.tmp 89) rfl w.heap.size 0 TT.cells.toArray rfl rfl HTF.out (by rw [List.size_toArray]; exact rec_info _) (rec_one _) ?_) | fail)
            rw [hWF.out]
            exact bodyPost_ret (v := .tuple #[.agg TT.cells.toArray, .bool true]) (results_cell_flag Tryz.results37 rfl HLF.out rfl) rfl HEN.out
      case pos =>
        obtain rfl : bad = true := by
          cases bad with
          | true => rfl
          | false => exact absurd ⟨by omega, rfl⟩ HCK.out
        have HP : Hid (pairR zs = (noR, false)) := HE1.out HBAD.out
        obtain ⟨WF, hWF, hwF, hsF, HTF, HLF, _⟩ := rec_out zeroR _ rfl bRr
        have HEN : Hid (GotR w WF zs _) := gotR_no HP.out ((Br).trans (hwF.below (Nat.le_refl _) (Br).size))
        clear hwF hsF
        go_wp2_with (first | (guard_target = wpList _ _ _ (Oper.mk none (Op.store _ (Operand.tmp 2) _) _ _ _ _ :: _) _ _; refine wpList_store_mid rfl 59 (.tmp 2) (.tmp 88) rfl w.heap.size 0 zeroR.cells.toArray rfl rfl HTF.out (by rw [List.size_toArray]; exact rec_info _) (rec_one _) ?_) | fail)
        rw [hWF.out]
        exact bodyPost_ret (v := .tuple #[.agg zeroR.cells.toArray, .bool false]) (results_cell_flag Tryz.results37 rfl HLF.out rfl) rfl HEN.out

end Go.Proofs.YtbpdocjkhmiimabGreatDoor

/- The walk of spec.ReadLog. -/
namespace Go.Proofs.YtbpdocjkhmiimabGreatDoor
open Go.RowKit

/-- What stands at p, behind these: is it the next record? -/
def nextB (zs : List Int) (k : Nat) (p : Int) : Bool := ((unfOf zs p).2.2 == 0) && ((pairR (unfOf zs p).1).2 && ((pairR (unfOf zs p).1).1.lsn == (k : Int) + 1))
/-- At most n more records are read from p on, behind these. -/
def readFrom (zs : List Int) : Nat → List RecV → Int → List RecV × Int
  | 0, rs, p => (rs, p)
  | n + 1, rs, p => if nextB zs rs.length p = true then readFrom zs n (rs ++ [(pairR (unfOf zs p).1).1]) (unfOf zs p).2.1 else (rs, p)
def readLogOf (zs : List Int) : List RecV × Int := readFrom zs 4000 [] 0
theorem readFrom_yes {zs : List Int} {n : Nat} {rs : List RecV} {p : Int} (h : nextB zs rs.length p = true) : readFrom zs (n + 1) rs p = readFrom zs n (rs ++ [(pairR (unfOf zs p).1).1]) (unfOf zs p).2.1 := by rw [readFrom, if_pos h]
theorem readFrom_no {zs : List Int} {n : Nat} {rs : List RecV} {p : Int} (h : nextB zs rs.length p = false) : readFrom zs n rs p = (rs, p) := by
  cases n with
  | zero => rfl
  | succ n => rw [readFrom, if_neg (by rw [h]; decide)]
/-- How many more records may come, read off the log's box. -/
def leftM (B : Nat) (w : World) : Nat := match w.cell? ⟨B, 0, none⟩ with
  | some (.slice _ n _) => 4000 - n
  | _ => 0
theorem leftM_at {B : Nat} {w : World} {a : Option Addr} {n c : Nat} {v : Value} {t : TypeId} (b : Box w B [.slice a n c, v] t) : leftM B w = 4000 - n := by
  unfold leftM
  rw [b.cell 0 _ rfl]

/-- What ReadLog answers. -/
def LogGot (w w' : World) (zs : List Int) (e : Ending) : Prop := ∃ t : LogA, e = .returned (.tuple #[.agg t.cells.toArray, .int .i64 (readLogOf zs).2]) ∧ Hid (t.v = ⟨(readLogOf zs).1, (readLogOf zs).1.length⟩) ∧ t.own w' w.heap.size w'.heap.size ∧ Below w.heap.size w w'
theorem OwnB.cap {w : World} {lo : Nat} {a : Option Addr} {c : Nat} {ys : List Int} (h : OwnB w lo a c ys) : ys.length ≤ c := by
  rcases h.2.2 with ⟨hv, h0⟩ | ⟨g, cap, cur, hv, _, _, h1, _⟩
  · omega
  · simp only [Value.slice.injEq] at hv; omega

set_option maxHeartbeats 8000000 in
set_option maxRecDepth 100000 in
theorem specReadLog_any (a : Option Addr) (c : Nat) (zs : List Int) (w : World) (hr : Reads w a zs) (hl : zs.length ≤ 1099511627776) (hcap : zs.length ≤ c) :
    Calls Tryz.prog 18 #[.slice a zs.length c] w fun e w' => LogGot w w' zs e := by
  obtain ⟨W, hW, b0, b1, hbW, hsW⟩ := boxes2 w [.slice none 0 0, .int .i64 0] [.slice none 0 0, .int .i64 0] 28 28
  have hs0 : w.heap.size + 1 < W.heap.size := by omega
  clear hsW
  have HI : Hid ((Tryz.prog.info? 59).map (·.size) = some 15) := by rw [Hid]; kernel_rfl
  have HU : Hid (∀ u p, Below w.heap.size w u → Calls _ _ _ _ _) := fun u p hu => specUnframe_any a c zs p u (hr.below hu) (by omega) hcap
  have HBy : Hid (∀ p, ((unfOf zs p).1).length ≤ zs.length) := fun p => unf_len zs p
  clear hr
  go_enter Tryz.func18, Tryz.ntmps18
  go_wp2_with fail
  rw [hW.out]
  clear hW
  go_loopw [5] (fun v wr => ∃ (ts : List RecA) (p : Int) (a' : Option Addr) (c' : Nat), v = .int .i64 p ∧ ts.length ≤ 4000 ∧ Hid (readFrom zs (4000 - ts.length) (ts.map RecA.v) p = readLogOf zs) ∧ Box wr (w.heap.size + 1) [.slice a' ts.length c', .int .i64 0] 28 ∧ Box wr w.heap.size [.slice none 0 0, .int .i64 0] 28 ∧ OwnRs wr W.heap.size wr.heap.size a' c' ts ∧ Below w.heap.size w wr ∧ W.heap.size ≤ wr.heap.size)
    (fun _ wr => leftM (w.heap.size + 1) wr)
  case atStart => exact ⟨[], 0, none, 0, rfl, Nat.zero_le _, rfl, b1, b0, ownRs_nil _ _ _ (Nat.le_refl _), hbW, Nat.le_refl _⟩
  case round =>
    obtain ⟨ts, p, a', c', rfl, hk, HRD, k1, k0, hown, hnx, hsz⟩ := hrel
    clear b0 b1
    have hnw := hnx.size
    have x0 := k1.cell 0 _ rfl
    have HM : Hid (leftM (w.heap.size + 1) wr = 4000 - ts.length) := leftM_at k1
    by_cases hlt : ts.length < 4000
    · have C := HU.out wr p hnx
      go_wp2_with fail
      refine C.mono ?_
      clear C x0
      rintro e w1 ⟨a1, c1, ys, q, code, rfl, HUF, o1, hb1⟩
      have hs1 := hb1.size
      have hyl : ys.length ≤ zs.length := by have := HBy.out p; rw [HUF.out] at this; exact this
      have C := specGetRec_any a1 c1 ys w1 o1.reads (by omega) o1.cap
      have HNB : Hid (nextB zs ts.length p = ((code == 0) && ((pairR ys).2 && ((pairR ys).1.lsn == (ts.length : Int) + 1)))) := by rw [Hid, nextB, HUF.out]
      have HYS : Hid (nextB zs ts.length p = true → readFrom zs (4000 - (ts.length + 1)) (ts.map RecA.v ++ [(pairR ys).1]) q = readLogOf zs) := fun h => by
        rw [← HRD.out, show 4000 - ts.length = (4000 - (ts.length + 1)) + 1 by omega, readFrom_yes (by rw [List.length_map]; exact h), HUF.out]
      have HNO : Hid (nextB zs ts.length p = false → readLogOf zs = (ts.map RecA.v, p)) := fun h => by rw [← HRD.out]; exact readFrom_no (by rw [List.length_map]; exact h)
      generalize nextB zs ts.length p = NB at *
      unfold GotR at C
      generalize (pairR ys).2 = ok at *
      generalize (pairR ys).1 = rv at *
      clear HUF HRD
      go_wp2_with fail
      refine C.mono ?_
      clear C o1
      rintro e w2 ⟨t, rfl, hv, ot, hb2⟩
      have hs2 := hb2.size
      have hb2' : Below wr.heap.size wr w2 := hb1.trans (hb2.mono hs1)
      have HTV : Hid (t.v = rv) := hv.out
      have HTL : Hid (t.lsn = rv.lsn) := by rw [Hid, ← hv.out]; rfl
      obtain ⟨W3, hW3, z3, hb3, hs3⟩ := boxes1 w2 [.int .i64 0, .int .i64 0, .int .i64 0, .int .i64 0, .int .i64 0, .bool false, .int .i64 0, .slice none 0 0, .slice none 0 0, .bool false, .int .i64 0, .slice none 0 0, .slice none 0 0, .int .i64 0, .slice none 0 0] 59
      obtain ⟨W4, hW4, hw4, hs4, HT4, _, z4⟩ := rec_out t _ rfl z3
      have N4 : Below w2.heap.size w2 W4 := hb3.trans (hw4.below (Nat.le_refl _) (by omega))
      have hlt4 := z4.lt
      have B4 : Below wr.heap.size wr W4 := hb2'.trans (N4.mono (by omega))
      have k14 := k1.below B4 k1.lt
      have k04 := k0.below B4 k0.lt
      have o4 := hown.below B4
      have ot4 : t.own W4 w1.heap.size w2.heap.size := ot.below N4
      have D4 : Below w.heap.size w W4 := hnx.trans (B4.mono hnw)
      have hsB := B4.size
      have hOt := rec_one t
      clear z3 hb3 hw4 hs3 hs4 hb2 hb2' hb1 k1 k0 hown hnx ot N4 hv
      go_upto_region 6 with (first | (guard_target = wpList _ _ _ (Oper.mk none (Op.store _ (Operand.tmp 9) _) _ _ _ _ :: _) _ _; refine wpList_store_mid rfl 59 (.tmp 9) (.tmp 26) rfl w2.heap.size 0 t.cells.toArray rfl rfl (by rw [hW3.out]; exact HT4.out) HI.out hOt ?_) | fail)
      rw [hW3.out, hW4.out]
      clear hW3 hW4 HT4 hOt
      have e0 := k14.cell 0 _ rfl
      have z0 : W4.cell? ⟨w2.heap.size, 0, none⟩ = some (.int .i64 t.lsn) := z4.cell 0 _ rfl
      by_cases h1 : code = 0
      case neg =>
        have h1b : (code != 0) = true := by simpa using h1
        have HN : Hid (NB = false) := by rw [Hid, HNB.out]; simp [h1]
        have HE := HNO.out HN.out
        have KK := k14
        have KZ := k04
        have OO := o4
        have DD := D4
        clear k14 k04 o4 D4 HYS HNO HNB HN ot4 z4
        have m0 := KK.cell 0 _ rfl
        have m1 := KK.cell 1 _ rfl
        have mf1 := KK.frozen 1
        obtain ⟨W5, hW5, k5, hw5, hs5⟩ := box_set KK 1 (.int .i64 ts.length)
        simp only [List.set] at k5
        have hs5a := Nat.le_of_eq hs5
        have hs5b := Nat.le_of_eq hs5.symm
        clear hs5
        have k05 := KZ.within hw5 (by omega)
        have o5 := OO.within hw5 (.inr (by omega))
        have D5 : Below w.heap.size w W5 := DD.trans (hw5.below (by omega) (by omega))
        obtain ⟨WF, hWF, bF, hwF, hsF⟩ := box2_fill k05 (.slice a' ts.length c') (.int .i64 ts.length)
        have q0 := bF.cell 0 _ rfl
        have q1 := bF.cell 1 _ rfl
        have y0 := k5.cell 0 _ rfl
        have y1 := k5.cell 1 _ rfl
        have n0 := k05.cell 0 _ rfl
        have n1 := k05.cell 1 _ rfl
        have nf0 := k05.frozen 0
        have nf1 := k05.frozen 1
        have hoF : (⟨ts, (ts.length : Int), a', c'⟩ : LogA).own WF w.heap.size WF.heap.size := (o5.within hwF (.inr (by omega))).widen (show w.heap.size ≤ W.heap.size by omega) (show wr.heap.size ≤ WF.heap.size by omega) (Nat.le_refl _)
        have hbF : Below w.heap.size w WF := D5.trans (hwF.below (by omega) (by omega))
        have HG : Hid (LogGot w WF zs (.returned (.tuple #[.agg (LogA.cells ⟨ts, (ts.length : Int), a', c'⟩).toArray, .int .i64 p]))) := ⟨⟨ts, (ts.length : Int), a', c'⟩, by rw [HE], by rw [Hid, HE]; simp [LogA.v], hoF, hbF⟩
        clear hwF hsF bF hoF hbF o5 D5 hw5 k5 k05
        go_upto_region 10 with fail
        rw [hW5.out]
        clear hW5 m0 m1 mf1 e0 z0
        go_wp2
        rw [hWF.out]
        exact bodyPost_ret (v := .tuple #[.agg #[.slice a' ts.length c', .int .i64 ts.length], .int .i64 p]) (by simp [results, Tryz.results18, go_sem, q0, q1]) rfl HG.out
      case pos =>
      subst h1
      cases ok with
      | false =>
        have HN : Hid (NB = false) := by rw [Hid, HNB.out]; simp
        have HE := HNO.out HN.out
        have KK := k14
        have KZ := k04
        have OO := o4
        have DD := D4
        clear k14 k04 o4 D4 HYS HNO HNB HN ot4 z4
        have m0 := KK.cell 0 _ rfl
        have m1 := KK.cell 1 _ rfl
        have mf1 := KK.frozen 1
        obtain ⟨W5, hW5, k5, hw5, hs5⟩ := box_set KK 1 (.int .i64 ts.length)
        simp only [List.set] at k5
        have hs5a := Nat.le_of_eq hs5
        have hs5b := Nat.le_of_eq hs5.symm
        clear hs5
        have k05 := KZ.within hw5 (by omega)
        have o5 := OO.within hw5 (.inr (by omega))
        have D5 : Below w.heap.size w W5 := DD.trans (hw5.below (by omega) (by omega))
        obtain ⟨WF, hWF, bF, hwF, hsF⟩ := box2_fill k05 (.slice a' ts.length c') (.int .i64 ts.length)
        have q0 := bF.cell 0 _ rfl
        have q1 := bF.cell 1 _ rfl
        have y0 := k5.cell 0 _ rfl
        have y1 := k5.cell 1 _ rfl
        have n0 := k05.cell 0 _ rfl
        have n1 := k05.cell 1 _ rfl
        have nf0 := k05.frozen 0
        have nf1 := k05.frozen 1
        have hoF : (⟨ts, (ts.length : Int), a', c'⟩ : LogA).own WF w.heap.size WF.heap.size := (o5.within hwF (.inr (by omega))).widen (show w.heap.size ≤ W.heap.size by omega) (show wr.heap.size ≤ WF.heap.size by omega) (Nat.le_refl _)
        have hbF : Below w.heap.size w WF := D5.trans (hwF.below (by omega) (by omega))
        have HG : Hid (LogGot w WF zs (.returned (.tuple #[.agg (LogA.cells ⟨ts, (ts.length : Int), a', c'⟩).toArray, .int .i64 p]))) := ⟨⟨ts, (ts.length : Int), a', c'⟩, by rw [HE], by rw [Hid, HE]; simp [LogA.v], hoF, hbF⟩
        clear hwF hsF bF hoF hbF o5 D5 hw5 k5 k05
        go_upto_region 10 with fail
        rw [hW5.out]
        clear hW5 m0 m1 mf1 e0 z0
        go_wp2
        rw [hWF.out]
        exact bodyPost_ret (v := .tuple #[.agg #[.slice a' ts.length c', .int .i64 ts.length], .int .i64 p]) (by simp [results, Tryz.results18, go_sem, q0, q1]) rfl HG.out
      | true =>
        cases h3 : (t.lsn == (ts.length : Int) + 1) with
        | false =>
          have h3b : (t.lsn != (ts.length : Int) + 1) = true := by simp only [bne, h3, Bool.not_false]
          have HN : Hid (NB = false) := by rw [Hid, HNB.out, ← HTL.out, h3]; rfl
          clear h3
          have HE := HNO.out HN.out
          have KK := k14
          have KZ := k04
          have OO := o4
          have DD := D4
          clear k14 k04 o4 D4 HYS HNO HNB HN ot4 z4
          have m0 := KK.cell 0 _ rfl
          have m1 := KK.cell 1 _ rfl
          have mf1 := KK.frozen 1
          obtain ⟨W5, hW5, k5, hw5, hs5⟩ := box_set KK 1 (.int .i64 ts.length)
          simp only [List.set] at k5
          have hs5a := Nat.le_of_eq hs5
          have hs5b := Nat.le_of_eq hs5.symm
          clear hs5
          have k05 := KZ.within hw5 (by omega)
          have o5 := OO.within hw5 (.inr (by omega))
          have D5 : Below w.heap.size w W5 := DD.trans (hw5.below (by omega) (by omega))
          obtain ⟨WF, hWF, bF, hwF, hsF⟩ := box2_fill k05 (.slice a' ts.length c') (.int .i64 ts.length)
          have q0 := bF.cell 0 _ rfl
          have q1 := bF.cell 1 _ rfl
          have y0 := k5.cell 0 _ rfl
          have y1 := k5.cell 1 _ rfl
          have n0 := k05.cell 0 _ rfl
          have n1 := k05.cell 1 _ rfl
          have nf0 := k05.frozen 0
          have nf1 := k05.frozen 1
          have hoF : (⟨ts, (ts.length : Int), a', c'⟩ : LogA).own WF w.heap.size WF.heap.size := (o5.within hwF (.inr (by omega))).widen (show w.heap.size ≤ W.heap.size by omega) (show wr.heap.size ≤ WF.heap.size by omega) (Nat.le_refl _)
          have hbF : Below w.heap.size w WF := D5.trans (hwF.below (by omega) (by omega))
          have HG : Hid (LogGot w WF zs (.returned (.tuple #[.agg (LogA.cells ⟨ts, (ts.length : Int), a', c'⟩).toArray, .int .i64 p]))) := ⟨⟨ts, (ts.length : Int), a', c'⟩, by rw [HE], by rw [Hid, HE]; simp [LogA.v], hoF, hbF⟩
          clear hwF hsF bF hoF hbF o5 D5 hw5 k5 k05
          go_upto_region 10 with fail
          rw [hW5.out]
          clear hW5 m0 m1 mf1 e0 z0
          go_wp2
          rw [hWF.out]
          exact bodyPost_ret (v := .tuple #[.agg #[.slice a' ts.length c', .int .i64 ts.length], .int .i64 p]) (by simp [results, Tryz.results18, go_sem, q0, q1]) rfl HG.out
        | true =>
          have h3b : (t.lsn != (ts.length : Int) + 1) = false := by simp only [bne, h3, Bool.not_true]
          have HN : Hid (NB = true) := by rw [Hid, HNB.out, ← HTL.out, h3]; rfl
          have HGO := HYS.out HN.out
          have HGO' : Hid (readFrom zs (4000 - (ts.length + 1)) (ts.map RecA.v ++ [t.v]) q = readLogOf zs) := by rw [Hid, HTV.out]; exact HGO
          clear h3 HGO HYS HNO HNB HN
          go_upto_region 7 with fail
          clear e0 z0
          have e0 := k14.cell 0 _ rfl
          have HRX : Hid (W4.rangeAt w2.heap.size 0 t.cells) := Box.range [] t.cells [] (by simpa using z4)
          obtain ⟨W9, hW9, y9, hb9, hs9⟩ := boxes1 W4 t.cells 59
          have hlt9 := y9.lt
          have hs9' := hb9.size
          clear hs9
          have R9 : Hid (W9.rangeAt W4.heap.size 0 t.cells) := Box.range [] t.cells [] (by simpa using y9)
          have k19 := k14.below hb9 k14.lt
          have k09 := k04.below hb9 k04.lt
          have o9 := o4.below hb9
          have ot9 := ot4.below hb9
          have D9 : Below w.heap.size w W9 := D4.trans (hb9.mono D4.size)
          have hll9 : ts.length + 1 ≤ 68719476736 := by omega
          go_wp2_with (first | (guard_target = wpList _ _ _ (Oper.mk (some 45) _ _ _ _ _ :: _) _ _; refine wpList_load_mid rfl 59 (.tmp 9) rfl w2.heap.size 0 rfl t.cells _ HRX.out Tryz.underlying59 rfl HI.out ?_) | (guard_target = wpList _ _ _ (Oper.mk (some 46) _ _ _ _ _ :: _) _ _; refine build_rec (.tmp 45) t rfl ?_; rw [hW9.out]) | (at_builtin; refine append_rec rfl _ _ rfl W.heap.size wr.heap.size a' c' ts rfl o9 W4.heap.size 0 1 t rfl R9.out w1.heap.size w2.heap.size ot9 (by omega) (by omega) hll9 (by omega) ?_))
          intro a10 c10 w10 o10 g10
          have hw10 : Within W.heap.size wr.heap.size W9 w10 := Within.of_grown g10 (fun j hj => ⟨o9.row.lt j hj |>.1, o9.blk j hj⟩)
          have hs10 := hw10.size
          have k1a := k19.within hw10 (by omega)
          have k0a := k09.within hw10 (by omega)
          have D10 : Below w.heap.size w w10 := D9.trans (hw10.below (by omega) (by omega))
          have m0 := k1a.cell 0 _ rfl
          have mf0 := k1a.frozen 0
          obtain ⟨W11, hW11, k1b, hw11, hs11⟩ := box_set k1a 0 (.slice a10 (ts.length + 1) c10)
          simp only [List.set] at k1b
          have hs11a := Nat.le_of_eq hs11
          have hs11b := Nat.le_of_eq hs11.symm
          clear hs11
          have k0b := k0a.within hw11 (by omega)
          have o11 := (o10.within hw11 (.inr (by omega))).widen (Nat.le_refl _) hs11b (Nat.le_refl _)
          have D11 : Below w.heap.size w W11 := D10.trans (hw11.below (by omega) (by omega))
          have HLM : Hid (leftM (w.heap.size + 1) W11 = 4000 - (ts.length + 1)) := leftM_at k1b
          have HLN : Hid ((ts ++ [t]).length = ts.length + 1) := by simp [Hid]
          have HGF : Hid (readFrom zs (4000 - (ts ++ [t]).length) ((ts ++ [t]).map RecA.v) q = readLogOf zs) := by rw [Hid, HLN.out, List.map_append]; exact HGO'.out
          clear hw11 hw10 g10 o9 ot9 k19 k09 R9 HRX e0 k1a k0a hb9 hW9 y9 k14 k04 o4 ot4 z4
          go_wp2_with fail
          rw [hW11.out]
          go_roundw
          case rel => exact ⟨ts ++ [t], q, a10, c10, rfl, by rw [HLN.out]; omega, HGF, by rw [HLN.out]; exact k1b, k0b, o11, D11, by omega⟩
          case measure => rw [HLM.out, HM.out]; omega
    · have HE : Hid (readLogOf zs = (ts.map RecA.v, p)) := by
        rw [Hid, ← HRD.out, show 4000 - ts.length = 0 by omega]
        rfl
      have HE := HE.out
      have KK := k1
      have KZ := k0
      have OO := hown
      have DD := hnx
      clear k1 k0 hown hnx HRD
      have m0 := KK.cell 0 _ rfl
      have m1 := KK.cell 1 _ rfl
      have mf1 := KK.frozen 1
      obtain ⟨W5, hW5, k5, hw5, hs5⟩ := box_set KK 1 (.int .i64 ts.length)
      simp only [List.set] at k5
      have hs5a := Nat.le_of_eq hs5
      have hs5b := Nat.le_of_eq hs5.symm
      clear hs5
      have k05 := KZ.within hw5 (by omega)
      have o5 := OO.within hw5 (.inr (by omega))
      have D5 : Below w.heap.size w W5 := DD.trans (hw5.below (by omega) (by omega))
      obtain ⟨WF, hWF, bF, hwF, hsF⟩ := box2_fill k05 (.slice a' ts.length c') (.int .i64 ts.length)
      have q0 := bF.cell 0 _ rfl
      have q1 := bF.cell 1 _ rfl
      have y0 := k5.cell 0 _ rfl
      have y1 := k5.cell 1 _ rfl
      have n0 := k05.cell 0 _ rfl
      have n1 := k05.cell 1 _ rfl
      have nf0 := k05.frozen 0
      have nf1 := k05.frozen 1
      have hoF : (⟨ts, (ts.length : Int), a', c'⟩ : LogA).own WF w.heap.size WF.heap.size := (o5.within hwF (.inr (by omega))).widen (show w.heap.size ≤ W.heap.size by omega) (show wr.heap.size ≤ WF.heap.size by omega) (Nat.le_refl _)
      have hbF : Below w.heap.size w WF := D5.trans (hwF.below (by omega) (by omega))
      have HG : Hid (LogGot w WF zs (.returned (.tuple #[.agg (LogA.cells ⟨ts, (ts.length : Int), a', c'⟩).toArray, .int .i64 p]))) := ⟨⟨ts, (ts.length : Int), a', c'⟩, by rw [HE], by rw [Hid, HE]; simp [LogA.v], hoF, hbF⟩
      clear hwF hsF bF hoF hbF o5 D5 hw5 k5 k05
      go_upto_region 10 with fail
      rw [hW5.out]
      clear hW5 m0 m1 mf1 x0
      go_wp2
      rw [hWF.out]
      exact bodyPost_ret (v := .tuple #[.agg #[.slice a' ts.length c', .int .i64 ts.length], .int .i64 p]) (by simp [results, Tryz.results18, go_sem, q0, q1]) rfl HG.out
end Go.Proofs.YtbpdocjkhmiimabGreatDoor
