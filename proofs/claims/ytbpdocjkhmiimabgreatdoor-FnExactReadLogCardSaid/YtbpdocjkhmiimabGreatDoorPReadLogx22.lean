/- Several texts in one, in their order. -/
import Derived.Test.YtbpdocjkhmiimabGreatDoorPReadLogx14
import Derived.Test.YtbpdocjkhmiimabGreatDoorPReadLogx21
import Derived.Deep.RegionHeld3
import Derived.Deep.CutRange
import Derived.Test.YtbpdocjkhmiimabGreatDoorPReadLogx19
import Derived.Test.YtbpdocjkhmiimabGreatDoorPReadLogx16
import Derived.Test.YtbpdocjkhmiimabGreatDoorPReadLogx11
import Derived.Deep.QuietTactic
import Derived.BigQuiet
import Derived.WalkSmall
import Derived.Test.YtbpdocjkhmiimabGreatDoorPReadLogx17
import Derived.Test.YtbpdocjkhmiimabGreatDoorPReadLogx5
/- The walk of spec.l3NextSlot. -/
namespace Go.Proofs.YtbpdocjkhmiimabGreatDoor
open Go.RowKit

theorem nextSlot_bad {zs : List Int} {s : Int × Bool} {n : Int} {st : Int × Bool} (h : nextOf zs s = (n, st)) (hb : st.2 = true ∨ n = 0) : nextSlotOf zs s = (noS, st) := by unfold nextSlotOf; rw [h]; simp only; rw [if_pos hb]
theorem nextSlot_out {zs : List Int} {s : Int × Bool} {n p : Int} (h : nextOf zs s = (n, (p, false))) (h0 : ¬ n = 0) (hb : n < 0 ∨ (zs.length : Int) - p < n) : nextSlotOf zs s = (noS, (p, true)) := by
  unfold nextSlotOf; rw [h]; simp only; rw [if_neg (by simp [h0]), if_pos hb]
theorem nextSlot_in {zs : List Int} {s : Int × Bool} {m p : Nat} (h : nextOf zs s = ((m : Int), ((p : Int), false))) (h0 : 0 < m) (hb : p + m ≤ zs.length) :
    nextSlotOf zs s = (⟨true, (getPair ((zs.drop p).take m)).1⟩, ((p : Int) + (m : Int), !(getPair ((zs.drop p).take m)).2)) := by
  unfold nextSlotOf; rw [h]; simp only [Int.toNat_natCast]; rw [if_neg (by simp; omega), if_neg (by omega)]
theorem next_place {zs : List Int} {s : Int × Bool} {n p : Int} (h : nextOf zs s = (n, (p, false))) : ∃ k : Nat, p = (k : Int) ∧ k ≤ zs.length := by
  unfold nextOf at h
  split at h
  · rename_i x r h1 h2
    simp only [Prod.mk.injEq] at h
    exact ⟨r.2, h.2.1.symm, (getAt_bd zs s.1 r.1 r.2 h2).1⟩
  · simp only [Prod.mk.injEq] at h
    exact absurd h.2.2 (by simp)
theorem reads_within {w w' : World} {a : Option Addr} {zs : List Int} {B : Nat} (hr : Reads w a zs) (hw : Within B (B + 1) w w') (hB : zs ≠ [] → ∀ b off, a = some ⟨b, off, none⟩ → b ≠ B) : Reads w' a zs := by
  refine ⟨hr.1, fun hne => ?_⟩
  obtain ⟨b, off, ha, hc⟩ := hr.2 hne
  refine ⟨b, off, ha, fun i hi => ?_⟩
  have hlt := block_lt (hc i hi)
  have hb := hB hne b off ha
  have := World.cell?_of_block (w := w) (w' := w') (a := ⟨b, off + i, none⟩) (hw.block b hlt (by omega))
  rw [this]
  exact hc i hi
theorem own_zero (w : World) (lo hi : Nat) (h : hi ≤ w.heap.size) : zeroS.own w lo hi := ⟨ownI_nil _ _ _ h, ownI_nil _ _ _ h, fun k hk => by cases hk⟩

set_option maxHeartbeats 4000000 in
set_option maxRecDepth 100000 in
theorem l3NextSlot_any (B : Nat) (a : Option Addr) (c : Nat) (zs : List Int) (s : Int × Bool) (w : World) (hb : RdAt w B a c zs s) (hr : Reads w a zs) (hl : zs.length ≤ 1099511627776) (hcap : zs.length ≤ c) (hB : zs ≠ [] → ∀ b off, a = some ⟨b, off, none⟩ → b ≠ B) :
    Calls Tryz.prog 64 #[.pointer (some ⟨B, 0, none⟩)] w fun e w' => ∃ t : SlotA, e = .returned (.agg t.cells.toArray) ∧ Hid (t.v = (nextSlotOf zs s).1) ∧ t.own w' w.heap.size w'.heap.size ∧ RdAt w' B a c zs (nextSlotOf zs s).2 ∧ Within B (B + 1) w w' := by
  have hBw := hb.lt
  obtain ⟨W, hW, b0, hbW, hsW⟩ := boxes1 w [.bool false, .int .i64 0, .slice none 0 0, .slice none 0 0] 56
  have hbr : RdAt W B a c zs s := Box.below hb hbW hBw
  have HBD : Hid (∀ n st, nextOf zs s = (n, st) → (st.2 = true ∨ n = 0) → nextSlotOf zs s = (noS, st)) := fun n st h1 h2 => nextSlot_bad h1 h2
  have HOT : Hid (∀ n p, nextOf zs s = (n, (p, false)) → ¬ n = 0 → (n < 0 ∨ (zs.length : Int) - p < n) → nextSlotOf zs s = (noS, (p, true))) := fun n p h1 h2 h3 => nextSlot_out h1 h2 h3
  have HIN : Hid (∀ (m p : Nat), nextOf zs s = ((m : Int), ((p : Int), false)) → 0 < m → p + m ≤ zs.length → nextSlotOf zs s = (⟨true, (getPair ((zs.drop p).take m)).1⟩, ((p : Int) + (m : Int), !(getPair ((zs.drop p).take m)).2))) := fun m p h1 h2 h3 => nextSlot_in h1 h2 h3
  have HPL : Hid (∀ n p, nextOf zs s = (n, (p, false)) → ∃ k : Nat, p = (k : Int) ∧ k ≤ zs.length) := fun n p h => next_place h
  generalize nextSlotOf zs s = R at *
  go_enter Tryz.func64, Tryz.ntmps64
  go_wp2_with fail
  rw [hW.out]
  clear hW
  refine (l2Next_any B a c zs s W hbr (hr.below hbW) (by omega)).mono ?_
  rintro e w1 ⟨⟨rfl, hb1⟩, hw1⟩
  have HN : Hid (nextOf zs s = nextOf zs s) := rfl
  generalize hY : nextOf zs s = Y at *
  clear hY HN
  obtain ⟨n, p, bad⟩ := Y
  simp only at *
  unfold RdAt at hb1
  simp only at hb1
  have b01 := b0.within hw1 (by omega)
  have hs1 := hw1.size
  have y0 := hb1.cell 0 _ rfl
  have y1 := hb1.cell 1 _ rfl
  have y2 := hb1.cell 2 _ rfl
  have g1 := hb1.frozen 1
  have g2 := hb1.frozen 2
  obtain ⟨x0, x1, x2, x3, f0, f1, f2, f3⟩ := b01.four
  have HW1 : Hid (Within B (B + 1) w w1) := (Within.of_below hbW).trans hw1
  have hr1 := reads_within (hr.below hbW) hw1 hB
  have hWw : W.heap.size = w.heap.size + 1 := hsW
  clear hsW
  by_cases hz : bad = true ∨ n = 0
  · have HR : Hid (R = (noS, (p, bad))) := HBD.out n (p, bad) rfl hz
    clear HBD HOT HIN HPL
    obtain ⟨WF, hWF, bF, hwF, hsF⟩ := box4_fill b01 (.bool false) (.int .i64 0) (.slice none 0 0) (.slice none 0 0)
    have HRD : Hid (Box WF B [.slice a zs.length c, .int .i64 p, .bool bad] 95) := hb1.within hwF (by omega)
    have HWF : Hid (Within B (B + 1) w WF) := ⟨hwF.os.trans HW1.out.os, hwF.tape.trans HW1.out.tape, hwF.output.trans HW1.out.output, Nat.le_trans HW1.out.size hwF.size, fun k hk hn => (hwF.block k (by omega) (by omega)).trans (HW1.out.block k hk hn)⟩
    have HEND : Hid (∃ t : SlotA, Ending.returned (.agg #[.bool false, .int .i64 0, .slice none 0 0, .slice none 0 0]) = .returned (.agg t.cells.toArray) ∧ Hid (t.v = R.1) ∧ t.own WF w.heap.size WF.heap.size ∧ RdAt WF B a c zs R.2 ∧ Within B (B + 1) w WF) :=
      ⟨zeroS, rfl, by rw [HR.out]; rfl, own_zero _ _ _ (Nat.le_refl _), by rw [HR.out]; exact HRD.out, HWF.out⟩
    clear hwF hb1 HW1 b01 hr1 HRD HWF
    cases bad with
    | true =>
      go_wp2
      rw [hWF.out]
      obtain ⟨q0, q1, q2, q3, _⟩ := bF.four
      exact bodyPost_ret (v := .agg #[.bool false, .int .i64 0, .slice none 0 0, .slice none 0 0]) (by simp [results, Tryz.results64, go_sem, q0, q1, q2, q3]) rfl HEND.out
    | false =>
      have hn0 : n = 0 := by simpa using hz
      subst hn0
      clear hz
      go_wp2
      rw [hWF.out]
      obtain ⟨q0, q1, q2, q3, _⟩ := bF.four
      exact bodyPost_ret (v := .agg #[.bool false, .int .i64 0, .slice none 0 0, .slice none 0 0]) (by simp [results, Tryz.results64, go_sem, q0, q1, q2, q3]) rfl HEND.out
  obtain ⟨hbd, hn0⟩ : bad = false ∧ ¬ n = 0 := by
    refine ⟨?_, fun e => hz (.inr e)⟩
    cases bad
    · rfl
    · exact absurd (.inl rfl) hz
  subst hbd
  have hn0b : (n == 0) = false := by simpa using hn0
  obtain ⟨k, rfl, hkl⟩ := HPL.out n p rfl
  by_cases ho : n < 0 ∨ (zs.length : Int) - (k : Int) < n
  · have HR : Hid (R = (noS, ((k : Int), true))) := HOT.out n k rfl hn0 ho
    clear HBD HOT HIN HPL hz hn0
    by_cases hneg : n < 0
    · have hd : decide (n < 0) = true := decide_eq_true hneg
      clear ho hneg
      go_wp2_with fail
      go_quiet (fail)
      have hb2 := hb1.drewN nq
      have b02 := b01.drewN nq
      have HW2 : Hid (Within B (B + 1) w (w1.drewN nq)) := HW1.out.drewN nq
      have hs2 : w.heap.size + 1 ≤ (w1.drewN nq).heap.size := by have : (w1.drewN nq).heap.size = w1.heap.size := (by first | rfl | simp); omega
      clear hb1 b01 HW1 x0 x1 x2 x3 f0 f1 f2 f3 y0 y1 y2 g1 g2 hr1
      generalize w1.drewN nq = w2 at *
      have y2 := hb2.cell 2 _ rfl
      have g2 := hb2.frozen 2
      obtain ⟨WB, hWB, bB, hwB, hsB⟩ := box_set hb2 2 (.bool true)
      simp only [List.set] at bB
      have b03 := b02.within hwB (by omega)
      obtain ⟨z0, z1, z2, z3, e0, e1, e2, e3⟩ := b03.four
      obtain ⟨WF, hWF, bF, hwF, hsF⟩ := box4_fill b03 (.bool false) (.int .i64 0) (.slice none 0 0) (.slice none 0 0)
      have HRD : Hid (Box WF B [.slice a zs.length c, .int .i64 (k : Int), .bool true] 95) := bB.within hwF (by omega)
      have HWB : Hid (Within B (B + 1) w WB) := HW2.out.trans hwB
      have HWF : Hid (Within B (B + 1) w WF) := ⟨hwF.os.trans HWB.out.os, hwF.tape.trans HWB.out.tape, hwF.output.trans HWB.out.output, Nat.le_trans HWB.out.size hwF.size, fun k hk hn => (hwF.block k (by omega) (by omega)).trans (HWB.out.block k hk hn)⟩
      have HEND : Hid (∃ t : SlotA, Ending.returned (.agg #[.bool false, .int .i64 0, .slice none 0 0, .slice none 0 0]) = .returned (.agg t.cells.toArray) ∧ Hid (t.v = R.1) ∧ t.own WF w.heap.size WF.heap.size ∧ RdAt WF B a c zs R.2 ∧ Within B (B + 1) w WF) :=
        ⟨zeroS, rfl, by rw [HR.out]; rfl, own_zero _ _ _ (Nat.le_refl _), by rw [HR.out]; exact HRD.out, HWF.out⟩
      have WBe := hWB.out
      rw [← WBe] at z0 z1 z2 z3 e0 e1 e2 e3
      rw [← WBe] at hWF
      clear hwF hwB hb2 HW2 b02 b03 HRD HWB HWF WBe hWB bB
      go_wp2
      rw [hWF.out]
      obtain ⟨q0, q1, q2, q3, _⟩ := bF.four
      exact bodyPost_ret (v := .agg #[.bool false, .int .i64 0, .slice none 0 0, .slice none 0 0]) (by simp [results, Tryz.results64, go_sem, q0, q1, q2, q3]) rfl HEND.out
    · have hd : decide (n < 0) = false := decide_eq_false hneg
      have hgt : (zs.length : Int) - (k : Int) < n := by rcases ho with h | h; exact absurd h hneg; exact h
      have hd2 : decide ((zs.length : Int) - (k : Int) < n) = true := decide_eq_true hgt
      clear ho hneg
      go_wp2_with fail
      go_quiet (fail)
      have hb2 := hb1.drewN nq
      have b02 := b01.drewN nq
      have HW2 : Hid (Within B (B + 1) w (w1.drewN nq)) := HW1.out.drewN nq
      have hs2 : w.heap.size + 1 ≤ (w1.drewN nq).heap.size := by have : (w1.drewN nq).heap.size = w1.heap.size := (by first | rfl | simp); omega
      clear hb1 b01 HW1 x0 x1 x2 x3 f0 f1 f2 f3 y0 y1 y2 g1 g2 hr1
      generalize w1.drewN nq = w2 at *
      have y2 := hb2.cell 2 _ rfl
      have g2 := hb2.frozen 2
      obtain ⟨WB, hWB, bB, hwB, hsB⟩ := box_set hb2 2 (.bool true)
      simp only [List.set] at bB
      have b03 := b02.within hwB (by omega)
      obtain ⟨z0, z1, z2, z3, e0, e1, e2, e3⟩ := b03.four
      obtain ⟨WF, hWF, bF, hwF, hsF⟩ := box4_fill b03 (.bool false) (.int .i64 0) (.slice none 0 0) (.slice none 0 0)
      have HRD : Hid (Box WF B [.slice a zs.length c, .int .i64 (k : Int), .bool true] 95) := bB.within hwF (by omega)
      have HWB : Hid (Within B (B + 1) w WB) := HW2.out.trans hwB
      have HWF : Hid (Within B (B + 1) w WF) := ⟨hwF.os.trans HWB.out.os, hwF.tape.trans HWB.out.tape, hwF.output.trans HWB.out.output, Nat.le_trans HWB.out.size hwF.size, fun k hk hn => (hwF.block k (by omega) (by omega)).trans (HWB.out.block k hk hn)⟩
      have HEND : Hid (∃ t : SlotA, Ending.returned (.agg #[.bool false, .int .i64 0, .slice none 0 0, .slice none 0 0]) = .returned (.agg t.cells.toArray) ∧ Hid (t.v = R.1) ∧ t.own WF w.heap.size WF.heap.size ∧ RdAt WF B a c zs R.2 ∧ Within B (B + 1) w WF) :=
        ⟨zeroS, rfl, by rw [HR.out]; rfl, own_zero _ _ _ (Nat.le_refl _), by rw [HR.out]; exact HRD.out, HWF.out⟩
      have WBe := hWB.out
      rw [← WBe] at z0 z1 z2 z3 e0 e1 e2 e3
      rw [← WBe] at hWF
      clear hwF hwB hb2 HW2 b02 b03 HRD HWB HWF WBe hWB bB
      go_wp2
      rw [hWF.out]
      obtain ⟨q0, q1, q2, q3, _⟩ := bF.four
      exact bodyPost_ret (v := .agg #[.bool false, .int .i64 0, .slice none 0 0, .slice none 0 0]) (by simp [results, Tryz.results64, go_sem, q0, q1, q2, q3]) rfl HEND.out
  · obtain ⟨m, rfl⟩ : ∃ m : Nat, n = (m : Int) := ⟨n.toNat, by omega⟩
    have hm0 : 0 < m := by omega
    have hkm : k + m ≤ zs.length := by omega
    have HR : Hid (R = _) := HIN.out m k rfl hm0 hkm
    have hd : decide ((m : Int) < 0) = false := decide_eq_false (by omega)
    have hd2 : decide ((zs.length : Int) - (k : Int) < (m : Int)) = false := decide_eq_false (by omega)
    clear HBD HOT HIN HPL hz ho hn0
    go_wp2_with fail
    go_quiet (fail)
    have hb2 := hb1.drewN nq
    have b02 := b01.drewN nq
    have hr2 : Reads (w1.drewN nq) a zs := hr1.below (below_drewN (Below.refl _ _) nq)
    have HW2 : Hid (Within B (B + 1) w (w1.drewN nq)) := HW1.out.drewN nq
    have hs2 : w.heap.size + 1 ≤ (w1.drewN nq).heap.size := by have : (w1.drewN nq).heap.size = w1.heap.size := (by first | rfl | simp); omega
    clear hb1 b01 HW1 x0 x1 x2 x3 f0 f1 f2 f3 y0 y1 y2 g1 g2 hr1
    generalize w1.drewN nq = w2 at *
    rcases hr2.cases with rfl | ⟨b, off, rfl, hpos, hcell⟩
    · simp at hkm; omega
    clear hcell
    have hsub := reads_slice hr2 k m hkm
    have hadd : (⟨b, off, none⟩ : Addr).add k = ⟨b, off + k, none⟩ := by unfold Addr.add; split <;> simp_all
    rw [Option.map_some, hadd] at hsub
    clear hadd
    have hsl : ((zs.drop k).take m).length = m := by rw [List.length_take, List.length_drop]; omega
    have HSL : Hid (_ = _) := hsl
    have hBB : b ≠ B := hB (by intro e; simp [e] at hpos) b off rfl
    generalize hsu : (zs.drop k).take m = sub at *
    clear hsu hsl
    have hck : ¬ c = k := by omega
    have hi1 : (0 : Int) ≤ (k : Int) := by omega
    have hi2 : (k : Int) ≤ (k : Int) + (m : Int) := by omega
    have hi3 : (k : Int) + (m : Int) ≤ (c : Int) := by omega
    have hi4 : (0 : Int) ≤ (k : Int) + (m : Int) := by omega
    have hwr : IntKind.i64.wrap ((k : Int) + (m : Int)) = (k : Int) + (m : Int) := by rw [IntKind.wrap_i64]; omega
    have htn : ((k : Int) + (m : Int)).toNat - k = m := by omega
    have HG : Hid (∀ w', Below w2.heap.size w2 w' → Calls Tryz.prog 89 #[.slice (some ⟨b, off + k, none⟩) m (c - k)] w' fun e w'' => ∃ aI cI aR cR o ok, e = .returned (.tuple #[.agg #[.int .i64 o.kind, .slice aI o.ints.length cI, .slice aR o.refs.length cR], .bool ok]) ∧ Hid (getPair sub = (o, ok)) ∧ OwnO w'' w'.heap.size w''.heap.size aI cI aR cR o ∧ Below w'.heap.size w' w'') := by
      intro w' hh
      have C := specGetObj_any (some ⟨b, off + k, none⟩) (c - k) sub w' (hsub.below hh) (by rw [HSL.out]; omega)
      rw [HSL.out] at C
      exact C
    go_upto_region 7 with fail
    go_cut [4, 5] from 6 (fun x y wx => ∃ (Bo : Nat) (o : ObjV) (aI : Option Addr) (cI : Nat) (aR : Option Addr) (cR : Nat), x = .pointer (some ⟨Bo, 0, none⟩) ∧ y = .bool (getPair sub).2 ∧ Hid (o = (getPair sub).1) ∧ Box wx Bo [.int .i64 o.kind, .slice aI o.ints.length cI, .slice aR o.refs.length cR] 54 ∧ OwnO wx w2.heap.size wx.heap.size aI cI aR cR o ∧ w2.heap.size ≤ Bo ∧ Below w2.heap.size w2 wx)
    case first =>
      have y0 := hb2.cell 0 _ rfl
      have y1 := hb2.cell 1 _ rfl
      have HB : Hid (∀ w'', Below w2.heap.size w2 w'' → w''.cell? ⟨B, 0, none⟩ = some (.slice (some ⟨b, off, none⟩) zs.length c) ∧ w''.cell? ⟨B, 1, none⟩ = some (.int .i64 (k : Int))) := fun w'' hh => ⟨(hb2.below hh hb2.lt).cell 0 _ rfl, (hb2.below hh hb2.lt).cell 1 _ rfl⟩
      have HBB : Hid (∀ w'', Below w2.heap.size w2 w'' → Box w'' B [.slice (some ⟨b, off, none⟩) zs.length c, .int .i64 (k : Int), .bool false] 95) := fun w'' hh => hb2.below hh hb2.lt
      have hne : ¬ (B = w2.heap.size) := by have := hb2.lt; omega
      have HBX : Hid (∀ u, Below (w2.alloc (.cells #[.int .i64 0, .slice none 0 0, .slice none 0 0] 54)).drew.heap.size (w2.alloc (.cells #[.int .i64 0, .slice none 0 0, .slice none 0 0] 54)).drew u → Box u w2.heap.size [.int .i64 0, .slice none 0 0, .slice none 0 0] 54) := fun u hu => Box.below (w := (w2.alloc (.cells #[.int .i64 0, .slice none 0 0, .slice none 0 0] 54)).drew) (box_new w2 _ _) hu (by simp [World.drew])
      go_region_held3 (fun w'' => w''.cell? ⟨B, 0, none⟩ = some (.slice (some ⟨b, off, none⟩) zs.length c) ∧ w''.cell? ⟨B, 1, none⟩ = some (.int .i64 (k : Int)))
        (first | exact HB.out _ hB1 | exact HB.out _ (Below.refl _ _).drew | exact HB.out _ (hB1.alloc hB1.size _) | exact HB.out _ (((Below.refl _ _).drew).alloc (Nat.le_refl _) _) | exact HB.out _ (((Below.refl _ _).alloc (Nat.le_refl _) _).drew) | exact ⟨((((HBB.out _ hB1).other hne).other hne).other hne).cell 0 _ rfl, ((((HBB.out _ hB1).other hne).other hne).other hne).cell 1 _ rfl⟩ | go_keep | fail)
        (first
        | (go_at_call 89; refine (HG.out _ (by first | exact (Below.refl _ _).drew | exact ((Below.refl _ _).alloc (Nat.le_refl _) _).drew | exact ((Below.refl _ _).drew).alloc (Nat.le_refl _) _ | fail)).mono ?_; rintro e u1 ⟨aI, cI, aR, cR, o, ok, rfl, hgp, ho1, hb1⟩; have hB1 : Below w2.heap.size w2 u1 := (by first | exact ((Below.refl _ _).drew).trans hb1 | exact (((Below.refl _ _).alloc (Nat.le_refl _) _).drew).trans (hb1.mono (by simp [World.drew])) | fail); (try (have bO := HBX.out u1 hb1; obtain ⟨m0, m1, m2, e0, e1, e2⟩ := bO.three)))
        | fail)
      · have hBA : Below w2.heap.size w2 (u1.alloc (.cells #[.int .i64 o.kind, .slice aI o.ints.length cI, .slice aR o.refs.length cR] 54)) := hB1.alloc hB1.size _
        have hOA : OwnO (u1.alloc (.cells #[.int .i64 o.kind, .slice aI o.ints.length cI, .slice aR o.refs.length cR] 54)) w2.heap.size (u1.alloc (.cells #[.int .i64 o.kind, .slice aI o.ints.length cI, .slice aR o.refs.length cR] 54)).heap.size aI cI aR cR o := (ho1.below ((Below.refl _ _).alloc (Nat.le_refl _) _)).widen (Nat.le_refl _) (by simp) (Nat.le_refl _)
        have hBX : Box (u1.alloc (.cells #[.int .i64 o.kind, .slice aI o.ints.length cI, .slice aR o.refs.length cR] 54)) u1.heap.size [.int .i64 o.kind, .slice aI o.ints.length cI, .slice aR o.refs.length cR] 54 := box_new _ _ _
        go_wp2_with fail
        go_meet
        case rel => exact ⟨u1.heap.size, o, aI, cI, aR, cR, rfl, by rw [hgp.out], by rw [Hid, hgp.out], hBX, hOA, hB1.size, hBA⟩
      · have bO := HBX.out u1 hb1
        obtain ⟨WF, hWF, bF, hwF, hsF⟩ := box3_fill bO (.int .i64 o.kind) (.slice aI o.ints.length cI) (.slice aR o.refs.length cR)
        have hsA : (w2.alloc (.cells #[.int .i64 0, .slice none 0 0, .slice none 0 0] 54)).drew.heap.size = w2.heap.size + 1 := by simp [World.drew]
        have hBF : Below w2.heap.size w2 WF := hB1.trans (hwF.below (Nat.le_refl _) hB1.size)
        have hOF : OwnO WF w2.heap.size WF.heap.size aI cI aR cR o := (ho1.within hwF (.inr (by omega))).widen (by omega) (by omega) (Nat.le_refl _)
        rw [hWF.out]
        clear hwF
        go_wp2_with fail
        go_meet
        case rel => exact ⟨w2.heap.size, o, aI, cI, aR, cR, rfl, by rw [hgp.out], by rw [Hid, hgp.out], bF, hOF, Nat.le_refl _, hBF⟩
    case rest =>
      obtain ⟨Bo, o, aI, cI, aR, cR, rfl, rfl, hoE, bO, oO, hBo, hbc⟩ := hcut
      generalize hGP : getPair sub = GP at *
      clear hGP
      have hsc := hbc.size
      have hb3 := hb2.below hbc hb2.lt
      have b03 := b02.below hbc b02.lt
      have hltO := bO.lt
      have hBlt := hb2.lt
      have y1 := hb3.cell 1 _ rfl
      have g1 := hb3.frozen 1
      obtain ⟨W4, hW4, b4, hw4, hs4⟩ := box_set hb3 1 (.int .i64 ((k : Int) + (m : Int)))
      simp only [List.set] at b4
      have y2 := b4.cell 2 _ rfl
      have g2 := b4.frozen 2
      obtain ⟨W5, hW5, b5, hw5, hs5⟩ := box_set b4 2 (.bool (!GP.2))
      simp only [List.set] at b5
      have bO5 := (bO.within hw4 (by omega)).within hw5 (by omega)
      have b05 := (b03.within hw4 (by omega)).within hw5 (by omega)
      obtain ⟨z0, z1, z2, _, _, _⟩ := bO5.three
      obtain ⟨x0, x1, x2, x3, f0, f1, f2, f3⟩ := b05.four
      obtain ⟨WF, hWF, bF, hwF, hsF⟩ := box4_fill b05 (.bool true) (.int .i64 o.kind) (.slice aI o.ints.length cI) (.slice aR o.refs.length cR)
      have HRD : Hid (Box WF B [.slice (some ⟨b, off, none⟩) zs.length c, .int .i64 ((k : Int) + (m : Int)), .bool (!GP.2)] 95) := b5.within hwF (by omega)
      have HWB : Hid (Within B (B + 1) w W5) := ((HW2.out.trans (Within.of_below hbc)).trans hw4).trans hw5
      have HWF : Hid (Within B (B + 1) w WF) := ⟨hwF.os.trans HWB.out.os, hwF.tape.trans HWB.out.tape, hwF.output.trans HWB.out.output, Nat.le_trans HWB.out.size hwF.size, fun k hk hn => (hwF.block k (by omega) (by omega)).trans (HWB.out.block k hk hn)⟩
      have HOF : Hid (OwnO WF w.heap.size WF.heap.size aI cI aR cR o) := (((oO.within hw4 (.inr (by omega))).within hw5 (.inr (by omega))).within hwF (.inr (by omega))).widen (by omega) (by omega) (Nat.le_refl _)
      have HEND : Hid (∃ t : SlotA, Ending.returned (.agg #[.bool true, .int .i64 o.kind, .slice aI o.ints.length cI, .slice aR o.refs.length cR]) = .returned (.agg t.cells.toArray) ∧ Hid (t.v = R.1) ∧ t.own WF w.heap.size WF.heap.size ∧ RdAt WF B (some ⟨b, off, none⟩) c zs R.2 ∧ Within B (B + 1) w WF) :=
        ⟨⟨⟨true, o⟩, aI, cI, aR, cR⟩, rfl, by rw [HR.out, Hid, hoE.out], HOF.out, by rw [HR.out]; exact HRD.out, HWF.out⟩
      have W4e := hW4.out
      have W5e := hW5.out
      rw [← W5e, ← W4e] at z0 z1 z2 x0 x1 x2 x3 f0 f1 f2 f3 hWF
      rw [← W4e] at y2 g2
      clear hwF hw4 hw5 hb2 hb3 HW2 b02 b03 HRD HWB HWF HOF W4e W5e hW4 hW5 b4 b5 bO oO bO5 b05 HG hbc
      go_wp2
      rw [hWF.out]
      obtain ⟨q0, q1, q2, q3, _⟩ := bF.four
      exact bodyPost_ret (v := .agg #[.bool true, .int .i64 o.kind, .slice aI o.ints.length cI, .slice aR o.refs.length cR]) (by simp [results, Tryz.results64, go_sem, q0, q1, q2, q3]) rfl HEND.out
end Go.Proofs.YtbpdocjkhmiimabGreatDoor

/- Plain mathematics of SetSlot; results that are a page and a flag. -/
namespace Go.Proofs.YtbpdocjkhmiimabGreatDoor
open Go.RowKit

def setOk (n : Int) (vs : List SlotV) (slot : Int) (s : SlotV) (lsn : Int) : Bool := okP n vs && (inB slot 0 3 && (slotB s && inB lsn n 1000000))
def setOf (n : Int) (vs : List SlotV) (slot : Int) (s : SlotV) (lsn : Int) : Int × List SlotV := if setOk n vs slot s lsn then (lsn, vs.set slot.toNat s) else (n, vs)
theorem setOf_no {n : Int} {vs : List SlotV} {slot : Int} {s : SlotV} {lsn : Int} (h : setOk n vs slot s lsn = false) : setOf n vs slot s lsn = (n, vs) := by unfold setOf; rw [if_neg (by rw [h]; decide)]
theorem setOf_ok {n : Int} {vs : List SlotV} {slot : Int} {s : SlotV} {lsn : Int} (h : setOk n vs slot s lsn = true) : setOf n vs slot s lsn = (lsn, vs.set slot.toNat s) := by unfold setOf; rw [if_pos h]
theorem setOk_p {n : Int} {vs : List SlotV} {slot : Int} {s : SlotV} {lsn : Int} (h : okP n vs = false) : setOk n vs slot s lsn = false := by simp [setOk, h]
theorem setOk_slot {n : Int} {vs : List SlotV} {slot : Int} {s : SlotV} {lsn : Int} (h : inB slot 0 3 = false) : setOk n vs slot s lsn = false := by simp [setOk, h]
theorem setOk_s {n : Int} {vs : List SlotV} {slot : Int} {s : SlotV} {lsn : Int} (h : slotB s = false) : setOk n vs slot s lsn = false := by simp [setOk, h]
theorem setOk_lsn {n : Int} {vs : List SlotV} {slot : Int} {s : SlotV} {lsn : Int} (h : inB lsn n 1000000 = false) : setOk n vs slot s lsn = false := by simp [setOk, h]
theorem setOk_all {n : Int} {vs : List SlotV} {slot : Int} {s : SlotV} {lsn : Int} (h1 : okP n vs = true) (h2 : inB slot 0 3 = true) (h3 : slotB s = true) (h4 : inB lsn n 1000000 = true) : setOk n vs slot s lsn = true := by simp [setOk, h1, h2, h3, h4]

theorem results_cell_flag {P : Program} {fn : Func} {s t : Nat} {ty : TypeId} {tmps : Array Value} {w : World} {v b : Value} {ad : Addr} (hf : fn.results = #[.cell s ty, .tmp t]) (ht : tmps[s]?.getD undef = .pointer (some ad)) (hl : (loadVar ty ad).run P w = .ok v w) (hb : tmps[t]?.getD undef = b) : (results fn tmps).run P w = .ok (.tuple #[v, b]) w := by
  unfold results
  rw [hf]
  simp [ht, asAddr, hl, hb]

/-- A whole value loaded where a guard stands ahead of it that lets it by. -/
theorem wpList_load_mid_if {ops : Array Oper} {rest : List Oper} {op : Oper} {a : Act} {w : World} {Q : Exit → Act → World → Prop} {P : Program} (hw : Region.wanted op (yielded ops a.tmps) = true) (ty : TypeId) (x : Operand) (ho : op.op = .load ty x)
    (b o : Nat) (hx : a.eval x = .pointer (some ⟨b, o, none⟩)) (cs : List Value) (d : TypeDesc) (hc : w.rangeAt b o cs)
    (hu : P.underlying ty = some d) (hd : d.isRow = true) (hi : (P.info? ty).map (·.size) = some cs.length)
    (h : wpList P ops Q rest (a.put op.dst (.agg cs.toArray)) w) : wpList P ops Q (op :: rest) a w :=
  wpList_step fun _ hK => by
    simp only [hw, if_true]
    exact wp_load_mid ty x ho b o hx cs d hc hu hd hi (hK _ _ h)

def zero17 : List Value := [.int .i64 0, .bool false, .int .i64 0, .slice none 0 0, .slice none 0 0, .bool false, .int .i64 0, .slice none 0 0, .slice none 0 0, .bool false, .int .i64 0, .slice none 0 0, .slice none 0 0, .bool false, .int .i64 0, .slice none 0 0, .slice none 0 0]

/-- A page at B is stored at C, which holds a page: what is there then, and what the result reads. -/
theorem page_out {w : World} {C : Nat} {T : TypeId} {d : TypeDesc} (q : PageA) (hq : q.ss.length = 4) (old : List Value) (ho : old.length = 17) (bC : Box w C old T) (hu : Tryz.prog.underlying T = some d) (hd : d.isRow = true) (hi : (Tryz.prog.info? T).map (·.size) = some 17) :
    ∃ WF, Hid (w.setCells C 0 q.cells = WF) ∧ Within C (C + 1) w WF ∧ WF.heap.size = w.heap.size ∧ Hid (w.there C 0 q.cells.toArray.size) ∧ Hid ((loadVar T ⟨C, 0, none⟩).run Tryz.prog WF = .ok (.agg q.cells.toArray) WF) ∧ Box WF C q.cells T := by
  have hl : q.cells.length = 17 := page_len q hq
  obtain ⟨WF, hWF, bF, hwF, hsF⟩ := range_fill [] old q.cells [] (by simpa using bC) (by rw [hl, ho])
  have bF' : Box WF C q.cells T := by simpa using bF
  refine ⟨WF, hWF, hwF, hsF, bC.there 0 _ (by rw [List.size_toArray, hl, ho]; omega), ?_, bF'⟩
  exact run_loadVar_mid (P := Tryz.prog) WF C 0 T q.cells d (Box.range [] q.cells [] (by simpa using bF')) hu hd (by rw [hi, hl])
end Go.Proofs.YtbpdocjkhmiimabGreatDoor

/- The walks of spec.l1Ends and spec.Unframe. -/
namespace Go.Proofs.YtbpdocjkhmiimabGreatDoor
open Go.RowKit

/-- Does what begins at q end ahead of a number's last group? -/
def endsB (zs : List Int) (q : Nat) : Bool := decide (lead (zs.drop q) = zs.length - q ∧ zs.length - q < 6)

theorem endsB_no (zs : List Int) (q j : Nat) (hj : q + j < zs.length) (h : zs.getD (q + j) 0 < 128) : endsB zs q = false := by
  unfold endsB
  rw [decide_eq_false_iff_not]
  rintro ⟨h1, _⟩
  have := lead_stop j (zs.drop q) (by simp; omega) (by rw [drop_getD]; exact h)
  omega
theorem endsB_all (zs : List Int) (q : Nat) (h : ∀ i, i < zs.length - q → 128 ≤ zs.getD (q + i) 0) : endsB zs q = decide ((zs.length - q) < 6) := by
  have h1 := lead_ge (zs.length - q) (zs.drop q) (by simp) (fun i hi => by rw [drop_getD]; exact h i hi)
  have h2 := lead_le (zs.drop q)
  have h3 : (zs.drop q).length = zs.length - q := List.length_drop
  unfold endsB
  exact decide_eq_decide.2 ⟨fun h => h.2, fun h => ⟨by omega, h⟩⟩

theorem why_ends (zs : List Int) (q : Nat) (hq : q ≤ zs.length) (b : Bool) (h : endsB zs q = b) : scanWhy zs q = if b then 1 else 3 := by
  subst h
  unfold scanWhy endsB
  rw [Int.toNat_natCast]
  by_cases h : lead (zs.drop q) = zs.length - q ∧ zs.length - q < 6
  · rw [if_pos ⟨by omega, by omega, h.1, by omega⟩, decide_eq_true h]; rfl
  · rw [if_neg (fun h' => h ⟨h'.2.2.1, by omega⟩), decide_eq_false h]; rfl

set_option maxHeartbeats 400000 in
set_option maxRecDepth 100000 in
theorem l1Ends_any (a : Option Addr) (c : Nat) (zs : List Int) (q : Nat) (w : World) (hr : Reads w a zs) (hl : zs.length ≤ 70368744177664) (hq : q ≤ zs.length) :
    Calls Tryz.prog 62 #[.slice a zs.length c, .int .i64 q] w fun e w' => e = .returned (.bool (endsB zs q)) ∧ w' = w := by
  have hby := hr.byte
  rcases hr.cases with rfl | ⟨b, off, rfl, hpos, hcell⟩
  · have hq' : q < 1 := by simp at hq; omega
    have HE : Hid (endsB [] q = true) := by rw [Hid]; unfold endsB; simp [lead]
    have hz : ((0 : Int) - (q : Int) < 6) := by omega
    go_enter Tryz.func62, Tryz.ntmps62
    go_wp2
    refine wp_loop_rounds 1 ?_
    rw [rounds_succ]
    go_wp2
    go_ret
    exact ⟨ret_bool (by rw [HE.out]; simp; omega), rfl⟩
  go_enter Tryz.func62, Tryz.ntmps62
  go_wp2
  go_loop [5] (fun i => ∃ j : Nat, q + j ≤ zs.length ∧ i = .int .i64 ((q + j : Nat) : Int) ∧ Hid (∀ i, i < j → 128 ≤ zs.getD (q + i) 0)) (fun i => zs.length - (intOf i).toNat)
  case atStart => exact ⟨0, by omega, by simp, fun i hi => by omega⟩
  case round =>
    obtain ⟨j, hjl, rfl, hall⟩ := hrel
    by_cases hlt : q + j < zs.length
    · have hc := hcell (q + j) hlt
      obtain ⟨hn, hn2⟩ := bytes_nat hby (q + j)
      have HCC : Hid (zs.getD (q + j) 0 = ((zs.getD (q + j) 0).toNat : Int)) := hn
      rw [hn] at hc
      clear hn
      generalize (zs.getD (q + j) 0).toNat = cc at *
      by_cases hcc : cc < 128
      · have HE : Hid (endsB zs q = false) := endsB_no zs q j hlt (by rw [HCC.out]; omega)
        clear hcell hby
        go_wp2
        go_ret
        exact ⟨ret_bool HE.out.symm, rfl⟩
      · have HN : Hid (∀ i, i < j + 1 → 128 ≤ zs.getD (q + i) 0) := by
          intro i hi
          by_cases e : i = j
          · rw [e, HCC.out]; omega
          · exact hall.out i (by omega)
        clear hcell hby
        go_wp2
        go_round
        case rel => exact ⟨j + 1, by omega, by go_num, HN⟩
        case measure => simp [intOf]; omega
    · have HE : Hid (endsB zs q = decide (zs.length - q < 6)) := endsB_all zs q (fun i hi => hall.out i (by omega))
      clear hcell hby
      go_wp2
      go_ret
      exact ⟨ret_bool (by rw [HE.out]; exact decide_eq_decide.2 (by omega)), rfl⟩

theorem own_empty (w : World) : OwnB (w.alloc (.cells #[] 5)) w.heap.size (some ⟨w.heap.size, 0, none⟩) 0 [] := own_lit0 w

theorem take4_of (S F : List Int) (hs : 4 ≤ S.length) (hf : F.length = 4) (h : ∀ t, t < 4 → S.getD t 0 = F.getD t 0) : S.take 4 = F := by
  apply List.ext_getElem
  · simp; omega
  · intro i h1 h2
    have := h i (by omega)
    simp [List.getD, h2] at this
    rw [List.getElem?_eq_getElem (by omega)] at this
    simpa using this
theorem take4_not (S F : List Int) (t : Nat) (ht : t < 4) (h : S.getD t 0 ≠ F.getD t 0) : ¬ S.take 4 = F := by
  intro e
  apply h
  rw [← e]
  simp [List.getD, ht]

set_option maxHeartbeats 2000000 in
set_option maxRecDepth 100000 in
theorem specUnframe_any (a : Option Addr) (c : Nat) (zs : List Int) (p : Int) (w : World) (hr : Reads w a zs) (hl : zs.length ≤ 70368744100000) (hcap : zs.length ≤ c) :
    Calls Tryz.prog 36 #[.slice a zs.length c, .int .i64 p] w fun e w' => ∃ a' c' ys q code, e = .returned (.tuple #[.slice a' ys.length c', .int .i64 q, .int .i64 code]) ∧ Hid (unfOf zs p = (ys, q, code)) ∧ OwnB w' w.heap.size a' c' ys ∧ Below w.heap.size w w' := by
  by_cases hin : 0 ≤ p ∧ p ≤ zs.length
  case neg =>
    have HB : Hid (inB p 0 zs.length = false) := by unfold inB; exact decide_eq_false hin
    have hg : getAt zs p = none := by
      by_cases h0 : p < 0
      · exact getAt_neg zs p h0
      · exact getAt_past zs p (by omega)
    have HU : Hid (unfOf zs p = ([], p, 3)) := by rw [Hid, unf_none zs p hg]; unfold scanWhy; rw [if_neg (fun h => hin ⟨h.1, h.2.1⟩)]
    clear hg hin
    go_enter Tryz.func36, Tryz.ntmps36
    go_wp2_with fail
    refine (l1In_any _ _ _ _).mono ?_
    rintro e w' ⟨rfl, rfl⟩
    rw [HB.out]
    go_wp2
    go_ret3
    exact ⟨_, 0, [], p, 3, rfl, HU, own_lit0 w', (Below.refl _ _).alloc (Nat.le_refl _) _⟩
  case pos =>
  obtain ⟨q, rfl⟩ := Int.eq_ofNat_of_zero_le hin.1
  have hq : q ≤ zs.length := by omega
  have HB : Hid (inB q 0 zs.length = true) := by unfold inB; exact decide_eq_true hin
  clear hin
  cases hg : getAt zs q with
  | none =>
    have HG : Hid (_ = _) := hg
    have HU : Hid (_ = _) := unf_none zs q hg
    have HW : Hid (∀ b, endsB zs q = b → scanWhy zs q = if b then 1 else 3) := fun b h => why_ends zs q hq b h
    clear hg
    cases he : endsB zs q with
    | true =>
      have HE : Hid (_ = _) := he
      have HU1 : Hid (unfOf zs q = ([], (q : Int), 1)) := by rw [Hid, HU.out, HW.out _ he]; rfl
      clear he HW
      go_enter Tryz.func36, Tryz.ntmps36
      go_wp2_with fail
      refine (l1In_any _ _ _ _).mono ?_
      rintro e w' ⟨rfl, rfl⟩
      rw [HB.out]
      go_wp2_with fail
      refine (specGetInt_any a c zs q w' hr (by omega)).mono ?_
      rintro e w'' ⟨rfl, rfl⟩
      rw [HG.out]
      simp only [triple]
      go_wp2_with fail
      refine (l1Ends_any a c zs q w'' hr (by omega) hq).mono ?_
      rintro e w3 ⟨rfl, rfl⟩
      rw [HE.out]
      go_wp2
      go_ret3
      exact ⟨_, 0, [], q, 1, rfl, HU1, own_lit0 _, (Below.refl _ _).alloc (Nat.le_refl _) _⟩
    | false =>
      have HE : Hid (_ = _) := he
      have HU1 : Hid (unfOf zs q = ([], (q : Int), 3)) := by rw [Hid, HU.out, HW.out _ he]; rfl
      clear he HW
      go_enter Tryz.func36, Tryz.ntmps36
      go_wp2_with fail
      refine (l1In_any _ _ _ _).mono ?_
      rintro e w' ⟨rfl, rfl⟩
      rw [HB.out]
      go_wp2_with fail
      refine (specGetInt_any a c zs q w' hr (by omega)).mono ?_
      rintro e w'' ⟨rfl, rfl⟩
      rw [HG.out]
      simp only [triple]
      go_wp2_with fail
      refine (l1Ends_any a c zs q w'' hr (by omega) hq).mono ?_
      rintro e w3 ⟨rfl, rfl⟩
      rw [HE.out]
      go_wp2
      go_ret3
      exact ⟨_, 0, [], q, 3, rfl, HU1, own_lit0 _, (Below.refl _ _).alloc (Nat.le_refl _) _⟩
  | some r =>
    obtain ⟨n, k⟩ := r
    obtain ⟨hk, hn1, hn2⟩ := getAt_bd zs q n k hg
    have HG : Hid (_ = _) := hg
    by_cases h0 : n < 0
    · have HU : Hid (_ = _) := unf_neg zs q n k hg h0
      clear hg
      go_enter Tryz.func36, Tryz.ntmps36
      go_wp2_with fail
      refine (l1In_any _ _ _ _).mono ?_
      rintro e w' ⟨rfl, rfl⟩
      rw [HB.out]
      go_wp2_with fail
      refine (specGetInt_any a c zs q w' hr (by omega)).mono ?_
      rintro e w'' ⟨rfl, rfl⟩
      rw [HG.out]
      simp only [triple]
      go_wp2
      go_ret3
      exact ⟨_, 0, [], q, 3, rfl, HU, own_lit0 _, (Below.refl _ _).alloc (Nat.le_refl _) _⟩
    obtain ⟨m, rfl⟩ := Int.eq_ofNat_of_zero_le (show 0 ≤ n from by omega)
    by_cases h1 : (zs.length : Int) - (k : Int) < (m : Int) + 4
    · have HU : Hid (_ = _) := unf_end zs q m k hg h1
      have h1' : (zs.length : Int) - (k : Int) - 4 < (m : Int) := by omega
      clear hg h1
      go_enter Tryz.func36, Tryz.ntmps36
      go_wp2_with fail
      refine (l1In_any _ _ _ _).mono ?_
      rintro e w' ⟨rfl, rfl⟩
      rw [HB.out]
      go_wp2_with fail
      refine (specGetInt_any a c zs q w' hr (by omega)).mono ?_
      rintro e w'' ⟨rfl, rfl⟩
      rw [HG.out]
      simp only [triple]
      go_wp2
      go_ret3
      exact ⟨_, 0, [], q, 1, rfl, HU, own_lit0 _, (Below.refl _ _).alloc (Nat.le_refl _) _⟩
    have hlen : k + m + 4 ≤ zs.length := by omega
    have hrB := reads_slice hr k m (by omega)
    have hlB : ((zs.drop k).take m).length = m := by simp; omega
    have hcl := crcOf_lt _ hrB.byte
    have HUS : Hid (_ → _) := unf_sum zs q m k hg h1
    have HUG : Hid (_ → _) := unf_good zs q m k hg h1
    have h1' : ¬ (zs.length : Int) - (k : Int) - 4 < (m : Int) := by omega
    have HLB : Hid (m = ((zs.drop k).take m).length) := hlB.symm
    have hby := hr.byte
    rcases hr.cases with rfl | ⟨b, off, rfl, hpos, hcell⟩
    · simp at hlen
    clear hg h1 hlB
    have hrP := reads_part hby hcell k m (by omega)
    have HSL : Hid (4 ≤ (zs.drop (k + m)).length) := by rw [Hid]; simp; omega
    have HSD : Hid (∀ t, (zs.drop (k + m)).getD t 0 = zs.getD (k + m + t) 0) := drop_getD zs (k + m)
    generalize hG : (zs.drop k).take m = G at *
    clear hG
    go_enter Tryz.func36, Tryz.ntmps36
    go_wp2_with fail
    refine (l1In_any _ _ _ _).mono ?_
    rintro e w' ⟨rfl, rfl⟩
    rw [HB.out]
    go_wp2_with fail
    refine (specGetInt_any _ c zs q w' hr (by omega)).mono ?_
    rintro e w'' ⟨rfl, rfl⟩
    rw [HG.out]
    simp only [triple]
    have hck : ¬ c = k := by omega
    have hrG := hrP.alloc (.cells #[] 5)
    go_wp2_with (at_builtin; refine append_bytes rfl _ _ rfl w''.heap.size (some ⟨w''.heap.size, 0, none⟩) 0 [] rfl (own_lit0 _) (some ⟨b, off + k, none⟩) (c - k) G (by show Value.slice _ _ _ = Value.slice _ _ _; congr 1; have := HLB.out; omega) hrG (fun h => by cases h) (by have := HLB.out; simp; omega) (by simp) ?_; intro a2 c2 y2 w2 hy2 ho2 hg2)
    have B2 : Below w''.heap.size w'' w2 := ((Below.refl _ _).alloc (Nat.le_refl _) _).grown hg2 (by simp) (fun j hj => (own_lit0 w'').2.lt j hj |>.1)
    obtain rfl : y2 = G := by rw [hy2.out]; rfl
    clear hy2
    have hyl : y2.length ≤ 1000000000000 := by have := HLB.out; omega
    refine (specCrc_any a2 c2 y2 w2 ho2.reads (by omega)).mono ?_
    rintro e w3 ⟨rfl, rfl⟩
    go_wp2_with fail
    refine (l1Four_any (crcOf y2) w3 hcl).mono ?_
    rintro e w4 ⟨a4, c4, y4, rfl, hy4, ho4, hb4⟩
    have B4 : Below w''.heap.size w'' w4 := B2.trans (hb4.mono B2.size)
    have ho24 := ho2.below hb4
    have hr4 := hr.below B4
    have HY4 : Hid (y4 = four (crcOf y2)) := hy4
    have h4l : y4.length = 4 := by rw [hy4]; simp [four, fourTo]
    have H4L : Hid (y4.length = 4) := h4l
    have h4p : 4 ≤ y4.length := by omega
    rcases ho4.reads.cases with h | ⟨b4, o4, rfl, _, hc4⟩
    · rw [h] at h4l; simp at h4l
    have hc0 : ∀ i, i < zs.length → w4.cell? ⟨b, off + i, none⟩ = some (.int .u8 (zs.getD i 0)) := by
      rcases hr4.cases with h | ⟨b', o', h', _, hh⟩
      · rw [h] at hpos; simp at hpos
      · cases h'; exact hh
    clear hy4 h4l hcell hrB hrP hrG hg2
    go_wp2
    go_loopw [12] (fun i wr => ∃ j : Nat, j ≤ 4 ∧ i = .int .i64 j ∧ Hid (∀ t, t < j → (zs.drop (k + m)).getD t 0 = y4.getD t 0) ∧ ∃ n, wr = w4.drewN n) (fun i _ => 4 - (intOf i).toNat)
    case atStart => exact ⟨0, by omega, rfl, fun t ht => by omega, 0, rfl⟩
    case round =>
      obtain ⟨j, hj, rfl, hall, n, rfl⟩ := hrel
      by_cases hlt : j < 4
      · have h1 := hc0 (k + m + j) (by omega)
        have h2 := hc4 j (by omega)
        obtain ⟨hn, hn2⟩ := bytes_nat hby (k + m + j)
        obtain ⟨hn', hn2'⟩ := bytes_nat ho4.1 j
        have HZ : Hid ((zs.drop (k + m)).getD j 0 = ((zs.getD (k + m + j) 0).toNat : Int)) := by rw [Hid, HSD.out]; exact hn
        have HY : Hid (y4.getD j 0 = ((y4.getD j 0).toNat : Int)) := hn'
        rw [hn] at h1
        rw [hn'] at h2
        clear hn hn' hc0 hc4
        generalize (zs.getD (k + m + j) 0).toNat = zz at *
        generalize (y4.getD j 0).toNat = yy at *
        have hx1 : (k : Int) + (m : Int) + (j : Int) < (zs.length : Int) := by omega
        have hx2 : (j : Int) < (y4.length : Int) := by omega
        have hw1 : IntKind.i64.wrap ((k : Int) + (m : Int)) = (k : Int) + (m : Int) := by rw [IntKind.wrap_i64]; omega
        have hw2 : IntKind.i64.wrap ((k : Int) + (m : Int) + (j : Int)) = (k : Int) + (m : Int) + (j : Int) := by rw [IntKind.wrap_i64]; omega
        by_cases hzy : zz = yy
        · have HN : Hid (∀ t, t < j + 1 → (zs.drop (k + m)).getD t 0 = y4.getD t 0) := by
            intro t ht
            by_cases e : t = j
            · rw [e, HZ.out, HY.out, hzy]
            · exact hall.out t (by omega)
          subst hzy
          go_wp2
          go_region
          go_wp2
          go_roundw
          case rel => exact ⟨j + 1, by omega, by go_num, HN, _, rfl⟩
          case measure => simp [intOf]; omega
        · have hzb : (((zz : Nat) : Int) == (yy : Int)) = false := by simp; omega
          have HU : Hid (_ = _) := HUS.out (by rw [← HY4.out]; exact take4_not _ _ j hlt (by rw [HZ.out, HY.out]; omega))
          go_wp2
          go_region
          go_wp2
          go_ret3
          exact ⟨_, 0, [], q, 2, rfl, HU, (own_lit0 _).base (by have := B4.size; simpa using this), (below_drewN B4 _).alloc (by have := B4.size; simpa using this) _⟩
      · have HU : Hid (_ = _) := HUG.out (by rw [← HY4.out]; exact take4_of _ _ HSL.out H4L.out (fun t ht => hall.out t (by omega)))
        go_wp2
        go_ret3
        exact ⟨a2, c2, y2, (k : Int) + (m : Int) + 4, 0, rfl, HU, ho24.below (below_drewN (Below.refl _ _) n), below_drewN B4 n⟩
end Go.Proofs.YtbpdocjkhmiimabGreatDoor

/- The walk of spec.GetPage. -/
namespace Go.Proofs.YtbpdocjkhmiimabGreatDoor
open Go.RowKit

theorem nextSlots_snoc (zs : List Int) (k : Nat) : ∀ s, nextSlots zs (k + 1) s = ((nextSlots zs k s).1 ++ [(nextSlotOf zs (nextSlots zs k s).2).1], (nextSlotOf zs (nextSlots zs k s).2).2) := by
  induction k with
  | zero => intro s; rfl
  | succ k ih =>
    intro s
    rw [nextSlots, ih (nextSlotOf zs s).2]
    rfl
theorem own_zero4 (w : World) (lo hi : Nat) (h : hi ≤ w.heap.size) : OwnS w lo hi zero4 := by
  refine ⟨fun s hs => ?_, by decide⟩
  simp only [zero4, List.mem_cons, List.not_mem_nil, or_false] at hs
  rcases hs with rfl | rfl | rfl | rfl <;> exact own_zero w lo hi h
theorem pairP_no {zs : List Int} (h : getP zs = none) : pairP zs = (noP, false) := by unfold pairP; rw [h]
theorem pairP_is {zs : List Int} {x : Int × List SlotV} (h : getP zs = some x) : pairP zs = (x, true) := by unfold pairP; rw [h]
theorem getP_read (zs : List Int) : getP zs = if (unfOf zs 0).2.2 = 0 ∧ (unfOf zs 0).2.1 = (zs.length : Int) ∧ (readerP (unfOf zs 0).1).2 = false ∧ okP (readerP (unfOf zs 0).1).1.1 (readerP (unfOf zs 0).1).1.2 = true ∧ putPageOf (readerP (unfOf zs 0).1).1.1 (readerP (unfOf zs 0).1).1.2 = zs
  then some (readerP (unfOf zs 0).1).1 else none := rfl

theorem getPair_small (zs : List Int) : (getPair zs).1.ints.length ≤ 5 ∧ (getPair zs).1.refs.length ≤ 5 := by
  cases h : (getPair zs).2 with
  | true => have := okB_bd (getPair_true h).1; exact ⟨this.2.1, this.2.2.1⟩
  | false => rw [getPair_false h]; simp [noO]
theorem nextSlot_small (zs : List Int) (s : Int × Bool) : (nextSlotOf zs s).1.o.ints.length ≤ 5 ∧ (nextSlotOf zs s).1.o.refs.length ≤ 5 := by
  unfold nextSlotOf
  split
  · simp [noS, noO]
  · split
    · simp [noS, noO]
    · exact getPair_small _
theorem nextSlots_small (zs : List Int) (k : Nat) : ∀ s, ∀ v ∈ (nextSlots zs k s).1, v.o.ints.length ≤ 5 ∧ v.o.refs.length ≤ 5 := by
  induction k with
  | zero => intro s v hv; simp [nextSlots] at hv
  | succ k ih =>
    intro s v hv
    simp only [nextSlots, List.mem_cons] at hv
    rcases hv with rfl | h
    · exact nextSlot_small zs s
    · exact ih _ v h
theorem unf_len (zs : List Int) (p : Int) : (unfOf zs p).1.length ≤ zs.length := by
  unfold unfOf
  split
  · simp
  · split
    · simp
    · split
      · simp
      · split
        · simp only [List.length_take, List.length_drop]; omega
        · simp

end Go.Proofs.YtbpdocjkhmiimabGreatDoor
