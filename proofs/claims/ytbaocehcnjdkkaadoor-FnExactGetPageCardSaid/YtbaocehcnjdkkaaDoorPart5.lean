/- Several texts in one, in their order. -/
import Derived.Test.YtbaocehcnjdkkaaDoorPart4
import Derived.Test.YtbaocehcnjdkkaaDoorPart3
import Derived.Deep.RegionHeld3
import Derived.Deep.CutRange
import Derived.Deep.MidRow
import Derived.Test.YtbaocehcnjdkkaaDoorPart1
/- The walks of impl.GetText and spec.GetText. -/
namespace Go.Proofs.YtbaocehcnjdkkaaDoor
open Go.RowKit

/-- What GetText answers. -/
def textOf (zs : List Int) (p : Int) : Value := match getAt zs p with
  | some r => if 0 ≤ r.1 ∧ r.1 ≤ (zs.length : Int) - (r.2 : Int) then .tuple #[.string (strOf ((zs.drop r.2).take r.1.toNat)), .int .i64 ((r.2 : Int) + r.1), .bool true] else .tuple #[.string ⟨#[]⟩, .int .i64 0, .bool false]
  | none => .tuple #[.string ⟨#[]⟩, .int .i64 0, .bool false]

set_option maxHeartbeats 400000 in
theorem implGetText_any (a : Option Addr) (c : Nat) (zs : List Int) (p : Int) (w : World) (hr : Reads w a zs) (hl : zs.length ≤ 70368744177664) (hcap : zs.length ≤ c) :
    Calls Tryd.prog 112 #[.slice a zs.length c, .int .i64 p] w fun e w' => e = .returned (textOf zs p) ∧ w' = w := by
  cases hg : getAt zs p with
  | none =>
    have HT : Hid (textOf zs p = _) := (show textOf zs p = .tuple #[.string ⟨#[]⟩, .int .i64 0, .bool false] from by unfold textOf; rw [hg])
    have HG : Hid (_ = _) := hg
    clear hg
    go_enter Tryd.func112, Tryd.ntmps112
    go_wp2_with fail
    refine (implGetInt_any a c zs p w hr hl hcap).mono ?_
    rintro e w' ⟨rfl, rfl⟩
    rw [HG.out]
    simp only [triple]
    go_wp2
    go_ret3
    exact ⟨by rw [HT.out]; rfl, rfl⟩
  | some r =>
    obtain ⟨n, k⟩ := r
    obtain ⟨hk, hn1, hn2⟩ := getAt_bd zs p n k hg
    have HG : Hid (_ = _) := hg
    by_cases h0 : n < 0
    · have HT : Hid (textOf zs p = _) := (show textOf zs p = .tuple #[.string ⟨#[]⟩, .int .i64 0, .bool false] from by unfold textOf; rw [hg]; simp only; rw [if_neg (by omega)])
      clear hg
      go_enter Tryd.func112, Tryd.ntmps112
      go_wp2_with fail
      refine (implGetInt_any a c zs p w hr hl hcap).mono ?_
      rintro e w' ⟨rfl, rfl⟩
      rw [HG.out]
      simp only [triple]
      go_wp2
      go_ret3
      exact ⟨by rw [HT.out]; rfl, rfl⟩
    obtain ⟨m, rfl⟩ := Int.eq_ofNat_of_zero_le (show 0 ≤ n from by omega)
    by_cases h1 : (zs.length : Int) - (k : Int) < (m : Int)
    · have HT : Hid (textOf zs p = _) := (show textOf zs p = .tuple #[.string ⟨#[]⟩, .int .i64 0, .bool false] from by unfold textOf; rw [hg]; simp only; rw [if_neg (by omega)])
      clear hg
      go_enter Tryd.func112, Tryd.ntmps112
      go_wp2_with fail
      refine (implGetInt_any a c zs p w hr hl hcap).mono ?_
      rintro e w' ⟨rfl, rfl⟩
      rw [HG.out]
      simp only [triple]
      go_wp2
      go_ret3
      exact ⟨by rw [HT.out]; rfl, rfl⟩
    have HT : Hid (textOf zs p = _) := (show textOf zs p = .tuple #[.string (strOf ((zs.drop k).take m)), .int .i64 ((k : Int) + (m : Int)), .bool true] from by unfold textOf; rw [hg]; simp only; rw [if_pos (by omega), Int.toNat_natCast])
    rcases hr.cases with rfl | ⟨b, off, rfl, hpos, hcell⟩
    · simp [getAt, getOf, lead] at hg
    have hrp := reads_part hr.byte hcell k m (by omega)
    have hml : ((zs.drop k).take m).length = m := by simp; omega
    clear hg hcell
    generalize (zs.drop k).take m = G at *
    have HML : Hid (G.length = m) := hml
    clear hml
    by_cases hck : c = k
    · have hm0 : m ≤ 0 := by omega
      have hG : G = [] := by have := HML.out; exact List.length_eq_zero_iff.1 (by omega)
      have HGE : Hid (strOf G = strOf []) := by rw [hG]; rfl
      have hcA : ∀ cap, (convert 22 9 (.slice (some ⟨b, off, none⟩) (k + m - k) cap)).run Tryd.prog w = .ok (.string (strOf [])) w := fun cap => run_text w b off cap [] _ (by simp; omega) ⟨by simp, by simp⟩
      have hcB : ∀ cap, (convert 22 9 (.slice (some ⟨b, off, none⟩) m cap)).run Tryd.prog w = .ok (.string (strOf [])) w := fun cap => run_text w b off cap [] _ (by simp; omega) ⟨by simp, by simp⟩
      clear hG hrp
      subst hck
      go_enter Tryd.func112, Tryd.ntmps112
      go_wp2_with fail
      refine (implGetInt_any (some ⟨b, off, none⟩) c zs p w hr hl hcap).mono ?_
      rintro e w' ⟨rfl, rfl⟩
      rw [HG.out]
      simp only [triple]
      go_wp2
      go_ret3
      exact ⟨by rw [HT.out, HGE.out]; rfl, rfl⟩
    · have hcA : ∀ cap, (convert 22 9 (.slice (some ⟨b, off + k, none⟩) (k + m - k) cap)).run Tryd.prog w = .ok (.string (strOf G)) w := fun cap => run_text w b (off + k) cap G _ (by have := HML.out; omega) hrp
      have hcB : ∀ cap, (convert 22 9 (.slice (some ⟨b, off + k, none⟩) m cap)).run Tryd.prog w = .ok (.string (strOf G)) w := fun cap => run_text w b (off + k) cap G _ HML.out.symm hrp
      clear hrp
      go_enter Tryd.func112, Tryd.ntmps112
      go_wp2_with fail
      refine (implGetInt_any (some ⟨b, off, none⟩) c zs p w hr hl hcap).mono ?_
      rintro e w' ⟨rfl, rfl⟩
      rw [HG.out]
      simp only [triple]
      go_wp2
      go_ret3
      exact ⟨by rw [HT.out]; rfl, rfl⟩
end Go.Proofs.YtbaocehcnjdkkaaDoor

/- The walk of spec.l3NextSlot. -/
namespace Go.Proofs.YtbaocehcnjdkkaaDoor
open Go.RowKit

theorem nextSlot_bad {zs : List Int} {s : Int × Bool} {n : Int} {st : Int × Bool} (h : nextOf zs s = (n, st)) (hb : st.2 = true ∨ n = 0) : nextSlotOf zs s = (noS, st) := by unfold nextSlotOf; rw [h]; simp only; rw [if_pos hb]
theorem nextSlot_out {zs : List Int} {s : Int × Bool} {n p : Int} (h : nextOf zs s = (n, (p, false))) (h0 : ¬ n = 0) (hb : n < 0 ∨ (zs.length : Int) - p < n) : nextSlotOf zs s = (noS, (p, true)) := by
  unfold nextSlotOf; rw [h]; simp only; rw [if_neg (by simp [h0]), if_pos hb]
theorem nextSlot_in {zs : List Int} {s : Int × Bool} {m p : Nat} (h : nextOf zs s = ((m : Int), ((p : Int), false))) (h0 : 0 < m) (hb : p + m ≤ zs.length) :
    nextSlotOf zs s = (⟨true, (getPair ((zs.drop p).take m)).1⟩, ((p : Int) + (m : Int), !(getPair ((zs.drop p).take m)).2)) := by
  unfold nextSlotOf; rw [h]; simp only [Int.toNat_natCast]; rw [if_neg (by simp; omega), if_neg (by omega)]
theorem next_place {zs : List Int} {s : Int × Bool} {n p : Int} (h : nextOf zs s = (n, (p, false))) : ∃ k : Nat, p = (k : Int) ∧ k ≤ zs.length := by
  unfold nextOf at h
  split at h
  · rename_i x r h1 h2
    simp only [Prod.mk.injEq] at h
    exact ⟨r.2, h.2.1.symm, (getAt_bd zs s.1 r.1 r.2 h2).1⟩
  · simp only [Prod.mk.injEq] at h
    exact absurd h.2.2 (by simp)
theorem reads_within {w w' : World} {a : Option Addr} {zs : List Int} {B : Nat} (hr : Reads w a zs) (hw : Within B (B + 1) w w') (hB : zs ≠ [] → ∀ b off, a = some ⟨b, off, none⟩ → b ≠ B) : Reads w' a zs := by
  refine ⟨hr.1, fun hne => ?_⟩
  obtain ⟨b, off, ha, hc⟩ := hr.2 hne
  refine ⟨b, off, ha, fun i hi => ?_⟩
  have hlt := block_lt (hc i hi)
  have hb := hB hne b off ha
  have := World.cell?_of_block (w := w) (w' := w') (a := ⟨b, off + i, none⟩) (hw.block b hlt (by omega))
  rw [this]
  exact hc i hi
theorem own_zero (w : World) (lo hi : Nat) (h : hi ≤ w.heap.size) : zeroS.own w lo hi := ⟨ownI_nil _ _ _ h, ownI_nil _ _ _ h, fun k hk => by cases hk⟩

set_option maxHeartbeats 4000000 in
set_option maxRecDepth 100000 in
theorem l3NextSlot_any (B : Nat) (a : Option Addr) (c : Nat) (zs : List Int) (s : Int × Bool) (w : World) (hb : RdAt w B a c zs s) (hr : Reads w a zs) (hl : zs.length ≤ 1099511627776) (hcap : zs.length ≤ c) (hB : zs ≠ [] → ∀ b off, a = some ⟨b, off, none⟩ → b ≠ B) :
    Calls Tryd.prog 64 #[.pointer (some ⟨B, 0, none⟩)] w fun e w' => ∃ t : SlotA, e = .returned (.agg t.cells.toArray) ∧ Hid (t.v = (nextSlotOf zs s).1) ∧ t.own w' w.heap.size w'.heap.size ∧ RdAt w' B a c zs (nextSlotOf zs s).2 ∧ Within B (B + 1) w w' := by
  have hBw := hb.lt
  obtain ⟨W, hW, b0, hbW, hsW⟩ := boxes1 w [.bool false, .int .i64 0, .slice none 0 0, .slice none 0 0] 28
  have hbr : RdAt W B a c zs s := Box.below hb hbW hBw
  have HBD : Hid (∀ n st, nextOf zs s = (n, st) → (st.2 = true ∨ n = 0) → nextSlotOf zs s = (noS, st)) := fun n st h1 h2 => nextSlot_bad h1 h2
  have HOT : Hid (∀ n p, nextOf zs s = (n, (p, false)) → ¬ n = 0 → (n < 0 ∨ (zs.length : Int) - p < n) → nextSlotOf zs s = (noS, (p, true))) := fun n p h1 h2 h3 => nextSlot_out h1 h2 h3
  have HIN : Hid (∀ (m p : Nat), nextOf zs s = ((m : Int), ((p : Int), false)) → 0 < m → p + m ≤ zs.length → nextSlotOf zs s = (⟨true, (getPair ((zs.drop p).take m)).1⟩, ((p : Int) + (m : Int), !(getPair ((zs.drop p).take m)).2))) := fun m p h1 h2 h3 => nextSlot_in h1 h2 h3
  have HPL : Hid (∀ n p, nextOf zs s = (n, (p, false)) → ∃ k : Nat, p = (k : Int) ∧ k ≤ zs.length) := fun n p h => next_place h
  generalize nextSlotOf zs s = R at *
  go_enter Tryd.func64, Tryd.ntmps64
  go_wp2_with fail
  rw [hW.out]
  clear hW
  refine (l2Next_any B a c zs s W hbr (hr.below hbW) (by omega)).mono ?_
  rintro e w1 ⟨⟨rfl, hb1⟩, hw1⟩
  have HN : Hid (nextOf zs s = nextOf zs s) := rfl
  generalize hY : nextOf zs s = Y at *
  clear hY HN
  obtain ⟨n, p, bad⟩ := Y
  simp only at *
  unfold RdAt at hb1
  simp only at hb1
  have b01 := b0.within hw1 (by omega)
  have hs1 := hw1.size
  have y0 := hb1.cell 0 _ rfl
  have y1 := hb1.cell 1 _ rfl
  have y2 := hb1.cell 2 _ rfl
  have g1 := hb1.frozen 1
  have g2 := hb1.frozen 2
  obtain ⟨x0, x1, x2, x3, f0, f1, f2, f3⟩ := b01.four
  have HW1 : Hid (Within B (B + 1) w w1) := (Within.of_below hbW).trans hw1
  have hr1 := reads_within (hr.below hbW) hw1 hB
  have hWw : W.heap.size = w.heap.size + 1 := hsW
  clear hsW
  by_cases hz : bad = true ∨ n = 0
  · have HR : Hid (R = (noS, (p, bad))) := HBD.out n (p, bad) rfl hz
    clear HBD HOT HIN HPL
    obtain ⟨WF, hWF, bF, hwF, hsF⟩ := box4_fill b01 (.bool false) (.int .i64 0) (.slice none 0 0) (.slice none 0 0)
    have HRD : Hid (Box WF B [.slice a zs.length c, .int .i64 p, .bool bad] 86) := hb1.within hwF (by omega)
    have HWF : Hid (Within B (B + 1) w WF) := ⟨hwF.os.trans HW1.out.os, hwF.tape.trans HW1.out.tape, hwF.output.trans HW1.out.output, Nat.le_trans HW1.out.size hwF.size, fun k hk hn => (hwF.block k (by omega) (by omega)).trans (HW1.out.block k hk hn)⟩
    have HEND : Hid (∃ t : SlotA, Ending.returned (.agg #[.bool false, .int .i64 0, .slice none 0 0, .slice none 0 0]) = .returned (.agg t.cells.toArray) ∧ Hid (t.v = R.1) ∧ t.own WF w.heap.size WF.heap.size ∧ RdAt WF B a c zs R.2 ∧ Within B (B + 1) w WF) :=
      ⟨zeroS, rfl, by rw [HR.out]; rfl, own_zero _ _ _ (Nat.le_refl _), by rw [HR.out]; exact HRD.out, HWF.out⟩
    clear hwF hb1 HW1 b01 hr1 HRD HWF
    cases bad with
    | true =>
      go_wp2
      rw [hWF.out]
      obtain ⟨q0, q1, q2, q3, _⟩ := bF.four
      exact bodyPost_ret (v := .agg #[.bool false, .int .i64 0, .slice none 0 0, .slice none 0 0]) (by simp [results, Tryd.results64, go_sem, q0, q1, q2, q3]) rfl HEND.out
    | false =>
      have hn0 : n = 0 := by simpa using hz
      subst hn0
      clear hz
      go_wp2
      rw [hWF.out]
      obtain ⟨q0, q1, q2, q3, _⟩ := bF.four
      exact bodyPost_ret (v := .agg #[.bool false, .int .i64 0, .slice none 0 0, .slice none 0 0]) (by simp [results, Tryd.results64, go_sem, q0, q1, q2, q3]) rfl HEND.out
  obtain ⟨hbd, hn0⟩ : bad = false ∧ ¬ n = 0 := by
    refine ⟨?_, fun e => hz (.inr e)⟩
    cases bad
    · rfl
    · exact absurd (.inl rfl) hz
  subst hbd
  have hn0b : (n == 0) = false := by simpa using hn0
  obtain ⟨k, rfl, hkl⟩ := HPL.out n p rfl
  by_cases ho : n < 0 ∨ (zs.length : Int) - (k : Int) < n
  · have HR : Hid (R = (noS, ((k : Int), true))) := HOT.out n k rfl hn0 ho
    clear HBD HOT HIN HPL hz hn0
    by_cases hneg : n < 0
    · have hd : decide (n < 0) = true := decide_eq_true hneg
      clear ho hneg
      go_wp2_with fail
      go_quiet (fail)
      have hb2 := hb1.drewN nq
      have b02 := b01.drewN nq
      have HW2 : Hid (Within B (B + 1) w (w1.drewN nq)) := HW1.out.drewN nq
      have hs2 : w.heap.size + 1 ≤ (w1.drewN nq).heap.size := by have : (w1.drewN nq).heap.size = w1.heap.size := (by first | rfl | simp); omega
      clear hb1 b01 HW1 x0 x1 x2 x3 f0 f1 f2 f3 y0 y1 y2 g1 g2 hr1
      generalize w1.drewN nq = w2 at *
      have y2 := hb2.cell 2 _ rfl
      have g2 := hb2.frozen 2
      obtain ⟨WB, hWB, bB, hwB, hsB⟩ := box_set hb2 2 (.bool true)
      simp only [List.set] at bB
      have b03 := b02.within hwB (by omega)
      obtain ⟨z0, z1, z2, z3, e0, e1, e2, e3⟩ := b03.four
      obtain ⟨WF, hWF, bF, hwF, hsF⟩ := box4_fill b03 (.bool false) (.int .i64 0) (.slice none 0 0) (.slice none 0 0)
      have HRD : Hid (Box WF B [.slice a zs.length c, .int .i64 (k : Int), .bool true] 86) := bB.within hwF (by omega)
      have HWB : Hid (Within B (B + 1) w WB) := HW2.out.trans hwB
      have HWF : Hid (Within B (B + 1) w WF) := ⟨hwF.os.trans HWB.out.os, hwF.tape.trans HWB.out.tape, hwF.output.trans HWB.out.output, Nat.le_trans HWB.out.size hwF.size, fun k hk hn => (hwF.block k (by omega) (by omega)).trans (HWB.out.block k hk hn)⟩
      have HEND : Hid (∃ t : SlotA, Ending.returned (.agg #[.bool false, .int .i64 0, .slice none 0 0, .slice none 0 0]) = .returned (.agg t.cells.toArray) ∧ Hid (t.v = R.1) ∧ t.own WF w.heap.size WF.heap.size ∧ RdAt WF B a c zs R.2 ∧ Within B (B + 1) w WF) :=
        ⟨zeroS, rfl, by rw [HR.out]; rfl, own_zero _ _ _ (Nat.le_refl _), by rw [HR.out]; exact HRD.out, HWF.out⟩
      have WBe := hWB.out
      rw [← WBe] at z0 z1 z2 z3 e0 e1 e2 e3
      rw [← WBe] at hWF
      clear hwF hwB hb2 HW2 b02 b03 HRD HWB HWF WBe hWB bB
      go_wp2
      rw [hWF.out]
      obtain ⟨q0, q1, q2, q3, _⟩ := bF.four
      exact bodyPost_ret (v := .agg #[.bool false, .int .i64 0, .slice none 0 0, .slice none 0 0]) (by simp [results, Tryd.results64, go_sem, q0, q1, q2, q3]) rfl HEND.out
    · have hd : decide (n < 0) = false := decide_eq_false hneg
      have hgt : (zs.length : Int) - (k : Int) < n := by rcases ho with h | h; exact absurd h hneg; exact h
      have hd2 : decide ((zs.length : Int) - (k : Int) < n) = true := decide_eq_true hgt
      clear ho hneg
      go_wp2_with fail
      go_quiet (fail)
      have hb2 := hb1.drewN nq
      have b02 := b01.drewN nq
      have HW2 : Hid (Within B (B + 1) w (w1.drewN nq)) := HW1.out.drewN nq
      have hs2 : w.heap.size + 1 ≤ (w1.drewN nq).heap.size := by have : (w1.drewN nq).heap.size = w1.heap.size := (by first | rfl | simp); omega
      clear hb1 b01 HW1 x0 x1 x2 x3 f0 f1 f2 f3 y0 y1 y2 g1 g2 hr1
      generalize w1.drewN nq = w2 at *
      have y2 := hb2.cell 2 _ rfl
      have g2 := hb2.frozen 2
      obtain ⟨WB, hWB, bB, hwB, hsB⟩ := box_set hb2 2 (.bool true)
      simp only [List.set] at bB
      have b03 := b02.within hwB (by omega)
      obtain ⟨z0, z1, z2, z3, e0, e1, e2, e3⟩ := b03.four
      obtain ⟨WF, hWF, bF, hwF, hsF⟩ := box4_fill b03 (.bool false) (.int .i64 0) (.slice none 0 0) (.slice none 0 0)
      have HRD : Hid (Box WF B [.slice a zs.length c, .int .i64 (k : Int), .bool true] 86) := bB.within hwF (by omega)
      have HWB : Hid (Within B (B + 1) w WB) := HW2.out.trans hwB
      have HWF : Hid (Within B (B + 1) w WF) := ⟨hwF.os.trans HWB.out.os, hwF.tape.trans HWB.out.tape, hwF.output.trans HWB.out.output, Nat.le_trans HWB.out.size hwF.size, fun k hk hn => (hwF.block k (by omega) (by omega)).trans (HWB.out.block k hk hn)⟩
      have HEND : Hid (∃ t : SlotA, Ending.returned (.agg #[.bool false, .int .i64 0, .slice none 0 0, .slice none 0 0]) = .returned (.agg t.cells.toArray) ∧ Hid (t.v = R.1) ∧ t.own WF w.heap.size WF.heap.size ∧ RdAt WF B a c zs R.2 ∧ Within B (B + 1) w WF) :=
        ⟨zeroS, rfl, by rw [HR.out]; rfl, own_zero _ _ _ (Nat.le_refl _), by rw [HR.out]; exact HRD.out, HWF.out⟩
      have WBe := hWB.out
      rw [← WBe] at z0 z1 z2 z3 e0 e1 e2 e3
      rw [← WBe] at hWF
      clear hwF hwB hb2 HW2 b02 b03 HRD HWB HWF WBe hWB bB
      go_wp2
      rw [hWF.out]
      obtain ⟨q0, q1, q2, q3, _⟩ := bF.four
      exact bodyPost_ret (v := .agg #[.bool false, .int .i64 0, .slice none 0 0, .slice none 0 0]) (by simp [results, Tryd.results64, go_sem, q0, q1, q2, q3]) rfl HEND.out
  · obtain ⟨m, rfl⟩ : ∃ m : Nat, n = (m : Int) := ⟨n.toNat, by omega⟩
    have hm0 : 0 < m := by omega
    have hkm : k + m ≤ zs.length := by omega
    have HR : Hid (R = _) := HIN.out m k rfl hm0 hkm
    have hd : decide ((m : Int) < 0) = false := decide_eq_false (by omega)
    have hd2 : decide ((zs.length : Int) - (k : Int) < (m : Int)) = false := decide_eq_false (by omega)
    clear HBD HOT HIN HPL hz ho hn0
    go_wp2_with fail
    go_quiet (fail)
    have hb2 := hb1.drewN nq
    have b02 := b01.drewN nq
    have hr2 : Reads (w1.drewN nq) a zs := hr1.below (below_drewN (Below.refl _ _) nq)
    have HW2 : Hid (Within B (B + 1) w (w1.drewN nq)) := HW1.out.drewN nq
    have hs2 : w.heap.size + 1 ≤ (w1.drewN nq).heap.size := by have : (w1.drewN nq).heap.size = w1.heap.size := (by first | rfl | simp); omega
    clear hb1 b01 HW1 x0 x1 x2 x3 f0 f1 f2 f3 y0 y1 y2 g1 g2 hr1
    generalize w1.drewN nq = w2 at *
    rcases hr2.cases with rfl | ⟨b, off, rfl, hpos, hcell⟩
    · simp at hkm; omega
    clear hcell
    have hsub := reads_slice hr2 k m hkm
    have hadd : (⟨b, off, none⟩ : Addr).add k = ⟨b, off + k, none⟩ := by unfold Addr.add; split <;> simp_all
    rw [Option.map_some, hadd] at hsub
    clear hadd
    have hsl : ((zs.drop k).take m).length = m := by rw [List.length_take, List.length_drop]; omega
    have HSL : Hid (_ = _) := hsl
    have hBB : b ≠ B := hB (by intro e; simp [e] at hpos) b off rfl
    generalize hsu : (zs.drop k).take m = sub at *
    clear hsu hsl
    have hck : ¬ c = k := by omega
    have hi1 : (0 : Int) ≤ (k : Int) := by omega
    have hi2 : (k : Int) ≤ (k : Int) + (m : Int) := by omega
    have hi3 : (k : Int) + (m : Int) ≤ (c : Int) := by omega
    have hi4 : (0 : Int) ≤ (k : Int) + (m : Int) := by omega
    have hwr : IntKind.i64.wrap ((k : Int) + (m : Int)) = (k : Int) + (m : Int) := by rw [IntKind.wrap_i64]; omega
    have htn : ((k : Int) + (m : Int)).toNat - k = m := by omega
    have HG : Hid (∀ w', Below w2.heap.size w2 w' → Calls Tryd.prog 96 #[.slice (some ⟨b, off + k, none⟩) m (c - k)] w' fun e w'' => ∃ aI cI aR cR o ok, e = .returned (.tuple #[.agg #[.int .i64 o.kind, .slice aI o.ints.length cI, .slice aR o.refs.length cR], .bool ok]) ∧ Hid (getPair sub = (o, ok)) ∧ OwnO w'' w'.heap.size w''.heap.size aI cI aR cR o ∧ Below w'.heap.size w' w'') := by
      intro w' hh
      have C := specGetObj_any (some ⟨b, off + k, none⟩) (c - k) sub w' (hsub.below hh) (by rw [HSL.out]; omega)
      rw [HSL.out] at C
      exact C
    go_upto_region 7 with fail
    go_cut [4, 5] from 6 (fun x y wx => ∃ (Bo : Nat) (o : ObjV) (aI : Option Addr) (cI : Nat) (aR : Option Addr) (cR : Nat), x = .pointer (some ⟨Bo, 0, none⟩) ∧ y = .bool (getPair sub).2 ∧ Hid (o = (getPair sub).1) ∧ Box wx Bo [.int .i64 o.kind, .slice aI o.ints.length cI, .slice aR o.refs.length cR] 26 ∧ OwnO wx w2.heap.size wx.heap.size aI cI aR cR o ∧ w2.heap.size ≤ Bo ∧ Below w2.heap.size w2 wx)
    case first =>
      have y0 := hb2.cell 0 _ rfl
      have y1 := hb2.cell 1 _ rfl
      have HB : Hid (∀ w'', Below w2.heap.size w2 w'' → w''.cell? ⟨B, 0, none⟩ = some (.slice (some ⟨b, off, none⟩) zs.length c) ∧ w''.cell? ⟨B, 1, none⟩ = some (.int .i64 (k : Int))) := fun w'' hh => ⟨(hb2.below hh hb2.lt).cell 0 _ rfl, (hb2.below hh hb2.lt).cell 1 _ rfl⟩
      have HBB : Hid (∀ w'', Below w2.heap.size w2 w'' → Box w'' B [.slice (some ⟨b, off, none⟩) zs.length c, .int .i64 (k : Int), .bool false] 86) := fun w'' hh => hb2.below hh hb2.lt
      have hne : ¬ (B = w2.heap.size) := by have := hb2.lt; omega
      have HBX : Hid (∀ u, Below (w2.alloc (.cells #[.int .i64 0, .slice none 0 0, .slice none 0 0] 26)).drew.heap.size (w2.alloc (.cells #[.int .i64 0, .slice none 0 0, .slice none 0 0] 26)).drew u → Box u w2.heap.size [.int .i64 0, .slice none 0 0, .slice none 0 0] 26) := fun u hu => Box.below (w := (w2.alloc (.cells #[.int .i64 0, .slice none 0 0, .slice none 0 0] 26)).drew) (box_new w2 _ _) hu (by simp [World.drew])
      go_region_held3 (fun w'' => w''.cell? ⟨B, 0, none⟩ = some (.slice (some ⟨b, off, none⟩) zs.length c) ∧ w''.cell? ⟨B, 1, none⟩ = some (.int .i64 (k : Int)))
        (first | exact HB.out _ hB1 | exact HB.out _ (Below.refl _ _).drew | exact HB.out _ (hB1.alloc hB1.size _) | exact HB.out _ (((Below.refl _ _).drew).alloc (Nat.le_refl _) _) | exact HB.out _ (((Below.refl _ _).alloc (Nat.le_refl _) _).drew) | exact ⟨((((HBB.out _ hB1).other hne).other hne).other hne).cell 0 _ rfl, ((((HBB.out _ hB1).other hne).other hne).other hne).cell 1 _ rfl⟩ | go_keep | fail)
        (first
        | (go_at_call 96; refine (HG.out _ (by first | exact (Below.refl _ _).drew | exact ((Below.refl _ _).alloc (Nat.le_refl _) _).drew | exact ((Below.refl _ _).drew).alloc (Nat.le_refl _) _ | fail)).mono ?_; rintro e u1 ⟨aI, cI, aR, cR, o, ok, rfl, hgp, ho1, hb1⟩; have hB1 : Below w2.heap.size w2 u1 := (by first | exact ((Below.refl _ _).drew).trans hb1 | exact (((Below.refl _ _).alloc (Nat.le_refl _) _).drew).trans (hb1.mono (by simp [World.drew])) | fail); (try (have bO := HBX.out u1 hb1; obtain ⟨m0, m1, m2, e0, e1, e2⟩ := bO.three)))
        | fail)
      · have hBA : Below w2.heap.size w2 (u1.alloc (.cells #[.int .i64 o.kind, .slice aI o.ints.length cI, .slice aR o.refs.length cR] 26)) := hB1.alloc hB1.size _
        have hOA : OwnO (u1.alloc (.cells #[.int .i64 o.kind, .slice aI o.ints.length cI, .slice aR o.refs.length cR] 26)) w2.heap.size (u1.alloc (.cells #[.int .i64 o.kind, .slice aI o.ints.length cI, .slice aR o.refs.length cR] 26)).heap.size aI cI aR cR o := (ho1.below ((Below.refl _ _).alloc (Nat.le_refl _) _)).widen (Nat.le_refl _) (by simp) (Nat.le_refl _)
        have hBX : Box (u1.alloc (.cells #[.int .i64 o.kind, .slice aI o.ints.length cI, .slice aR o.refs.length cR] 26)) u1.heap.size [.int .i64 o.kind, .slice aI o.ints.length cI, .slice aR o.refs.length cR] 26 := box_new _ _ _
        go_wp2_with fail
        go_meet
        case rel => exact ⟨u1.heap.size, o, aI, cI, aR, cR, rfl, by rw [hgp.out], by rw [Hid, hgp.out], hBX, hOA, hB1.size, hBA⟩
      · have bO := HBX.out u1 hb1
        obtain ⟨WF, hWF, bF, hwF, hsF⟩ := box3_fill bO (.int .i64 o.kind) (.slice aI o.ints.length cI) (.slice aR o.refs.length cR)
        have hsA : (w2.alloc (.cells #[.int .i64 0, .slice none 0 0, .slice none 0 0] 26)).drew.heap.size = w2.heap.size + 1 := by simp [World.drew]
        have hBF : Below w2.heap.size w2 WF := hB1.trans (hwF.below (Nat.le_refl _) hB1.size)
        have hOF : OwnO WF w2.heap.size WF.heap.size aI cI aR cR o := (ho1.within hwF (.inr (by omega))).widen (by omega) (by omega) (Nat.le_refl _)
        rw [hWF.out]
        clear hwF
        go_wp2_with fail
        go_meet
        case rel => exact ⟨w2.heap.size, o, aI, cI, aR, cR, rfl, by rw [hgp.out], by rw [Hid, hgp.out], bF, hOF, Nat.le_refl _, hBF⟩
    case rest =>
      obtain ⟨Bo, o, aI, cI, aR, cR, rfl, rfl, hoE, bO, oO, hBo, hbc⟩ := hcut
      generalize hGP : getPair sub = GP at *
      clear hGP
      have hsc := hbc.size
      have hb3 := hb2.below hbc hb2.lt
      have b03 := b02.below hbc b02.lt
      have hltO := bO.lt
      have hBlt := hb2.lt
      have y1 := hb3.cell 1 _ rfl
      have g1 := hb3.frozen 1
      obtain ⟨W4, hW4, b4, hw4, hs4⟩ := box_set hb3 1 (.int .i64 ((k : Int) + (m : Int)))
      simp only [List.set] at b4
      have y2 := b4.cell 2 _ rfl
      have g2 := b4.frozen 2
      obtain ⟨W5, hW5, b5, hw5, hs5⟩ := box_set b4 2 (.bool (!GP.2))
      simp only [List.set] at b5
      have bO5 := (bO.within hw4 (by omega)).within hw5 (by omega)
      have b05 := (b03.within hw4 (by omega)).within hw5 (by omega)
      obtain ⟨z0, z1, z2, _, _, _⟩ := bO5.three
      obtain ⟨x0, x1, x2, x3, f0, f1, f2, f3⟩ := b05.four
      obtain ⟨WF, hWF, bF, hwF, hsF⟩ := box4_fill b05 (.bool true) (.int .i64 o.kind) (.slice aI o.ints.length cI) (.slice aR o.refs.length cR)
      have HRD : Hid (Box WF B [.slice (some ⟨b, off, none⟩) zs.length c, .int .i64 ((k : Int) + (m : Int)), .bool (!GP.2)] 86) := b5.within hwF (by omega)
      have HWB : Hid (Within B (B + 1) w W5) := ((HW2.out.trans (Within.of_below hbc)).trans hw4).trans hw5
      have HWF : Hid (Within B (B + 1) w WF) := ⟨hwF.os.trans HWB.out.os, hwF.tape.trans HWB.out.tape, hwF.output.trans HWB.out.output, Nat.le_trans HWB.out.size hwF.size, fun k hk hn => (hwF.block k (by omega) (by omega)).trans (HWB.out.block k hk hn)⟩
      have HOF : Hid (OwnO WF w.heap.size WF.heap.size aI cI aR cR o) := (((oO.within hw4 (.inr (by omega))).within hw5 (.inr (by omega))).within hwF (.inr (by omega))).widen (by omega) (by omega) (Nat.le_refl _)
      have HEND : Hid (∃ t : SlotA, Ending.returned (.agg #[.bool true, .int .i64 o.kind, .slice aI o.ints.length cI, .slice aR o.refs.length cR]) = .returned (.agg t.cells.toArray) ∧ Hid (t.v = R.1) ∧ t.own WF w.heap.size WF.heap.size ∧ RdAt WF B (some ⟨b, off, none⟩) c zs R.2 ∧ Within B (B + 1) w WF) :=
        ⟨⟨⟨true, o⟩, aI, cI, aR, cR⟩, rfl, by rw [HR.out, Hid, hoE.out], HOF.out, by rw [HR.out]; exact HRD.out, HWF.out⟩
      have W4e := hW4.out
      have W5e := hW5.out
      rw [← W5e, ← W4e] at z0 z1 z2 x0 x1 x2 x3 f0 f1 f2 f3 hWF
      rw [← W4e] at y2 g2
      clear hwF hw4 hw5 hb2 hb3 HW2 b02 b03 HRD HWB HWF HOF W4e W5e hW4 hW5 b4 b5 bO oO bO5 b05 HG hbc
      go_wp2
      rw [hWF.out]
      obtain ⟨q0, q1, q2, q3, _⟩ := bF.four
      exact bodyPost_ret (v := .agg #[.bool true, .int .i64 o.kind, .slice aI o.ints.length cI, .slice aR o.refs.length cR]) (by simp [results, Tryd.results64, go_sem, q0, q1, q2, q3]) rfl HEND.out
end Go.Proofs.YtbaocehcnjdkkaaDoor

/- The walk of laws.toSlotA4. -/
namespace Go.Proofs.YtbaocehcnjdkkaaDoor
open Go.RowKit

def zero4 : List SlotA := [zeroS, zeroS, zeroS, zeroS]
theorem within_setCells (B o : Nat) (vs : List Value) (w : World) : Within B (B + 1) w (w.setCells B o vs) := by
  induction vs generalizing o w with
  | nil => exact Within.refl _ _ _
  | cons v r ih => exact (within_set w B o v (by omega)).trans (ih (o + 1) _)
theorem set_snoc (ts : List SlotA) (n : Nat) (t : SlotA) : (ts ++ List.replicate (n + 1) zeroS).set ts.length t = (ts ++ [t]) ++ List.replicate n zeroS := by
  rw [List.set_append_right _ _ (Nat.le_refl _)]
  simp [List.replicate_succ]
theorem getD_mem {ss : List SlotA} {k : Nat} (h : k < ss.length) : ss.getD k zeroS ∈ ss := by simp [List.getD, h]

set_option maxHeartbeats 1000000 in
set_option maxRecDepth 100000 in
theorem toSlotA4_own (ss : List SlotA) (h4 : ss.length = 4) (w : World) (hr : ReadsS w ss) (hl : ∀ s ∈ ss, s.v.o.ints.length ≤ 1099511627776 ∧ s.v.o.refs.length ≤ 1099511627776) :
    Calls Tryd.prog 56 #[.agg (cellsS ss).toArray] w fun e w' => ∃ ts : List SlotA, e = .returned (.agg (cellsS ts).toArray) ∧ Hid (ts.map (·.v) = ss.map (·.v)) ∧ OwnS w' w.heap.size w'.heap.size ts ∧ Below w.heap.size w w' := by
  obtain ⟨W, hW, b0, b1, b2, hbW, hsW⟩ := boxes3 w (cellsS ss) [.bool false, .int .i64 0, .slice none 0 0, .slice none 0 0, .bool false, .int .i64 0, .slice none 0 0, .slice none 0 0, .bool false, .int .i64 0, .slice none 0 0, .slice none 0 0, .bool false, .int .i64 0, .slice none 0 0, .slice none 0 0] [.bool false, .int .i64 0, .slice none 0 0, .slice none 0 0, .bool false, .int .i64 0, .slice none 0 0, .slice none 0 0, .bool false, .int .i64 0, .slice none 0 0, .slice none 0 0, .bool false, .int .i64 0, .slice none 0 0, .slice none 0 0] 45 29 29
  have b1' : Box W (w.heap.size + 1) (cellsS zero4) 29 := b1
  have b2' : Box W (w.heap.size + 1 + 1) (cellsS zero4) 29 := b2
  have hsW' : w.heap.size + 1 + 1 < W.heap.size := by omega
  clear b1 b2 hsW
  go_enter Tryd.func56, Tryd.ntmps56
  go_wp2_with fail
  rw [hW.out]
  clear hW
  have H4 : Hid (ss.length = 4) := h4
  clear h4
  go_loopw [4] (fun i wr => ∃ (k : Nat) (ts : List SlotA), i = .int .i64 k ∧ k ≤ 4 ∧ Hid (ts.length = k ∧ ts.map (·.v) = (ss.take k).map (·.v)) ∧ OwnS wr W.heap.size wr.heap.size ts ∧ Box wr (w.heap.size + 1 + 1) (cellsS (ts ++ List.replicate (4 - k) zeroS)) 29 ∧ Below (w.heap.size + 1 + 1) W wr)
    (fun i _ => 4 - (intOf i).toNat)
  case atStart => exact ⟨0, [], rfl, by omega, ⟨rfl, rfl⟩, OwnS.nil _ _ _, b2', Below.refl _ _⟩
  case round =>
    obtain ⟨k, ts, rfl, hk, hts, hown, hbox, hbl⟩ := hrel
    clear b2'
    have b0r := b0.below hbl (by omega)
    have b1r := b1'.below hbl (by omega)
    have hsr := hbl.size
    by_cases hlt : k < 4
    · have hkl : k < ss.length := by rw [H4.out]; exact hlt
      obtain ⟨c0, c1, c2, c3, _⟩ := b0r.slot k hkl
      have hrk := (hr _ (getD_mem hkl)).below (hbW.trans (hbl.mono (by omega)))
      have hlk := hl _ (getD_mem hkl)
      have HV : Hid ((ss.take (k + 1)).map (·.v) = (ss.take k).map (·.v) ++ [(ss.getD k zeroS).v]) := by
        rw [Hid, List.take_add_one, List.map_append]
        simp [List.getD, hkl]
      generalize ss.getD k zeroS = s at *
      go_wp2_with fail
      refine (toSlot_own s wr hrk hlk.1 hlk.2).mono ?_
      clear hrk hlk c0 c1 c2 c3
      rintro e w1 ⟨t, rfl, hv, ho, hb1⟩
      have hs1 := hb1.size
      have hbx := hbox.below hb1 hbox.lt
      have hkt : k < (ts ++ List.replicate (4 - k) zeroS).length := by have := hts.out.1; simp; omega
      obtain ⟨W2, hW2, b2, hw2, hs2⟩ := slot_fill hbx k hkt t
      obtain ⟨x0, x1, x2, x3, hfz⟩ := hbx.slot k hkt
      have f0 := hfz (k * 4)
      have f1 := hfz (k * 4 + 1)
      have f2 := hfz (k * 4 + 2)
      have f3 := hfz (k * 4 + 3)
      generalize (ts ++ List.replicate (4 - k) zeroS).getD k zeroS = old at *
      have b2' : Box W2 (w.heap.size + 1 + 1) (cellsS ((ts ++ [t]) ++ List.replicate (4 - (k + 1)) zeroS)) 29 := by
        rw [show 4 - k = (4 - (k + 1)) + 1 by omega] at b2
        have e := set_snoc ts (4 - (k + 1)) t
        rw [hts.out.1] at e
        rw [e] at b2
        exact b2
      have hO1 : OwnS w1 W.heap.size w1.heap.size (ts ++ [t]) := (hown.below hb1).snoc ho hsr hs1 (Nat.le_refl _)
      have hO2 : OwnS W2 W.heap.size W2.heap.size (ts ++ [t]) := (hO1.within hw2 (.inr (by omega))).widen (Nat.le_refl _) (by omega) (Nat.le_refl _)
      have hB2 : Below (w.heap.size + 1 + 1) W W2 := (hbl.trans (hb1.mono (by omega))).trans (hw2.below (Nat.le_refl _) (by omega))
      have HT : Hid ((ts ++ [t]).length = k + 1 ∧ (ts ++ [t]).map (·.v) = (ss.take (k + 1)).map (·.v)) := by
        refine ⟨by have := hts.out.1; simp; omega, ?_⟩
        rw [HV.out, List.map_append, hts.out.2, ← hv.out]
        rfl
      clear hfz hs2 hw2 b2 hO1 hown hbox hbx hts HV hkt hb1 ho
      simp only [SlotA.cells]
      go_wp2_with fail
      rw [hW2.out]
      go_roundw
      case rel => exact ⟨k + 1, ts ++ [t], by go_num, by omega, HT, hO2, b2', hB2⟩
      case measure => simp [intOf]; omega
    · obtain rfl : k = 4 := by omega
      have hrp : ts ++ List.replicate (4 - 4) zeroS = ts := by simp
      rw [hrp] at hbox
      have htl : ts.length = 4 := hts.out.1
      have hmv : ts.map (·.v) = ss.map (·.v) := by rw [hts.out.2, List.take_of_length_le (by rw [H4.out]; omega)]
      have hrg : wr.rangeAt (w.heap.size + 1 + 1) 0 (cellsS ts) := fun j v hv => by rw [Nat.zero_add]; exact hbox.cell j v hv
      have hth : wr.there (w.heap.size + 1) 0 (cellsS ts).toArray.size := by
        intro j hj
        rw [Nat.zero_add]
        have hj16 : j < (cellsS zero4).length := by simp only [List.size_toArray, cellsS_len] at hj ⊢; rw [htl] at hj; exact hj
        exact ⟨by rw [b1r.cell j _ (List.getElem?_eq_getElem hj16)]; rfl, b1r.frozen j⟩
      have hone : (cellsS ts).toArray.all (·.oneCell') = true := by
        apply all_oneCell_toArray
        intro v hv
        obtain ⟨s, _, hs⟩ := List.mem_flatMap.1 hv
        simp only [SlotA.cells, List.mem_cons, List.not_mem_nil, or_false] at hs
        rcases hs with rfl | rfl | rfl | rfl <;> rfl
      have hsz : (cellsS ts).toArray.size = 16 := by simp [cellsS_len, htl]
      have hi : (Tryd.prog.info? 29).map (·.size) = some (cellsS ts).toArray.size := by rw [hsz]; kernel_rfl
      have hi' : (Tryd.prog.info? 29).map (·.size) = some (cellsS ts).length := by rw [hi]; simp
      clear hsz htl hrp
      go_wp2_with (first | (guard_target = wpList _ _ _ (Oper.mk (some 15) _ _ _ _ _ :: _) _ _; refine wpList_load_mid rfl 29 (.tmp 3) rfl (w.heap.size + 1 + 1) 0 rfl (cellsS ts) _ hrg Tryd.underlying29 rfl hi' ?_) | (guard_target = wpList _ _ _ (Oper.mk none (Op.store _ (Operand.tmp 2) _) _ _ _ _ :: _) _ _; refine wpList_store_mid rfl 29 (.tmp 2) (.tmp 15) rfl (w.heap.size + 1) 0 (cellsS ts).toArray rfl rfl hth hi hone ?_) | fail)
      have hgs : Within (w.heap.size + 1) (w.heap.size + 1 + 1) wr (wr.setCells (w.heap.size + 1) 0 (cellsS ts)) := within_setCells _ _ _ _
      have hrF : (wr.setCells (w.heap.size + 1) 0 (cellsS ts)).rangeAt (w.heap.size + 1) 0 (cellsS ts) := World.rangeAt_setCells_same _ _ _ _ (by simpa using hth)
      have hlF := run_loadVar_mid (P := Tryd.prog) _ (w.heap.size + 1) 0 29 (cellsS ts) _ hrF Tryd.underlying29 rfl hi'
      have hsF := hgs.size
      exact bodyPost_ret (v := .agg (cellsS ts).toArray) (results_one Tryd.results56 rfl hlF) rfl ⟨ts, rfl, hmv, (hown.within hgs (.inr (by omega))).widen (by omega) (by omega) (Nat.le_refl _), (hbW.trans (hbl.mono (by omega))).trans (hgs.below (by omega) (by omega))⟩
end Go.Proofs.YtbaocehcnjdkkaaDoor

/- Ranges of cells in a box: read, and written, whole. -/
namespace Go.Proofs.YtbaocehcnjdkkaaDoor
open Go.RowKit

theorem Box.range {w : World} {B : Nat} {t : TypeId} (pre cs post : List Value) (b : Box w B (pre ++ (cs ++ post)) t) : w.rangeAt B pre.length cs := by
  intro j v hv
  have hj : j < cs.length := (List.getElem?_eq_some_iff.1 hv).1
  refine b.cell _ v ?_
  rw [List.getElem?_append_right (by omega), List.getElem?_append_left (by omega)]
  rw [show pre.length + j - pre.length = j by omega]
  exact hv
theorem Box.there {w : World} {B : Nat} {vs : List Value} {t : TypeId} (b : Box w B vs t) (o n : Nat) (h : o + n ≤ vs.length) : w.there B o n := fun j hj =>
  ⟨by rw [b.cell (o + j) _ (List.getElem?_eq_getElem (by omega))]; rfl, b.frozen _⟩
theorem set_range (pre post : List Value) : ∀ (old cs : List Value), old.length = cs.length → ∀ (w : World) (B : Nat) (t : TypeId), Box w B (pre ++ (old ++ post)) t → Box (w.setCells B pre.length cs) B (pre ++ (cs ++ post)) t := by
  intro old
  induction old generalizing pre with
  | nil => intro cs h w B t b; obtain rfl := List.length_eq_zero_iff.1 h.symm; exact b
  | cons x r ih =>
    intro cs h w B t b
    obtain ⟨c, cr, rfl⟩ : ∃ c cr, cs = c :: cr := by
      cases cs with
      | nil => simp at h
      | cons c cr => exact ⟨c, cr, rfl⟩
    have hb := b.set pre.length c
    rw [List.set_append_right _ _ (Nat.le_refl _), Nat.sub_self] at hb
    simp only [List.cons_append, List.set_cons_zero] at hb
    have hb' : Box (w.setCell ⟨B, pre.length, none⟩ c) B ((pre ++ [c]) ++ (r ++ post)) t := by simpa using hb
    have := ih (pre ++ [c]) cr (by simpa using h) _ B t hb'
    simp only [List.length_append, List.length_singleton] at this
    rw [World.setCells]
    simpa using this
theorem range_fill {w : World} {B : Nat} {t : TypeId} (pre old cs post : List Value) (b : Box w B (pre ++ (old ++ post)) t) (h : old.length = cs.length) :
    ∃ W, Hid (w.setCells B pre.length cs = W) ∧ Box W B (pre ++ (cs ++ post)) t ∧ Within B (B + 1) w W ∧ W.heap.size = w.heap.size := by
  refine ⟨_, rfl, set_range pre post old cs h w B t b, within_setCells _ _ _ _, ?_⟩
  have h1 := (within_setCells B pre.length cs w).size
  have : ∀ (vs : List Value) (o : Nat) (w : World), (w.setCells B o vs).heap.size = w.heap.size := by
    intro vs
    induction vs with
    | nil => intro o w; rfl
    | cons v r ih => intro o w; rw [World.setCells, ih]; simp
  exact this _ _ _
theorem oneS (ss : List SlotA) : ∀ v ∈ cellsS ss, v.oneCell' = true := by
  intro v hv
  obtain ⟨s, _, hs⟩ := List.mem_flatMap.1 hv
  simp only [SlotA.cells, List.mem_cons, List.not_mem_nil, or_false] at hs
  rcases hs with rfl | rfl | rfl | rfl <;> rfl

structure PageA where
  lsn : Int
  ss : List SlotA
def PageA.cells (p : PageA) : List Value := .int .i64 p.lsn :: cellsS p.ss
theorem oneP (p : PageA) : ∀ v ∈ p.cells, v.oneCell' = true := by
  intro v hv
  rcases List.mem_cons.1 hv with rfl | h
  · rfl
  · exact oneS _ v h
theorem page_len (p : PageA) (h : p.ss.length = 4) : p.cells.length = 17 := by simp [PageA.cells, cellsS_len, h]
end Go.Proofs.YtbaocehcnjdkkaaDoor

/- The walk of spec.FreeSlot. -/
namespace Go.Proofs.YtbaocehcnjdkkaaDoor
open Go.RowKit

/-- Where the first slot that has nothing is, from k on, among those that are left; -1 if there is none. -/
def freeFrom : List SlotV → Nat → Int
  | [], _ => -1
  | s :: r, k => if s.has then freeFrom r (k + 1) else (k : Int)
def freeOf (vs : List SlotV) : Int := freeFrom vs 0

theorem Box.pslot {w : World} {B : Nat} {v : Value} {ss : List SlotA} {t : TypeId} (b : Box w B (v :: cellsS ss) t) (k : Nat) (hk : k < ss.length) :
    w.cell? ⟨B, 1 + k * 4, none⟩ = some (.bool (ss.getD k zeroS).v.has) ∧ w.cell? ⟨B, 1 + k * 4 + 1, none⟩ = some (.int .i64 (ss.getD k zeroS).v.o.kind) ∧
    w.cell? ⟨B, 1 + k * 4 + 2, none⟩ = some (.slice (ss.getD k zeroS).aI (ss.getD k zeroS).v.o.ints.length (ss.getD k zeroS).cI) ∧ w.cell? ⟨B, 1 + k * 4 + 3, none⟩ = some (.slice (ss.getD k zeroS).aR (ss.getD k zeroS).v.o.refs.length (ss.getD k zeroS).cR) ∧
    (∀ i, w.frozen? ⟨B, i, none⟩ = false) := by
  have key : ∀ j, j < 4 → (v :: cellsS ss)[1 + k * 4 + j]? = (ss.getD k zeroS).cells[j]? := fun j hj => by
    rw [show 1 + k * 4 + j = (k * 4 + j) + 1 by omega, List.getElem?_cons_succ]
    exact cellsS_at ss k j hk hj
  exact ⟨b.cell _ _ (key 0 (by omega)), b.cell _ _ (key 1 (by omega)), b.cell _ _ (key 2 (by omega)), b.cell _ _ (key 3 (by omega)), fun i => b.frozen i⟩

theorem drop_at (ss : List SlotA) (k : Nat) (h : k < ss.length) : (ss.map (·.v)).drop k = (ss.getD k zeroS).v :: (ss.map (·.v)).drop (k + 1) := by
  rw [List.drop_eq_getElem_cons (by simpa using h)]
  simp [List.getD, h]

end Go.Proofs.YtbaocehcnjdkkaaDoor

/- A slot of a page stored. -/
namespace Go.Proofs.YtbaocehcnjdkkaaDoor
open Go.RowKit

theorem set_cons1 (v x : Value) (L : List Value) (i : Nat) : (v :: L).set (1 + i) x = v :: L.set i x := by rw [Nat.add_comm, List.set_cons_succ]
theorem pslot_fill {w : World} {B : Nat} {v : Value} {ss : List SlotA} {ty : TypeId} (b : Box w B (v :: cellsS ss) ty) (k : Nat) (hk : k < ss.length) (t : SlotA) :
    ∃ W, Hid ((((w.setCell ⟨B, 1 + k * 4, none⟩ (.bool t.v.has)).setCell ⟨B, 1 + k * 4 + 1, none⟩ (.int .i64 t.v.o.kind)).setCell ⟨B, 1 + k * 4 + 2, none⟩ (.slice t.aI t.v.o.ints.length t.cI)).setCell ⟨B, 1 + k * 4 + 3, none⟩ (.slice t.aR t.v.o.refs.length t.cR) = W) ∧ Box W B (v :: cellsS (ss.set k t)) ty ∧ Within B (B + 1) w W ∧ W.heap.size = w.heap.size := by
  refine ⟨_, rfl, ?_, ?_, ?_⟩
  · have := (((b.set (1 + k * 4) (.bool t.v.has)).set (1 + k * 4 + 1) (.int .i64 t.v.o.kind)).set (1 + k * 4 + 2) (.slice t.aI t.v.o.ints.length t.cI)).set (1 + k * 4 + 3) (.slice t.aR t.v.o.refs.length t.cR)
    rw [Nat.add_assoc, Nat.add_assoc 1 (k * 4) 2, Nat.add_assoc 1 (k * 4) 3, set_cons1, set_cons1, set_cons1, set_cons1, cellsS_set ss k hk t] at this
    rw [Nat.add_assoc, Nat.add_assoc 1 (k * 4) 2, Nat.add_assoc 1 (k * 4) 3]
    exact this
  · exact (((within_set w B _ _ (by omega)).trans (within_set _ B _ _ (by omega))).trans (within_set _ B _ _ (by omega))).trans (within_set _ B _ _ (by omega))
  · simp
/-- One of them is another, which lies behind them all. -/
theorem OwnS.set {w : World} {lo mid mid' hi : Nat} {ss : List SlotA} {t : SlotA} (h : OwnS w lo mid ss) (k : Nat) (ht : t.own w mid' hi) (h1 : lo ≤ mid') (h2 : mid ≤ mid') (h3 : mid' ≤ hi) : OwnS w lo hi (ss.set k t) := by
  have hhi : hi ≤ w.heap.size := ht.ints.2.1
  refine ⟨fun s hs => ?_, ?_⟩
  · rcases List.mem_or_eq_of_mem_set hs with h' | rfl
    · exact OwnO.widen (h.each s h') (Nat.le_refl _) (by omega) hhi
    · exact OwnO.widen ht h1 (Nat.le_refl _) hhi
  · have hb := SlotA.blocks_lt ht
    have hn := SlotA.blocks_nodup ht
    have hl := h.blocks_lt
    have ha := h.apart
    clear h ht
    induction ss generalizing k with
    | nil => exact ha
    | cons s r ih =>
      rw [List.flatMap_cons, List.nodup_append] at ha
      cases k with
      | zero =>
        rw [List.set_cons_zero, List.flatMap_cons, List.nodup_append]
        refine ⟨hn, ha.2.1, fun a ha' b hb' e => ?_⟩
        have h5 := (hb a ha').1
        have h6 := (hl b (by rw [List.flatMap_cons]; exact List.mem_append.2 (.inr hb'))).2
        omega
      | succ k =>
        rw [List.set_cons_succ, List.flatMap_cons, List.nodup_append]
        refine ⟨ha.1, ih k (fun x hx => hl x (by rw [List.flatMap_cons]; exact List.mem_append.2 (.inr hx))) ha.2.1, fun a ha' b hb' e => ?_⟩
        subst e
        obtain ⟨x, hx, hbx⟩ := List.mem_flatMap.1 hb'
        rcases List.mem_or_eq_of_mem_set hx with h' | rfl
        · exact ha.2.2 a ha' a (List.mem_flatMap.2 ⟨x, h', hbx⟩) rfl
        · have h5 := (hb a hbx).1
          have h6 := (hl a (by rw [List.flatMap_cons]; exact List.mem_append.2 (.inl ha'))).2
          omega
end Go.Proofs.YtbaocehcnjdkkaaDoor

/- Plain mathematics of SetSlot; results that are a page and a flag. -/
namespace Go.Proofs.YtbaocehcnjdkkaaDoor
open Go.RowKit

def setOk (n : Int) (vs : List SlotV) (slot : Int) (s : SlotV) (lsn : Int) : Bool := okP n vs && (inB slot 0 3 && (slotB s && inB lsn n 1000000))
def setOf (n : Int) (vs : List SlotV) (slot : Int) (s : SlotV) (lsn : Int) : Int × List SlotV := if setOk n vs slot s lsn then (lsn, vs.set slot.toNat s) else (n, vs)
theorem setOf_no {n : Int} {vs : List SlotV} {slot : Int} {s : SlotV} {lsn : Int} (h : setOk n vs slot s lsn = false) : setOf n vs slot s lsn = (n, vs) := by unfold setOf; rw [if_neg (by rw [h]; decide)]
theorem setOf_ok {n : Int} {vs : List SlotV} {slot : Int} {s : SlotV} {lsn : Int} (h : setOk n vs slot s lsn = true) : setOf n vs slot s lsn = (lsn, vs.set slot.toNat s) := by unfold setOf; rw [if_pos h]
theorem setOk_p {n : Int} {vs : List SlotV} {slot : Int} {s : SlotV} {lsn : Int} (h : okP n vs = false) : setOk n vs slot s lsn = false := by simp [setOk, h]
theorem setOk_slot {n : Int} {vs : List SlotV} {slot : Int} {s : SlotV} {lsn : Int} (h : inB slot 0 3 = false) : setOk n vs slot s lsn = false := by simp [setOk, h]
theorem setOk_s {n : Int} {vs : List SlotV} {slot : Int} {s : SlotV} {lsn : Int} (h : slotB s = false) : setOk n vs slot s lsn = false := by simp [setOk, h]
theorem setOk_lsn {n : Int} {vs : List SlotV} {slot : Int} {s : SlotV} {lsn : Int} (h : inB lsn n 1000000 = false) : setOk n vs slot s lsn = false := by simp [setOk, h]
theorem setOk_all {n : Int} {vs : List SlotV} {slot : Int} {s : SlotV} {lsn : Int} (h1 : okP n vs = true) (h2 : inB slot 0 3 = true) (h3 : slotB s = true) (h4 : inB lsn n 1000000 = true) : setOk n vs slot s lsn = true := by simp [setOk, h1, h2, h3, h4]

theorem results_cell_flag {P : Program} {fn : Func} {s t : Nat} {ty : TypeId} {tmps : Array Value} {w : World} {v b : Value} {ad : Addr} (hf : fn.results = #[.cell s ty, .tmp t]) (ht : tmps[s]?.getD undef = .pointer (some ad)) (hl : (loadVar ty ad).run P w = .ok v w) (hb : tmps[t]?.getD undef = b) : (results fn tmps).run P w = .ok (.tuple #[v, b]) w := by
  unfold results
  rw [hf]
  simp [ht, asAddr, hl, hb]

/-- A whole value loaded where a guard stands ahead of it that lets it by. -/
theorem wpList_load_mid_if {ops : Array Oper} {rest : List Oper} {op : Oper} {a : Act} {w : World} {Q : Exit → Act → World → Prop} {P : Program} (hw : Region.wanted op (yielded ops a.tmps) = true) (ty : TypeId) (x : Operand) (ho : op.op = .load ty x)
    (b o : Nat) (hx : a.eval x = .pointer (some ⟨b, o, none⟩)) (cs : List Value) (d : TypeDesc) (hc : w.rangeAt b o cs)
    (hu : P.underlying ty = some d) (hd : d.isRow = true) (hi : (P.info? ty).map (·.size) = some cs.length)
    (h : wpList P ops Q rest (a.put op.dst (.agg cs.toArray)) w) : wpList P ops Q (op :: rest) a w :=
  wpList_step fun _ hK => by
    simp only [hw, if_true]
    exact wp_load_mid ty x ho b o hx cs d hc hu hd hi (hK _ _ h)

def zero17 : List Value := [.int .i64 0, .bool false, .int .i64 0, .slice none 0 0, .slice none 0 0, .bool false, .int .i64 0, .slice none 0 0, .slice none 0 0, .bool false, .int .i64 0, .slice none 0 0, .slice none 0 0, .bool false, .int .i64 0, .slice none 0 0, .slice none 0 0]

/-- A page at B is stored at C, which holds a page: what is there then, and what the result reads. -/
theorem page_out {w : World} {C : Nat} {T : TypeId} {d : TypeDesc} (q : PageA) (hq : q.ss.length = 4) (old : List Value) (ho : old.length = 17) (bC : Box w C old T) (hu : Tryd.prog.underlying T = some d) (hd : d.isRow = true) (hi : (Tryd.prog.info? T).map (·.size) = some 17) :
    ∃ WF, Hid (w.setCells C 0 q.cells = WF) ∧ Within C (C + 1) w WF ∧ WF.heap.size = w.heap.size ∧ Hid (w.there C 0 q.cells.toArray.size) ∧ Hid ((loadVar T ⟨C, 0, none⟩).run Tryd.prog WF = .ok (.agg q.cells.toArray) WF) ∧ Box WF C q.cells T := by
  have hl : q.cells.length = 17 := page_len q hq
  obtain ⟨WF, hWF, bF, hwF, hsF⟩ := range_fill [] old q.cells [] (by simpa using bC) (by rw [hl, ho])
  have bF' : Box WF C q.cells T := by simpa using bF
  refine ⟨WF, hWF, hwF, hsF, bC.there 0 _ (by rw [List.size_toArray, hl, ho]; omega), ?_, bF'⟩
  exact run_loadVar_mid (P := Tryd.prog) WF C 0 T q.cells d (Box.range [] q.cells [] (by simpa using bF')) hu hd (by rw [hi, hl])
end Go.Proofs.YtbaocehcnjdkkaaDoor

/- The walks of spec.l3Slot and spec.PageOk. -/
namespace Go.Proofs.YtbaocehcnjdkkaaDoor
open Go.RowKit

theorem slotB_of (o : ObjV) (a b c : Bool) (h1 : decide (o.kind = 0) = a) (h2 : decide (o.ints.length = 0) = b) (h3 : decide (o.refs.length = 0) = c) : slotB ⟨false, o⟩ = (a && (b && c)) := by
  rw [← h1, ← h2, ← h3]; rfl

set_option maxHeartbeats 400000 in
set_option maxRecDepth 100000 in
theorem l3Slot_any (s : SlotA) (w : World) (hr : s.reads w) (hl : Fit [s]) :
    Calls Tryd.prog 42 #[.agg s.cells.toArray] w fun e w' => e = .returned (.bool (slotB s.v)) ∧ Below w.heap.size w w' := by
  obtain ⟨h1, h2⟩ := hl s (List.mem_singleton.2 rfl)
  obtain ⟨W, hW, b0, hbW, hsW⟩ := boxes1 w s.cells 28
  have hr' : s.reads W := ReadsO.below hr hbW
  obtain ⟨⟨h, o⟩, aI, cI, aR, cR⟩ := s
  simp only [SlotA.cells, SlotA.reads] at *
  cases h with
  | true =>
    have C1 := specObjOk_any o aI cI aR cR W hr' (by omega) (by omega)
    have HE : Hid (slotB ⟨true, o⟩ = okB o) := slotB_has rfl
    generalize slotB ⟨true, o⟩ = R at *
    go_enter Tryd.func42, Tryd.ntmps42
    go_wp2_with fail
    rw [hW.out]
    refine C1.mono ?_
    rintro e w1 ⟨rfl, hb1⟩
    go_wp2
    go_ret
    exact ⟨ret_bool HE.out.symm, hbW.trans (hb1.mono hbW.size)⟩
  | false =>
    have HE := slotB_of o
    generalize slotB ⟨false, o⟩ = R at *
    obtain ⟨k, ints, refs⟩ := o
    obtain ⟨x0, x1, x2, x3, _⟩ := b0.four
    simp only at *
    by_cases hk : k = 0
    case neg =>
      have HR : Hid (R = false) := HE false _ _ (decide_eq_false hk) rfl rfl
      have hkb : (k == 0) = false := by simpa using hk
      clear HE hk
      go_enter Tryd.func42, Tryd.ntmps42
      go_wp2
      go_ret
      exact ⟨ret_bool HR.out.symm, by rw [hW.out]; exact hbW⟩
    case pos =>
    subst hk
    by_cases hi : ints.length = 0
    case neg =>
      have HR : Hid (R = false) := HE true false _ (decide_eq_true rfl) (decide_eq_false hi) rfl
      have hib : ((ints.length : Int) == 0) = false := by simp; exact fun e => hi (by rw [e]; rfl)
      clear HE hi
      go_enter Tryd.func42, Tryd.ntmps42
      go_wp2
      go_ret
      exact ⟨ret_bool HR.out.symm, by rw [hW.out]; exact hbW⟩
    case pos =>
    by_cases hj : refs.length = 0
    case neg =>
      have HR : Hid (R = false) := HE true true false (decide_eq_true rfl) (decide_eq_true hi) (decide_eq_false hj)
      have hib : ((ints.length : Int) == 0) = true := by simp; exact List.length_eq_zero_iff.1 hi
      have hjb : ((refs.length : Int) == 0) = false := by simp; exact fun e => hj (by rw [e]; rfl)
      clear HE hi hj
      go_enter Tryd.func42, Tryd.ntmps42
      go_wp2
      go_ret
      exact ⟨ret_bool HR.out.symm, by rw [hW.out]; exact hbW⟩
    case pos =>
      have HR : Hid (R = true) := HE true true true (decide_eq_true rfl) (decide_eq_true hi) (decide_eq_true hj)
      have hib : ((ints.length : Int) == 0) = true := by simp; exact List.length_eq_zero_iff.1 hi
      have hjb : ((refs.length : Int) == 0) = true := by simp; exact List.length_eq_zero_iff.1 hj
      clear HE hi hj
      go_enter Tryd.func42, Tryd.ntmps42
      go_wp2
      go_ret
      exact ⟨ret_bool HR.out.symm, by rw [hW.out]; exact hbW⟩

theorem okP_no {n : Int} {ss : List SlotA} (k : Nat) (hk : k < ss.length) (h : slotB (ss.getD k zeroS).v = false) : okP n (ss.map (·.v)) = false := by
  have : (ss.map (·.v)).all slotB = false := by
    rw [List.all_eq_false]
    exact ⟨(ss.getD k zeroS).v, List.mem_map.2 ⟨_, getD_mem hk, rfl⟩, by rw [h]; decide⟩
  simp [okP, this]
theorem okP_all {n : Int} {ss : List SlotA} (h : ∀ j, j < ss.length → slotB (ss.getD j zeroS).v = true) : okP n (ss.map (·.v)) = inB n 0 1000000 := by
  have : (ss.map (·.v)).all slotB = true := by
    rw [List.all_eq_true]
    intro v hv
    obtain ⟨s, hs, rfl⟩ := List.mem_map.1 hv
    obtain ⟨j, hj, rfl⟩ := List.getElem_of_mem hs
    have := h j hj
    simpa [List.getD, hj] using this
  simp [okP, this]

set_option maxHeartbeats 1000000 in
set_option maxRecDepth 100000 in
theorem specPageOk_any (p : PageA) (h4 : p.ss.length = 4) (w : World) (hr : ReadsS w p.ss) (hl : Fit p.ss) :
    Calls Tryd.prog 11 #[.agg p.cells.toArray] w fun e w' => e = .returned (.bool (okP p.lsn (p.ss.map (·.v)))) ∧ Below w.heap.size w w' := by
  obtain ⟨n, ss⟩ := p
  simp only [PageA.cells] at *
  obtain ⟨W, hW, b0, hbW, hsW⟩ := boxes1 w (.int .i64 n :: cellsS ss) 31
  have H4 : Hid (ss.length = 4) := h4
  have HNO : Hid (∀ k, k < ss.length → slotB (ss.getD k zeroS).v = false → okP n (ss.map (·.v)) = false) := fun k hk h => okP_no k hk h
  have HAL : Hid ((∀ j, j < ss.length → slotB (ss.getD j zeroS).v = true) → okP n (ss.map (·.v)) = inB n 0 1000000) := fun h => okP_all h
  generalize okP n (ss.map (·.v)) = R at *
  clear hsW h4
  go_enter Tryd.func11, Tryd.ntmps11
  go_wp2_with fail
  rw [hW.out]
  clear hW
  go_loopw [3] (fun i wr => ∃ (k : Nat), i = .int .i64 k ∧ k ≤ 4 ∧ Hid (∀ j, j < k → slotB (ss.getD j zeroS).v = true) ∧ Below W.heap.size W wr)
    (fun i _ => 4 - (intOf i).toNat)
  case atStart => exact ⟨0, rfl, by omega, fun j hj => by omega, Below.refl _ _⟩
  case round =>
    obtain ⟨k, rfl, hk, hall, hbl⟩ := hrel
    have b0r := b0.below hbl b0.lt
    have hbT : Below w.heap.size w wr := hbW.trans (hbl.mono hbW.size)
    by_cases hlt : k < 4
    · have hkl : k < ss.length := by rw [H4.out]; exact hlt
      obtain ⟨c0, c1, c2, c3, _⟩ := b0r.pslot k hkl
      have hi0 : (0 : Int) ≤ (k : Int) := by omega
      have hi4 : (k : Int) < 4 := by omega
      have hrk := (hr _ (getD_mem hkl)).below hbT
      have hlk : Fit [ss.getD k zeroS] := fun s hs => by obtain rfl := List.mem_singleton.1 hs; exact hl _ (getD_mem hkl)
      have C := l3Slot_any (ss.getD k zeroS) wr hrk hlk
      simp only [SlotA.cells] at C
      cases hz : slotB (ss.getD k zeroS).v with
      | false =>
        have HR : Hid (R = false) := HNO.out k hkl hz
        rw [hz] at C
        clear hz
        generalize ss.getD k zeroS = s at *
        go_wp2_with fail
        refine C.mono ?_
        rintro e w1 ⟨rfl, hb1⟩
        go_wp2
        go_ret
        exact ⟨ret_bool HR.out.symm, hbT.trans (hb1.mono hbT.size)⟩
      | true =>
        have HN : Hid (∀ j, j < k + 1 → slotB (ss.getD j zeroS).v = true) := by
          intro j hj
          by_cases e : j = k
          · rw [e]; exact hz
          · exact hall.out j (by omega)
        rw [hz] at C
        clear hz hrk hlk
        generalize hs : ss.getD k zeroS = s at *
        clear hs
        go_wp2_with fail
        refine C.mono ?_
        rintro e w1 ⟨rfl, hb1⟩
        clear C
        go_wp2_with fail
        go_roundw
        case rel => exact ⟨k + 1, by go_num, by omega, HN, hbl.trans (hb1.mono hbl.size)⟩
        case measure => simp [intOf]; omega
    · have hkk : ¬ (k : Int) < 4 := by omega
      have HR : Hid (R = inB n 0 1000000) := HAL.out (fun j hj => hall.out j (by rw [H4.out] at hj; omega))
      have c0 := b0r.cell 0 _ rfl
      go_wp2_with fail
      refine (l1In_any _ _ _ _).mono ?_
      rintro e w' ⟨rfl, rfl⟩
      go_wp2
      go_ret
      exact ⟨ret_bool HR.out.symm, hbT⟩
end Go.Proofs.YtbaocehcnjdkkaaDoor

/- The walk of spec.Crc: it comes to crcOf. -/
namespace Go.Proofs.YtbaocehcnjdkkaaDoor
open Go.RowKit

theorem i64_byte (c : Nat) (h : c < 256) : wrap64 (c : Int) = c := by unfold wrap64; omega

theorem spec_odd (x y : Nat) (hx : x < 4294967296) (h : (x : Int) % 2 = 1) (hy : y = crcBit x) : bits .xor .i64 ((x : Int) / 2) 3988292384 = (y : Int) := by
  rw [hy, crcBit_odd x h]
  have := i64_xor_nat (x / 2) 3988292384 (by omega) (by omega)
  rw [← this]
  rfl

theorem spec_end (x y : Nat) (hx : x < 4294967296) (hy : y = 4294967295 ^^^ x) : bits .xor .i64 (x : Int) 4294967295 = (y : Int) := by
  have := i64_xor_nat x 4294967295 hx (by omega)
  rw [hy, Nat.xor_comm, ← this]
  rfl

set_option maxHeartbeats 400000 in
theorem specCrc_any (a : Option Addr) (cap : Nat) (zs : List Int) (w : World) (hr : Reads w a zs) (hl : zs.length ≤ 140737488351232) :
    Calls Tryd.prog 93 #[.slice a zs.length cap] w fun e w' => e = .returned (.int .i64 (crcOf zs : Nat)) ∧ w' = w := by
  have hb := hr.byte
  rcases hr.cases with rfl | ⟨b, off, rfl, hpos, hcell⟩
  · go_enter Tryd.func93, Tryd.ntmps93
    go_wp2
    refine wp_loop_rounds 1 ?_
    rw [rounds_succ]
    go_wp2
    go_ret
    exact ⟨ret_int (spec_end 4294967295 _ (by omega) crcOf_nil), rfl⟩
  · go_enter Tryd.func93, Tryd.ntmps93
    go_wp2
    go_loop [3, 4] (fun x i => ∃ k : Nat, k ≤ zs.length ∧ i = .int .i64 k ∧ x = .int .i64 (crcTo zs k : Nat)) (fun _ i => zs.length - (intOf i).toNat)
    case atStart => exact ⟨0, by omega, rfl, by rw [crcTo_zero]; rfl⟩
    case round =>
      obtain ⟨k, hk, rfl, rfl⟩ := hrel
      have hx := crcTo_lt zs hb k
      by_cases hlt : k < zs.length
      · have hc := hcell k hlt
        obtain ⟨hn, hn2⟩ := bytes_nat hb k
        have HS : Hid (crcTo zs (k + 1) = _) := crcTo_succ zs k hlt
        rw [hn] at hc
        clear hn hcell
        generalize (zs.getD k 0).toNat = c at *
        generalize crcTo zs k = x at *
        have HX : Hid (bits .xor .i64 (x : Int) (c : Int) = ((x ^^^ c : Nat) : Int)) := i64_xor_nat x c hx (by omega)
        have HL : Hid (x ^^^ c < 4294967296) := xor_byte_lt x c hx hn2
        have HB : Hid (crcByte x c = crcBits 8 (x ^^^ c)) := rfl
        generalize x ^^^ c = y at *
        go_wp2
        go_loop [3, 5] (fun v j => ∃ m : Nat, m ≤ 8 ∧ j = .int .i64 m ∧ v = .int .i64 (crcBits m y : Nat)) (fun _ j => 8 - (intOf j).toNat)
        case atStart => exact ⟨0, by omega, rfl, val_int HX.out⟩
        case round =>
          obtain ⟨m, hm, rfl, rfl⟩ := hrel
          have hz := crcBits_lt m y HL.out
          have HT : Hid (crcBits (m + 1) y = crcBit (crcBits m y)) := rfl
          have HM : Hid (m = 8 → crcBits m y = crcBits 8 y) := fun h => by rw [h]
          generalize crcBits m y = z at *
          by_cases hm8 : m < 8
          · have h1 := i64_and1 (z : Int)
            by_cases ho : (z : Int) % 2 = 1
            · rw [ho] at h1
              go_wp2
              go_round
              case rel => exact ⟨m + 1, by omega, by go_num, val_int (spec_odd z _ hz ho HT.out)⟩
              case measure => simp [intOf]; omega
            · rw [show (z : Int) % 2 = 0 from by omega] at h1
              go_wp2
              go_round
              case rel => exact ⟨m + 1, by omega, by go_num, val_int (crc_even z _ ho HT.out)⟩
              case measure => simp [intOf]; omega
          · have HV : Hid (crcTo zs (k + 1) = z) := by
              have e := HM.out (by omega)
              show _ = _
              rw [HS.out, HB.out, ← e]
            go_wp2
            go_round
            case rel => exact ⟨k + 1, by omega, by go_num, by rw [HV.out]⟩
            case measure => simp [intOf]; omega
      · have HE : Hid (crcOf zs = 4294967295 ^^^ crcTo zs k) := by
          have e : k = zs.length := by omega
          rw [e]; rfl
        go_wp2
        go_ret
        exact ⟨ret_int (spec_end _ _ hx HE.out), rfl⟩
end Go.Proofs.YtbaocehcnjdkkaaDoor

/- The walk of spec.l1Four. -/
namespace Go.Proofs.YtbaocehcnjdkkaaDoor
open Go.RowKit

set_option maxHeartbeats 400000 in
theorem l1Four_any (x : Nat) (w : World) (hx : x < 4294967296) :
    Calls Tryd.prog 92 #[.int .i64 x] w fun e w' => ∃ a' c' ys, e = .returned (.slice a' ys.length c') ∧ ys = four x ∧ OwnB w' w.heap.size a' c' ys ∧ Below w.heap.size w w' := by
  go_enter Tryd.func92, Tryd.ntmps92
  go_wp2
  go_ret
  refine ⟨some ⟨w.heap.size, 0, none⟩, 4, [(x : Int) % 256, (x : Int) / 256 % 256, (x : Int) / 65536 % 256, (x : Int) / 16777216], rfl, ?_, own_lit4 w _ _ _ _ ?_, (Below.refl _ _).alloc (Nat.le_refl _) _⟩
  · rw [four_eq, Nat.mod_eq_of_lt (show x / 16777216 < 256 from by omega)]; simp
  · simp; omega
end Go.Proofs.YtbaocehcnjdkkaaDoor
