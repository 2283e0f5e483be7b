/- Several texts in one, in their order. -/
import Derived.Test.YtjaojcgfgkppgaaDoorPiece16
import Derived.Test.YtjaojcgfgkppgaaDoorPiece23
import Derived.Test.YtjaojcgfgkppgaaDoorPiece22
import Derived.Test.YtjaojcgfgkppgaaDoorPiece8
import Derived.Deep.RegionHeld3
import Derived.Test.YtjaojcgfgkppgaaDoorPiece5
/- The walk of spec.l3PageAny. -/
namespace Go.Proofs.YtjaojcgfgkppgaaDoor
open Go.RowKit

def flipS (s : SlotA) : SlotA := { s with v := ⟨!s.v.has, s.v.o⟩ }
theorem cellsS_flip (ss : List SlotA) (k : Nat) (hk : k < ss.length) : (cellsS ss).set (k * 4) (.bool (!(ss.getD k zeroS).v.has)) = cellsS (ss.set k (flipS (ss.getD k zeroS))) := by
  induction ss generalizing k with
  | nil => simp at hk
  | cons s r ih =>
    cases k with
    | zero => simp [cellsS, SlotA.cells, flipS]
    | succ k =>
      have := ih k (by simpa using hk)
      have e : cellsS (s :: r) = s.cells ++ cellsS r := by simp [cellsS]
      have e2 : ∀ x, cellsS (s :: x) = s.cells ++ cellsS x := fun x => by simp [cellsS]
      rw [e, List.set_append_right _ _ (by rw [cells_len]; omega), cells_len, show (k + 1) * 4 - 4 = k * 4 by omega, List.getD_cons_succ, this, List.set_cons_succ, e2]
theorem cellsS_obj (ss : List SlotA) (k : Nat) (hk : k < ss.length) (o : ObjV) (aI : Option Addr) (cI : Nat) (aR : Option Addr) (cR : Nat) :
    (((cellsS ss).set (k * 4 + 1) (.int .i64 o.kind)).set (k * 4 + 2) (.slice aI o.ints.length cI)).set (k * 4 + 3) (.slice aR o.refs.length cR) = cellsS (ss.set k ⟨⟨(ss.getD k zeroS).v.has, o⟩, aI, cI, aR, cR⟩) := by
  induction ss generalizing k with
  | nil => simp at hk
  | cons s r ih =>
    cases k with
    | zero => simp [cellsS, SlotA.cells]
    | succ k =>
      have := ih k (by simpa using hk)
      have e2 : ∀ x, cellsS (s :: x) = s.cells ++ cellsS x := fun x => by simp [cellsS]
      rw [e2, List.set_append_right _ _ (by rw [cells_len]; omega), List.set_append_right _ _ (by rw [cells_len]; omega), List.set_append_right _ _ (by rw [cells_len]; omega), cells_len, show (k + 1) * 4 + 1 - 4 = k * 4 + 1 by omega, show (k + 1) * 4 + 2 - 4 = k * 4 + 2 by omega, show (k + 1) * 4 + 3 - 4 = k * 4 + 3 by omega, List.getD_cons_succ, this, List.set_cons_succ, e2]
theorem flip_own {w : World} {lo hi : Nat} {s : SlotA} (h : s.own w lo hi) : (flipS s).own w lo hi := h
theorem OwnS.flip {w : World} {lo hi : Nat} {ss : List SlotA} (h : OwnS w lo hi ss) (k : Nat) (hk : k < ss.length) : OwnS w lo hi (ss.set k (flipS (ss.getD k zeroS))) := by
  refine ⟨fun s hs => ?_, ?_⟩
  · rcases List.mem_or_eq_of_mem_set hs with h' | rfl
    · exact h.each s h'
    · exact flip_own (h.each _ (getD_mem hk))
  · have e : (ss.set k (flipS (ss.getD k zeroS))).flatMap SlotA.blocks = ss.flatMap SlotA.blocks := by
      clear h
      induction ss generalizing k with
      | nil => rfl
      | cons s r ih =>
        cases k with
        | zero => rfl
        | succ k =>
          rw [List.set_cons_succ, List.getD_cons_succ, List.flatMap_cons, List.flatMap_cons, ih k (by simpa using hk)]
    rw [e]; exact h.apart

set_option maxHeartbeats 4000000 in
set_option maxRecDepth 100000 in
theorem l3PageAny_any (B : Nat) (zs : List Int) (w : World) (hc : CurAt w B zs) (hl : zs.length ≤ 70368744177664) :
    Calls Tryd.prog 41 #[.pointer (some ⟨B, 0, none⟩)] w fun e w' => ∃ (n : Int) (ts : List SlotA), e = .returned (.agg (PageA.cells ⟨n, ts⟩).toArray) ∧ ts.length = 4 ∧ (∀ s ∈ ts, s.v.o.ints.length ≤ 7 ∧ s.v.o.refs.length ≤ 7) ∧ OwnS w' w.heap.size w'.heap.size ts ∧ CurAt w' B zs ∧ Within B (B + 1) w w' := by
  have hB := hc.lt
  obtain ⟨W, hW, b0, hbW, hsW⟩ := boxes1 w [.int .i64 0, .bool false, .int .i64 0, .slice none 0 0, .slice none 0 0, .bool false, .int .i64 0, .slice none 0 0, .slice none 0 0, .bool false, .int .i64 0, .slice none 0 0, .slice none 0 0, .bool false, .int .i64 0, .slice none 0 0, .slice none 0 0] 40
  have hcW : CurAt W B zs := hc.below hbW
  have hsW' : w.heap.size < W.heap.size := by omega
  clear hsW hc
  go_enter Tryd.func41, Tryd.ntmps41
  go_wp2_with fail
  rw [hW.out]
  clear hW
  refine (l3DrawPage_any B zs W hcW hl).mono ?_
  rintro e w1 ⟨n, ts, rfl, hts4, hsm, ho1, hc1, hw1⟩
  have hs1 := hw1.size
  have b1 := b0.within hw1 (by omega)
  have HW1 : Within B (B + 1) w w1 := (Within.of_below hbW).trans hw1
  have HI : Hid ((Tryd.prog.info? 40).map (·.size) = some (PageA.cells ⟨n, ts⟩).length) := by rw [Hid, page_len _ hts4]; kernel_rfl
  have HO : Hid (_) := all_oneCell_toArray (oneP ⟨n, ts⟩)
  obtain ⟨V2, hV2, bz2, hbz2, hsz2⟩ := boxes1 w1 [.int .i64 0, .bool false, .int .i64 0, .slice none 0 0, .slice none 0 0, .bool false, .int .i64 0, .slice none 0 0, .slice none 0 0, .bool false, .int .i64 0, .slice none 0 0, .slice none 0 0, .bool false, .int .i64 0, .slice none 0 0, .slice none 0 0] 40
  obtain ⟨W2, hW2, hw2, hs2, HT2, _, bp2⟩ := page_out (C := w1.heap.size) (T := 40) ⟨n, ts⟩ hts4 _ rfl bz2 Tryd.underlying40 rfl (by kernel_rfl)
  have M2 : Below w1.heap.size w1 W2 := hbz2.trans (hw2.below (Nat.le_refl _) (by omega))
  have b02 := b1.below M2 b1.lt
  have hc2 : CurAt W2 B zs := hc1.below M2
  have o2 : OwnS W2 W.heap.size w1.heap.size ts := ho1.below M2
  have HW2 : Within B (B + 1) w W2 := HW1.trans (Within.of_below M2)
  have hlt2 : w1.heap.size < W2.heap.size := bp2.lt
  clear b0 hcW hbW hw1 HW1 b1 hc1 ho1 bz2 hbz2 hsz2 hw2 hs2 M2
  go_wp2_with (first | (guard_target = wpList _ _ _ (Oper.mk none (Op.store _ (Operand.tmp 3) _) _ _ _ _ :: _) _ _; refine wpList_store_mid rfl 40 (.tmp 3) (.tmp 6) rfl w1.heap.size 0 (PageA.cells ⟨n, ts⟩).toArray rfl rfl (by rw [hV2.out]; exact HT2.out) (by rw [List.size_toArray]; exact HI.out) HO.out ?_) | fail)
  rw [hV2.out, hW2.out]
  clear hV2 hW2 HT2 HO HI
  refine (l1Below_any B zs 4 W2 hc2 hl (by omega)).mono ?_
  rintro e w3 ⟨k, rfl, hk4', hc3, hg3⟩
  have hk4 : k < 4 := by have := hk4' (by omega); omega
  have hw3 := within_cur hg3
  have hs3 := hw3.size
  have bp3 := bp2.within hw3 (by omega)
  have b03 := b02.within hw3 (by omega)
  have o3 := o2.within hw3 (.inr (by omega))
  have HW3 := HW2.trans hw3
  clear bp2 b02 o2 HW2 hg3 hw3 hc2 hk4'
  go_wp2_with fail
  refine (l1Below_any B zs 12 w3 hc3 hl (by omega)).mono ?_
  rintro e w4 ⟨y, rfl, _, hc4, hg4⟩
  have hw4 := within_cur hg4
  have hs4 := hw4.size
  have bp4 := bp3.within hw4 (by omega)
  have br := b03.within hw4 (by omega)
  have o4 := o3.within hw4 (.inr (by omega))
  have HW4 := HW3.trans hw4
  clear bp3 b03 o3 HW3 hg4 hw4 hc3
  simp only [PageA.cells] at bp4
  have hkl : k < ts.length := by omega
  have hi0 : (0 : Int) ≤ (k : Int) := by omega
  have hi4 : (k : Int) < 4 := by omega
  by_cases hy0 : y = 0
  · subst hy0
    have hnat : ((0 : Nat) : Int) = 0 := rfl
    obtain ⟨W5, hW5, b5, hb5, hs5⟩ := boxes1 w4 [.int .i64 (-1), .int .i64 1000000, .int .i64 1000001] 3
    have hrl : ReadsI W5 (some ⟨w4.heap.size, 0, none⟩) [-1, 1000000, 1000001] := fun _ => ⟨w4.heap.size, 0, rfl, fun i hi => by
      match i, hi with
      | 0, _ => exact b5.cell 0 _ rfl
      | 1, _ => exact b5.cell 1 _ rfl
      | 2, _ => exact b5.cell 2 _ rfl⟩
    have hB4 : B < w4.heap.size := hc4.lt
    go_wp2_with fail
    rw [hW5.out]
    clear hW5
    refine (l1Int_any B zs (some ⟨w4.heap.size, 0, none⟩) 3 [-1, 1000000, 1000001] W5 (hc4.below hb5) hl hrl (fun b off e => by cases e; omega) (by simp) (by simp)).mono ?_
    rintro e w6 ⟨j, hj, rfl, hc6, hg6⟩
    generalize ([-1, 1000000, 1000001] : List Int).getD j 0 = z at *
    have hw6 := within_cur hg6
    have hs6 := hw6.size
    have hs45 := hb5.size
    have bp6 := (bp4.below hb5 bp4.lt).within hw6 (by omega)
    have br6 := (br.below hb5 br.lt).within hw6 (by omega)
    have o6 := (o4.below hb5).within hw6 (.inr (by omega))
    have HW6 := (HW4.trans (Within.of_below hb5)).trans hw6
    have x0 := bp6.cell 0 _ rfl
    have f0 := bp6.frozen 0
    obtain ⟨W7, hW7, b7, hw7, hs7⟩ := box_set bp6 0 (.int .i64 z)
    simp only [List.set_cons_zero] at b7
    have bp : Box W7 w1.heap.size (PageA.cells ⟨z, ts⟩) 40 := b7
    have ou : OwnS W7 W.heap.size w1.heap.size ts := o6.within hw7 (.inl (Nat.le_refl _))
    have cu : CurAt W7 B zs := hc6.within hw7 (by omega)
    have HWv : Within B (B + 1) w W7 := HW6.new hw7 (by omega)
    have hu4 := hts4
    have hus : ∀ s ∈ ts, s.v.o.ints.length ≤ 7 ∧ s.v.o.refs.length ≤ 7 := fun s hs => by have := hsm s hs; omega
    have br := br6.within hw7 (by omega)
    clear br6 bp6 o6 HW6 hw7 b7 hw6 hg6 hb5 hc6 hrl b5 bp4 o4 HW4 hc4
    generalize hq : (⟨z, ts⟩ : PageA) = P at *
    have hP4 : P.ss.length = 4 := by rw [← hq]; exact hu4
    have HPe : Hid (P = ⟨z, ts⟩) := hq.symm
    have hbox' : Box W7 w1.heap.size P.cells 40 := bp
    have rP := Box.range [] P.cells [] (by simpa using hbox' : Box W7 w1.heap.size ([] ++ (P.cells ++ [])) 40)
    have HIP : Hid ((Tryd.prog.info? 40).map (·.size) = some P.cells.length) := by rw [Hid, page_len P hP4]; kernel_rfl
    have HOP : Hid (_) := all_oneCell_toArray (oneP P)
    obtain ⟨WF, hWF, hwF, hsF, HTF, HLF, _⟩ := page_out (C := w.heap.size) (T := 40) P hP4 _ rfl br Tryd.underlying40 rfl (by kernel_rfl)
    have HEND : Hid (∃ (n : Int) (ts : List SlotA), Ending.returned (.agg P.cells.toArray) = .returned (.agg (PageA.cells ⟨n, ts⟩).toArray) ∧ ts.length = 4 ∧ (∀ s ∈ ts, s.v.o.ints.length ≤ 7 ∧ s.v.o.refs.length ≤ 7) ∧ OwnS WF w.heap.size WF.heap.size ts ∧ CurAt WF B zs ∧ Within B (B + 1) w WF) :=
      ⟨z, ts, by rw [HPe.out], hu4, hus, (ou.within hwF (.inr (by omega))).widen (by omega) (by have := hwF.size; omega) (Nat.le_refl _), cu.within hwF (by omega), HWv.new hwF (Nat.le_refl _)⟩
    have W7e := hW7.out
    rw [← W7e] at rP HTF hWF
    clear W7e hW7
    clear hwF hsF hq bp br cu ou HWv hbox' HPe
    go_wp2_with (first | (guard_target = wpList _ _ _ (Oper.mk (some 42) _ _ _ _ _ :: _) _ _; refine wpList_load_mid rfl 40 (.tmp 3) rfl w1.heap.size 0 rfl P.cells _ rP Tryd.underlying40 rfl HIP.out ?_) | (guard_target = wpList _ _ _ (Oper.mk none (Op.store _ (Operand.tmp 2) _) _ _ _ _ :: _) _ _; refine wpList_store_mid rfl 40 (.tmp 2) (.tmp 42) rfl w.heap.size 0 P.cells.toArray rfl rfl HTF.out (by rw [List.size_toArray]; exact HIP.out) HOP.out ?_) | fail)
    rw [hWF.out]
    exact bodyPost_ret (v := .agg P.cells.toArray) (results_one Tryd.results41 rfl HLF.out) rfl HEND.out
  by_cases hy1 : y = 1
  · subst hy1
    obtain ⟨x0, x1, x2, x3, hfz⟩ := bp4.pslot k hkl
    have f0 := hfz (1 + k * 4)
    obtain ⟨W7, hW7, b7, hw7, hs7⟩ := box_set bp4 (1 + k * 4) (.bool (!(ts.getD k zeroS).v.has))
    rw [set_cons1, cellsS_flip ts k hkl] at b7
    have bp : Box W7 w1.heap.size (PageA.cells ⟨n, ts.set k (flipS (ts.getD k zeroS))⟩) 40 := b7
    have ou : OwnS W7 W.heap.size w1.heap.size (ts.set k (flipS (ts.getD k zeroS))) := (o4.within hw7 (.inl (Nat.le_refl _))).flip k hkl
    have cu : CurAt W7 B zs := hc4.within hw7 (by omega)
    have HWv : Within B (B + 1) w W7 := HW4.new hw7 (by omega)
    have hu4 : (ts.set k (flipS (ts.getD k zeroS))).length = 4 := by rw [List.length_set]; exact hts4
    have hus : ∀ s ∈ ts.set k (flipS (ts.getD k zeroS)), s.v.o.ints.length ≤ 7 ∧ s.v.o.refs.length ≤ 7 := fun s hs => by
      rcases List.mem_or_eq_of_mem_set hs with h | rfl
      · have := hsm s h; omega
      · have := hsm _ (getD_mem hkl); simp only [flipS]; omega
    have br := br.within hw7 (by omega)
    clear hw7 b7 bp4 o4 HW4 hc4 hfz x1 x2 x3
    generalize hsv : ts.getD k zeroS = sv at *
    clear hsv
    generalize ts.set k (flipS sv) = us at *
    generalize hq : (⟨n, us⟩ : PageA) = P at *
    have hP4 : P.ss.length = 4 := by rw [← hq]; exact hu4
    have HPe : Hid (P = ⟨n, us⟩) := hq.symm
    have hbox' : Box W7 w1.heap.size P.cells 40 := bp
    have rP := Box.range [] P.cells [] (by simpa using hbox' : Box W7 w1.heap.size ([] ++ (P.cells ++ [])) 40)
    have HIP : Hid ((Tryd.prog.info? 40).map (·.size) = some P.cells.length) := by rw [Hid, page_len P hP4]; kernel_rfl
    have HOP : Hid (_) := all_oneCell_toArray (oneP P)
    obtain ⟨WF, hWF, hwF, hsF, HTF, HLF, _⟩ := page_out (C := w.heap.size) (T := 40) P hP4 _ rfl br Tryd.underlying40 rfl (by kernel_rfl)
    have HEND : Hid (∃ (n : Int) (ts : List SlotA), Ending.returned (.agg P.cells.toArray) = .returned (.agg (PageA.cells ⟨n, ts⟩).toArray) ∧ ts.length = 4 ∧ (∀ s ∈ ts, s.v.o.ints.length ≤ 7 ∧ s.v.o.refs.length ≤ 7) ∧ OwnS WF w.heap.size WF.heap.size ts ∧ CurAt WF B zs ∧ Within B (B + 1) w WF) :=
      ⟨n, us, by rw [HPe.out], hu4, hus, (ou.within hwF (.inr (by omega))).widen (by omega) (by have := hwF.size; omega) (Nat.le_refl _), cu.within hwF (by omega), HWv.new hwF (Nat.le_refl _)⟩
    have W7e := hW7.out
    rw [← W7e] at rP HTF hWF
    clear W7e hW7
    clear hwF hsF hq bp br cu ou HWv hbox' HPe
    go_wp2_with (first | (guard_target = wpList _ _ _ (Oper.mk (some 42) _ _ _ _ _ :: _) _ _; refine wpList_load_mid rfl 40 (.tmp 3) rfl w1.heap.size 0 rfl P.cells _ rP Tryd.underlying40 rfl HIP.out ?_) | (guard_target = wpList _ _ _ (Oper.mk none (Op.store _ (Operand.tmp 2) _) _ _ _ _ :: _) _ _; refine wpList_store_mid rfl 40 (.tmp 2) (.tmp 42) rfl w.heap.size 0 P.cells.toArray rfl rfl HTF.out (by rw [List.size_toArray]; exact HIP.out) HOP.out ?_) | fail)
    rw [hWF.out]
    exact bodyPost_ret (v := .agg P.cells.toArray) (results_one Tryd.results41 rfl HLF.out) rfl HEND.out
  by_cases hy2 : y = 2
  · subst hy2
    obtain ⟨x0, x1, x2, x3, hfz⟩ := bp4.pslot k hkl
    have hrk := (o4.each _ (getD_mem hkl)).reads
    have hsk := hsm _ (getD_mem hkl)
    have HOB : Hid (∀ (o : ObjV) (aI : Option Addr) (cI : Nat) (aR : Option Addr) (cR : Nat), (((cellsS ts).set (k * 4 + 1) (.int .i64 o.kind)).set (k * 4 + 2) (.slice aI o.ints.length cI)).set (k * 4 + 3) (.slice aR o.refs.length cR) = cellsS (ts.set k ⟨⟨(ts.getD k zeroS).v.has, o⟩, aI, cI, aR, cR⟩)) := fun o aI cI aR cR => cellsS_obj ts k hkl o aI cI aR cR
    generalize ts.getD k zeroS = sv at *
    go_wp2_with fail
    refine (l2Bend_any B zs sv.v.o sv.aI sv.cI sv.aR sv.cR w4 hc4 hl hrk hsk.1 hsk.2).mono ?_
    rintro e w6 ⟨aI, cI, aR, cR, o, rfl, hlI, hlR, ho6, hc6, hg6⟩
    have hw6 := within_cur hg6
    have hs6 := hw6.size
    have bp6 := bp4.within hw6 (by omega)
    have br6 := br.within hw6 (by omega)
    have o6 := o4.within hw6 (.inr (by omega))
    have HW6 := HW4.trans hw6
    clear x0 x1 x2 x3 hfz hrk
    obtain ⟨x0, x1, x2, x3, hfz⟩ := bp6.pslot k hkl
    have f1 := hfz (1 + k * 4 + 1)
    have f2 := hfz (1 + k * 4 + 2)
    have f3 := hfz (1 + k * 4 + 3)
    obtain ⟨W7, hW7, b7, hw7, hs7⟩ : ∃ W7, Hid (((w6.setCell ⟨w1.heap.size, 1 + k * 4 + 1, none⟩ (.int .i64 o.kind)).setCell ⟨w1.heap.size, 1 + k * 4 + 2, none⟩ (.slice aI o.ints.length cI)).setCell ⟨w1.heap.size, 1 + k * 4 + 3, none⟩ (.slice aR o.refs.length cR) = W7) ∧ Box W7 w1.heap.size (.int .i64 n :: cellsS (ts.set k ⟨⟨sv.v.has, o⟩, aI, cI, aR, cR⟩)) 40 ∧ Within w1.heap.size (w1.heap.size + 1) w6 W7 ∧ W7.heap.size = w6.heap.size := by
      refine ⟨_, rfl, ?_, ?_, by simp⟩
      · have h := ((bp6.set (1 + k * 4 + 1) (.int .i64 o.kind)).set (1 + k * 4 + 2) (.slice aI o.ints.length cI)).set (1 + k * 4 + 3) (.slice aR o.refs.length cR)
        rw [Nat.add_assoc, Nat.add_assoc 1 (k * 4) 2, Nat.add_assoc 1 (k * 4) 3, set_cons1, set_cons1, set_cons1, HOB.out] at h
        rw [Nat.add_assoc, Nat.add_assoc 1 (k * 4) 2, Nat.add_assoc 1 (k * 4) 3]
        exact h
      · exact ((within_set w6 _ _ _ (by omega)).trans (within_set _ _ _ _ (by omega))).trans (within_set _ _ _ _ (by omega))
    generalize hnt : (⟨⟨sv.v.has, o⟩, aI, cI, aR, cR⟩ : SlotA) = t at *
    have ht7 : t.own W7 w4.heap.size w6.heap.size := by rw [← hnt]; exact ho6.within hw7 (.inr (by omega))
    have htl : t.v.o.ints.length ≤ 7 ∧ t.v.o.refs.length ≤ 7 := by rw [← hnt]; exact ⟨hlI, hlR⟩
    clear hnt
    have bp : Box W7 w1.heap.size (PageA.cells ⟨n, ts.set k t⟩) 40 := b7
    have ou : OwnS W7 W.heap.size w6.heap.size (ts.set k t) := (o6.within hw7 (.inl (Nat.le_refl _))).set k ht7 (by omega) (by omega) (by omega)
    have cu : CurAt W7 B zs := hc6.within hw7 (by omega)
    have HWv : Within B (B + 1) w W7 := HW6.new hw7 (by omega)
    have hu4 : (ts.set k t).length = 4 := by rw [List.length_set]; exact hts4
    have hus : ∀ s ∈ ts.set k t, s.v.o.ints.length ≤ 7 ∧ s.v.o.refs.length ≤ 7 := fun s hs => by
      rcases List.mem_or_eq_of_mem_set hs with h | rfl
      · have := hsm s h; omega
      · exact htl
    have br := br6.within hw7 (by omega)
    clear hw7 b7 bp4 bp6 o4 o6 HW4 HW6 hc4 hc6 hfz br6 hw6 hg6 ho6 ht7 HOB
    generalize ts.set k t = us at *
    generalize hq : (⟨n, us⟩ : PageA) = P at *
    have hP4 : P.ss.length = 4 := by rw [← hq]; exact hu4
    have HPe : Hid (P = ⟨n, us⟩) := hq.symm
    have hbox' : Box W7 w1.heap.size P.cells 40 := bp
    have rP := Box.range [] P.cells [] (by simpa using hbox' : Box W7 w1.heap.size ([] ++ (P.cells ++ [])) 40)
    have HIP : Hid ((Tryd.prog.info? 40).map (·.size) = some P.cells.length) := by rw [Hid, page_len P hP4]; kernel_rfl
    have HOP : Hid (_) := all_oneCell_toArray (oneP P)
    obtain ⟨WF, hWF, hwF, hsF, HTF, HLF, _⟩ := page_out (C := w.heap.size) (T := 40) P hP4 _ rfl br Tryd.underlying40 rfl (by kernel_rfl)
    have HEND : Hid (∃ (n : Int) (ts : List SlotA), Ending.returned (.agg P.cells.toArray) = .returned (.agg (PageA.cells ⟨n, ts⟩).toArray) ∧ ts.length = 4 ∧ (∀ s ∈ ts, s.v.o.ints.length ≤ 7 ∧ s.v.o.refs.length ≤ 7) ∧ OwnS WF w.heap.size WF.heap.size ts ∧ CurAt WF B zs ∧ Within B (B + 1) w WF) :=
      ⟨n, us, by rw [HPe.out], hu4, hus, (ou.within hwF (.inr (by omega))).widen (by omega) (by have := hwF.size; omega) (Nat.le_refl _), cu.within hwF (by omega), HWv.new hwF (Nat.le_refl _)⟩
    have W7e := hW7.out
    rw [← W7e] at rP HTF hWF
    clear W7e hW7
    clear hwF hsF hq bp br cu ou HWv hbox' HPe
    go_wp2_with (first | (guard_target = wpList _ _ _ (Oper.mk (some 42) _ _ _ _ _ :: _) _ _; refine wpList_load_mid rfl 40 (.tmp 3) rfl w1.heap.size 0 rfl P.cells _ rP Tryd.underlying40 rfl HIP.out ?_) | (guard_target = wpList _ _ _ (Oper.mk none (Op.store _ (Operand.tmp 2) _) _ _ _ _ :: _) _ _; refine wpList_store_mid rfl 40 (.tmp 2) (.tmp 42) rfl w.heap.size 0 P.cells.toArray rfl rfl HTF.out (by rw [List.size_toArray]; exact HIP.out) HOP.out ?_) | fail)
    rw [hWF.out]
    exact bodyPost_ret (v := .agg P.cells.toArray) (results_one Tryd.results41 rfl HLF.out) rfl HEND.out
  have hyb0 : ((y : Int) == 0) = false := by simp; omega
  have hyb1 : ((y : Int) == 1) = false := by simp; omega
  have hyb2 : ((y : Int) == 2) = false := by simp; omega
  clear hy0 hy1 hy2
  have bp : Box w4 w1.heap.size (PageA.cells ⟨n, ts⟩) 40 := bp4
  have ou := o4
  have cu := hc4
  have HWv := HW4
  have hu4 := hts4
  have hus : ∀ s ∈ ts, s.v.o.ints.length ≤ 7 ∧ s.v.o.refs.length ≤ 7 := fun s hs => by have := hsm s hs; omega
  clear bp4 o4 hc4 HW4
  generalize hq : (⟨n, ts⟩ : PageA) = P at *
  have hP4 : P.ss.length = 4 := by rw [← hq]; exact hu4
  have HPe : Hid (P = ⟨n, ts⟩) := hq.symm
  have hbox' : Box w4 w1.heap.size P.cells 40 := bp
  have rP := Box.range [] P.cells [] (by simpa using hbox' : Box w4 w1.heap.size ([] ++ (P.cells ++ [])) 40)
  have HIP : Hid ((Tryd.prog.info? 40).map (·.size) = some P.cells.length) := by rw [Hid, page_len P hP4]; kernel_rfl
  have HOP : Hid (_) := all_oneCell_toArray (oneP P)
  obtain ⟨WF, hWF, hwF, hsF, HTF, HLF, _⟩ := page_out (C := w.heap.size) (T := 40) P hP4 _ rfl br Tryd.underlying40 rfl (by kernel_rfl)
  have HEND : Hid (∃ (n : Int) (ts : List SlotA), Ending.returned (.agg P.cells.toArray) = .returned (.agg (PageA.cells ⟨n, ts⟩).toArray) ∧ ts.length = 4 ∧ (∀ s ∈ ts, s.v.o.ints.length ≤ 7 ∧ s.v.o.refs.length ≤ 7) ∧ OwnS WF w.heap.size WF.heap.size ts ∧ CurAt WF B zs ∧ Within B (B + 1) w WF) :=
    ⟨n, ts, by rw [HPe.out], hu4, hus, (ou.within hwF (.inr (by omega))).widen (by omega) (by have := hwF.size; omega) (Nat.le_refl _), cu.within hwF (by omega), HWv.new hwF (Nat.le_refl _)⟩
  clear hwF hsF hq bp br cu ou HWv hbox' HPe
  go_wp2_with (first | (guard_target = wpList _ _ _ (Oper.mk (some 42) _ _ _ _ _ :: _) _ _; refine wpList_load_mid rfl 40 (.tmp 3) rfl w1.heap.size 0 rfl P.cells _ rP Tryd.underlying40 rfl HIP.out ?_) | (guard_target = wpList _ _ _ (Oper.mk none (Op.store _ (Operand.tmp 2) _) _ _ _ _ :: _) _ _; refine wpList_store_mid rfl 40 (.tmp 2) (.tmp 42) rfl w.heap.size 0 P.cells.toArray rfl rfl HTF.out (by rw [List.size_toArray]; exact HIP.out) HOP.out ?_) | fail)
  rw [hWF.out]
  exact bodyPost_ret (v := .agg P.cells.toArray) (results_one Tryd.results41 rfl HLF.out) rfl HEND.out
end Go.Proofs.YtjaojcgfgkppgaaDoor

/- The walks of laws.sameSlot and laws.samePage, where both say the same. -/
namespace Go.Proofs.YtjaojcgfgkppgaaDoor
open Go.RowKit

theorem sameO_self (o : ObjV) : sameO o o = true := by simp [sameO]

set_option maxHeartbeats 400000 in
set_option maxRecDepth 100000 in
theorem sameSlot_same (s t : SlotA) (he : t.v = s.v) (w : World) (hs : s.reads w) (ht : t.reads w) (hlI : s.v.o.ints.length ≤ 1099511627776) (hlR : s.v.o.refs.length ≤ 1099511627776) :
    Calls Tryd.prog 17 #[.agg s.cells.toArray, .agg t.cells.toArray] w fun e w' => e = .returned (.bool true) ∧ Below w.heap.size w w' := by
  obtain ⟨v, aI, cI, aR, cR⟩ := s
  obtain ⟨v', bI, dI, bR, dR⟩ := t
  simp only at he
  subst he
  obtain ⟨h, o⟩ := v'
  simp only [SlotA.cells, SlotA.reads] at *
  obtain ⟨W, hW, b0, b1, hbW, hsW⟩ := boxes2 w [.bool h, .int .i64 o.kind, .slice aI o.ints.length cI, .slice aR o.refs.length cR] [.bool h, .int .i64 o.kind, .slice bI o.ints.length dI, .slice bR o.refs.length dR] 28 28
  have C := specSameObj_any o o aI cI aR cR bI dI bR dR W (hs.below hbW) (ht.below hbW) (by omega) (by omega) (by omega) (by omega)
  rw [sameO_self] at C
  obtain ⟨k, ints, refs⟩ := o
  simp only at *
  go_enter Tryd.func17, Tryd.ntmps17
  go_wp2_with fail
  rw [hW.out]
  clear hW
  refine C.mono ?_
  rintro e w1 ⟨rfl, hb1⟩
  go_wp2
  go_ret
  exact ⟨rfl, hbW.trans (hb1.mono hbW.size)⟩

end Go.Proofs.YtjaojcgfgkppgaaDoor

/- The walks of spec.l3CopySlot and spec.l3Copy. -/
namespace Go.Proofs.YtjaojcgfgkppgaaDoor
open Go.RowKit

set_option maxHeartbeats 4000000 in
set_option maxRecDepth 100000 in
theorem l3CopySlot_own (s : SlotA) (w : World) (hr : s.reads w) (hlI : s.v.o.ints.length ≤ 1099511627776) (hlR : s.v.o.refs.length ≤ 1099511627776) :
    Calls Tryd.prog 92 #[.agg s.cells.toArray] w fun e w' => ∃ t : SlotA, e = .returned (.agg t.cells.toArray) ∧ Hid (t.v = s.v) ∧ t.own w' w.heap.size w'.heap.size ∧ Below w.heap.size w w' := by
  obtain ⟨⟨h, ⟨k, ints, refs⟩⟩, aI, cI, aR, cR⟩ := s
  simp only [SlotA.cells, SlotA.reads, SlotA.own] at *
  obtain ⟨W, hW, b0, b1, hbW, hsW⟩ := boxes2 w [.bool h, .int .i64 k, .slice aI ints.length cI, .slice aR refs.length cR] [.bool false, .int .i64 0, .slice none 0 0, .slice none 0 0] 28 28
  have hr' := hr.below hbW
  have hwW : w.heap.size + 1 < W.heap.size := by omega
  clear hsW
  have HC : Hid (∀ w'', Below W.heap.size W w'' → w''.cell? ⟨w.heap.size, 0, none⟩ = some (.bool h) ∧ w''.cell? ⟨w.heap.size, 1, none⟩ = some (.int .i64 k) ∧ w''.cell? ⟨w.heap.size, 2, none⟩ = some (.slice aI ints.length cI) ∧ w''.cell? ⟨w.heap.size, 3, none⟩ = some (.slice aR refs.length cR)) := by
    intro w'' hh
    have ba := b0.below hh b0.lt
    exact ⟨ba.cell 0 _ rfl, ba.cell 1 _ rfl, ba.cell 2 _ rfl, ba.cell 3 _ rfl⟩
  have HB : Hid (∀ w'', Below W.heap.size W w'' → Box w'' w.heap.size [.bool h, .int .i64 k, .slice aI ints.length cI, .slice aR refs.length cR] 28 ∧ Box w'' (w.heap.size + 1) [.bool false, .int .i64 0, .slice none 0 0, .slice none 0 0] 28) := fun w'' hh => ⟨b0.below hh b0.lt, b1.below hh b1.lt⟩
  have hh := HC.out W (Below.refl _ _)
  have hne : ¬ (w.heap.size = w.heap.size + 1) := by omega
  clear b0 b1
  go_enter Tryd.func92, Tryd.ntmps92
  go_wp2_with fail
  rw [hW.out]
  clear hW
  go_region_held3 (fun w'' => w''.cell? ⟨w.heap.size, 0, none⟩ = some (.bool h) ∧ w''.cell? ⟨w.heap.size, 1, none⟩ = some (.int .i64 k) ∧ w''.cell? ⟨w.heap.size, 2, none⟩ = some (.slice aI ints.length cI) ∧ w''.cell? ⟨w.heap.size, 3, none⟩ = some (.slice aR refs.length cR))
    (first | exact HC.out _ hB1 | exact HC.out _ (Below.refl _ _).drew | exact ⟨(((((HB.out _ (by first | exact hB1 | fail)).1.other hne).other hne).other hne).other hne).cell 0 _ rfl, (((((HB.out _ (by first | exact hB1 | fail)).1.other hne).other hne).other hne).other hne).cell 1 _ rfl, (((((HB.out _ (by first | exact hB1 | fail)).1.other hne).other hne).other hne).other hne).cell 2 _ rfl, (((((HB.out _ (by first | exact hB1 | fail)).1.other hne).other hne).other hne).other hne).cell 3 _ rfl⟩ | go_keep | fail)
    (first
    | (go_at_call 112; refine (l2Copy_any ⟨k, ints, refs⟩ aI cI aR cR _ hr'.drew hlI hlR).mono ?_; rintro e u1 ⟨a1, c1, a2, c2, rfl, ho1, hb1⟩; have hB1 : Below W.heap.size W u1 := ((Below.refl _ _).drew).trans hb1; obtain ⟨m0, m1, m2, m3, e0, e1, e2, e3⟩ := (HB.out _ hB1).2.four)
    | fail)
  obtain ⟨WF, hWF, bF, hwF, hsF⟩ := box4_fill (HB.out _ hB1).2 (.bool h) (.int .i64 k) (.slice a1 ints.length c1) (.slice a2 refs.length c2)
  have hsu1 : W.heap.size ≤ u1.heap.size := hB1.size
  have hO : OwnO u1 W.heap.size u1.heap.size a1 c1 a2 c2 ⟨k, ints, refs⟩ := ho1
  have hOF : OwnO WF W.heap.size u1.heap.size a1 c1 a2 c2 ⟨k, ints, refs⟩ := hO.within hwF (.inr (by omega))
  have HBF : Hid (Below w.heap.size w WF) := (hbW.trans (hB1.mono (by omega))).trans (hwF.below (by omega) (by omega))
  rw [hWF.out]
  clear hwF ho1 hO
  go_wp2
  obtain ⟨q0, q1, q2, q3, _⟩ := bF.four
  exact bodyPost_ret (v := .agg #[.bool h, .int .i64 k, .slice a1 ints.length c1, .slice a2 refs.length c2]) (by simp [results, Tryd.results92, go_sem, q0, q1, q2, q3]) rfl ⟨⟨⟨h, ⟨k, ints, refs⟩⟩, a1, c1, a2, c2⟩, rfl, rfl, hOF.widen (by omega) (by omega) (Nat.le_refl _), HBF.out⟩

set_option maxHeartbeats 2000000 in
set_option maxRecDepth 100000 in
theorem l3Copy_own (p : PageA) (h4 : p.ss.length = 4) (w : World) (hr : ReadsS w p.ss) (hl : Fit p.ss) :
    Calls Tryd.prog 46 #[.agg p.cells.toArray] w fun e w' => ∃ ts : List SlotA, e = .returned (.agg (PageA.cells ⟨p.lsn, ts⟩).toArray) ∧ Hid (ts.map (·.v) = p.ss.map (·.v)) ∧ OwnS w' w.heap.size w'.heap.size ts ∧ Below w.heap.size w w' := by
  obtain ⟨n, ss⟩ := p
  simp only [PageA.cells] at *
  obtain ⟨W, hW, b0, b1, b2, hbW, hsW⟩ := boxes3 w (.int .i64 n :: cellsS ss) [.int .i64 0, .bool false, .int .i64 0, .slice none 0 0, .slice none 0 0, .bool false, .int .i64 0, .slice none 0 0, .slice none 0 0, .bool false, .int .i64 0, .slice none 0 0, .slice none 0 0, .bool false, .int .i64 0, .slice none 0 0, .slice none 0 0] [.int .i64 n, .bool false, .int .i64 0, .slice none 0 0, .slice none 0 0, .bool false, .int .i64 0, .slice none 0 0, .slice none 0 0, .bool false, .int .i64 0, .slice none 0 0, .slice none 0 0, .bool false, .int .i64 0, .slice none 0 0, .slice none 0 0] 40 40 40
  have b1' : Box W (w.heap.size + 1) ([] ++ ((.int .i64 0 :: cellsS zero4) ++ [])) 40 := b1
  have b2' : Box W (w.heap.size + 1 + 1) (.int .i64 n :: cellsS ([] ++ List.replicate (4 - 0) zeroS)) 40 := b2
  have hsW' : w.heap.size + 1 + 1 < W.heap.size := by omega
  have hc0 : (((w.alloc (.cells (.int .i64 n :: cellsS ss).toArray 40)).alloc (.cells #[.int .i64 0, .bool false, .int .i64 0, .slice none 0 0, .slice none 0 0, .bool false, .int .i64 0, .slice none 0 0, .slice none 0 0, .bool false, .int .i64 0, .slice none 0 0, .slice none 0 0, .bool false, .int .i64 0, .slice none 0 0, .slice none 0 0] 40))).cell? ⟨w.heap.size, 0, none⟩ = some (.int .i64 n) := ((box_new w (.int .i64 n :: cellsS ss) 40).alloc _).cell 0 _ rfl
  have H4 : Hid (ss.length = 4) := h4
  clear b1 b2 hsW h4
  go_enter Tryd.func46, Tryd.ntmps46
  go_wp2_with fail
  rw [hW.out]
  clear hW hc0
  go_loopw [4] (fun i wr => ∃ (k : Nat) (ts : List SlotA), i = .int .i64 k ∧ k ≤ 4 ∧ Hid (ts.length = k ∧ ts.map (·.v) = (ss.take k).map (·.v)) ∧ OwnS wr W.heap.size wr.heap.size ts ∧ Box wr (w.heap.size + 1 + 1) (.int .i64 n :: cellsS (ts ++ List.replicate (4 - k) zeroS)) 40 ∧ Below (w.heap.size + 1 + 1) W wr)
    (fun i _ => 4 - (intOf i).toNat)
  case atStart => exact ⟨0, [], rfl, by omega, ⟨rfl, rfl⟩, OwnS.nil _ _ _, b2', Below.refl _ _⟩
  case round =>
    obtain ⟨k, ts, rfl, hk, hts, hown, hbox, hbl⟩ := hrel
    clear b2'
    have b0r := b0.below hbl (by omega)
    have b1r := b1'.below hbl (by omega)
    have hsr := hbl.size
    have hsz := hbox.lt
    by_cases hlt : k < 4
    · have hkl : k < ss.length := by rw [H4.out]; exact hlt
      obtain ⟨c0, c1, c2, c3, _⟩ := b0r.pslot k hkl
      have hi0 : (0 : Int) ≤ (k : Int) := by omega
      have hi4 : (k : Int) < 4 := by omega
      have hrk := (hr _ (getD_mem hkl)).below (hbW.trans (hbl.mono (by omega)))
      have hlk := hl _ (getD_mem hkl)
      have HV : Hid ((ss.take (k + 1)).map (·.v) = (ss.take k).map (·.v) ++ [(ss.getD k zeroS).v]) := by
        rw [Hid, List.take_add_one, List.map_append]
        simp [List.getD, hkl]
      generalize ss.getD k zeroS = s at *
      have C := l3CopySlot_own s wr hrk hlk.1 hlk.2
      simp only [SlotA.cells] at C
      go_wp2_with fail
      refine C.mono ?_
      clear C hrk hlk c0 c1 c2 c3
      rintro e w1 ⟨t, rfl, hv, ho, hb1⟩
      have hs1 := hb1.size
      have hbx := hbox.below hb1 hsz
      have hkt : k < (ts ++ List.replicate (4 - k) zeroS).length := by have := hts.out.1; simp; omega
      obtain ⟨W2, hW2, b2, hw2, hs2⟩ := pslot_fill hbx k hkt t
      obtain ⟨x0, x1, x2, x3, hfz⟩ := hbx.pslot k hkt
      have f0 := hfz (1 + k * 4)
      have f1 := hfz (1 + k * 4 + 1)
      have f2 := hfz (1 + k * 4 + 2)
      have f3 := hfz (1 + k * 4 + 3)
      generalize (ts ++ List.replicate (4 - k) zeroS).getD k zeroS = old at *
      have b2' : Box W2 (w.heap.size + 1 + 1) (.int .i64 n :: cellsS ((ts ++ [t]) ++ List.replicate (4 - (k + 1)) zeroS)) 40 := by
        rw [show 4 - k = (4 - (k + 1)) + 1 by omega] at b2
        have e := set_snoc ts (4 - (k + 1)) t
        rw [hts.out.1] at e
        rw [e] at b2
        exact b2
      have hO1 : OwnS w1 W.heap.size w1.heap.size (ts ++ [t]) := (hown.below hb1).snoc ho hsr hs1 (Nat.le_refl _)
      have hO2 : OwnS W2 W.heap.size W2.heap.size (ts ++ [t]) := (hO1.within hw2 (.inr (by omega))).widen (Nat.le_refl _) (by omega) (Nat.le_refl _)
      have hB2 : Below (w.heap.size + 1 + 1) W W2 := (hbl.trans (hb1.mono (by omega))).trans (hw2.below (Nat.le_refl _) (by omega))
      have HT : Hid ((ts ++ [t]).length = k + 1 ∧ (ts ++ [t]).map (·.v) = (ss.take (k + 1)).map (·.v)) := by
        refine ⟨by have := hts.out.1; simp; omega, ?_⟩
        rw [HV.out, List.map_append, hts.out.2, ← hv.out]
        rfl
      clear hfz hs2 hw2 b2 hO1 hown hbox hbx hts HV hkt hb1 ho
      go_wp2_with fail
      rw [hW2.out]
      go_roundw
      case rel => exact ⟨k + 1, ts ++ [t], by go_num, by omega, HT, hO2, b2', hB2⟩
      case measure => simp [intOf]; omega
    · obtain rfl : k = 4 := by omega
      have hkk : ¬ ((4 : Nat) : Int) < 4 := by omega
      have hrp : ts ++ List.replicate (4 - 4) zeroS = ts := by simp
      rw [hrp] at hbox
      have htl : ts.length = 4 := hts.out.1
      have HMV : Hid (ts.map (·.v) = ss.map (·.v)) := by rw [Hid, hts.out.2, List.take_of_length_le (by rw [H4.out]; omega)]
      obtain ⟨WF, hWF, bF, hwF, hsF⟩ := range_fill [] (.int .i64 0 :: cellsS zero4) (.int .i64 n :: cellsS ts) [] b1r (by simp only [List.length_cons, cellsS_len, htl]; rfl)
      have HWF : Hid (wr.setCells (w.heap.size + 1) 0 (.int .i64 n :: cellsS ts) = WF) := hWF.out
      have HR2 : Hid (wr.rangeAt (w.heap.size + 1 + 1) 0 (.int .i64 n :: cellsS ts)) := Box.range [] (.int .i64 n :: cellsS ts) [] (by simpa using hbox)
      have HTF : Hid (wr.there (w.heap.size + 1) 0 (.int .i64 n :: cellsS ts).toArray.size) := b1r.there 0 _ (by simp only [List.size_toArray, cellsS_len, htl, List.length_append, List.length_cons, List.length_nil]; decide)
      have hrF : WF.rangeAt (w.heap.size + 1) 0 (.int .i64 n :: cellsS ts) := Box.range [] (.int .i64 n :: cellsS ts) [] (by simpa using bF)
      have HI : Hid ((Tryd.prog.info? 40).map (·.size) = some (.int .i64 n :: cellsS ts).length) := by rw [Hid, List.length_cons, cellsS_len, htl]; kernel_rfl
      have HO : Hid (_) := all_oneCell_toArray (oneP ⟨n, ts⟩)
      have HLF : Hid (_) := run_loadVar_mid (P := Tryd.prog) _ (w.heap.size + 1) 0 40 (.int .i64 n :: cellsS ts) _ hrF Tryd.underlying40 rfl HI.out
      have HOF : Hid (OwnS WF w.heap.size WF.heap.size ts) := (hown.within hwF (.inr (by omega))).widen (by omega) (by omega) (Nat.le_refl _)
      have HBF : Hid (Below w.heap.size w WF) := (hbW.trans (hbl.mono (by omega))).trans (hwF.below (by omega) (by omega))
      simp only [PageA.cells] at HO
      clear hWF bF hwF hsF hrF hrp htl hbox hown hts
      go_wp2_with (first | (guard_target = wpList _ _ _ (Oper.mk (some 20) _ _ _ _ _ :: _) _ _; refine wpList_load_mid rfl 40 (.tmp 3) rfl (w.heap.size + 1 + 1) 0 rfl (.int .i64 n :: cellsS ts) _ HR2.out Tryd.underlying40 rfl HI.out ?_) | (guard_target = wpList _ _ _ (Oper.mk none (Op.store _ (Operand.tmp 2) _) _ _ _ _ :: _) _ _; refine wpList_store_mid rfl 40 (.tmp 2) (.tmp 20) rfl (w.heap.size + 1) 0 (.int .i64 n :: cellsS ts).toArray rfl rfl HTF.out (by rw [List.size_toArray]; exact HI.out) HO.out ?_) | fail)
      rw [HWF.out]
      exact bodyPost_ret (v := .agg (.int .i64 n :: cellsS ts).toArray) (results_one Tryd.results46 rfl HLF.out) rfl ⟨ts, rfl, HMV, HOF.out, HBF.out⟩
end Go.Proofs.YtjaojcgfgkppgaaDoor
