/- Several texts in one, in their order. -/
import Derived.Test.YtbaocehcnjdkkaaDoorPart4
import Derived.Test.YtbaocehcnjdkkaaDoorPart5
import Derived.Test.YtbaocehcnjdkkaaDoorPart8
import Derived.Test.YtbaocehcnjdkkaaDoorPart1
import Derived.ProofKit
import Derived.OpenShut
import Derived.ChangeOld
import Derived.ChangeArms
import Derived.Test.YtbaocehcnjdkkaaDoorPart7
/- The walk of spec.SetSlot. -/
namespace Go.Proofs.YtbaocehcnjdkkaaDoor
open Go.RowKit

set_option maxHeartbeats 4000000 in
set_option maxRecDepth 100000 in
theorem specSetSlot_any (p : PageA) (h4 : p.ss.length = 4) (slot : Int) (s : SlotA) (lsn : Int) (w : World) (hr : ReadsS w p.ss) (hl : Fit p.ss) (hrs : s.reads w) (hls : Fit [s]) :
    Calls Tryd.prog 16 #[.agg p.cells.toArray, .int .i64 slot, .agg s.cells.toArray, .int .i64 lsn] w fun e w' => ∃ ts : List SlotA, e = .returned (.tuple #[.agg (PageA.cells ⟨(setOf p.lsn (p.ss.map (·.v)) slot s.v lsn).1, ts⟩).toArray, .bool (setOk p.lsn (p.ss.map (·.v)) slot s.v lsn)]) ∧ Hid (ts.map (·.v) = (setOf p.lsn (p.ss.map (·.v)) slot s.v lsn).2) ∧ OwnS w' w.heap.size w'.heap.size ts ∧ Below w.heap.size w w' := by
  have HNO : Hid (setOk p.lsn (p.ss.map (·.v)) slot s.v lsn = false → setOf p.lsn (p.ss.map (·.v)) slot s.v lsn = (p.lsn, p.ss.map (·.v))) := fun h => setOf_no h
  have HYE : Hid (setOk p.lsn (p.ss.map (·.v)) slot s.v lsn = true → setOf p.lsn (p.ss.map (·.v)) slot s.v lsn = (lsn, (p.ss.map (·.v)).set slot.toNat s.v)) := fun h => setOf_ok h
  have H1 : Hid (okP p.lsn (p.ss.map (·.v)) = false → setOk p.lsn (p.ss.map (·.v)) slot s.v lsn = false) := fun h => setOk_p h
  have H2 : Hid (inB slot 0 3 = false → setOk p.lsn (p.ss.map (·.v)) slot s.v lsn = false) := fun h => setOk_slot h
  have H3 : Hid (slotB s.v = false → setOk p.lsn (p.ss.map (·.v)) slot s.v lsn = false) := fun h => setOk_s h
  have H5 : Hid (inB lsn p.lsn 1000000 = false → setOk p.lsn (p.ss.map (·.v)) slot s.v lsn = false) := fun h => setOk_lsn h
  have H6 : Hid (okP p.lsn (p.ss.map (·.v)) = true → inB slot 0 3 = true → slotB s.v = true → inB lsn p.lsn 1000000 = true → setOk p.lsn (p.ss.map (·.v)) slot s.v lsn = true) := fun a b c d => setOk_all a b c d
  generalize setOk p.lsn (p.ss.map (·.v)) slot s.v lsn = OK at *
  generalize setOf p.lsn (p.ss.map (·.v)) slot s.v lsn = SO at *
  obtain ⟨hls1, hls2⟩ := hls s (List.mem_singleton.2 rfl)
  have HI : Hid ((Tryd.prog.info? 31).map (·.size) = some p.cells.length) := by rw [Hid, page_len p h4]; kernel_rfl
  obtain ⟨W, hW, b0, b1, b2, hbW, hsW⟩ := boxes3 w p.cells s.cells [.int .i64 0, .bool false, .int .i64 0, .slice none 0 0, .slice none 0 0, .bool false, .int .i64 0, .slice none 0 0, .slice none 0 0, .bool false, .int .i64 0, .slice none 0 0, .slice none 0 0, .bool false, .int .i64 0, .slice none 0 0, .slice none 0 0] 31 28 31
  have hsW' : w.heap.size + 1 + 1 < W.heap.size := by omega
  have HRG : Hid (∀ w', Below W.heap.size W w' → w'.rangeAt w.heap.size 0 p.cells) := fun w' hh => Box.range [] p.cells [] (by simpa using b0.below hh b0.lt)
  have b0' : ∀ w', Below W.heap.size W w' → w'.cell? ⟨w.heap.size, 0, none⟩ = some (.int .i64 p.lsn) := fun w' hh => (b0.below hh b0.lt).cell 0 _ rfl
  have HB2 : Hid (∀ w', Below W.heap.size W w' → Box w' (w.heap.size + 1 + 1) zero17 31) := fun w' hh => b2.below hh b2.lt
  have HB1 : Hid (∀ w', Below W.heap.size W w' → Box w' (w.heap.size + 1) s.cells 28) := fun w' hh => b1.below hh b1.lt
  have HL0 : Hid _ := b0'
  clear hsW b0' b2 b1 b0
  simp only [SlotA.cells] at HB1 hW
  simp only [SlotA.cells]
  go_enter Tryd.func16, Tryd.ntmps16
  go_wp2_with (first | (guard_target = wpList _ _ _ (Oper.mk (some 11) _ _ _ _ _ :: _) _ _; refine wpList_load_mid rfl 31 (.tmp 4) rfl w.heap.size 0 rfl p.cells _ (by rw [hW.out]; exact HRG.out _ (Below.refl _ _)) Tryd.underlying31 rfl HI.out ?_) | fail)
  rw [hW.out]
  clear hW
  refine (l3Copy_own p h4 W (hr.below hbW) hl).mono ?_
  rintro e w1 ⟨ts, rfl, hv, ho1, hb1⟩
  have hts4 : ts.length = 4 := by have := congrArg List.length hv.out; simp only [List.length_map] at this; omega
  have HV : Hid (ts.map (·.v) = p.ss.map (·.v)) := hv
  generalize hq : (⟨p.lsn, ts⟩ : PageA) = q at *
  have hq4 : q.ss.length = 4 := by rw [← hq]; exact hts4
  have HQ : Hid (q.lsn = p.lsn ∧ q.ss = ts) := by rw [← hq]; exact ⟨rfl, rfl⟩
  clear hq hv
  have hs1 := hb1.size
  have HIq : Hid ((Tryd.prog.info? 31).map (·.size) = some q.cells.length) := by rw [Hid, page_len q hq4]; kernel_rfl
  have HOq : Hid (_) := all_oneCell_toArray (oneP q)
  obtain ⟨W2, hW2, b3, hb2, hs2⟩ := boxes1 w1 [.int .i64 0, .bool false, .int .i64 0, .slice none 0 0, .slice none 0 0, .bool false, .int .i64 0, .slice none 0 0, .slice none 0 0, .bool false, .int .i64 0, .slice none 0 0, .slice none 0 0, .bool false, .int .i64 0, .slice none 0 0, .slice none 0 0] 31
  obtain ⟨W3, hW3, hw3, hs3, HT3, _, bQ⟩ := page_out (C := w1.heap.size) (T := 31) q hq4 [.int .i64 0, .bool false, .int .i64 0, .slice none 0 0, .slice none 0 0, .bool false, .int .i64 0, .slice none 0 0, .slice none 0 0, .bool false, .int .i64 0, .slice none 0 0, .slice none 0 0, .bool false, .int .i64 0, .slice none 0 0, .slice none 0 0] rfl b3 Tryd.underlying31 rfl (by kernel_rfl)
  have B3 : Below W.heap.size W W3 := (hb1.trans (hb2.mono hs1)).trans (hw3.below (by omega) (by omega))
  have ho3 : OwnS W3 W.heap.size w1.heap.size ts := (ho1.below hb2).within hw3 (.inl (Nat.le_refl _))
  have hs13 : w1.heap.size < W3.heap.size := bQ.lt
  have C1 := specPageOk_any p h4 W3 (hr.below (hbW.trans (B3.mono hbW.size))) hl
  clear b3 hw3 hs3 ho1 hb1 hb2 hs2
  go_wp2_with (first | (guard_target = wpList _ _ _ (Oper.mk none (Op.store _ (Operand.tmp 10) _) _ _ _ _ :: _) _ _; refine wpList_store_mid rfl 31 (.tmp 10) (.tmp 12) rfl w1.heap.size 0 q.cells.toArray rfl rfl (by rw [hW2.out]; exact HT3.out) (by rw [List.size_toArray]; exact HIq.out) HOq.out ?_) | (guard_target = wpList _ _ _ (Oper.mk (some 13) _ _ _ _ _ :: _) _ _; refine wpList_load_mid rfl 31 (.tmp 4) rfl w.heap.size 0 rfl p.cells _ (by rw [hW2.out, hW3.out]; exact HRG.out _ B3) Tryd.underlying31 rfl HI.out ?_) | fail)
  rw [hW2.out, hW3.out]
  clear hW2 hW3 HT3
  refine C1.mono ?_
  clear C1
  rintro e w4 ⟨rfl, hb4⟩
  have N4 := hb4
  have B4 : Below W.heap.size W w4 := B3.trans (hb4.mono B3.size)
  have hs4 := hb4.size
  cases hok : okP p.lsn (p.ss.map (·.v)) with
  | false =>
    have HOK : Hid (OK = false) := H1.out hok
    clear hok H1 H2 H3 H5 H6
    have bQv := bQ.below N4 hs13
    have rQv := Box.range [] q.cells [] (by simpa using bQv : Box w4 w1.heap.size ([] ++ (q.cells ++ [])) 31)
    obtain ⟨WF, hWF, hwF, hsF, HTF, HLF, _⟩ := page_out (C := w.heap.size + 1 + 1) (T := 31) q hq4 zero17 rfl (HB2.out _ B4) Tryd.underlying31 rfl (by kernel_rfl)
    have HOF : Hid (OwnS WF w.heap.size WF.heap.size ts) := ((ho3.below N4).within hwF (.inr (by omega))).widen (by omega) (by omega) (Nat.le_refl _)
    have HBF : Hid (Below w.heap.size w WF) := (hbW.trans (B4.mono (by omega))).trans (hwF.below (by omega) (by have := B4.size; omega))
    have HEND : Hid (∃ ts' : List SlotA, Ending.returned (.tuple #[.agg q.cells.toArray, .bool false]) = .returned (.tuple #[.agg (PageA.cells ⟨SO.1, ts'⟩).toArray, .bool OK]) ∧ Hid (ts'.map (·.v) = SO.2) ∧ OwnS WF w.heap.size WF.heap.size ts' ∧ Below w.heap.size w WF) := by
      obtain ⟨qn, qs⟩ := q
      obtain ⟨e1, e2⟩ := HQ.out
      simp only at e1 e2
      subst e2
      refine ⟨qs, ?_, ?_, HOF.out, HBF.out⟩
      · rw [HNO.out HOK.out, HOK.out, e1]
      · rw [Hid, HNO.out HOK.out]; exact HV.out
    clear bQv hwF hsF HOF HBF HNO HYE ho3
    go_wp2_with (first | (guard_target = wpList _ _ _ (Oper.mk (some 33) _ _ _ _ _ :: _) _ _; refine wpList_load_mid rfl 31 (.tmp 10) rfl w1.heap.size 0 rfl q.cells _ (rQv) Tryd.underlying31 rfl HIq.out ?_) | (guard_target = wpList _ _ _ (Oper.mk none (Op.store _ (Operand.tmp 8) _) _ _ _ _ :: _) _ _; refine wpList_store_mid rfl 31 (.tmp 8) (.tmp 33) rfl (w.heap.size + 1 + 1) 0 q.cells.toArray rfl rfl (HTF.out) (by rw [List.size_toArray]; exact HIq.out) HOq.out ?_) | fail)
    rw [hWF.out]
    exact bodyPost_ret (v := .tuple #[.agg q.cells.toArray, .bool false]) (results_cell_flag Tryd.results16 rfl HLF.out rfl) rfl HEND.out
  | true =>
  have HP : Hid (_ = _) := hok
  clear hok H1
  cases hin : inB slot 0 3 with
  | false =>
    have HOK : Hid (OK = false) := H2.out hin
    have HIN : Hid (_ = _) := hin
    clear hin H2 H3 H5 H6
    go_wp2_with fail
    refine (l1In_any _ _ _ _).mono ?_
    rintro e w5 ⟨rfl, rfl⟩
    rw [HIN.out]
    have N5 := N4
    have B5 := B4
    have bQv := bQ.below N5 hs13
    have rQv := Box.range [] q.cells [] (by simpa using bQv : Box w5 w1.heap.size ([] ++ (q.cells ++ [])) 31)
    obtain ⟨WF, hWF, hwF, hsF, HTF, HLF, _⟩ := page_out (C := w.heap.size + 1 + 1) (T := 31) q hq4 zero17 rfl (HB2.out _ B5) Tryd.underlying31 rfl (by kernel_rfl)
    have HOF : Hid (OwnS WF w.heap.size WF.heap.size ts) := ((ho3.below N5).within hwF (.inr (by omega))).widen (by omega) (by omega) (Nat.le_refl _)
    have HBF : Hid (Below w.heap.size w WF) := (hbW.trans (B5.mono (by omega))).trans (hwF.below (by omega) (by have := B5.size; omega))
    have HEND : Hid (∃ ts' : List SlotA, Ending.returned (.tuple #[.agg q.cells.toArray, .bool false]) = .returned (.tuple #[.agg (PageA.cells ⟨SO.1, ts'⟩).toArray, .bool OK]) ∧ Hid (ts'.map (·.v) = SO.2) ∧ OwnS WF w.heap.size WF.heap.size ts' ∧ Below w.heap.size w WF) := by
      obtain ⟨qn, qs⟩ := q
      obtain ⟨e1, e2⟩ := HQ.out
      simp only at e1 e2
      subst e2
      refine ⟨qs, ?_, ?_, HOF.out, HBF.out⟩
      · rw [HNO.out HOK.out, HOK.out, e1]
      · rw [Hid, HNO.out HOK.out]; exact HV.out
    clear bQv hwF hsF HOF HBF HNO HYE ho3
    go_wp2_with (first | (guard_target = wpList _ _ _ (Oper.mk (some 33) _ _ _ _ _ :: _) _ _; refine wpList_load_mid rfl 31 (.tmp 10) rfl w1.heap.size 0 rfl q.cells _ (rQv) Tryd.underlying31 rfl HIq.out ?_) | (guard_target = wpList _ _ _ (Oper.mk none (Op.store _ (Operand.tmp 8) _) _ _ _ _ :: _) _ _; refine wpList_store_mid rfl 31 (.tmp 8) (.tmp 33) rfl (w.heap.size + 1 + 1) 0 q.cells.toArray rfl rfl (HTF.out) (by rw [List.size_toArray]; exact HIq.out) HOq.out ?_) | fail)
    rw [hWF.out]
    exact bodyPost_ret (v := .tuple #[.agg q.cells.toArray, .bool false]) (results_cell_flag Tryd.results16 rfl HLF.out rfl) rfl HEND.out
  | true =>
  have HIN : Hid (_ = _) := hin
  obtain ⟨hz1, hz2⟩ := inB_true hin
  clear hin H2
  have hd2 : ¬ 4 ≤ slot := by omega
  have bs4 := HB1.out _ B4
  obtain ⟨x0, x1, x2, x3, _⟩ := bs4.four
  have C2 := l3Slot_any s w4 (ReadsO.below hrs (hbW.trans (B4.mono hbW.size))) hls
  simp only [SlotA.cells] at C2
  go_wp2_with fail
  refine (l1In_any _ _ _ _).mono ?_
  rintro e w4' ⟨rfl, rfl⟩
  rw [HIN.out]
  go_wp2_with fail
  refine C2.mono ?_
  clear C2 x0 x1 x2 x3
  rintro e w5 ⟨rfl, hb5⟩
  have N5 : Below W3.heap.size W3 w5 := N4.trans (hb5.mono N4.size)
  have B5 : Below W.heap.size W w5 := B4.trans (hb5.mono B4.size)
  have hs5 := hb5.size
  cases hsb : slotB s.v with
  | false =>
    have HOK : Hid (OK = false) := H3.out hsb
    clear hsb H3 H5 H6
    have bQv := bQ.below N5 hs13
    have rQv := Box.range [] q.cells [] (by simpa using bQv : Box w5 w1.heap.size ([] ++ (q.cells ++ [])) 31)
    obtain ⟨WF, hWF, hwF, hsF, HTF, HLF, _⟩ := page_out (C := w.heap.size + 1 + 1) (T := 31) q hq4 zero17 rfl (HB2.out _ B5) Tryd.underlying31 rfl (by kernel_rfl)
    have HOF : Hid (OwnS WF w.heap.size WF.heap.size ts) := ((ho3.below N5).within hwF (.inr (by omega))).widen (by omega) (by omega) (Nat.le_refl _)
    have HBF : Hid (Below w.heap.size w WF) := (hbW.trans (B5.mono (by omega))).trans (hwF.below (by omega) (by have := B5.size; omega))
    have HEND : Hid (∃ ts' : List SlotA, Ending.returned (.tuple #[.agg q.cells.toArray, .bool false]) = .returned (.tuple #[.agg (PageA.cells ⟨SO.1, ts'⟩).toArray, .bool OK]) ∧ Hid (ts'.map (·.v) = SO.2) ∧ OwnS WF w.heap.size WF.heap.size ts' ∧ Below w.heap.size w WF) := by
      obtain ⟨qn, qs⟩ := q
      obtain ⟨e1, e2⟩ := HQ.out
      simp only at e1 e2
      subst e2
      refine ⟨qs, ?_, ?_, HOF.out, HBF.out⟩
      · rw [HNO.out HOK.out, HOK.out, e1]
      · rw [Hid, HNO.out HOK.out]; exact HV.out
    clear bQv hwF hsF HOF HBF HNO HYE ho3
    go_wp2_with (first | (guard_target = wpList _ _ _ (Oper.mk (some 33) _ _ _ _ _ :: _) _ _; refine wpList_load_mid rfl 31 (.tmp 10) rfl w1.heap.size 0 rfl q.cells _ (rQv) Tryd.underlying31 rfl HIq.out ?_) | (guard_target = wpList _ _ _ (Oper.mk none (Op.store _ (Operand.tmp 8) _) _ _ _ _ :: _) _ _; refine wpList_store_mid rfl 31 (.tmp 8) (.tmp 33) rfl (w.heap.size + 1 + 1) 0 q.cells.toArray rfl rfl (HTF.out) (by rw [List.size_toArray]; exact HIq.out) HOq.out ?_) | fail)
    rw [hWF.out]
    exact bodyPost_ret (v := .tuple #[.agg q.cells.toArray, .bool false]) (results_cell_flag Tryd.results16 rfl HLF.out rfl) rfl HEND.out
  | true =>
  have HSB : Hid (_ = _) := hsb
  clear hsb H3
  have y0 := HL0.out _ B5
  cases hln : inB lsn p.lsn 1000000 with
  | false =>
    have HOK : Hid (OK = false) := H5.out hln
    have HLN : Hid (_ = _) := hln
    clear hln H5 H6
    generalize p.lsn = pn at *
    go_wp2_with fail
    refine (l1In_any _ _ _ _).mono ?_
    rintro e w6 ⟨rfl, rfl⟩
    rw [HLN.out]
    have N6 := N5
    have B6 := B5
    have bQv := bQ.below N6 hs13
    have rQv := Box.range [] q.cells [] (by simpa using bQv : Box w6 w1.heap.size ([] ++ (q.cells ++ [])) 31)
    obtain ⟨WF, hWF, hwF, hsF, HTF, HLF, _⟩ := page_out (C := w.heap.size + 1 + 1) (T := 31) q hq4 zero17 rfl (HB2.out _ B6) Tryd.underlying31 rfl (by kernel_rfl)
    have HOF : Hid (OwnS WF w.heap.size WF.heap.size ts) := ((ho3.below N6).within hwF (.inr (by omega))).widen (by omega) (by omega) (Nat.le_refl _)
    have HBF : Hid (Below w.heap.size w WF) := (hbW.trans (B6.mono (by omega))).trans (hwF.below (by omega) (by have := B6.size; omega))
    have HEND : Hid (∃ ts' : List SlotA, Ending.returned (.tuple #[.agg q.cells.toArray, .bool false]) = .returned (.tuple #[.agg (PageA.cells ⟨SO.1, ts'⟩).toArray, .bool OK]) ∧ Hid (ts'.map (·.v) = SO.2) ∧ OwnS WF w.heap.size WF.heap.size ts' ∧ Below w.heap.size w WF) := by
      obtain ⟨qn, qs⟩ := q
      obtain ⟨e1, e2⟩ := HQ.out
      simp only at e1 e2
      subst e2
      refine ⟨qs, ?_, ?_, HOF.out, HBF.out⟩
      · rw [HNO.out HOK.out, HOK.out, e1]
      · rw [Hid, HNO.out HOK.out]; exact HV.out
    clear bQv hwF hsF HOF HBF HNO HYE ho3
    go_wp2_with (first | (guard_target = wpList _ _ _ (Oper.mk (some 33) _ _ _ _ _ :: _) _ _; refine wpList_load_mid rfl 31 (.tmp 10) rfl w1.heap.size 0 rfl q.cells _ (rQv) Tryd.underlying31 rfl HIq.out ?_) | (guard_target = wpList _ _ _ (Oper.mk none (Op.store _ (Operand.tmp 8) _) _ _ _ _ :: _) _ _; refine wpList_store_mid rfl 31 (.tmp 8) (.tmp 33) rfl (w.heap.size + 1 + 1) 0 q.cells.toArray rfl rfl (HTF.out) (by rw [List.size_toArray]; exact HIq.out) HOq.out ?_) | fail)
    rw [hWF.out]
    exact bodyPost_ret (v := .tuple #[.agg q.cells.toArray, .bool false]) (results_cell_flag Tryd.results16 rfl HLF.out rfl) rfl HEND.out
  | true =>
  have HLN : Hid (_ = _) := hln
  obtain ⟨hl1, hl2⟩ := inB_true hln
  clear hln H5
  have HOK : Hid (OK = true) := H6.out HP.out HIN.out HSB.out HLN.out
  have HSO : Hid (SO = (lsn, (p.ss.map (·.v)).set slot.toNat s.v)) := HYE.out HOK.out
  clear H6 HNO HYE
  obtain ⟨k, rfl⟩ : ∃ k : Nat, slot = (k : Int) := ⟨slot.toNat, by omega⟩
  have hk4 : k < 4 := by omega
  go_wp2_with fail
  refine (l1In_any _ _ _ _).mono ?_
  rintro e w6 ⟨rfl, rfl⟩
  rw [HLN.out]
  have N6 := N5
  have B6 := B5
  have bs5 := HB1.out _ B6
  obtain ⟨x0, x1, x2, x3, _⟩ := bs5.four
  have C3 := l3CopySlot_own s w6 (ReadsO.below hrs (hbW.trans (B6.mono hbW.size))) hls1 hls2
  simp only [SlotA.cells] at C3
  go_wp2_with fail
  refine C3.mono ?_
  clear C3 x0 x1 x2 x3 y0
  rintro e w7 ⟨t, rfl, hvt, hot, hb7⟩
  have N7 : Below W3.heap.size W3 w7 := N6.trans (hb7.mono N6.size)
  have B7 : Below W.heap.size W w7 := B6.trans (hb7.mono B6.size)
  have hs7 := hb7.size
  obtain ⟨qn, qs⟩ := q
  simp only [PageA.cells] at bQ
  obtain ⟨hqn, hqs⟩ := HQ.out
  simp only at hqn hqs
  subst hqs
  have hs3n := N6.size
  have bQ7 := bQ.below N7 hs13
  have hkl : k < qs.length := by rw [hts4]; exact hk4
  obtain ⟨W8, hW8, b8, hw8, hs8⟩ := pslot_fill bQ7 k hkl t
  obtain ⟨z0, z1, z2, z3, hfz⟩ := bQ7.pslot k hkl
  have f0 := hfz (1 + k * 4)
  have f1 := hfz (1 + k * 4 + 1)
  have f2 := hfz (1 + k * 4 + 2)
  have f3 := hfz (1 + k * 4 + 3)
  obtain ⟨W9, hW9, b9, hw9, hs9⟩ := box_set b8 0 (.int .i64 lsn)
  simp only [List.set_cons_zero] at b9
  have g0 := b8.cell 0 _ rfl
  have g1 := b8.frozen 0
  have B9 : Below W.heap.size W W9 := (B7.trans (hw8.below hs1 (by omega))).trans (hw9.below hs1 (by omega))
  have hr4 : (⟨lsn, qs.set k t⟩ : PageA).ss.length = 4 := by simp only [List.length_set]; exact hts4
  have hap : OwnS W9 W.heap.size w7.heap.size (qs.set k t) := by
    have o1 : OwnS W9 W.heap.size w1.heap.size qs := ((ho3.below N7).within hw8 (.inl (Nat.le_refl _))).within hw9 (.inl (Nat.le_refl _))
    have o2 : t.own W9 w6.heap.size w7.heap.size := OwnO.within (OwnO.within hot hw8 (.inr (by omega))) hw9 (.inr (by omega))
    exact o1.set k o2 (by omega) (by omega) (by omega)
  have HMV : Hid ((qs.set k t).map (·.v) = SO.2) := by rw [Hid, HSO.out, List.map_set, HV.out, hvt.out, Int.toNat_natCast]
  have HS1 : Hid (SO.1 = lsn) := by rw [Hid, HSO.out]
  generalize hrr : (⟨lsn, qs.set k t⟩ : PageA) = r at *
  have b9' : Box W9 w1.heap.size r.cells 31 := by rw [← hrr]; exact b9
  have HEQ : Hid (r = ⟨lsn, qs.set k t⟩) := hrr.symm
  clear hrr b9
  have rR := Box.range [] r.cells [] (by simpa using b9' : Box W9 w1.heap.size ([] ++ (r.cells ++ [])) 31)
  have HIr : Hid ((Tryd.prog.info? 31).map (·.size) = some r.cells.length) := by rw [Hid, page_len r hr4]; kernel_rfl
  have HOr : Hid (_) := all_oneCell_toArray (oneP r)
  obtain ⟨WF, hWF, hwF, hsF, HTF, HLF, _⟩ := page_out (C := w.heap.size + 1 + 1) (T := 31) r hr4 zero17 rfl (HB2.out _ B9) Tryd.underlying31 rfl (by kernel_rfl)
  have HOF : Hid (OwnS WF w.heap.size WF.heap.size (qs.set k t)) := (hap.within hwF (.inr (by omega))).widen (by omega) (by omega) (Nat.le_refl _)
  have HBF : Hid (Below w.heap.size w WF) := (hbW.trans (B9.mono (by omega))).trans (hwF.below (by omega) (by have := B9.size; omega))
  have HEND : Hid (∃ ts' : List SlotA, Ending.returned (.tuple #[.agg r.cells.toArray, .bool true]) = .returned (.tuple #[.agg (PageA.cells ⟨SO.1, ts'⟩).toArray, .bool OK]) ∧ Hid (ts'.map (·.v) = SO.2) ∧ OwnS WF w.heap.size WF.heap.size ts' ∧ Below w.heap.size w WF) :=
    ⟨qs.set k t, by rw [HS1.out, HOK.out, HEQ.out], HMV, HOF.out, HBF.out⟩
  have hi0 : (0 : Int) ≤ (k : Int) := by omega
  have hi4 : (k : Int) < 4 := by omega
  generalize qs.getD k zeroS = old at *
  have W9e := hW9.out
  have W8e := hW8.out
  clear hfz hw8 hw9 hwF hsF HOF HBF hap ho3 hot hvt bQ7 b8 b9' hs8 hs9 HEQ HS1 HMV
  rw [← W9e, ← W8e] at rR HTF
  rw [← W8e] at g0 g1
  rw [← W9e, ← W8e] at hWF
  clear W9e W8e hW8 hW9
  go_wp2_with (first | (guard_target = wpList _ _ _ (Oper.mk (some 41) _ _ _ _ _ :: _) _ _; refine wpList_load_mid rfl 31 (.tmp 10) rfl w1.heap.size 0 rfl r.cells _ (rR) Tryd.underlying31 rfl HIr.out ?_) | (guard_target = wpList _ _ _ (Oper.mk none (Op.store _ (Operand.tmp 8) _) _ _ _ _ :: _) _ _; refine wpList_store_mid rfl 31 (.tmp 8) (.tmp 41) rfl (w.heap.size + 1 + 1) 0 r.cells.toArray rfl rfl (HTF.out) (by rw [List.size_toArray]; exact HIr.out) HOr.out ?_) | fail)
  rw [hWF.out]
  exact bodyPost_ret (v := .tuple #[.agg r.cells.toArray, .bool true]) (results_cell_flag Tryd.results16 rfl HLF.out rfl) rfl HEND.out
end Go.Proofs.YtbaocehcnjdkkaaDoor

/- What came in, read: a slice of numbers, an object. -/
namespace Go.Proofs.YtbaocehcnjdkkaaDoor
open Go.ChangeShapes Go.WideShapes Go.ChangeAt Go.RowKit

def InI64 (z : Int) : Prop := -9223372036854775808 ≤ z ∧ z ≤ 9223372036854775807
theorem wf_i64 {z : Int} (h : (Lit.int .i64 z).wf = true) : InI64 z := by
  simp [Lit.wf, IntKind.min, IntKind.max, IntKind.signed, IntKind.bits] at h
  unfold InI64; omega

theorem some_at {α : Type} (xs : List α) (i : Nat) (h : i < xs.length) : ∃ y, xs[i]? = some y := ⟨_, List.getElem?_eq_getElem h⟩

section
variable {H : Type} {enc : TypeId × Value → H} {w : World} {base : Nat} {spare : Nat → Bool} {held : Bool}

theorem trod_ints {fuel : Nat} {cs : List Value} {x : DataW H × List MemPlace} (h : DataW.trod enc Tryd.prog w base spare held fuel 24 cs = some x) :
    ∃ (a : Option Addr) (c : Nat) (ns : List Int), cs = [.slice a ns.length c] ∧ ReadsI w a ns ∧ (a = none → c = 0) ∧ ns.length ≤ maxLen ∧ ∀ z ∈ ns, InI64 z := by
  rcases open_ints Tryd.underlying24 Tryd.underlying3 (by kernel_rfl) h with ⟨rfl, _⟩ | ⟨a, len, cap, zs, rfl, _, hl, hm, hz, _, hcell, hwf⟩
  · exact ⟨none, 0, [], rfl, fun h => absurd rfl h, fun _ => rfl, by simp, by simp⟩
  · have hlz : len ≤ zs.length := by rw [hz]; split <;> omega
    refine ⟨some a, cap, zs.take len, by simp; omega, ?_, (fun h => by cases h), by simp; omega, fun z hzz => wf_i64 (hwf z (List.mem_of_mem_take hzz))⟩
    intro hne
    have hpos := List.length_pos_iff.2 hne
    simp at hpos
    obtain ⟨b, off, spot⟩ := a
    have hc0 := hcell 0 (by omega)
    have hspot : spot = none := by simpa [Addr.add] using World.cell?_spot hc0
    subst hspot
    refine ⟨b, off, rfl, fun i hi => ?_⟩
    have hi' : i < len := by simp at hi; omega
    have := hcell i (by omega)
    have e : (List.take len zs).getD i 0 = zs.getD i 0 := by simp [List.getD, hi']
    rw [e, ← Addr_add]
    exact this

theorem trod_num {fuel : Nat} {cs : List Value} {x : DataW H × List MemPlace} (h : DataW.trod enc Tryd.prog w base spare held fuel 3 cs = some x) : ∃ n : Int, cs = [.int .i64 n] ∧ InI64 n := by
  obtain ⟨n, rfl, _, hw⟩ := DataW.trod_int Tryd.underlying3 h
  exact ⟨n, rfl, wf_i64 hw⟩

theorem Tryd.cellsI : Tryd.prog.cellsOf 3 = 1 := by kernel_rfl
theorem Tryd.cellsIs : Tryd.prog.cellsOf 24 = 1 := by kernel_rfl
theorem Tryd.cellsO : Tryd.prog.cellsOf 42 = 3 := by kernel_rfl

set_option maxRecDepth 100000 in
theorem trod_obj {fuel : Nat} {cs : List Value} {x : DataW H × List MemPlace} (h : DataW.trod enc Tryd.prog w base spare held fuel 42 cs = some x) :
    ∃ (o : ObjV) (aI : Option Addr) (cI : Nat) (aR : Option Addr) (cR : Nat), cs = [.int .i64 o.kind, .slice aI o.ints.length cI, .slice aR o.refs.length cR] ∧ ReadsO w aI cI aR cR o ∧ o.ints.length ≤ maxLen ∧ o.refs.length ≤ maxLen ∧ InI64 o.kind ∧ (∀ z ∈ o.ints, InI64 z) ∧ (∀ z ∈ o.refs, InI64 z) := by
  obtain ⟨xs, n, _, _, hlen, hxl, hf⟩ := DataW.trod_struct Tryd.underlying42 h
  rw [Tryd.cellsO] at hlen
  match cs, hlen with
  | [v0, v1, v2], _ =>
    have f0 := hf 0 _ rfl
    have f1 := hf 1 _ rfl
    have f2 := hf 2 _ rfl
    obtain ⟨y0, hx0⟩ := some_at xs 0 (by rw [hxl]; decide)
    obtain ⟨y1, hx1⟩ := some_at xs 1 (by rw [hxl]; decide)
    obtain ⟨y2, hx2⟩ := some_at xs 2 (by rw [hxl]; decide)
    rw [hx0] at f0
    rw [hx1] at f1
    rw [hx2] at f2
    simp only [List.getElem_toArray, List.getElem_cons_zero, List.getElem_cons_succ, Tryd.cellsI, Tryd.cellsIs, List.drop, List.take] at f0 f1 f2
    obtain ⟨k, e0, wk⟩ := trod_num f0
    obtain ⟨aI, cI, ints, e1, hI, nI, lI, wI⟩ := trod_ints f1
    obtain ⟨aR, cR, refs, e2, hR, nR, lR, wR⟩ := trod_ints f2
    simp only [List.cons.injEq, and_true] at e0 e1 e2
    subst e0 e1 e2
    exact ⟨⟨k, ints, refs⟩, aI, cI, aR, cR, rfl, ⟨hI, hR, nI, nR⟩, lI, lR, wk, wI, wR⟩

set_option maxRecDepth 100000 in
/-- An object that came in as an argument. -/
theorem open_obj {b0 : Nat} {v : Value} {d : DataW H} {ps : List MemPlace} (hval : Value.okWide Tryd.prog w .any b0 42 v) (h : DataW.Trod enc Tryd.prog w base spare held 42 v d ps) :
    ∃ (o : ObjV) (aI : Option Addr) (cI : Nat) (aR : Option Addr) (cR : Nat), v = .agg #[.int .i64 o.kind, .slice aI o.ints.length cI, .slice aR o.refs.length cR] ∧ ReadsO w aI cI aR cR o ∧ o.ints.length ≤ maxLen ∧ o.refs.length ≤ maxLen ∧ InI64 o.kind ∧ (∀ z ∈ o.ints, InI64 z) ∧ (∀ z ∈ o.refs, InI64 z) := by
  obtain ⟨cs, rfl, hcs⟩ := okWide_struct Tryd.underlying42 hval
  obtain ⟨fuel, hf⟩ := h
  have e : (Value.agg cs).cells.toList = cs.toList := rfl
  rw [e] at hf
  obtain ⟨o, aI, cI, aR, cR, hc, rest⟩ := trod_obj hf
  refine ⟨o, aI, cI, aR, cR, ?_, rest⟩
  congr 1
  apply Array.toList_inj.1
  rw [hc]
end
end Go.Proofs.YtbaocehcnjdkkaaDoor

/- What came in, read: a slot, a page. -/
namespace Go.Proofs.YtbaocehcnjdkkaaDoor
open Go.ChangeShapes Go.WideShapes Go.ChangeAt Go.RowKit

/-- A slot as it came in: its lists are read, its numbers are 64-bit numbers. -/
structure InSlot (w : World) (s : SlotA) : Prop where
  reads : s.reads w
  lI : s.v.o.ints.length ≤ maxLen
  lR : s.v.o.refs.length ≤ maxLen
  kind : InI64 s.v.o.kind
  ints : ∀ z ∈ s.v.o.ints, InI64 z
  refs : ∀ z ∈ s.v.o.refs, InI64 z

section
variable {H : Type} {enc : TypeId × Value → H} {w : World} {base : Nat} {spare : Nat → Bool} {held : Bool}

theorem Tryd.cellsB : Tryd.prog.cellsOf 4 = 1 := by kernel_rfl
theorem Tryd.cellsSl : Tryd.prog.cellsOf 44 = 4 := by kernel_rfl
theorem Tryd.cellsSl4 : Tryd.prog.cellsOf 45 = 16 := by kernel_rfl
theorem Tryd.cellsPg : Tryd.prog.cellsOf 47 = 17 := by kernel_rfl

set_option maxRecDepth 100000 in
theorem trod_slot {fuel : Nat} {cs : List Value} {x : DataW H × List MemPlace} (h : DataW.trod enc Tryd.prog w base spare held fuel 44 cs = some x) :
    ∃ s : SlotA, cs = s.cells ∧ InSlot w s := by
  obtain ⟨xs, n, _, _, hlen, hxl, hf⟩ := DataW.trod_struct Tryd.underlying44 h
  rw [Tryd.cellsSl] at hlen
  match cs, hlen with
  | [v0, v1, v2, v3], _ =>
    have f0 := hf 0 _ rfl
    have f1 := hf 1 _ rfl
    obtain ⟨y0, hx0⟩ := some_at xs 0 (by rw [hxl]; decide)
    obtain ⟨y1, hx1⟩ := some_at xs 1 (by rw [hxl]; decide)
    rw [hx0] at f0
    rw [hx1] at f1
    simp only [List.getElem_toArray, List.getElem_cons_zero, List.getElem_cons_succ, Tryd.cellsB, Tryd.cellsO, List.drop, List.take] at f0 f1
    obtain ⟨b, e0, _⟩ := DataW.trod_bool Tryd.underlying4 f0
    obtain ⟨o, aI, cI, aR, cR, e1, hr, lI, lR, wk, wI, wR⟩ := trod_obj f1
    simp only [List.cons.injEq, and_true] at e0 e1
    obtain ⟨rfl, rfl, rfl⟩ := e1
    subst e0
    exact ⟨⟨⟨b, o⟩, aI, cI, aR, cR⟩, rfl, hr, lI, lR, wk, wI, wR⟩

theorem four_of (cs : List Value) (h : cs.length = 16) (f : ∀ i, i < 4 → ∃ s : SlotA, (cs.drop (i * 4)).take 4 = s.cells ∧ InSlot w s) : ∃ ss : List SlotA, ss.length = 4 ∧ cs = cellsS ss ∧ ∀ s ∈ ss, InSlot w s := by
  obtain ⟨s0, e0, h0⟩ := f 0 (by omega)
  obtain ⟨s1, e1, h1⟩ := f 1 (by omega)
  obtain ⟨s2, e2, h2⟩ := f 2 (by omega)
  obtain ⟨s3, e3, h3⟩ := f 3 (by omega)
  refine ⟨[s0, s1, s2, s3], rfl, ?_, ?_⟩
  · simp only [cellsS, List.flatMap_cons, List.flatMap_nil, List.append_nil, ← e0, ← e1, ← e2, ← e3]
    simp only [Nat.zero_mul, Nat.one_mul, List.drop_zero]
    have d : ∀ (l : List Value) (k : Nat), l.drop k = (l.drop k).take 4 ++ l.drop (k + 4) := fun l k => by rw [← List.drop_drop, List.take_append_drop]
    have a0 := d cs 0
    have a1 := d cs 4
    have a2 := d cs 8
    have a3 := d cs 12
    rw [List.drop_zero] at a0
    have a4 : cs.drop (12 + 4) = [] := List.drop_eq_nil_of_le (by omega)
    rw [a4, List.append_nil] at a3
    simp only [show 0 + 4 = 4 from rfl, show 4 + 4 = 8 from rfl, show 8 + 4 = 12 from rfl, show 2 * 4 = 8 from rfl, show 3 * 4 = 12 from rfl] at *
    conv => lhs; rw [a0, a1, a2, a3]
  · intro s hs
    simp only [List.mem_cons, List.not_mem_nil, or_false] at hs
    rcases hs with rfl | rfl | rfl | rfl <;> assumption

set_option maxRecDepth 100000 in
theorem trod_page {fuel : Nat} {cs : List Value} {x : DataW H × List MemPlace} (h : DataW.trod enc Tryd.prog w base spare held fuel 47 cs = some x) :
    ∃ p : PageA, cs = p.cells ∧ p.ss.length = 4 ∧ InI64 p.lsn ∧ ∀ s ∈ p.ss, InSlot w s := by
  obtain ⟨xs, n, _, _, hlen, hxl, hf⟩ := DataW.trod_struct Tryd.underlying47 h
  rw [Tryd.cellsPg] at hlen
  obtain ⟨v0, r, rfl⟩ : ∃ v0 r, cs = v0 :: r := by
    cases cs with
    | nil => simp at hlen
    | cons v r => exact ⟨v, r, rfl⟩
  have hr16 : r.length = 16 := by simpa using hlen
  have f0 := hf 0 _ rfl
  have f1 := hf 1 _ rfl
  obtain ⟨y0, hx0⟩ := some_at xs 0 (by rw [hxl]; decide)
  obtain ⟨y1, hx1⟩ := some_at xs 1 (by rw [hxl]; decide)
  rw [hx0] at f0
  rw [hx1] at f1
  simp only [List.getElem_toArray, List.getElem_cons_zero, List.getElem_cons_succ, Tryd.cellsI, Tryd.cellsSl4, List.drop_zero, List.drop_succ_cons, List.take_succ_cons, List.take_zero] at f0 f1
  rw [List.take_of_length_le (by omega)] at f1
  obtain ⟨k, e0, wk⟩ := trod_num f0
  obtain ⟨ys, m, _, _, _, hyl, hg⟩ := DataW.trod_array Tryd.underlying45 f1
  obtain ⟨ss, h4, e1, hs⟩ := four_of (w := w) r hr16 (fun i hi => by
    have g := hg i hi
    obtain ⟨y, hy⟩ := some_at ys i (by omega)
    rw [hy, Tryd.cellsSl] at g
    exact trod_slot g)
  simp only [List.cons.injEq, and_true] at e0
  subst e0 e1
  exact ⟨⟨k, ss⟩, rfl, h4, wk, hs⟩

set_option maxRecDepth 100000 in
/-- A page that came in as an argument. -/
theorem open_page {b0 : Nat} {v : Value} {d : DataW H} {ps : List MemPlace} (hval : Value.okWide Tryd.prog w .any b0 47 v) (h : DataW.Trod enc Tryd.prog w base spare held 47 v d ps) :
    ∃ p : PageA, v = .agg p.cells.toArray ∧ p.ss.length = 4 ∧ InI64 p.lsn ∧ ∀ s ∈ p.ss, InSlot w s := by
  obtain ⟨cs, rfl, hcs⟩ := okWide_struct Tryd.underlying47 hval
  obtain ⟨fuel, hf⟩ := h
  have e : (Value.agg cs).cells.toList = cs.toList := rfl
  rw [e] at hf
  obtain ⟨p, hc, rest⟩ := trod_page hf
  refine ⟨p, ?_, rest⟩
  congr 1
  apply Array.toList_inj.1
  rw [hc]

set_option maxRecDepth 100000 in
/-- A slot that came in as an argument. -/
theorem open_slot {b0 : Nat} {v : Value} {d : DataW H} {ps : List MemPlace} (hval : Value.okWide Tryd.prog w .any b0 44 v) (h : DataW.Trod enc Tryd.prog w base spare held 44 v d ps) :
    ∃ s : SlotA, v = .agg s.cells.toArray ∧ InSlot w s := by
  obtain ⟨cs, rfl, hcs⟩ := okWide_struct Tryd.underlying44 hval
  obtain ⟨fuel, hf⟩ := h
  have e : (Value.agg cs).cells.toList = cs.toList := rfl
  rw [e] at hf
  obtain ⟨s, hc, rest⟩ := trod_slot hf
  refine ⟨s, ?_, rest⟩
  congr 1
  apply Array.toList_inj.1
  rw [hc]
end
end Go.Proofs.YtbaocehcnjdkkaaDoor

/- What the laws of pages share. -/
namespace Go.Proofs.YtbaocehcnjdkkaaDoor
open Go.RowKit

theorem map_len4 {ss ts : List SlotA} (h : ts.map (·.v) = ss.map (·.v)) (h4 : ss.length = 4) : ts.length = 4 := by
  have := congrArg List.length h
  simp only [List.length_map] at this
  omega
theorem small_of {ss ts : List SlotA} (h : ts.map (·.v) = ss.map (·.v)) (hl : ∀ s ∈ ss, s.v.o.ints.length ≤ 1048576 ∧ s.v.o.refs.length ≤ 1048576) : ∀ s ∈ ts, s.v.o.ints.length ≤ 1048576 ∧ s.v.o.refs.length ≤ 1048576 := by
  intro t ht
  have : t.v ∈ ss.map (·.v) := by rw [← h]; exact List.mem_map.2 ⟨t, ht, rfl⟩
  obtain ⟨s, hs, e⟩ := List.mem_map.1 this
  rw [← e]
  exact hl s hs
theorem wide_of {ss : List SlotA} (hl : ∀ s ∈ ss, s.v.o.ints.length ≤ 1048576 ∧ s.v.o.refs.length ≤ 1048576) : ∀ s ∈ ss, s.v.o.ints.length ≤ 1099511627776 ∧ s.v.o.refs.length ≤ 1099511627776 := fun s hs => by have := hl s hs; omega

end Go.Proofs.YtbaocehcnjdkkaaDoor
