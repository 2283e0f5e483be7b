/- Several texts in one, in their order. -/
import Derived.Test.YtjaojcgfgkppgaaDoorPiece16
import Derived.Test.YtjaojcgfgkppgaaDoorPiece40
import Derived.Test.YtjaojcgfgkppgaaDoorPiece31
/- The walk of impl.SetSlot. -/
namespace Go.Proofs.YtjaojcgfgkppgaaDoor
open Go.RowKit

set_option maxHeartbeats 4000000 in
set_option maxRecDepth 100000 in
theorem implSetSlot_any (p : PageA) (h4 : p.ss.length = 4) (slot : Int) (s : SlotA) (lsn : Int) (w : World) (hg : ErrT w) (hr : ReadsS w p.ss) (hl : Fit p.ss) (hrs : s.reads w) (hls : Fit [s]) :
    Calls Tryd.prog 44 #[.agg p.cells.toArray, .int .i64 slot, .agg s.cells.toArray, .int .i64 lsn] w fun e w' => ∃ ts : List SlotA, e = .returned (.tuple #[.agg (PageA.cells ⟨(setOf p.lsn (p.ss.map (·.v)) slot s.v lsn).1, ts⟩).toArray, .bool (setOk p.lsn (p.ss.map (·.v)) slot s.v lsn)]) ∧ Hid (ts.map (·.v) = (setOf p.lsn (p.ss.map (·.v)) slot s.v lsn).2) ∧ OwnS w' w.heap.size w'.heap.size ts ∧ Below w.heap.size w w' := by
  have HNO : Hid (setOk p.lsn (p.ss.map (·.v)) slot s.v lsn = false → setOf p.lsn (p.ss.map (·.v)) slot s.v lsn = (p.lsn, p.ss.map (·.v))) := fun h => setOf_no h
  have HYE : Hid (setOk p.lsn (p.ss.map (·.v)) slot s.v lsn = true → setOf p.lsn (p.ss.map (·.v)) slot s.v lsn = (lsn, (p.ss.map (·.v)).set slot.toNat s.v)) := fun h => setOf_ok h
  have H1 : Hid (okP p.lsn (p.ss.map (·.v)) = false → setOk p.lsn (p.ss.map (·.v)) slot s.v lsn = false) := fun h => setOk_p h
  have H2 : Hid (inB slot 0 3 = false → setOk p.lsn (p.ss.map (·.v)) slot s.v lsn = false) := fun h => setOk_slot h
  have H3 : Hid (slotB s.v = false → setOk p.lsn (p.ss.map (·.v)) slot s.v lsn = false) := fun h => setOk_s h
  have H5 : Hid (inB lsn p.lsn 1000000 = false → setOk p.lsn (p.ss.map (·.v)) slot s.v lsn = false) := fun h => setOk_lsn h
  have H6 : Hid (okP p.lsn (p.ss.map (·.v)) = true → inB slot 0 3 = true → slotB s.v = true → inB lsn p.lsn 1000000 = true → setOk p.lsn (p.ss.map (·.v)) slot s.v lsn = true) := fun a b c d => setOk_all a b c d
  generalize setOk p.lsn (p.ss.map (·.v)) slot s.v lsn = OK at *
  generalize setOf p.lsn (p.ss.map (·.v)) slot s.v lsn = SO at *
  obtain ⟨hls1, hls2⟩ := hls s (List.mem_singleton.2 rfl)
  have HI : Hid ((Tryd.prog.info? 40).map (·.size) = some p.cells.length) := by rw [Hid, page_len p h4]; kernel_rfl
  obtain ⟨W, hW, b0, b1, b2, hbW, hsW⟩ := boxes3 w p.cells s.cells [.int .i64 0, .bool false, .int .i64 0, .slice none 0 0, .slice none 0 0, .bool false, .int .i64 0, .slice none 0 0, .slice none 0 0, .bool false, .int .i64 0, .slice none 0 0, .slice none 0 0, .bool false, .int .i64 0, .slice none 0 0, .slice none 0 0] 40 28 40
  have hsW' : w.heap.size + 1 + 1 < W.heap.size := by omega
  have HRG : Hid (∀ w', Below W.heap.size W w' → w'.rangeAt w.heap.size 0 p.cells) := fun w' hh => Box.range [] p.cells [] (by simpa using b0.below hh b0.lt)
  have b0' : ∀ w', Below W.heap.size W w' → w'.cell? ⟨w.heap.size, 0, none⟩ = some (.int .i64 p.lsn) := fun w' hh => (b0.below hh b0.lt).cell 0 _ rfl
  have HB2 : Hid (∀ w', Below W.heap.size W w' → Box w' (w.heap.size + 1 + 1) zero17 40) := fun w' hh => b2.below hh b2.lt
  have HB1 : Hid (∀ w', Below W.heap.size W w' → Box w' (w.heap.size + 1) s.cells 28) := fun w' hh => b1.below hh b1.lt
  have HL0 : Hid _ := b0'
  clear hsW b0' b2 b1 b0
  simp only [SlotA.cells] at HB1 hW
  simp only [SlotA.cells]
  go_enter Tryd.func44, Tryd.ntmps44
  go_wp2_with (first | (guard_target = wpList _ _ _ (Oper.mk (some 11) _ _ _ _ _ :: _) _ _; refine wpList_load_mid rfl 40 (.tmp 4) rfl w.heap.size 0 rfl p.cells _ (by rw [hW.out]; exact HRG.out _ (Below.refl _ _)) Tryd.underlying40 rfl HI.out ?_) | fail)
  rw [hW.out]
  clear hW
  refine (copyPage_own p h4 W (hr.below hbW) hl).mono ?_
  rintro e w1 ⟨ts, rfl, hv, ho1, hb1⟩
  have hts4 : ts.length = 4 := by have := congrArg List.length hv.out; simp only [List.length_map] at this; omega
  have HV : Hid (ts.map (·.v) = p.ss.map (·.v)) := hv
  generalize hq : (⟨p.lsn, ts⟩ : PageA) = q at *
  have hq4 : q.ss.length = 4 := by rw [← hq]; exact hts4
  have HQ : Hid (q.lsn = p.lsn ∧ q.ss = ts) := by rw [← hq]; exact ⟨rfl, rfl⟩
  clear hq hv
  have hs1 := hb1.size
  have HIq : Hid ((Tryd.prog.info? 40).map (·.size) = some q.cells.length) := by rw [Hid, page_len q hq4]; kernel_rfl
  have HOq : Hid (_) := all_oneCell_toArray (oneP q)
  obtain ⟨W2, hW2, b3, hb2, hs2⟩ := boxes1 w1 [.int .i64 0, .bool false, .int .i64 0, .slice none 0 0, .slice none 0 0, .bool false, .int .i64 0, .slice none 0 0, .slice none 0 0, .bool false, .int .i64 0, .slice none 0 0, .slice none 0 0, .bool false, .int .i64 0, .slice none 0 0, .slice none 0 0] 40
  obtain ⟨W3, hW3, hw3, hs3, HT3, _, bQ⟩ := page_out (C := w1.heap.size) (T := 40) q hq4 [.int .i64 0, .bool false, .int .i64 0, .slice none 0 0, .slice none 0 0, .bool false, .int .i64 0, .slice none 0 0, .slice none 0 0, .bool false, .int .i64 0, .slice none 0 0, .slice none 0 0, .bool false, .int .i64 0, .slice none 0 0, .slice none 0 0] rfl b3 Tryd.underlying40 rfl (by kernel_rfl)
  have B3 : Below W.heap.size W W3 := (hb1.trans (hb2.mono hs1)).trans (hw3.below (by omega) (by omega))
  have ho3 : OwnS W3 W.heap.size w1.heap.size ts := (ho1.below hb2).within hw3 (.inl (Nat.le_refl _))
  have hs13 : w1.heap.size < W3.heap.size := bQ.lt
  have C1 := implPageOk_any p h4 W3 (hg.keep (hbW.trans (B3.mono hbW.size))) (hr.below (hbW.trans (B3.mono hbW.size))) hl
  clear b3 hw3 hs3 ho1 hb1 hb2 hs2
  go_wp2_with (first | (guard_target = wpList _ _ _ (Oper.mk none (Op.store _ (Operand.tmp 10) _) _ _ _ _ :: _) _ _; refine wpList_store_mid rfl 40 (.tmp 10) (.tmp 12) rfl w1.heap.size 0 q.cells.toArray rfl rfl (by rw [hW2.out]; exact HT3.out) (by rw [List.size_toArray]; exact HIq.out) HOq.out ?_) | (guard_target = wpList _ _ _ (Oper.mk (some 13) _ _ _ _ _ :: _) _ _; refine wpList_load_mid rfl 40 (.tmp 4) rfl w.heap.size 0 rfl p.cells _ (by rw [hW2.out, hW3.out]; exact HRG.out _ B3) Tryd.underlying40 rfl HI.out ?_) | fail)
  rw [hW2.out, hW3.out]
  clear hW2 hW3 HT3
  refine C1.mono ?_
  clear C1
  rintro e w4 ⟨rfl, hb4⟩
  have N4 := hb4
  have B4 : Below W.heap.size W w4 := B3.trans (hb4.mono B3.size)
  have hs4 := hb4.size
  cases hok : okP p.lsn (p.ss.map (·.v)) with
  | false =>
    have HOK : Hid (OK = false) := H1.out hok
    clear hok H1 H2 H3 H5 H6
    have bQv := bQ.below N4 hs13
    have rQv := Box.range [] q.cells [] (by simpa using bQv : Box w4 w1.heap.size ([] ++ (q.cells ++ [])) 40)
    obtain ⟨WF, hWF, hwF, hsF, HTF, HLF, _⟩ := page_out (C := w.heap.size + 1 + 1) (T := 40) q hq4 zero17 rfl (HB2.out _ B4) Tryd.underlying40 rfl (by kernel_rfl)
    have HOF : Hid (OwnS WF w.heap.size WF.heap.size ts) := ((ho3.below N4).within hwF (.inr (by omega))).widen (by omega) (by omega) (Nat.le_refl _)
    have HBF : Hid (Below w.heap.size w WF) := (hbW.trans (B4.mono (by omega))).trans (hwF.below (by omega) (by have := B4.size; omega))
    have HEND : Hid (∃ ts' : List SlotA, Ending.returned (.tuple #[.agg q.cells.toArray, .bool false]) = .returned (.tuple #[.agg (PageA.cells ⟨SO.1, ts'⟩).toArray, .bool OK]) ∧ Hid (ts'.map (·.v) = SO.2) ∧ OwnS WF w.heap.size WF.heap.size ts' ∧ Below w.heap.size w WF) := by
      obtain ⟨qn, qs⟩ := q
      obtain ⟨e1, e2⟩ := HQ.out
      simp only at e1 e2
      subst e2
      refine ⟨qs, ?_, ?_, HOF.out, HBF.out⟩
      · rw [HNO.out HOK.out, HOK.out, e1]
      · rw [Hid, HNO.out HOK.out]; exact HV.out
    clear bQv hwF hsF HOF HBF HNO HYE ho3
    go_wp2_with (first | (guard_target = wpList _ _ _ (Oper.mk (some 39) _ _ _ _ _ :: _) _ _; refine wpList_load_mid rfl 40 (.tmp 10) rfl w1.heap.size 0 rfl q.cells _ (rQv) Tryd.underlying40 rfl HIq.out ?_) | (guard_target = wpList _ _ _ (Oper.mk none (Op.store _ (Operand.tmp 8) _) _ _ _ _ :: _) _ _; refine wpList_store_mid rfl 40 (.tmp 8) (.tmp 39) rfl (w.heap.size + 1 + 1) 0 q.cells.toArray rfl rfl (HTF.out) (by rw [List.size_toArray]; exact HIq.out) HOq.out ?_) | fail)
    rw [hWF.out]
    exact bodyPost_ret (v := .tuple #[.agg q.cells.toArray, .bool false]) (results_cell_flag Tryd.results44 rfl HLF.out rfl) rfl HEND.out
  | true =>
  have HP : Hid (_ = _) := hok
  clear hok H1
  cases hin : inB slot 0 3 with
  | false =>
    have HOK : Hid (OK = false) := H2.out hin
    have hz := inB_false hin
    clear hin H2 H3 H5 H6
    rcases hz with hz1 | ⟨hz1, hz2⟩
    · have hd1 : slot < 0 := hz1
      have bQv := bQ.below N4 hs13
      have rQv := Box.range [] q.cells [] (by simpa using bQv : Box w4 w1.heap.size ([] ++ (q.cells ++ [])) 40)
      obtain ⟨WF, hWF, hwF, hsF, HTF, HLF, _⟩ := page_out (C := w.heap.size + 1 + 1) (T := 40) q hq4 zero17 rfl (HB2.out _ B4) Tryd.underlying40 rfl (by kernel_rfl)
      have HOF : Hid (OwnS WF w.heap.size WF.heap.size ts) := ((ho3.below N4).within hwF (.inr (by omega))).widen (by omega) (by omega) (Nat.le_refl _)
      have HBF : Hid (Below w.heap.size w WF) := (hbW.trans (B4.mono (by omega))).trans (hwF.below (by omega) (by have := B4.size; omega))
      have HEND : Hid (∃ ts' : List SlotA, Ending.returned (.tuple #[.agg q.cells.toArray, .bool false]) = .returned (.tuple #[.agg (PageA.cells ⟨SO.1, ts'⟩).toArray, .bool OK]) ∧ Hid (ts'.map (·.v) = SO.2) ∧ OwnS WF w.heap.size WF.heap.size ts' ∧ Below w.heap.size w WF) := by
        obtain ⟨qn, qs⟩ := q
        obtain ⟨e1, e2⟩ := HQ.out
        simp only at e1 e2
        subst e2
        refine ⟨qs, ?_, ?_, HOF.out, HBF.out⟩
        · rw [HNO.out HOK.out, HOK.out, e1]
        · rw [Hid, HNO.out HOK.out]; exact HV.out
      clear bQv hwF hsF HOF HBF HNO HYE ho3
      go_wp2_with (first | (guard_target = wpList _ _ _ (Oper.mk (some 39) _ _ _ _ _ :: _) _ _; refine wpList_load_mid rfl 40 (.tmp 10) rfl w1.heap.size 0 rfl q.cells _ (rQv) Tryd.underlying40 rfl HIq.out ?_) | (guard_target = wpList _ _ _ (Oper.mk none (Op.store _ (Operand.tmp 8) _) _ _ _ _ :: _) _ _; refine wpList_store_mid rfl 40 (.tmp 8) (.tmp 39) rfl (w.heap.size + 1 + 1) 0 q.cells.toArray rfl rfl (HTF.out) (by rw [List.size_toArray]; exact HIq.out) HOq.out ?_) | fail)
      rw [hWF.out]
      exact bodyPost_ret (v := .tuple #[.agg q.cells.toArray, .bool false]) (results_cell_flag Tryd.results44 rfl HLF.out rfl) rfl HEND.out
    · have hd1 : ¬ slot < 0 := hz1
      have hd2 : 4 ≤ slot := by omega
      clear hz1 hz2
      have bQv := bQ.below N4 hs13
      have rQv := Box.range [] q.cells [] (by simpa using bQv : Box w4 w1.heap.size ([] ++ (q.cells ++ [])) 40)
      obtain ⟨WF, hWF, hwF, hsF, HTF, HLF, _⟩ := page_out (C := w.heap.size + 1 + 1) (T := 40) q hq4 zero17 rfl (HB2.out _ B4) Tryd.underlying40 rfl (by kernel_rfl)
      have HOF : Hid (OwnS WF w.heap.size WF.heap.size ts) := ((ho3.below N4).within hwF (.inr (by omega))).widen (by omega) (by omega) (Nat.le_refl _)
      have HBF : Hid (Below w.heap.size w WF) := (hbW.trans (B4.mono (by omega))).trans (hwF.below (by omega) (by have := B4.size; omega))
      have HEND : Hid (∃ ts' : List SlotA, Ending.returned (.tuple #[.agg q.cells.toArray, .bool false]) = .returned (.tuple #[.agg (PageA.cells ⟨SO.1, ts'⟩).toArray, .bool OK]) ∧ Hid (ts'.map (·.v) = SO.2) ∧ OwnS WF w.heap.size WF.heap.size ts' ∧ Below w.heap.size w WF) := by
        obtain ⟨qn, qs⟩ := q
        obtain ⟨e1, e2⟩ := HQ.out
        simp only at e1 e2
        subst e2
        refine ⟨qs, ?_, ?_, HOF.out, HBF.out⟩
        · rw [HNO.out HOK.out, HOK.out, e1]
        · rw [Hid, HNO.out HOK.out]; exact HV.out
      clear bQv hwF hsF HOF HBF HNO HYE ho3
      go_wp2_with (first | (guard_target = wpList _ _ _ (Oper.mk (some 39) _ _ _ _ _ :: _) _ _; refine wpList_load_mid rfl 40 (.tmp 10) rfl w1.heap.size 0 rfl q.cells _ (rQv) Tryd.underlying40 rfl HIq.out ?_) | (guard_target = wpList _ _ _ (Oper.mk none (Op.store _ (Operand.tmp 8) _) _ _ _ _ :: _) _ _; refine wpList_store_mid rfl 40 (.tmp 8) (.tmp 39) rfl (w.heap.size + 1 + 1) 0 q.cells.toArray rfl rfl (HTF.out) (by rw [List.size_toArray]; exact HIq.out) HOq.out ?_) | fail)
      rw [hWF.out]
      exact bodyPost_ret (v := .tuple #[.agg q.cells.toArray, .bool false]) (results_cell_flag Tryd.results44 rfl HLF.out rfl) rfl HEND.out
  | true =>
  have HIN : Hid (_ = _) := hin
  obtain ⟨hz1, hz2⟩ := inB_true hin
  clear hin H2
  have hd2 : ¬ 4 ≤ slot := by omega
  have bs4 := HB1.out _ B4
  obtain ⟨x0, x1, x2, x3, _⟩ := bs4.four
  have C2 := slotOk_any s w4 (hg.keep (hbW.trans (B4.mono hbW.size))) (ReadsO.below hrs (hbW.trans (B4.mono hbW.size))) hls
  simp only [SlotA.cells] at C2
  go_wp2_with fail
  refine C2.mono ?_
  clear C2 x0 x1 x2 x3
  rintro e w5 ⟨rfl, hb5⟩
  have N5 : Below W3.heap.size W3 w5 := N4.trans (hb5.mono N4.size)
  have B5 : Below W.heap.size W w5 := B4.trans (hb5.mono B4.size)
  have hs5 := hb5.size
  cases hsb : slotB s.v with
  | false =>
    have HOK : Hid (OK = false) := H3.out hsb
    clear hsb H3 H5 H6
    have bQv := bQ.below N5 hs13
    have rQv := Box.range [] q.cells [] (by simpa using bQv : Box w5 w1.heap.size ([] ++ (q.cells ++ [])) 40)
    obtain ⟨WF, hWF, hwF, hsF, HTF, HLF, _⟩ := page_out (C := w.heap.size + 1 + 1) (T := 40) q hq4 zero17 rfl (HB2.out _ B5) Tryd.underlying40 rfl (by kernel_rfl)
    have HOF : Hid (OwnS WF w.heap.size WF.heap.size ts) := ((ho3.below N5).within hwF (.inr (by omega))).widen (by omega) (by omega) (Nat.le_refl _)
    have HBF : Hid (Below w.heap.size w WF) := (hbW.trans (B5.mono (by omega))).trans (hwF.below (by omega) (by have := B5.size; omega))
    have HEND : Hid (∃ ts' : List SlotA, Ending.returned (.tuple #[.agg q.cells.toArray, .bool false]) = .returned (.tuple #[.agg (PageA.cells ⟨SO.1, ts'⟩).toArray, .bool OK]) ∧ Hid (ts'.map (·.v) = SO.2) ∧ OwnS WF w.heap.size WF.heap.size ts' ∧ Below w.heap.size w WF) := by
      obtain ⟨qn, qs⟩ := q
      obtain ⟨e1, e2⟩ := HQ.out
      simp only at e1 e2
      subst e2
      refine ⟨qs, ?_, ?_, HOF.out, HBF.out⟩
      · rw [HNO.out HOK.out, HOK.out, e1]
      · rw [Hid, HNO.out HOK.out]; exact HV.out
    clear bQv hwF hsF HOF HBF HNO HYE ho3
    go_wp2_with (first | (guard_target = wpList _ _ _ (Oper.mk (some 39) _ _ _ _ _ :: _) _ _; refine wpList_load_mid rfl 40 (.tmp 10) rfl w1.heap.size 0 rfl q.cells _ (rQv) Tryd.underlying40 rfl HIq.out ?_) | (guard_target = wpList _ _ _ (Oper.mk none (Op.store _ (Operand.tmp 8) _) _ _ _ _ :: _) _ _; refine wpList_store_mid rfl 40 (.tmp 8) (.tmp 39) rfl (w.heap.size + 1 + 1) 0 q.cells.toArray rfl rfl (HTF.out) (by rw [List.size_toArray]; exact HIq.out) HOq.out ?_) | fail)
    rw [hWF.out]
    exact bodyPost_ret (v := .tuple #[.agg q.cells.toArray, .bool false]) (results_cell_flag Tryd.results44 rfl HLF.out rfl) rfl HEND.out
  | true =>
  have HSB : Hid (_ = _) := hsb
  clear hsb H3
  have y0 := HL0.out _ B5
  cases hln : inB lsn p.lsn 1000000 with
  | false =>
    have HOK : Hid (OK = false) := H5.out hln
    have hz := inB_false hln
    clear hln H5 H6
    rcases hz with hl1 | ⟨hl1, hl2⟩
    · have hd5 : lsn < p.lsn := hl1
      generalize p.lsn = pn at *
      have bQv := bQ.below N5 hs13
      have rQv := Box.range [] q.cells [] (by simpa using bQv : Box w5 w1.heap.size ([] ++ (q.cells ++ [])) 40)
      obtain ⟨WF, hWF, hwF, hsF, HTF, HLF, _⟩ := page_out (C := w.heap.size + 1 + 1) (T := 40) q hq4 zero17 rfl (HB2.out _ B5) Tryd.underlying40 rfl (by kernel_rfl)
      have HOF : Hid (OwnS WF w.heap.size WF.heap.size ts) := ((ho3.below N5).within hwF (.inr (by omega))).widen (by omega) (by omega) (Nat.le_refl _)
      have HBF : Hid (Below w.heap.size w WF) := (hbW.trans (B5.mono (by omega))).trans (hwF.below (by omega) (by have := B5.size; omega))
      have HEND : Hid (∃ ts' : List SlotA, Ending.returned (.tuple #[.agg q.cells.toArray, .bool false]) = .returned (.tuple #[.agg (PageA.cells ⟨SO.1, ts'⟩).toArray, .bool OK]) ∧ Hid (ts'.map (·.v) = SO.2) ∧ OwnS WF w.heap.size WF.heap.size ts' ∧ Below w.heap.size w WF) := by
        obtain ⟨qn, qs⟩ := q
        obtain ⟨e1, e2⟩ := HQ.out
        simp only at e1 e2
        subst e2
        refine ⟨qs, ?_, ?_, HOF.out, HBF.out⟩
        · rw [HNO.out HOK.out, HOK.out, e1]
        · rw [Hid, HNO.out HOK.out]; exact HV.out
      clear bQv hwF hsF HOF HBF HNO HYE ho3
      go_wp2_with (first | (guard_target = wpList _ _ _ (Oper.mk (some 39) _ _ _ _ _ :: _) _ _; refine wpList_load_mid rfl 40 (.tmp 10) rfl w1.heap.size 0 rfl q.cells _ (rQv) Tryd.underlying40 rfl HIq.out ?_) | (guard_target = wpList _ _ _ (Oper.mk none (Op.store _ (Operand.tmp 8) _) _ _ _ _ :: _) _ _; refine wpList_store_mid rfl 40 (.tmp 8) (.tmp 39) rfl (w.heap.size + 1 + 1) 0 q.cells.toArray rfl rfl (HTF.out) (by rw [List.size_toArray]; exact HIq.out) HOq.out ?_) | fail)
      rw [hWF.out]
      exact bodyPost_ret (v := .tuple #[.agg q.cells.toArray, .bool false]) (results_cell_flag Tryd.results44 rfl HLF.out rfl) rfl HEND.out
    · generalize p.lsn = pn at *
      have bQv := bQ.below N5 hs13
      have rQv := Box.range [] q.cells [] (by simpa using bQv : Box w5 w1.heap.size ([] ++ (q.cells ++ [])) 40)
      obtain ⟨WF, hWF, hwF, hsF, HTF, HLF, _⟩ := page_out (C := w.heap.size + 1 + 1) (T := 40) q hq4 zero17 rfl (HB2.out _ B5) Tryd.underlying40 rfl (by kernel_rfl)
      have HOF : Hid (OwnS WF w.heap.size WF.heap.size ts) := ((ho3.below N5).within hwF (.inr (by omega))).widen (by omega) (by omega) (Nat.le_refl _)
      have HBF : Hid (Below w.heap.size w WF) := (hbW.trans (B5.mono (by omega))).trans (hwF.below (by omega) (by have := B5.size; omega))
      have HEND : Hid (∃ ts' : List SlotA, Ending.returned (.tuple #[.agg q.cells.toArray, .bool false]) = .returned (.tuple #[.agg (PageA.cells ⟨SO.1, ts'⟩).toArray, .bool OK]) ∧ Hid (ts'.map (·.v) = SO.2) ∧ OwnS WF w.heap.size WF.heap.size ts' ∧ Below w.heap.size w WF) := by
        obtain ⟨qn, qs⟩ := q
        obtain ⟨e1, e2⟩ := HQ.out
        simp only at e1 e2
        subst e2
        refine ⟨qs, ?_, ?_, HOF.out, HBF.out⟩
        · rw [HNO.out HOK.out, HOK.out, e1]
        · rw [Hid, HNO.out HOK.out]; exact HV.out
      clear bQv hwF hsF HOF HBF HNO HYE ho3
      go_wp2_with (first | (guard_target = wpList _ _ _ (Oper.mk (some 39) _ _ _ _ _ :: _) _ _; refine wpList_load_mid rfl 40 (.tmp 10) rfl w1.heap.size 0 rfl q.cells _ (rQv) Tryd.underlying40 rfl HIq.out ?_) | (guard_target = wpList _ _ _ (Oper.mk none (Op.store _ (Operand.tmp 8) _) _ _ _ _ :: _) _ _; refine wpList_store_mid rfl 40 (.tmp 8) (.tmp 39) rfl (w.heap.size + 1 + 1) 0 q.cells.toArray rfl rfl (HTF.out) (by rw [List.size_toArray]; exact HIq.out) HOq.out ?_) | fail)
      rw [hWF.out]
      exact bodyPost_ret (v := .tuple #[.agg q.cells.toArray, .bool false]) (results_cell_flag Tryd.results44 rfl HLF.out rfl) rfl HEND.out
  | true =>
  have HLN : Hid (_ = _) := hln
  obtain ⟨hl1, hl2⟩ := inB_true hln
  clear hln H5
  have HOK : Hid (OK = true) := H6.out HP.out HIN.out HSB.out HLN.out
  have HSO : Hid (SO = (lsn, (p.ss.map (·.v)).set slot.toNat s.v)) := HYE.out HOK.out
  clear H6 HNO HYE
  obtain ⟨k, rfl⟩ : ∃ k : Nat, slot = (k : Int) := ⟨slot.toNat, by omega⟩
  have hk4 : k < 4 := by omega
  have bs5 := HB1.out _ B5
  obtain ⟨x0, x1, x2, x3, _⟩ := bs5.four
  have C3 := copySlot_own s w5 (ReadsO.below hrs (hbW.trans (B5.mono hbW.size))) hls1 hls2
  simp only [SlotA.cells] at C3
  go_wp2_with fail
  refine C3.mono ?_
  clear C3 x0 x1 x2 x3 y0
  rintro e w7 ⟨t, rfl, hvt, hot, hb7⟩
  have N7 : Below W3.heap.size W3 w7 := N5.trans (hb7.mono N5.size)
  have B7 : Below W.heap.size W w7 := B5.trans (hb7.mono B5.size)
  have hs7 := hb7.size
  obtain ⟨qn, qs⟩ := q
  simp only [PageA.cells] at bQ
  obtain ⟨hqn, hqs⟩ := HQ.out
  simp only at hqn hqs
  subst hqs
  have hs3n := N5.size
  have bQ7 := bQ.below N7 hs13
  have hkl : k < qs.length := by rw [hts4]; exact hk4
  obtain ⟨W8, hW8, b8, hw8, hs8⟩ := pslot_fill bQ7 k hkl t
  obtain ⟨z0, z1, z2, z3, hfz⟩ := bQ7.pslot k hkl
  have f0 := hfz (1 + k * 4)
  have f1 := hfz (1 + k * 4 + 1)
  have f2 := hfz (1 + k * 4 + 2)
  have f3 := hfz (1 + k * 4 + 3)
  obtain ⟨W9, hW9, b9, hw9, hs9⟩ := box_set b8 0 (.int .i64 lsn)
  simp only [List.set_cons_zero] at b9
  have g0 := b8.cell 0 _ rfl
  have g1 := b8.frozen 0
  have B9 : Below W.heap.size W W9 := (B7.trans (hw8.below hs1 (by omega))).trans (hw9.below hs1 (by omega))
  have hr4 : (⟨lsn, qs.set k t⟩ : PageA).ss.length = 4 := by simp only [List.length_set]; exact hts4
  have hap : OwnS W9 W.heap.size w7.heap.size (qs.set k t) := by
    have o1 : OwnS W9 W.heap.size w1.heap.size qs := ((ho3.below N7).within hw8 (.inl (Nat.le_refl _))).within hw9 (.inl (Nat.le_refl _))
    have o2 : t.own W9 w5.heap.size w7.heap.size := OwnO.within (OwnO.within hot hw8 (.inr (by omega))) hw9 (.inr (by omega))
    exact o1.set k o2 (by omega) (by omega) (by omega)
  have HMV : Hid ((qs.set k t).map (·.v) = SO.2) := by rw [Hid, HSO.out, List.map_set, HV.out, hvt.out, Int.toNat_natCast]
  have HS1 : Hid (SO.1 = lsn) := by rw [Hid, HSO.out]
  generalize hrr : (⟨lsn, qs.set k t⟩ : PageA) = r at *
  have b9' : Box W9 w1.heap.size r.cells 40 := by rw [← hrr]; exact b9
  have HEQ : Hid (r = ⟨lsn, qs.set k t⟩) := hrr.symm
  clear hrr b9
  have rR := Box.range [] r.cells [] (by simpa using b9' : Box W9 w1.heap.size ([] ++ (r.cells ++ [])) 40)
  have HIr : Hid ((Tryd.prog.info? 40).map (·.size) = some r.cells.length) := by rw [Hid, page_len r hr4]; kernel_rfl
  have HOr : Hid (_) := all_oneCell_toArray (oneP r)
  obtain ⟨WF, hWF, hwF, hsF, HTF, HLF, _⟩ := page_out (C := w.heap.size + 1 + 1) (T := 40) r hr4 zero17 rfl (HB2.out _ B9) Tryd.underlying40 rfl (by kernel_rfl)
  have HOF : Hid (OwnS WF w.heap.size WF.heap.size (qs.set k t)) := (hap.within hwF (.inr (by omega))).widen (by omega) (by omega) (Nat.le_refl _)
  have HBF : Hid (Below w.heap.size w WF) := (hbW.trans (B9.mono (by omega))).trans (hwF.below (by omega) (by have := B9.size; omega))
  have HEND : Hid (∃ ts' : List SlotA, Ending.returned (.tuple #[.agg r.cells.toArray, .bool true]) = .returned (.tuple #[.agg (PageA.cells ⟨SO.1, ts'⟩).toArray, .bool OK]) ∧ Hid (ts'.map (·.v) = SO.2) ∧ OwnS WF w.heap.size WF.heap.size ts' ∧ Below w.heap.size w WF) :=
    ⟨qs.set k t, by rw [HS1.out, HOK.out, HEQ.out], HMV, HOF.out, HBF.out⟩
  have hi0 : (0 : Int) ≤ (k : Int) := by omega
  have hi4 : (k : Int) < 4 := by omega
  generalize qs.getD k zeroS = old at *
  have W9e := hW9.out
  have W8e := hW8.out
  clear hfz hw8 hw9 hwF hsF HOF HBF hap ho3 hot hvt bQ7 b8 b9' hs8 hs9 HEQ HS1 HMV
  rw [← W9e, ← W8e] at rR HTF
  rw [← W8e] at g0 g1
  rw [← W9e, ← W8e] at hWF
  clear W9e W8e hW8 hW9
  go_wp2_with (first | (guard_target = wpList _ _ _ (Oper.mk (some 47) _ _ _ _ _ :: _) _ _; refine wpList_load_mid rfl 40 (.tmp 10) rfl w1.heap.size 0 rfl r.cells _ (rR) Tryd.underlying40 rfl HIr.out ?_) | (guard_target = wpList _ _ _ (Oper.mk none (Op.store _ (Operand.tmp 8) _) _ _ _ _ :: _) _ _; refine wpList_store_mid rfl 40 (.tmp 8) (.tmp 47) rfl (w.heap.size + 1 + 1) 0 r.cells.toArray rfl rfl (HTF.out) (by rw [List.size_toArray]; exact HIr.out) HOr.out ?_) | fail)
  rw [hWF.out]
  exact bodyPost_ret (v := .tuple #[.agg r.cells.toArray, .bool true]) (results_cell_flag Tryd.results44 rfl HLF.out rfl) rfl HEND.out
end Go.Proofs.YtjaojcgfgkppgaaDoor
