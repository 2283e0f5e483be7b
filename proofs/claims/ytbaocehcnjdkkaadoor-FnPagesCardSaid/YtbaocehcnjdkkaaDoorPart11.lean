/- Several texts in one, in their order. -/
import Derived.Test.YtbaocehcnjdkkaaDoorPart5
import Derived.Test.YtbaocehcnjdkkaaDoorPart10
import Derived.Test.YtbaocehcnjdkkaaDoorPart9
import Derived.Test.YtbaocehcnjdkkaaDoorPart8
import Derived.Test.YtbaocehcnjdkkaaDoorPart7
import Derived.Test.YtbaocehcnjdkkaaDoorProg
import Derived.Test.YtbaocehcnjdkkaaDoorPart1
import Derived.ProofKit
import Derived.OpenShut
import Derived.ChangeOld
import Derived.Test.YtbaocehcnjdkkaaDoorPart6
import Derived.Deep.RegionHeld3
import Derived.Test.YtbaocehcnjdkkaaDoorRows
import Derived.LaidLaws
import Derived.LaidHandle
import Derived.Stop.Joined
import Derived.ChangeVars
/- The walk of impl.SetSlot. -/
namespace Go.Proofs.YtbaocehcnjdkkaaDoor
open Go.RowKit

set_option maxHeartbeats 4000000 in
set_option maxRecDepth 100000 in
theorem implSetSlot_any (p : PageA) (h4 : p.ss.length = 4) (slot : Int) (s : SlotA) (lsn : Int) (w : World) (hg : ErrT w) (hr : ReadsS w p.ss) (hl : Fit p.ss) (hrs : s.reads w) (hls : Fit [s]) :
    Calls Tryd.prog 12 #[.agg p.cells.toArray, .int .i64 slot, .agg s.cells.toArray, .int .i64 lsn] w fun e w' => ∃ ts : List SlotA, e = .returned (.tuple #[.agg (PageA.cells ⟨(setOf p.lsn (p.ss.map (·.v)) slot s.v lsn).1, ts⟩).toArray, .bool (setOk p.lsn (p.ss.map (·.v)) slot s.v lsn)]) ∧ Hid (ts.map (·.v) = (setOf p.lsn (p.ss.map (·.v)) slot s.v lsn).2) ∧ OwnS w' w.heap.size w'.heap.size ts ∧ Below w.heap.size w w' := by
  have HNO : Hid (setOk p.lsn (p.ss.map (·.v)) slot s.v lsn = false → setOf p.lsn (p.ss.map (·.v)) slot s.v lsn = (p.lsn, p.ss.map (·.v))) := fun h => setOf_no h
  have HYE : Hid (setOk p.lsn (p.ss.map (·.v)) slot s.v lsn = true → setOf p.lsn (p.ss.map (·.v)) slot s.v lsn = (lsn, (p.ss.map (·.v)).set slot.toNat s.v)) := fun h => setOf_ok h
  have H1 : Hid (okP p.lsn (p.ss.map (·.v)) = false → setOk p.lsn (p.ss.map (·.v)) slot s.v lsn = false) := fun h => setOk_p h
  have H2 : Hid (inB slot 0 3 = false → setOk p.lsn (p.ss.map (·.v)) slot s.v lsn = false) := fun h => setOk_slot h
  have H3 : Hid (slotB s.v = false → setOk p.lsn (p.ss.map (·.v)) slot s.v lsn = false) := fun h => setOk_s h
  have H5 : Hid (inB lsn p.lsn 1000000 = false → setOk p.lsn (p.ss.map (·.v)) slot s.v lsn = false) := fun h => setOk_lsn h
  have H6 : Hid (okP p.lsn (p.ss.map (·.v)) = true → inB slot 0 3 = true → slotB s.v = true → inB lsn p.lsn 1000000 = true → setOk p.lsn (p.ss.map (·.v)) slot s.v lsn = true) := fun a b c d => setOk_all a b c d
  generalize setOk p.lsn (p.ss.map (·.v)) slot s.v lsn = OK at *
  generalize setOf p.lsn (p.ss.map (·.v)) slot s.v lsn = SO at *
  obtain ⟨hls1, hls2⟩ := hls s (List.mem_singleton.2 rfl)
  have HI : Hid ((Tryd.prog.info? 31).map (·.size) = some p.cells.length) := by rw [Hid, page_len p h4]; kernel_rfl
  obtain ⟨W, hW, b0, b1, b2, hbW, hsW⟩ := boxes3 w p.cells s.cells [.int .i64 0, .bool false, .int .i64 0, .slice none 0 0, .slice none 0 0, .bool false, .int .i64 0, .slice none 0 0, .slice none 0 0, .bool false, .int .i64 0, .slice none 0 0, .slice none 0 0, .bool false, .int .i64 0, .slice none 0 0, .slice none 0 0] 31 28 31
  have hsW' : w.heap.size + 1 + 1 < W.heap.size := by omega
  have HRG : Hid (∀ w', Below W.heap.size W w' → w'.rangeAt w.heap.size 0 p.cells) := fun w' hh => Box.range [] p.cells [] (by simpa using b0.below hh b0.lt)
  have b0' : ∀ w', Below W.heap.size W w' → w'.cell? ⟨w.heap.size, 0, none⟩ = some (.int .i64 p.lsn) := fun w' hh => (b0.below hh b0.lt).cell 0 _ rfl
  have HB2 : Hid (∀ w', Below W.heap.size W w' → Box w' (w.heap.size + 1 + 1) zero17 31) := fun w' hh => b2.below hh b2.lt
  have HB1 : Hid (∀ w', Below W.heap.size W w' → Box w' (w.heap.size + 1) s.cells 28) := fun w' hh => b1.below hh b1.lt
  have HL0 : Hid _ := b0'
  clear hsW b0' b2 b1 b0
  simp only [SlotA.cells] at HB1 hW
  simp only [SlotA.cells]
  go_enter Tryd.func12, Tryd.ntmps12
  go_wp2_with (first | (guard_target = wpList _ _ _ (Oper.mk (some 11) _ _ _ _ _ :: _) _ _; refine wpList_load_mid rfl 31 (.tmp 4) rfl w.heap.size 0 rfl p.cells _ (by rw [hW.out]; exact HRG.out _ (Below.refl _ _)) Tryd.underlying31 rfl HI.out ?_) | fail)
  rw [hW.out]
  clear hW
  refine (copyPage_own p h4 W (hr.below hbW) hl).mono ?_
  rintro e w1 ⟨ts, rfl, hv, ho1, hb1⟩
  have hts4 : ts.length = 4 := by have := congrArg List.length hv.out; simp only [List.length_map] at this; omega
  have HV : Hid (ts.map (·.v) = p.ss.map (·.v)) := hv
  generalize hq : (⟨p.lsn, ts⟩ : PageA) = q at *
  have hq4 : q.ss.length = 4 := by rw [← hq]; exact hts4
  have HQ : Hid (q.lsn = p.lsn ∧ q.ss = ts) := by rw [← hq]; exact ⟨rfl, rfl⟩
  clear hq hv
  have hs1 := hb1.size
  have HIq : Hid ((Tryd.prog.info? 31).map (·.size) = some q.cells.length) := by rw [Hid, page_len q hq4]; kernel_rfl
  have HOq : Hid (_) := all_oneCell_toArray (oneP q)
  obtain ⟨W2, hW2, b3, hb2, hs2⟩ := boxes1 w1 [.int .i64 0, .bool false, .int .i64 0, .slice none 0 0, .slice none 0 0, .bool false, .int .i64 0, .slice none 0 0, .slice none 0 0, .bool false, .int .i64 0, .slice none 0 0, .slice none 0 0, .bool false, .int .i64 0, .slice none 0 0, .slice none 0 0] 31
  obtain ⟨W3, hW3, hw3, hs3, HT3, _, bQ⟩ := page_out (C := w1.heap.size) (T := 31) q hq4 [.int .i64 0, .bool false, .int .i64 0, .slice none 0 0, .slice none 0 0, .bool false, .int .i64 0, .slice none 0 0, .slice none 0 0, .bool false, .int .i64 0, .slice none 0 0, .slice none 0 0, .bool false, .int .i64 0, .slice none 0 0, .slice none 0 0] rfl b3 Tryd.underlying31 rfl (by kernel_rfl)
  have B3 : Below W.heap.size W W3 := (hb1.trans (hb2.mono hs1)).trans (hw3.below (by omega) (by omega))
  have ho3 : OwnS W3 W.heap.size w1.heap.size ts := (ho1.below hb2).within hw3 (.inl (Nat.le_refl _))
  have hs13 : w1.heap.size < W3.heap.size := bQ.lt
  have C1 := implPageOk_any p h4 W3 (hg.keep (hbW.trans (B3.mono hbW.size))) (hr.below (hbW.trans (B3.mono hbW.size))) hl
  clear b3 hw3 hs3 ho1 hb1 hb2 hs2
  go_wp2_with (first | (guard_target = wpList _ _ _ (Oper.mk none (Op.store _ (Operand.tmp 10) _) _ _ _ _ :: _) _ _; refine wpList_store_mid rfl 31 (.tmp 10) (.tmp 12) rfl w1.heap.size 0 q.cells.toArray rfl rfl (by rw [hW2.out]; exact HT3.out) (by rw [List.size_toArray]; exact HIq.out) HOq.out ?_) | (guard_target = wpList _ _ _ (Oper.mk (some 13) _ _ _ _ _ :: _) _ _; refine wpList_load_mid rfl 31 (.tmp 4) rfl w.heap.size 0 rfl p.cells _ (by rw [hW2.out, hW3.out]; exact HRG.out _ B3) Tryd.underlying31 rfl HI.out ?_) | fail)
  rw [hW2.out, hW3.out]
  clear hW2 hW3 HT3
  refine C1.mono ?_
  clear C1
  rintro e w4 ⟨rfl, hb4⟩
  have N4 := hb4
  have B4 : Below W.heap.size W w4 := B3.trans (hb4.mono B3.size)
  have hs4 := hb4.size
  cases hok : okP p.lsn (p.ss.map (·.v)) with
  | false =>
    have HOK : Hid (OK = false) := H1.out hok
    clear hok H1 H2 H3 H5 H6
    have bQv := bQ.below N4 hs13
    have rQv := Box.range [] q.cells [] (by simpa using bQv : Box w4 w1.heap.size ([] ++ (q.cells ++ [])) 31)
    obtain ⟨WF, hWF, hwF, hsF, HTF, HLF, _⟩ := page_out (C := w.heap.size + 1 + 1) (T := 31) q hq4 zero17 rfl (HB2.out _ B4) Tryd.underlying31 rfl (by kernel_rfl)
    have HOF : Hid (OwnS WF w.heap.size WF.heap.size ts) := ((ho3.below N4).within hwF (.inr (by omega))).widen (by omega) (by omega) (Nat.le_refl _)
    have HBF : Hid (Below w.heap.size w WF) := (hbW.trans (B4.mono (by omega))).trans (hwF.below (by omega) (by have := B4.size; omega))
    have HEND : Hid (∃ ts' : List SlotA, Ending.returned (.tuple #[.agg q.cells.toArray, .bool false]) = .returned (.tuple #[.agg (PageA.cells ⟨SO.1, ts'⟩).toArray, .bool OK]) ∧ Hid (ts'.map (·.v) = SO.2) ∧ OwnS WF w.heap.size WF.heap.size ts' ∧ Below w.heap.size w WF) := by
      obtain ⟨qn, qs⟩ := q
      obtain ⟨e1, e2⟩ := HQ.out
      simp only at e1 e2
      subst e2
      refine ⟨qs, ?_, ?_, HOF.out, HBF.out⟩
      · rw [HNO.out HOK.out, HOK.out, e1]
      · rw [Hid, HNO.out HOK.out]; exact HV.out
    clear bQv hwF hsF HOF HBF HNO HYE ho3
    go_wp2_with (first | (guard_target = wpList _ _ _ (Oper.mk (some 39) _ _ _ _ _ :: _) _ _; refine wpList_load_mid rfl 31 (.tmp 10) rfl w1.heap.size 0 rfl q.cells _ (rQv) Tryd.underlying31 rfl HIq.out ?_) | (guard_target = wpList _ _ _ (Oper.mk none (Op.store _ (Operand.tmp 8) _) _ _ _ _ :: _) _ _; refine wpList_store_mid rfl 31 (.tmp 8) (.tmp 39) rfl (w.heap.size + 1 + 1) 0 q.cells.toArray rfl rfl (HTF.out) (by rw [List.size_toArray]; exact HIq.out) HOq.out ?_) | fail)
    rw [hWF.out]
    exact bodyPost_ret (v := .tuple #[.agg q.cells.toArray, .bool false]) (results_cell_flag Tryd.results12 rfl HLF.out rfl) rfl HEND.out
  | true =>
  have HP : Hid (_ = _) := hok
  clear hok H1
  cases hin : inB slot 0 3 with
  | false =>
    have HOK : Hid (OK = false) := H2.out hin
    have hz := inB_false hin
    clear hin H2 H3 H5 H6
    rcases hz with hz1 | ⟨hz1, hz2⟩
    · have hd1 : slot < 0 := hz1
      have bQv := bQ.below N4 hs13
      have rQv := Box.range [] q.cells [] (by simpa using bQv : Box w4 w1.heap.size ([] ++ (q.cells ++ [])) 31)
      obtain ⟨WF, hWF, hwF, hsF, HTF, HLF, _⟩ := page_out (C := w.heap.size + 1 + 1) (T := 31) q hq4 zero17 rfl (HB2.out _ B4) Tryd.underlying31 rfl (by kernel_rfl)
      have HOF : Hid (OwnS WF w.heap.size WF.heap.size ts) := ((ho3.below N4).within hwF (.inr (by omega))).widen (by omega) (by omega) (Nat.le_refl _)
      have HBF : Hid (Below w.heap.size w WF) := (hbW.trans (B4.mono (by omega))).trans (hwF.below (by omega) (by have := B4.size; omega))
      have HEND : Hid (∃ ts' : List SlotA, Ending.returned (.tuple #[.agg q.cells.toArray, .bool false]) = .returned (.tuple #[.agg (PageA.cells ⟨SO.1, ts'⟩).toArray, .bool OK]) ∧ Hid (ts'.map (·.v) = SO.2) ∧ OwnS WF w.heap.size WF.heap.size ts' ∧ Below w.heap.size w WF) := by
        obtain ⟨qn, qs⟩ := q
        obtain ⟨e1, e2⟩ := HQ.out
        simp only at e1 e2
        subst e2
        refine ⟨qs, ?_, ?_, HOF.out, HBF.out⟩
        · rw [HNO.out HOK.out, HOK.out, e1]
        · rw [Hid, HNO.out HOK.out]; exact HV.out
      clear bQv hwF hsF HOF HBF HNO HYE ho3
      go_wp2_with (first | (guard_target = wpList _ _ _ (Oper.mk (some 39) _ _ _ _ _ :: _) _ _; refine wpList_load_mid rfl 31 (.tmp 10) rfl w1.heap.size 0 rfl q.cells _ (rQv) Tryd.underlying31 rfl HIq.out ?_) | (guard_target = wpList _ _ _ (Oper.mk none (Op.store _ (Operand.tmp 8) _) _ _ _ _ :: _) _ _; refine wpList_store_mid rfl 31 (.tmp 8) (.tmp 39) rfl (w.heap.size + 1 + 1) 0 q.cells.toArray rfl rfl (HTF.out) (by rw [List.size_toArray]; exact HIq.out) HOq.out ?_) | fail)
      rw [hWF.out]
      exact bodyPost_ret (v := .tuple #[.agg q.cells.toArray, .bool false]) (results_cell_flag Tryd.results12 rfl HLF.out rfl) rfl HEND.out
    · have hd1 : ¬ slot < 0 := hz1
      have hd2 : 4 ≤ slot := by omega
      clear hz1 hz2
      have bQv := bQ.below N4 hs13
      have rQv := Box.range [] q.cells [] (by simpa using bQv : Box w4 w1.heap.size ([] ++ (q.cells ++ [])) 31)
      obtain ⟨WF, hWF, hwF, hsF, HTF, HLF, _⟩ := page_out (C := w.heap.size + 1 + 1) (T := 31) q hq4 zero17 rfl (HB2.out _ B4) Tryd.underlying31 rfl (by kernel_rfl)
      have HOF : Hid (OwnS WF w.heap.size WF.heap.size ts) := ((ho3.below N4).within hwF (.inr (by omega))).widen (by omega) (by omega) (Nat.le_refl _)
      have HBF : Hid (Below w.heap.size w WF) := (hbW.trans (B4.mono (by omega))).trans (hwF.below (by omega) (by have := B4.size; omega))
      have HEND : Hid (∃ ts' : List SlotA, Ending.returned (.tuple #[.agg q.cells.toArray, .bool false]) = .returned (.tuple #[.agg (PageA.cells ⟨SO.1, ts'⟩).toArray, .bool OK]) ∧ Hid (ts'.map (·.v) = SO.2) ∧ OwnS WF w.heap.size WF.heap.size ts' ∧ Below w.heap.size w WF) := by
        obtain ⟨qn, qs⟩ := q
        obtain ⟨e1, e2⟩ := HQ.out
        simp only at e1 e2
        subst e2
        refine ⟨qs, ?_, ?_, HOF.out, HBF.out⟩
        · rw [HNO.out HOK.out, HOK.out, e1]
        · rw [Hid, HNO.out HOK.out]; exact HV.out
      clear bQv hwF hsF HOF HBF HNO HYE ho3
      go_wp2_with (first | (guard_target = wpList _ _ _ (Oper.mk (some 39) _ _ _ _ _ :: _) _ _; refine wpList_load_mid rfl 31 (.tmp 10) rfl w1.heap.size 0 rfl q.cells _ (rQv) Tryd.underlying31 rfl HIq.out ?_) | (guard_target = wpList _ _ _ (Oper.mk none (Op.store _ (Operand.tmp 8) _) _ _ _ _ :: _) _ _; refine wpList_store_mid rfl 31 (.tmp 8) (.tmp 39) rfl (w.heap.size + 1 + 1) 0 q.cells.toArray rfl rfl (HTF.out) (by rw [List.size_toArray]; exact HIq.out) HOq.out ?_) | fail)
      rw [hWF.out]
      exact bodyPost_ret (v := .tuple #[.agg q.cells.toArray, .bool false]) (results_cell_flag Tryd.results12 rfl HLF.out rfl) rfl HEND.out
  | true =>
  have HIN : Hid (_ = _) := hin
  obtain ⟨hz1, hz2⟩ := inB_true hin
  clear hin H2
  have hd2 : ¬ 4 ≤ slot := by omega
  have bs4 := HB1.out _ B4
  obtain ⟨x0, x1, x2, x3, _⟩ := bs4.four
  have C2 := slotOk_any s w4 (hg.keep (hbW.trans (B4.mono hbW.size))) (ReadsO.below hrs (hbW.trans (B4.mono hbW.size))) hls
  simp only [SlotA.cells] at C2
  go_wp2_with fail
  refine C2.mono ?_
  clear C2 x0 x1 x2 x3
  rintro e w5 ⟨rfl, hb5⟩
  have N5 : Below W3.heap.size W3 w5 := N4.trans (hb5.mono N4.size)
  have B5 : Below W.heap.size W w5 := B4.trans (hb5.mono B4.size)
  have hs5 := hb5.size
  cases hsb : slotB s.v with
  | false =>
    have HOK : Hid (OK = false) := H3.out hsb
    clear hsb H3 H5 H6
    have bQv := bQ.below N5 hs13
    have rQv := Box.range [] q.cells [] (by simpa using bQv : Box w5 w1.heap.size ([] ++ (q.cells ++ [])) 31)
    obtain ⟨WF, hWF, hwF, hsF, HTF, HLF, _⟩ := page_out (C := w.heap.size + 1 + 1) (T := 31) q hq4 zero17 rfl (HB2.out _ B5) Tryd.underlying31 rfl (by kernel_rfl)
    have HOF : Hid (OwnS WF w.heap.size WF.heap.size ts) := ((ho3.below N5).within hwF (.inr (by omega))).widen (by omega) (by omega) (Nat.le_refl _)
    have HBF : Hid (Below w.heap.size w WF) := (hbW.trans (B5.mono (by omega))).trans (hwF.below (by omega) (by have := B5.size; omega))
    have HEND : Hid (∃ ts' : List SlotA, Ending.returned (.tuple #[.agg q.cells.toArray, .bool false]) = .returned (.tuple #[.agg (PageA.cells ⟨SO.1, ts'⟩).toArray, .bool OK]) ∧ Hid (ts'.map (·.v) = SO.2) ∧ OwnS WF w.heap.size WF.heap.size ts' ∧ Below w.heap.size w WF) := by
      obtain ⟨qn, qs⟩ := q
      obtain ⟨e1, e2⟩ := HQ.out
      simp only at e1 e2
      subst e2
      refine ⟨qs, ?_, ?_, HOF.out, HBF.out⟩
      · rw [HNO.out HOK.out, HOK.out, e1]
      · rw [Hid, HNO.out HOK.out]; exact HV.out
    clear bQv hwF hsF HOF HBF HNO HYE ho3
    go_wp2_with (first | (guard_target = wpList _ _ _ (Oper.mk (some 39) _ _ _ _ _ :: _) _ _; refine wpList_load_mid rfl 31 (.tmp 10) rfl w1.heap.size 0 rfl q.cells _ (rQv) Tryd.underlying31 rfl HIq.out ?_) | (guard_target = wpList _ _ _ (Oper.mk none (Op.store _ (Operand.tmp 8) _) _ _ _ _ :: _) _ _; refine wpList_store_mid rfl 31 (.tmp 8) (.tmp 39) rfl (w.heap.size + 1 + 1) 0 q.cells.toArray rfl rfl (HTF.out) (by rw [List.size_toArray]; exact HIq.out) HOq.out ?_) | fail)
    rw [hWF.out]
    exact bodyPost_ret (v := .tuple #[.agg q.cells.toArray, .bool false]) (results_cell_flag Tryd.results12 rfl HLF.out rfl) rfl HEND.out
  | true =>
  have HSB : Hid (_ = _) := hsb
  clear hsb H3
  have y0 := HL0.out _ B5
  cases hln : inB lsn p.lsn 1000000 with
  | false =>
    have HOK : Hid (OK = false) := H5.out hln
    have hz := inB_false hln
    clear hln H5 H6
    rcases hz with hl1 | ⟨hl1, hl2⟩
    · have hd5 : lsn < p.lsn := hl1
      generalize p.lsn = pn at *
      have bQv := bQ.below N5 hs13
      have rQv := Box.range [] q.cells [] (by simpa using bQv : Box w5 w1.heap.size ([] ++ (q.cells ++ [])) 31)
      obtain ⟨WF, hWF, hwF, hsF, HTF, HLF, _⟩ := page_out (C := w.heap.size + 1 + 1) (T := 31) q hq4 zero17 rfl (HB2.out _ B5) Tryd.underlying31 rfl (by kernel_rfl)
      have HOF : Hid (OwnS WF w.heap.size WF.heap.size ts) := ((ho3.below N5).within hwF (.inr (by omega))).widen (by omega) (by omega) (Nat.le_refl _)
      have HBF : Hid (Below w.heap.size w WF) := (hbW.trans (B5.mono (by omega))).trans (hwF.below (by omega) (by have := B5.size; omega))
      have HEND : Hid (∃ ts' : List SlotA, Ending.returned (.tuple #[.agg q.cells.toArray, .bool false]) = .returned (.tuple #[.agg (PageA.cells ⟨SO.1, ts'⟩).toArray, .bool OK]) ∧ Hid (ts'.map (·.v) = SO.2) ∧ OwnS WF w.heap.size WF.heap.size ts' ∧ Below w.heap.size w WF) := by
        obtain ⟨qn, qs⟩ := q
        obtain ⟨e1, e2⟩ := HQ.out
        simp only at e1 e2
        subst e2
        refine ⟨qs, ?_, ?_, HOF.out, HBF.out⟩
        · rw [HNO.out HOK.out, HOK.out, e1]
        · rw [Hid, HNO.out HOK.out]; exact HV.out
      clear bQv hwF hsF HOF HBF HNO HYE ho3
      go_wp2_with (first | (guard_target = wpList _ _ _ (Oper.mk (some 39) _ _ _ _ _ :: _) _ _; refine wpList_load_mid rfl 31 (.tmp 10) rfl w1.heap.size 0 rfl q.cells _ (rQv) Tryd.underlying31 rfl HIq.out ?_) | (guard_target = wpList _ _ _ (Oper.mk none (Op.store _ (Operand.tmp 8) _) _ _ _ _ :: _) _ _; refine wpList_store_mid rfl 31 (.tmp 8) (.tmp 39) rfl (w.heap.size + 1 + 1) 0 q.cells.toArray rfl rfl (HTF.out) (by rw [List.size_toArray]; exact HIq.out) HOq.out ?_) | fail)
      rw [hWF.out]
      exact bodyPost_ret (v := .tuple #[.agg q.cells.toArray, .bool false]) (results_cell_flag Tryd.results12 rfl HLF.out rfl) rfl HEND.out
    · generalize p.lsn = pn at *
      have bQv := bQ.below N5 hs13
      have rQv := Box.range [] q.cells [] (by simpa using bQv : Box w5 w1.heap.size ([] ++ (q.cells ++ [])) 31)
      obtain ⟨WF, hWF, hwF, hsF, HTF, HLF, _⟩ := page_out (C := w.heap.size + 1 + 1) (T := 31) q hq4 zero17 rfl (HB2.out _ B5) Tryd.underlying31 rfl (by kernel_rfl)
      have HOF : Hid (OwnS WF w.heap.size WF.heap.size ts) := ((ho3.below N5).within hwF (.inr (by omega))).widen (by omega) (by omega) (Nat.le_refl _)
      have HBF : Hid (Below w.heap.size w WF) := (hbW.trans (B5.mono (by omega))).trans (hwF.below (by omega) (by have := B5.size; omega))
      have HEND : Hid (∃ ts' : List SlotA, Ending.returned (.tuple #[.agg q.cells.toArray, .bool false]) = .returned (.tuple #[.agg (PageA.cells ⟨SO.1, ts'⟩).toArray, .bool OK]) ∧ Hid (ts'.map (·.v) = SO.2) ∧ OwnS WF w.heap.size WF.heap.size ts' ∧ Below w.heap.size w WF) := by
        obtain ⟨qn, qs⟩ := q
        obtain ⟨e1, e2⟩ := HQ.out
        simp only at e1 e2
        subst e2
        refine ⟨qs, ?_, ?_, HOF.out, HBF.out⟩
        · rw [HNO.out HOK.out, HOK.out, e1]
        · rw [Hid, HNO.out HOK.out]; exact HV.out
      clear bQv hwF hsF HOF HBF HNO HYE ho3
      go_wp2_with (first | (guard_target = wpList _ _ _ (Oper.mk (some 39) _ _ _ _ _ :: _) _ _; refine wpList_load_mid rfl 31 (.tmp 10) rfl w1.heap.size 0 rfl q.cells _ (rQv) Tryd.underlying31 rfl HIq.out ?_) | (guard_target = wpList _ _ _ (Oper.mk none (Op.store _ (Operand.tmp 8) _) _ _ _ _ :: _) _ _; refine wpList_store_mid rfl 31 (.tmp 8) (.tmp 39) rfl (w.heap.size + 1 + 1) 0 q.cells.toArray rfl rfl (HTF.out) (by rw [List.size_toArray]; exact HIq.out) HOq.out ?_) | fail)
      rw [hWF.out]
      exact bodyPost_ret (v := .tuple #[.agg q.cells.toArray, .bool false]) (results_cell_flag Tryd.results12 rfl HLF.out rfl) rfl HEND.out
  | true =>
  have HLN : Hid (_ = _) := hln
  obtain ⟨hl1, hl2⟩ := inB_true hln
  clear hln H5
  have HOK : Hid (OK = true) := H6.out HP.out HIN.out HSB.out HLN.out
  have HSO : Hid (SO = (lsn, (p.ss.map (·.v)).set slot.toNat s.v)) := HYE.out HOK.out
  clear H6 HNO HYE
  obtain ⟨k, rfl⟩ : ∃ k : Nat, slot = (k : Int) := ⟨slot.toNat, by omega⟩
  have hk4 : k < 4 := by omega
  have bs5 := HB1.out _ B5
  obtain ⟨x0, x1, x2, x3, _⟩ := bs5.four
  have C3 := copySlot_own s w5 (ReadsO.below hrs (hbW.trans (B5.mono hbW.size))) hls1 hls2
  simp only [SlotA.cells] at C3
  go_wp2_with fail
  refine C3.mono ?_
  clear C3 x0 x1 x2 x3 y0
  rintro e w7 ⟨t, rfl, hvt, hot, hb7⟩
  have N7 : Below W3.heap.size W3 w7 := N5.trans (hb7.mono N5.size)
  have B7 : Below W.heap.size W w7 := B5.trans (hb7.mono B5.size)
  have hs7 := hb7.size
  obtain ⟨qn, qs⟩ := q
  simp only [PageA.cells] at bQ
  obtain ⟨hqn, hqs⟩ := HQ.out
  simp only at hqn hqs
  subst hqs
  have hs3n := N5.size
  have bQ7 := bQ.below N7 hs13
  have hkl : k < qs.length := by rw [hts4]; exact hk4
  obtain ⟨W8, hW8, b8, hw8, hs8⟩ := pslot_fill bQ7 k hkl t
  obtain ⟨z0, z1, z2, z3, hfz⟩ := bQ7.pslot k hkl
  have f0 := hfz (1 + k * 4)
  have f1 := hfz (1 + k * 4 + 1)
  have f2 := hfz (1 + k * 4 + 2)
  have f3 := hfz (1 + k * 4 + 3)
  obtain ⟨W9, hW9, b9, hw9, hs9⟩ := box_set b8 0 (.int .i64 lsn)
  simp only [List.set_cons_zero] at b9
  have g0 := b8.cell 0 _ rfl
  have g1 := b8.frozen 0
  have B9 : Below W.heap.size W W9 := (B7.trans (hw8.below hs1 (by omega))).trans (hw9.below hs1 (by omega))
  have hr4 : (⟨lsn, qs.set k t⟩ : PageA).ss.length = 4 := by simp only [List.length_set]; exact hts4
  have hap : OwnS W9 W.heap.size w7.heap.size (qs.set k t) := by
    have o1 : OwnS W9 W.heap.size w1.heap.size qs := ((ho3.below N7).within hw8 (.inl (Nat.le_refl _))).within hw9 (.inl (Nat.le_refl _))
    have o2 : t.own W9 w5.heap.size w7.heap.size := OwnO.within (OwnO.within hot hw8 (.inr (by omega))) hw9 (.inr (by omega))
    exact o1.set k o2 (by omega) (by omega) (by omega)
  have HMV : Hid ((qs.set k t).map (·.v) = SO.2) := by rw [Hid, HSO.out, List.map_set, HV.out, hvt.out, Int.toNat_natCast]
  have HS1 : Hid (SO.1 = lsn) := by rw [Hid, HSO.out]
  generalize hrr : (⟨lsn, qs.set k t⟩ : PageA) = r at *
  have b9' : Box W9 w1.heap.size r.cells 31 := by rw [← hrr]; exact b9
  have HEQ : Hid (r = ⟨lsn, qs.set k t⟩) := hrr.symm
  clear hrr b9
  have rR := Box.range [] r.cells [] (by simpa using b9' : Box W9 w1.heap.size ([] ++ (r.cells ++ [])) 31)
  have HIr : Hid ((Tryd.prog.info? 31).map (·.size) = some r.cells.length) := by rw [Hid, page_len r hr4]; kernel_rfl
  have HOr : Hid (_) := all_oneCell_toArray (oneP r)
  obtain ⟨WF, hWF, hwF, hsF, HTF, HLF, _⟩ := page_out (C := w.heap.size + 1 + 1) (T := 31) r hr4 zero17 rfl (HB2.out _ B9) Tryd.underlying31 rfl (by kernel_rfl)
  have HOF : Hid (OwnS WF w.heap.size WF.heap.size (qs.set k t)) := (hap.within hwF (.inr (by omega))).widen (by omega) (by omega) (Nat.le_refl _)
  have HBF : Hid (Below w.heap.size w WF) := (hbW.trans (B9.mono (by omega))).trans (hwF.below (by omega) (by have := B9.size; omega))
  have HEND : Hid (∃ ts' : List SlotA, Ending.returned (.tuple #[.agg r.cells.toArray, .bool true]) = .returned (.tuple #[.agg (PageA.cells ⟨SO.1, ts'⟩).toArray, .bool OK]) ∧ Hid (ts'.map (·.v) = SO.2) ∧ OwnS WF w.heap.size WF.heap.size ts' ∧ Below w.heap.size w WF) :=
    ⟨qs.set k t, by rw [HS1.out, HOK.out, HEQ.out], HMV, HOF.out, HBF.out⟩
  have hi0 : (0 : Int) ≤ (k : Int) := by omega
  have hi4 : (k : Int) < 4 := by omega
  generalize qs.getD k zeroS = old at *
  have W9e := hW9.out
  have W8e := hW8.out
  clear hfz hw8 hw9 hwF hsF HOF HBF hap ho3 hot hvt bQ7 b8 b9' hs8 hs9 HEQ HS1 HMV
  rw [← W9e, ← W8e] at rR HTF
  rw [← W8e] at g0 g1
  rw [← W9e, ← W8e] at hWF
  clear W9e W8e hW8 hW9
  go_wp2_with (first | (guard_target = wpList _ _ _ (Oper.mk (some 47) _ _ _ _ _ :: _) _ _; refine wpList_load_mid rfl 31 (.tmp 10) rfl w1.heap.size 0 rfl r.cells _ (rR) Tryd.underlying31 rfl HIr.out ?_) | (guard_target = wpList _ _ _ (Oper.mk none (Op.store _ (Operand.tmp 8) _) _ _ _ _ :: _) _ _; refine wpList_store_mid rfl 31 (.tmp 8) (.tmp 47) rfl (w.heap.size + 1 + 1) 0 r.cells.toArray rfl rfl (HTF.out) (by rw [List.size_toArray]; exact HIr.out) HOr.out ?_) | fail)
  rw [hWF.out]
  exact bodyPost_ret (v := .tuple #[.agg r.cells.toArray, .bool true]) (results_cell_flag Tryd.results12 rfl HLF.out rfl) rfl HEND.out
end Go.Proofs.YtbaocehcnjdkkaaDoor

/- The walk of spec.SetSlot. -/
namespace Go.Proofs.YtbaocehcnjdkkaaDoor
open Go.RowKit

set_option maxHeartbeats 4000000 in
set_option maxRecDepth 100000 in
theorem specSetSlot_any (p : PageA) (h4 : p.ss.length = 4) (slot : Int) (s : SlotA) (lsn : Int) (w : World) (hr : ReadsS w p.ss) (hl : Fit p.ss) (hrs : s.reads w) (hls : Fit [s]) :
    Calls Tryd.prog 16 #[.agg p.cells.toArray, .int .i64 slot, .agg s.cells.toArray, .int .i64 lsn] w fun e w' => ∃ ts : List SlotA, e = .returned (.tuple #[.agg (PageA.cells ⟨(setOf p.lsn (p.ss.map (·.v)) slot s.v lsn).1, ts⟩).toArray, .bool (setOk p.lsn (p.ss.map (·.v)) slot s.v lsn)]) ∧ Hid (ts.map (·.v) = (setOf p.lsn (p.ss.map (·.v)) slot s.v lsn).2) ∧ OwnS w' w.heap.size w'.heap.size ts ∧ Below w.heap.size w w' := by
  have HNO : Hid (setOk p.lsn (p.ss.map (·.v)) slot s.v lsn = false → setOf p.lsn (p.ss.map (·.v)) slot s.v lsn = (p.lsn, p.ss.map (·.v))) := fun h => setOf_no h
  have HYE : Hid (setOk p.lsn (p.ss.map (·.v)) slot s.v lsn = true → setOf p.lsn (p.ss.map (·.v)) slot s.v lsn = (lsn, (p.ss.map (·.v)).set slot.toNat s.v)) := fun h => setOf_ok h
  have H1 : Hid (okP p.lsn (p.ss.map (·.v)) = false → setOk p.lsn (p.ss.map (·.v)) slot s.v lsn = false) := fun h => setOk_p h
  have H2 : Hid (inB slot 0 3 = false → setOk p.lsn (p.ss.map (·.v)) slot s.v lsn = false) := fun h => setOk_slot h
  have H3 : Hid (slotB s.v = false → setOk p.lsn (p.ss.map (·.v)) slot s.v lsn = false) := fun h => setOk_s h
  have H5 : Hid (inB lsn p.lsn 1000000 = false → setOk p.lsn (p.ss.map (·.v)) slot s.v lsn = false) := fun h => setOk_lsn h
  have H6 : Hid (okP p.lsn (p.ss.map (·.v)) = true → inB slot 0 3 = true → slotB s.v = true → inB lsn p.lsn 1000000 = true → setOk p.lsn (p.ss.map (·.v)) slot s.v lsn = true) := fun a b c d => setOk_all a b c d
  generalize setOk p.lsn (p.ss.map (·.v)) slot s.v lsn = OK at *
  generalize setOf p.lsn (p.ss.map (·.v)) slot s.v lsn = SO at *
  obtain ⟨hls1, hls2⟩ := hls s (List.mem_singleton.2 rfl)
  have HI : Hid ((Tryd.prog.info? 31).map (·.size) = some p.cells.length) := by rw [Hid, page_len p h4]; kernel_rfl
  obtain ⟨W, hW, b0, b1, b2, hbW, hsW⟩ := boxes3 w p.cells s.cells [.int .i64 0, .bool false, .int .i64 0, .slice none 0 0, .slice none 0 0, .bool false, .int .i64 0, .slice none 0 0, .slice none 0 0, .bool false, .int .i64 0, .slice none 0 0, .slice none 0 0, .bool false, .int .i64 0, .slice none 0 0, .slice none 0 0] 31 28 31
  have hsW' : w.heap.size + 1 + 1 < W.heap.size := by omega
  have HRG : Hid (∀ w', Below W.heap.size W w' → w'.rangeAt w.heap.size 0 p.cells) := fun w' hh => Box.range [] p.cells [] (by simpa using b0.below hh b0.lt)
  have b0' : ∀ w', Below W.heap.size W w' → w'.cell? ⟨w.heap.size, 0, none⟩ = some (.int .i64 p.lsn) := fun w' hh => (b0.below hh b0.lt).cell 0 _ rfl
  have HB2 : Hid (∀ w', Below W.heap.size W w' → Box w' (w.heap.size + 1 + 1) zero17 31) := fun w' hh => b2.below hh b2.lt
  have HB1 : Hid (∀ w', Below W.heap.size W w' → Box w' (w.heap.size + 1) s.cells 28) := fun w' hh => b1.below hh b1.lt
  have HL0 : Hid _ := b0'
  clear hsW b0' b2 b1 b0
  simp only [SlotA.cells] at HB1 hW
  simp only [SlotA.cells]
  go_enter Tryd.func16, Tryd.ntmps16
  go_wp2_with (first | (guard_target = wpList _ _ _ (Oper.mk (some 11) _ _ _ _ _ :: _) _ _; refine wpList_load_mid rfl 31 (.tmp 4) rfl w.heap.size 0 rfl p.cells _ (by rw [hW.out]; exact HRG.out _ (Below.refl _ _)) Tryd.underlying31 rfl HI.out ?_) | fail)
  rw [hW.out]
  clear hW
  refine (l3Copy_own p h4 W (hr.below hbW) hl).mono ?_
  rintro e w1 ⟨ts, rfl, hv, ho1, hb1⟩
  have hts4 : ts.length = 4 := by have := congrArg List.length hv.out; simp only [List.length_map] at this; omega
  have HV : Hid (ts.map (·.v) = p.ss.map (·.v)) := hv
  generalize hq : (⟨p.lsn, ts⟩ : PageA) = q at *
  have hq4 : q.ss.length = 4 := by rw [← hq]; exact hts4
  have HQ : Hid (q.lsn = p.lsn ∧ q.ss = ts) := by rw [← hq]; exact ⟨rfl, rfl⟩
  clear hq hv
  have hs1 := hb1.size
  have HIq : Hid ((Tryd.prog.info? 31).map (·.size) = some q.cells.length) := by rw [Hid, page_len q hq4]; kernel_rfl
  have HOq : Hid (_) := all_oneCell_toArray (oneP q)
  obtain ⟨W2, hW2, b3, hb2, hs2⟩ := boxes1 w1 [.int .i64 0, .bool false, .int .i64 0, .slice none 0 0, .slice none 0 0, .bool false, .int .i64 0, .slice none 0 0, .slice none 0 0, .bool false, .int .i64 0, .slice none 0 0, .slice none 0 0, .bool false, .int .i64 0, .slice none 0 0, .slice none 0 0] 31
  obtain ⟨W3, hW3, hw3, hs3, HT3, _, bQ⟩ := page_out (C := w1.heap.size) (T := 31) q hq4 [.int .i64 0, .bool false, .int .i64 0, .slice none 0 0, .slice none 0 0, .bool false, .int .i64 0, .slice none 0 0, .slice none 0 0, .bool false, .int .i64 0, .slice none 0 0, .slice none 0 0, .bool false, .int .i64 0, .slice none 0 0, .slice none 0 0] rfl b3 Tryd.underlying31 rfl (by kernel_rfl)
  have B3 : Below W.heap.size W W3 := (hb1.trans (hb2.mono hs1)).trans (hw3.below (by omega) (by omega))
  have ho3 : OwnS W3 W.heap.size w1.heap.size ts := (ho1.below hb2).within hw3 (.inl (Nat.le_refl _))
  have hs13 : w1.heap.size < W3.heap.size := bQ.lt
  have C1 := specPageOk_any p h4 W3 (hr.below (hbW.trans (B3.mono hbW.size))) hl
  clear b3 hw3 hs3 ho1 hb1 hb2 hs2
  go_wp2_with (first | (guard_target = wpList _ _ _ (Oper.mk none (Op.store _ (Operand.tmp 10) _) _ _ _ _ :: _) _ _; refine wpList_store_mid rfl 31 (.tmp 10) (.tmp 12) rfl w1.heap.size 0 q.cells.toArray rfl rfl (by rw [hW2.out]; exact HT3.out) (by rw [List.size_toArray]; exact HIq.out) HOq.out ?_) | (guard_target = wpList _ _ _ (Oper.mk (some 13) _ _ _ _ _ :: _) _ _; refine wpList_load_mid rfl 31 (.tmp 4) rfl w.heap.size 0 rfl p.cells _ (by rw [hW2.out, hW3.out]; exact HRG.out _ B3) Tryd.underlying31 rfl HI.out ?_) | fail)
  rw [hW2.out, hW3.out]
  clear hW2 hW3 HT3
  refine C1.mono ?_
  clear C1
  rintro e w4 ⟨rfl, hb4⟩
  have N4 := hb4
  have B4 : Below W.heap.size W w4 := B3.trans (hb4.mono B3.size)
  have hs4 := hb4.size
  cases hok : okP p.lsn (p.ss.map (·.v)) with
  | false =>
    have HOK : Hid (OK = false) := H1.out hok
    clear hok H1 H2 H3 H5 H6
    have bQv := bQ.below N4 hs13
    have rQv := Box.range [] q.cells [] (by simpa using bQv : Box w4 w1.heap.size ([] ++ (q.cells ++ [])) 31)
    obtain ⟨WF, hWF, hwF, hsF, HTF, HLF, _⟩ := page_out (C := w.heap.size + 1 + 1) (T := 31) q hq4 zero17 rfl (HB2.out _ B4) Tryd.underlying31 rfl (by kernel_rfl)
    have HOF : Hid (OwnS WF w.heap.size WF.heap.size ts) := ((ho3.below N4).within hwF (.inr (by omega))).widen (by omega) (by omega) (Nat.le_refl _)
    have HBF : Hid (Below w.heap.size w WF) := (hbW.trans (B4.mono (by omega))).trans (hwF.below (by omega) (by have := B4.size; omega))
    have HEND : Hid (∃ ts' : List SlotA, Ending.returned (.tuple #[.agg q.cells.toArray, .bool false]) = .returned (.tuple #[.agg (PageA.cells ⟨SO.1, ts'⟩).toArray, .bool OK]) ∧ Hid (ts'.map (·.v) = SO.2) ∧ OwnS WF w.heap.size WF.heap.size ts' ∧ Below w.heap.size w WF) := by
      obtain ⟨qn, qs⟩ := q
      obtain ⟨e1, e2⟩ := HQ.out
      simp only at e1 e2
      subst e2
      refine ⟨qs, ?_, ?_, HOF.out, HBF.out⟩
      · rw [HNO.out HOK.out, HOK.out, e1]
      · rw [Hid, HNO.out HOK.out]; exact HV.out
    clear bQv hwF hsF HOF HBF HNO HYE ho3
    go_wp2_with (first | (guard_target = wpList _ _ _ (Oper.mk (some 33) _ _ _ _ _ :: _) _ _; refine wpList_load_mid rfl 31 (.tmp 10) rfl w1.heap.size 0 rfl q.cells _ (rQv) Tryd.underlying31 rfl HIq.out ?_) | (guard_target = wpList _ _ _ (Oper.mk none (Op.store _ (Operand.tmp 8) _) _ _ _ _ :: _) _ _; refine wpList_store_mid rfl 31 (.tmp 8) (.tmp 33) rfl (w.heap.size + 1 + 1) 0 q.cells.toArray rfl rfl (HTF.out) (by rw [List.size_toArray]; exact HIq.out) HOq.out ?_) | fail)
    rw [hWF.out]
    exact bodyPost_ret (v := .tuple #[.agg q.cells.toArray, .bool false]) (results_cell_flag Tryd.results16 rfl HLF.out rfl) rfl HEND.out
  | true =>
  have HP : Hid (_ = _) := hok
  clear hok H1
  cases hin : inB slot 0 3 with
  | false =>
    have HOK : Hid (OK = false) := H2.out hin
    have HIN : Hid (_ = _) := hin
    clear hin H2 H3 H5 H6
    go_wp2_with fail
    refine (l1In_any _ _ _ _).mono ?_
    rintro e w5 ⟨rfl, rfl⟩
    rw [HIN.out]
    have N5 := N4
    have B5 := B4
    have bQv := bQ.below N5 hs13
    have rQv := Box.range [] q.cells [] (by simpa using bQv : Box w5 w1.heap.size ([] ++ (q.cells ++ [])) 31)
    obtain ⟨WF, hWF, hwF, hsF, HTF, HLF, _⟩ := page_out (C := w.heap.size + 1 + 1) (T := 31) q hq4 zero17 rfl (HB2.out _ B5) Tryd.underlying31 rfl (by kernel_rfl)
    have HOF : Hid (OwnS WF w.heap.size WF.heap.size ts) := ((ho3.below N5).within hwF (.inr (by omega))).widen (by omega) (by omega) (Nat.le_refl _)
    have HBF : Hid (Below w.heap.size w WF) := (hbW.trans (B5.mono (by omega))).trans (hwF.below (by omega) (by have := B5.size; omega))
    have HEND : Hid (∃ ts' : List SlotA, Ending.returned (.tuple #[.agg q.cells.toArray, .bool false]) = .returned (.tuple #[.agg (PageA.cells ⟨SO.1, ts'⟩).toArray, .bool OK]) ∧ Hid (ts'.map (·.v) = SO.2) ∧ OwnS WF w.heap.size WF.heap.size ts' ∧ Below w.heap.size w WF) := by
      obtain ⟨qn, qs⟩ := q
      obtain ⟨e1, e2⟩ := HQ.out
      simp only at e1 e2
      subst e2
      refine ⟨qs, ?_, ?_, HOF.out, HBF.out⟩
      · rw [HNO.out HOK.out, HOK.out, e1]
      · rw [Hid, HNO.out HOK.out]; exact HV.out
    clear bQv hwF hsF HOF HBF HNO HYE ho3
    go_wp2_with (first | (guard_target = wpList _ _ _ (Oper.mk (some 33) _ _ _ _ _ :: _) _ _; refine wpList_load_mid rfl 31 (.tmp 10) rfl w1.heap.size 0 rfl q.cells _ (rQv) Tryd.underlying31 rfl HIq.out ?_) | (guard_target = wpList _ _ _ (Oper.mk none (Op.store _ (Operand.tmp 8) _) _ _ _ _ :: _) _ _; refine wpList_store_mid rfl 31 (.tmp 8) (.tmp 33) rfl (w.heap.size + 1 + 1) 0 q.cells.toArray rfl rfl (HTF.out) (by rw [List.size_toArray]; exact HIq.out) HOq.out ?_) | fail)
    rw [hWF.out]
    exact bodyPost_ret (v := .tuple #[.agg q.cells.toArray, .bool false]) (results_cell_flag Tryd.results16 rfl HLF.out rfl) rfl HEND.out
  | true =>
  have HIN : Hid (_ = _) := hin
  obtain ⟨hz1, hz2⟩ := inB_true hin
  clear hin H2
  have hd2 : ¬ 4 ≤ slot := by omega
  have bs4 := HB1.out _ B4
  obtain ⟨x0, x1, x2, x3, _⟩ := bs4.four
  have C2 := l3Slot_any s w4 (ReadsO.below hrs (hbW.trans (B4.mono hbW.size))) hls
  simp only [SlotA.cells] at C2
  go_wp2_with fail
  refine (l1In_any _ _ _ _).mono ?_
  rintro e w4' ⟨rfl, rfl⟩
  rw [HIN.out]
  go_wp2_with fail
  refine C2.mono ?_
  clear C2 x0 x1 x2 x3
  rintro e w5 ⟨rfl, hb5⟩
  have N5 : Below W3.heap.size W3 w5 := N4.trans (hb5.mono N4.size)
  have B5 : Below W.heap.size W w5 := B4.trans (hb5.mono B4.size)
  have hs5 := hb5.size
  cases hsb : slotB s.v with
  | false =>
    have HOK : Hid (OK = false) := H3.out hsb
    clear hsb H3 H5 H6
    have bQv := bQ.below N5 hs13
    have rQv := Box.range [] q.cells [] (by simpa using bQv : Box w5 w1.heap.size ([] ++ (q.cells ++ [])) 31)
    obtain ⟨WF, hWF, hwF, hsF, HTF, HLF, _⟩ := page_out (C := w.heap.size + 1 + 1) (T := 31) q hq4 zero17 rfl (HB2.out _ B5) Tryd.underlying31 rfl (by kernel_rfl)
    have HOF : Hid (OwnS WF w.heap.size WF.heap.size ts) := ((ho3.below N5).within hwF (.inr (by omega))).widen (by omega) (by omega) (Nat.le_refl _)
    have HBF : Hid (Below w.heap.size w WF) := (hbW.trans (B5.mono (by omega))).trans (hwF.below (by omega) (by have := B5.size; omega))
    have HEND : Hid (∃ ts' : List SlotA, Ending.returned (.tuple #[.agg q.cells.toArray, .bool false]) = .returned (.tuple #[.agg (PageA.cells ⟨SO.1, ts'⟩).toArray, .bool OK]) ∧ Hid (ts'.map (·.v) = SO.2) ∧ OwnS WF w.heap.size WF.heap.size ts' ∧ Below w.heap.size w WF) := by
      obtain ⟨qn, qs⟩ := q
      obtain ⟨e1, e2⟩ := HQ.out
      simp only at e1 e2
      subst e2
      refine ⟨qs, ?_, ?_, HOF.out, HBF.out⟩
      · rw [HNO.out HOK.out, HOK.out, e1]
      · rw [Hid, HNO.out HOK.out]; exact HV.out
    clear bQv hwF hsF HOF HBF HNO HYE ho3
    go_wp2_with (first | (guard_target = wpList _ _ _ (Oper.mk (some 33) _ _ _ _ _ :: _) _ _; refine wpList_load_mid rfl 31 (.tmp 10) rfl w1.heap.size 0 rfl q.cells _ (rQv) Tryd.underlying31 rfl HIq.out ?_) | (guard_target = wpList _ _ _ (Oper.mk none (Op.store _ (Operand.tmp 8) _) _ _ _ _ :: _) _ _; refine wpList_store_mid rfl 31 (.tmp 8) (.tmp 33) rfl (w.heap.size + 1 + 1) 0 q.cells.toArray rfl rfl (HTF.out) (by rw [List.size_toArray]; exact HIq.out) HOq.out ?_) | fail)
    rw [hWF.out]
    exact bodyPost_ret (v := .tuple #[.agg q.cells.toArray, .bool false]) (results_cell_flag Tryd.results16 rfl HLF.out rfl) rfl HEND.out
  | true =>
  have HSB : Hid (_ = _) := hsb
  clear hsb H3
  have y0 := HL0.out _ B5
  cases hln : inB lsn p.lsn 1000000 with
  | false =>
    have HOK : Hid (OK = false) := H5.out hln
    have HLN : Hid (_ = _) := hln
    clear hln H5 H6
    generalize p.lsn = pn at *
    go_wp2_with fail
    refine (l1In_any _ _ _ _).mono ?_
    rintro e w6 ⟨rfl, rfl⟩
    rw [HLN.out]
    have N6 := N5
    have B6 := B5
    have bQv := bQ.below N6 hs13
    have rQv := Box.range [] q.cells [] (by simpa using bQv : Box w6 w1.heap.size ([] ++ (q.cells ++ [])) 31)
    obtain ⟨WF, hWF, hwF, hsF, HTF, HLF, _⟩ := page_out (C := w.heap.size + 1 + 1) (T := 31) q hq4 zero17 rfl (HB2.out _ B6) Tryd.underlying31 rfl (by kernel_rfl)
    have HOF : Hid (OwnS WF w.heap.size WF.heap.size ts) := ((ho3.below N6).within hwF (.inr (by omega))).widen (by omega) (by omega) (Nat.le_refl _)
    have HBF : Hid (Below w.heap.size w WF) := (hbW.trans (B6.mono (by omega))).trans (hwF.below (by omega) (by have := B6.size; omega))
    have HEND : Hid (∃ ts' : List SlotA, Ending.returned (.tuple #[.agg q.cells.toArray, .bool false]) = .returned (.tuple #[.agg (PageA.cells ⟨SO.1, ts'⟩).toArray, .bool OK]) ∧ Hid (ts'.map (·.v) = SO.2) ∧ OwnS WF w.heap.size WF.heap.size ts' ∧ Below w.heap.size w WF) := by
      obtain ⟨qn, qs⟩ := q
      obtain ⟨e1, e2⟩ := HQ.out
      simp only at e1 e2
      subst e2
      refine ⟨qs, ?_, ?_, HOF.out, HBF.out⟩
      · rw [HNO.out HOK.out, HOK.out, e1]
      · rw [Hid, HNO.out HOK.out]; exact HV.out
    clear bQv hwF hsF HOF HBF HNO HYE ho3
    go_wp2_with (first | (guard_target = wpList _ _ _ (Oper.mk (some 33) _ _ _ _ _ :: _) _ _; refine wpList_load_mid rfl 31 (.tmp 10) rfl w1.heap.size 0 rfl q.cells _ (rQv) Tryd.underlying31 rfl HIq.out ?_) | (guard_target = wpList _ _ _ (Oper.mk none (Op.store _ (Operand.tmp 8) _) _ _ _ _ :: _) _ _; refine wpList_store_mid rfl 31 (.tmp 8) (.tmp 33) rfl (w.heap.size + 1 + 1) 0 q.cells.toArray rfl rfl (HTF.out) (by rw [List.size_toArray]; exact HIq.out) HOq.out ?_) | fail)
    rw [hWF.out]
    exact bodyPost_ret (v := .tuple #[.agg q.cells.toArray, .bool false]) (results_cell_flag Tryd.results16 rfl HLF.out rfl) rfl HEND.out
  | true =>
  have HLN : Hid (_ = _) := hln
  obtain ⟨hl1, hl2⟩ := inB_true hln
  clear hln H5
  have HOK : Hid (OK = true) := H6.out HP.out HIN.out HSB.out HLN.out
  have HSO : Hid (SO = (lsn, (p.ss.map (·.v)).set slot.toNat s.v)) := HYE.out HOK.out
  clear H6 HNO HYE
  obtain ⟨k, rfl⟩ : ∃ k : Nat, slot = (k : Int) := ⟨slot.toNat, by omega⟩
  have hk4 : k < 4 := by omega
  go_wp2_with fail
  refine (l1In_any _ _ _ _).mono ?_
  rintro e w6 ⟨rfl, rfl⟩
  rw [HLN.out]
  have N6 := N5
  have B6 := B5
  have bs5 := HB1.out _ B6
  obtain ⟨x0, x1, x2, x3, _⟩ := bs5.four
  have C3 := l3CopySlot_own s w6 (ReadsO.below hrs (hbW.trans (B6.mono hbW.size))) hls1 hls2
  simp only [SlotA.cells] at C3
  go_wp2_with fail
  refine C3.mono ?_
  clear C3 x0 x1 x2 x3 y0
  rintro e w7 ⟨t, rfl, hvt, hot, hb7⟩
  have N7 : Below W3.heap.size W3 w7 := N6.trans (hb7.mono N6.size)
  have B7 : Below W.heap.size W w7 := B6.trans (hb7.mono B6.size)
  have hs7 := hb7.size
  obtain ⟨qn, qs⟩ := q
  simp only [PageA.cells] at bQ
  obtain ⟨hqn, hqs⟩ := HQ.out
  simp only at hqn hqs
  subst hqs
  have hs3n := N6.size
  have bQ7 := bQ.below N7 hs13
  have hkl : k < qs.length := by rw [hts4]; exact hk4
  obtain ⟨W8, hW8, b8, hw8, hs8⟩ := pslot_fill bQ7 k hkl t
  obtain ⟨z0, z1, z2, z3, hfz⟩ := bQ7.pslot k hkl
  have f0 := hfz (1 + k * 4)
  have f1 := hfz (1 + k * 4 + 1)
  have f2 := hfz (1 + k * 4 + 2)
  have f3 := hfz (1 + k * 4 + 3)
  obtain ⟨W9, hW9, b9, hw9, hs9⟩ := box_set b8 0 (.int .i64 lsn)
  simp only [List.set_cons_zero] at b9
  have g0 := b8.cell 0 _ rfl
  have g1 := b8.frozen 0
  have B9 : Below W.heap.size W W9 := (B7.trans (hw8.below hs1 (by omega))).trans (hw9.below hs1 (by omega))
  have hr4 : (⟨lsn, qs.set k t⟩ : PageA).ss.length = 4 := by simp only [List.length_set]; exact hts4
  have hap : OwnS W9 W.heap.size w7.heap.size (qs.set k t) := by
    have o1 : OwnS W9 W.heap.size w1.heap.size qs := ((ho3.below N7).within hw8 (.inl (Nat.le_refl _))).within hw9 (.inl (Nat.le_refl _))
    have o2 : t.own W9 w6.heap.size w7.heap.size := OwnO.within (OwnO.within hot hw8 (.inr (by omega))) hw9 (.inr (by omega))
    exact o1.set k o2 (by omega) (by omega) (by omega)
  have HMV : Hid ((qs.set k t).map (·.v) = SO.2) := by rw [Hid, HSO.out, List.map_set, HV.out, hvt.out, Int.toNat_natCast]
  have HS1 : Hid (SO.1 = lsn) := by rw [Hid, HSO.out]
  generalize hrr : (⟨lsn, qs.set k t⟩ : PageA) = r at *
  have b9' : Box W9 w1.heap.size r.cells 31 := by rw [← hrr]; exact b9
  have HEQ : Hid (r = ⟨lsn, qs.set k t⟩) := hrr.symm
  clear hrr b9
  have rR := Box.range [] r.cells [] (by simpa using b9' : Box W9 w1.heap.size ([] ++ (r.cells ++ [])) 31)
  have HIr : Hid ((Tryd.prog.info? 31).map (·.size) = some r.cells.length) := by rw [Hid, page_len r hr4]; kernel_rfl
  have HOr : Hid (_) := all_oneCell_toArray (oneP r)
  obtain ⟨WF, hWF, hwF, hsF, HTF, HLF, _⟩ := page_out (C := w.heap.size + 1 + 1) (T := 31) r hr4 zero17 rfl (HB2.out _ B9) Tryd.underlying31 rfl (by kernel_rfl)
  have HOF : Hid (OwnS WF w.heap.size WF.heap.size (qs.set k t)) := (hap.within hwF (.inr (by omega))).widen (by omega) (by omega) (Nat.le_refl _)
  have HBF : Hid (Below w.heap.size w WF) := (hbW.trans (B9.mono (by omega))).trans (hwF.below (by omega) (by have := B9.size; omega))
  have HEND : Hid (∃ ts' : List SlotA, Ending.returned (.tuple #[.agg r.cells.toArray, .bool true]) = .returned (.tuple #[.agg (PageA.cells ⟨SO.1, ts'⟩).toArray, .bool OK]) ∧ Hid (ts'.map (·.v) = SO.2) ∧ OwnS WF w.heap.size WF.heap.size ts' ∧ Below w.heap.size w WF) :=
    ⟨qs.set k t, by rw [HS1.out, HOK.out, HEQ.out], HMV, HOF.out, HBF.out⟩
  have hi0 : (0 : Int) ≤ (k : Int) := by omega
  have hi4 : (k : Int) < 4 := by omega
  generalize qs.getD k zeroS = old at *
  have W9e := hW9.out
  have W8e := hW8.out
  clear hfz hw8 hw9 hwF hsF HOF HBF hap ho3 hot hvt bQ7 b8 b9' hs8 hs9 HEQ HS1 HMV
  rw [← W9e, ← W8e] at rR HTF
  rw [← W8e] at g0 g1
  rw [← W9e, ← W8e] at hWF
  clear W9e W8e hW8 hW9
  go_wp2_with (first | (guard_target = wpList _ _ _ (Oper.mk (some 41) _ _ _ _ _ :: _) _ _; refine wpList_load_mid rfl 31 (.tmp 10) rfl w1.heap.size 0 rfl r.cells _ (rR) Tryd.underlying31 rfl HIr.out ?_) | (guard_target = wpList _ _ _ (Oper.mk none (Op.store _ (Operand.tmp 8) _) _ _ _ _ :: _) _ _; refine wpList_store_mid rfl 31 (.tmp 8) (.tmp 41) rfl (w.heap.size + 1 + 1) 0 r.cells.toArray rfl rfl (HTF.out) (by rw [List.size_toArray]; exact HIr.out) HOr.out ?_) | fail)
  rw [hWF.out]
  exact bodyPost_ret (v := .tuple #[.agg r.cells.toArray, .bool true]) (results_cell_flag Tryd.results16 rfl HLF.out rfl) rfl HEND.out
end Go.Proofs.YtbaocehcnjdkkaaDoor

/- The walks of slices.Index over bools and of impl.FreeSlot. -/
namespace Go.Proofs.YtbaocehcnjdkkaaDoor
open Go.RowKit

/-- Where the first false is, from k on, among those that are left; -1 if there is none. -/
def idxB : List Bool → Nat → Int
  | [], _ => -1
  | b :: r, k => if b then idxB r (k + 1) else (k : Int)
theorem free_idx (vs : List SlotV) : ∀ k, freeFrom vs k = idxB (vs.map (·.has)) k := by
  induction vs with
  | nil => intro k; rfl
  | cons v r ih => intro k; simp only [freeFrom, List.map_cons, idxB, ih]
theorem drop_b (bs : List Bool) (k : Nat) (h : k < bs.length) : bs.drop k = bs.getD k false :: bs.drop (k + 1) := by
  rw [List.drop_eq_getElem_cons h]
  simp [List.getD, h]

set_option maxHeartbeats 400000 in
set_option maxRecDepth 100000 in
theorem indexBool_any (B : Nat) (bs : List Bool) (h4 : bs.length = 4) (w : World) (hc : ∀ k, k < 4 → w.cell? ⟨B, k, none⟩ = some (.bool (bs.getD k false))) :
    Calls Tryd.prog 54 #[.slice (some ⟨B, 0, none⟩) 4 4, .bool false] w fun e w' => e = .returned (.int .i64 (idxB bs 0)) ∧ Below w.heap.size w w' := by
  have H4 : Hid (bs.length = 4) := h4
  have HF : Hid (idxB (bs.drop 0) 0 = idxB bs 0) := rfl
  have HC : Hid (_) := hc
  generalize idxB bs 0 = R at *
  clear h4 hc
  go_enter Tryd.func54, Tryd.ntmps54
  go_wp2
  go_loopw [8] (fun i wr => ∃ (k : Nat), i = .int .i64 k ∧ k ≤ 4 ∧ Hid (idxB (bs.drop k) k = R) ∧ Below w.heap.size w wr)
    (fun i _ => 4 - (intOf i).toNat)
  case atStart => exact ⟨0, rfl, by omega, HF, Below.refl _ _⟩
  case round =>
    obtain ⟨k, rfl, hk, hR, hbl⟩ := hrel
    by_cases hlt : k < 4
    · have hcw : wr.cell? ⟨B, k, none⟩ = some (.bool (bs.getD k false)) := by
        have h0 := HC.out k hlt
        rw [← h0]
        exact hbl.cell (block_lt h0)
      have hlk : k < bs.length := by rw [H4.out]; exact hlt
      have HR : Hid (idxB (bs.getD k false :: bs.drop (k + 1)) k = R) := by rw [Hid, ← drop_b bs k hlk]; exact hR.out
      cases hh : bs.getD k false with
      | true =>
        rw [hh] at hcw
        have HR' : Hid (idxB (bs.drop (k + 1)) (k + 1) = R) := by
          have h := HR.out
          rw [hh, idxB, if_pos rfl] at h
          exact h
        clear hh HR hR hlk
        go_wp2_with fail
        go_roundw
        case rel => exact ⟨k + 1, by go_num, by omega, HR', hbl⟩
        case measure => simp [intOf]; omega
      | false =>
        rw [hh] at hcw
        have HR' : Hid ((k : Int) = R) := by
          have h := HR.out
          rw [hh, idxB, if_neg (by decide)] at h
          exact h
        clear hh HR hR hlk
        go_wp2
        go_ret
        exact ⟨ret_int HR'.out, hbl⟩
    · have hkk : ¬ (k : Int) < 4 := by omega
      have HR' : Hid (-1 = R) := by
        have h := hR.out
        rw [List.drop_eq_nil_of_le (by rw [H4.out]; omega), idxB] at h
        exact h
      clear hR
      go_wp2
      go_ret
      exact ⟨ret_int HR'.out, hbl⟩

set_option maxHeartbeats 1000000 in
set_option maxRecDepth 100000 in
theorem implFreeSlot_any (p : PageA) (h4 : p.ss.length = 4) (w : World) :
    Calls Tryd.prog 18 #[.agg p.cells.toArray] w fun e w' => e = .returned (.int .i64 (freeOf (p.ss.map (·.v)))) ∧ Below w.heap.size w w' := by
  have HR : Hid (freeOf (p.ss.map (·.v)) = idxB (p.ss.map (fun s => s.v.has)) 0) := by
    rw [Hid, freeOf, free_idx, List.map_map]; rfl
  generalize freeOf (p.ss.map (·.v)) = R at *
  obtain ⟨W, hW, b0, hbW, hsW⟩ := boxes1 w p.cells 31
  have hrg : W.rangeAt w.heap.size 0 p.cells := Box.range [] p.cells [] (by simpa using b0)
  have hi : (Tryd.prog.info? 31).map (·.size) = some p.cells.length := by rw [page_len p h4]; kernel_rfl
  go_enter Tryd.func18, Tryd.ntmps18
  go_wp2_with (first | (guard_target = wpList _ _ _ (Oper.mk (some 4) _ _ _ _ _ :: _) _ _; refine wpList_load_mid rfl 31 (.tmp 1) rfl w.heap.size 0 rfl p.cells _ (by rw [hW.out]; exact hrg) Tryd.underlying31 rfl hi ?_) | fail)
  rw [hW.out]
  clear hW hsW hrg hi
  refine (markSlots_has p h4 W).mono ?_
  rintro e w1 ⟨⟨c0, c1, c2, c3, rfl, hcs⟩, hb1⟩
  rw [hcs] at HR
  clear hcs
  have B1 : Below w.heap.size w w1 := hbW.trans (hb1.mono hbW.size)
  obtain ⟨W2, hW2, b2, hb2, hs2⟩ := boxes1 w1 [.bool c0, .bool c1, .bool c2, .bool c3] 72
  go_wp2_with fail
  rw [hW2.out]
  refine (indexBool_any w1.heap.size [c0, c1, c2, c3] rfl W2 ?_).mono ?_
  · intro k hk
    match k, hk with
    | 0, _ => exact b2.cell 0 _ rfl
    | 1, _ => exact b2.cell 1 _ rfl
    | 2, _ => exact b2.cell 2 _ rfl
    | 3, _ => exact b2.cell 3 _ rfl
  rintro e w3 ⟨rfl, hb3⟩
  go_wp2
  go_ret
  exact ⟨ret_int HR.out.symm, (B1.trans (hb2.mono B1.size)).trans (hb3.mono (Nat.le_trans B1.size hb2.size))⟩
end Go.Proofs.YtbaocehcnjdkkaaDoor

/- What came in, read: a slice of bytes. -/
namespace Go.Proofs.YtbaocehcnjdkkaaDoor
open Go.ChangeShapes Go.WideShapes Go.ChangeAt Go.RowKit

section
variable {H : Type} {enc : TypeId × Value → H} {w : World} {base : Nat} {spare : Nat → Bool} {held : Bool}

theorem trod_bytes {fuel : Nat} {cs : List Value} {x : DataW H × List MemPlace} (h : DataW.trod enc Tryd.prog w base spare held fuel 22 cs = some x) :
    ∃ (a : Option Addr) (c : Nat) (ns : List Int), cs = [.slice a ns.length c] ∧ Reads w a ns ∧ (a = none → c = 0) ∧ ns.length ≤ maxLen := by
  rcases open_ints Tryd.underlying22 Tryd.underlying5 (by kernel_rfl) h with ⟨rfl, _⟩ | ⟨a, len, cap, zs, rfl, _, hl, hm, hz, _, hcell, hwf⟩
  · exact ⟨none, 0, [], rfl, ⟨by simp, by simp⟩, fun _ => rfl, by simp⟩
  · have hlz : len ≤ zs.length := by rw [hz]; split <;> omega
    refine ⟨some a, cap, zs.take len, by simp; omega, ⟨fun z hzz => ?_, ?_⟩, (fun h => by cases h), by simp; omega⟩
    · have := hwf z (List.mem_of_mem_take hzz)
      simp [Lit.wf, IntKind.min, IntKind.max, IntKind.signed, IntKind.bits] at this
      omega
    · intro hne
      have hpos := List.length_pos_iff.2 hne
      simp at hpos
      obtain ⟨b, off, spot⟩ := a
      have hc0 := hcell 0 (by omega)
      have hspot : spot = none := by simpa [Addr.add] using World.cell?_spot hc0
      subst hspot
      refine ⟨b, off, rfl, fun i hi => ?_⟩
      have hi' : i < len := by simp at hi; omega
      have := hcell i (by omega)
      have e : (List.take len zs).getD i 0 = zs.getD i 0 := by simp [List.getD, hi']
      rw [e, ← Addr_add]
      exact this

set_option maxRecDepth 100000 in
/-- A slice of bytes that came in as an argument. -/
theorem open_bytes {b0 : Nat} {v : Value} {d : DataW H} {ps : List MemPlace} (hval : Value.okWide Tryd.prog w .any b0 22 v) (h : DataW.Trod enc Tryd.prog w base spare held 22 v d ps) :
    ∃ (a : Option Addr) (c : Nat) (ns : List Int), v = .slice a ns.length c ∧ Reads w a ns ∧ (a = none → c = 0) ∧ ns.length ≤ maxLen := by
  obtain ⟨a, len, cap, hv⟩ := okWide_slice (e := 5) Tryd.underlying22 hval
  subst hv
  obtain ⟨fuel, hf⟩ := h
  have e : (Value.slice a len cap).cells.toList = [Value.slice a len cap] := rfl
  rw [e] at hf
  obtain ⟨a', c', ns, hc, rest⟩ := trod_bytes hf
  simp only [List.cons.injEq, and_true] at hc
  exact ⟨a', c', ns, hc, rest⟩
end
end Go.Proofs.YtbaocehcnjdkkaaDoor

/- The walk of laws.FnPages. -/
namespace Go.Proofs.YtbaocehcnjdkkaaDoor
open Go.RowKit

theorem slot_out {w : World} {C : Nat} {T : TypeId} (s : SlotA) (old : List Value) (ho : old.length = 4) (bC : Box w C old T) :
    ∃ WF, Hid (w.setCells C 0 s.cells = WF) ∧ Within C (C + 1) w WF ∧ WF.heap.size = w.heap.size ∧ Hid (w.there C 0 s.cells.toArray.size) ∧ Box WF C s.cells T := by
  have hl : s.cells.length = 4 := rfl
  obtain ⟨WF, hWF, bF, hwF, hsF⟩ := range_fill [] old s.cells [] (by simpa using bC) (by rw [hl, ho])
  exact ⟨WF, hWF, hwF, hsF, bC.there 0 _ (by rw [List.size_toArray, hl, ho]; omega), by simpa using bF⟩
theorem pairP_put {n : Int} {vs : List SlotV} (h4 : vs.length = 4) (h : okP n vs = true) : pairP (putPageOf n vs) = ((n, vs), true) := by
  unfold pairP; rw [getP_some h4 h rfl]
theorem putP_no {n : Int} {vs : List SlotV} (h : okP n vs = false) : putPageOf n vs = [] := by unfold putPageOf; rw [if_neg (by rw [h]; decide)]
theorem setOk_parts {n : Int} {vs : List SlotV} {slot : Int} {s : SlotV} {lsn : Int} (h : setOk n vs slot s lsn = true) : okP n vs = true ∧ (0 ≤ slot ∧ slot ≤ 3) ∧ slotB s = true ∧ n ≤ lsn ∧ lsn ≤ 1000000 := by
  simp only [setOk, Bool.and_eq_true, inB, decide_eq_true_eq] at h
  exact ⟨h.1, h.2.1, h.2.2.1, h.2.2.2.1, h.2.2.2.2⟩
theorem set_ok {n : Int} {vs : List SlotV} {slot : Int} {s : SlotV} {lsn : Int} (h : setOk n vs slot s lsn = true) : okP lsn (vs.set slot.toNat s) = true := by
  obtain ⟨h1, _, h3, h4, h5⟩ := setOk_parts h
  obtain ⟨hs, h0, _⟩ := okP_bd h1
  simp only [okP, Bool.and_eq_true, List.all_eq_true, inB, decide_eq_true_eq]
  refine ⟨fun v hv => ?_, by omega, h5⟩
  rcases List.mem_or_eq_of_mem_set hv with h' | rfl
  · exact hs v h'
  · exact h3
theorem free_at (vs : List SlotV) : ∀ k : Nat, freeFrom vs k = -1 ∨ ∃ j : Nat, j < vs.length ∧ freeFrom vs k = ((k + j : Nat) : Int) ∧ (vs.getD j noS).has = false := by
  induction vs with
  | nil => intro k; exact .inl rfl
  | cons v r ih =>
    intro k
    unfold freeFrom
    cases hv : v.has with
    | true =>
      simp only [if_true]
      rcases ih (k + 1) with h | ⟨j, hj, he, hh⟩
      · exact .inl h
      · exact .inr ⟨j + 1, by simp; omega, by rw [he]; congr 1; omega, by simpa using hh⟩
    | false =>
      simp only [Bool.false_eq_true, if_false]
      exact .inr ⟨0, by simp, rfl, by simpa using hv⟩
theorem fit7 {ss : List SlotA} (h : ∀ s ∈ ss, s.v.o.ints.length ≤ 7 ∧ s.v.o.refs.length ≤ 7) : Fit ss := fun s hs => by have := h s hs; omega
theorem fit_map {ss ts : List SlotA} (h : ts.map (·.v) = ss.map (·.v)) (hf : Fit ss) : Fit ts := fun t ht => by
  have : t.v ∈ ss.map (·.v) := by rw [← h]; exact List.mem_map.2 ⟨t, ht, rfl⟩
  obtain ⟨x, hx, e⟩ := List.mem_map.1 this
  rw [← e]; exact hf x hx

set_option maxHeartbeats 8000000 in
set_option maxRecDepth 100000 in
theorem lawPages_walk (a : Option Addr) (cap : Nat) (zs : List Int) (w : World) (hg : ErrT w) (hr : Reads w a zs) :
    Calls Tryd.prog 3 #[.slice a zs.length cap] w fun e w' => e = .returned (.bool true) ∧ Below w.heap.size w w' := by
  by_cases hbig : 1048576 < zs.length
  · have hd : decide (1048576 < zs.length) = true := decide_eq_true hbig
    go_enter Tryd.func3, Tryd.ntmps3
    go_wp2_with (go_at_call 8; refine (big_any _ _ _ _).mono ?_; rintro e w' ⟨rfl, rfl⟩)
    go_ret
    exact ⟨rfl, Below.refl _ _⟩
  have hd : decide (1048576 < zs.length) = false := decide_eq_false hbig
  go_enter Tryd.func3, Tryd.ntmps3
  go_wp2_with fail
  refine (big_any _ _ _ _).mono ?_
  rintro e w0 ⟨rfl, rfl⟩
  go_wp2_with fail
  refine (drawSetSlot_any a cap zs w0 hr (by omega)).mono ?_
  rintro e w1 ⟨p, slot, s, lsn, rfl, hp4, hps, hss, hrp, hrs, hb1⟩
  have hs1 := hb1.size
  have HIp : Hid ((Tryd.prog.info? 31).map (·.size) = some p.cells.length) := by rw [Hid, page_len _ hp4]; kernel_rfl
  have HOp : Hid (_) := all_oneCell_toArray (oneP p)
  have HIs : Hid ((Tryd.prog.info? 28).map (·.size) = some s.cells.length) := by rw [Hid]; kernel_rfl
  have HOs : Hid (_) := all_oneCell_toArray (oneSl4 s)
  obtain ⟨V2, hV2, bz0, bz1, hbz, hsz⟩ := boxes2 w1 [.int .i64 0, .bool false, .int .i64 0, .slice none 0 0, .slice none 0 0, .bool false, .int .i64 0, .slice none 0 0, .slice none 0 0, .bool false, .int .i64 0, .slice none 0 0, .slice none 0 0, .bool false, .int .i64 0, .slice none 0 0, .slice none 0 0] [.bool false, .int .i64 0, .slice none 0 0, .slice none 0 0] 31 28
  obtain ⟨V3, hV3, hw3, hs3, HT3, _, bp3⟩ := page_out (C := w1.heap.size) (T := 31) p hp4 _ rfl bz0 Tryd.underlying31 rfl (by kernel_rfl)
  obtain ⟨W2, hW2, hw2, hs2, HT2, bs2⟩ := slot_out s _ rfl (bz1.within hw3 (by omega))
  have bp2 := bp3.within hw2 (by omega)
  have M2 : Below w1.heap.size w1 W2 := (hbz.trans (hw3.below (Nat.le_refl _) (by omega))).trans (hw2.below (by omega) (by omega))
  have rp2 := hrp.below M2
  have rs2 : s.reads W2 := ReadsO.below hrs M2
  have B2 : Below w0.heap.size w0 W2 := hb1.trans (M2.mono hs1)
  have HRP : Hid (∀ w', Below W2.heap.size W2 w' → w'.rangeAt w1.heap.size 0 p.cells) := fun w' hh => Box.range [] p.cells [] (by simpa using bp2.below hh bp2.lt)
  have HRS : Hid (∀ w', Below W2.heap.size W2 w' → w'.rangeAt (w1.heap.size + 1) 0 s.cells) := fun w' hh => Box.range [] s.cells [] (by simpa using bs2.below hh bs2.lt)
  have hRp : ∀ w', Below W2.heap.size W2 w' → ReadsS w' p.ss := fun w' hh => rp2.below hh
  have hRs : ∀ w', Below W2.heap.size W2 w' → s.reads w' := fun w' hh => ReadsO.below rs2 hh
  have hgB : ∀ w', Below W2.heap.size W2 w' → ErrT w' := fun w' hh => hg.keep (B2.trans (hh.mono B2.size))
  have hfp : Fit p.ss := fit7 hps
  have hfs : Fit [s] := fun x hx => by obtain rfl := List.mem_singleton.1 hx; omega
  have hlp := bp2.lt
  have hls := bs2.lt
  clear bz0 bz1 hbz hsz hw3 hs3 bp3 hw2 hs2 M2 hrp hrs hd hbig
  go_wp2_with (first | (guard_target = wpList _ _ _ (Oper.mk none (Op.store _ (Operand.tmp 3) _) _ _ _ _ :: _) _ _; refine wpList_store_mid rfl 31 (.tmp 3) (.tmp 24) rfl w1.heap.size 0 p.cells.toArray rfl rfl (by rw [hV2.out]; exact HT3.out) (by rw [List.size_toArray]; exact HIp.out) HOp.out ?_) | (guard_target = wpList _ _ _ (Oper.mk none (Op.store _ (Operand.tmp 5) _) _ _ _ _ :: _) _ _; refine wpList_store_mid rfl 28 (.tmp 5) (.tmp 26) rfl (w1.heap.size + 1) 0 s.cells.toArray rfl rfl (by rw [hV2.out, hV3.out]; exact HT2.out) (by rw [List.size_toArray]; exact HIs.out) HOs.out ?_) | (guard_target = wpList _ _ _ (Oper.mk (some 28) _ _ _ _ _ :: _) _ _; refine wpList_load_mid rfl 31 (.tmp 3) rfl w1.heap.size 0 rfl p.cells _ (by rw [hV2.out, hV3.out, hW2.out]; exact HRP.out _ (Below.refl _ _)) Tryd.underlying31 rfl HIp.out ?_) | fail)
  rw [hV2.out, hV3.out, hW2.out]
  clear hV2 hV3 hW2 HT3 HT2 HOp HOs
  refine (implPutPage_any p hp4 W2 (hgB _ (Below.refl _ _)) rp2 hfp).mono ?_
  rintro e w3 ⟨a3, c3, y3, rfl, HY3, ho3, hb3⟩
  have hs3 := hb3.size
  go_wp2_with (first | (guard_target = wpList _ _ _ (Oper.mk (some 30) _ _ _ _ _ :: _) _ _; refine wpList_load_mid rfl 31 (.tmp 3) rfl w1.heap.size 0 rfl p.cells _ (HRP.out _ hb3) Tryd.underlying31 rfl HIp.out ?_) | fail)
  refine (specPageOk_any p hp4 w3 (hRp _ hb3) hfp).mono ?_
  rintro e w4 ⟨rfl, hb4⟩
  have N4 : Below W2.heap.size W2 w4 := hb3.trans (hb4.mono hs3)
  have hs4 := N4.size
  have HSN : Hid (okP p.lsn (p.ss.map (·.v)) = false → setOk p.lsn (p.ss.map (·.v)) slot s.v lsn = false) := fun h => setOk_p h
  have HS4 : Hid ((setOf p.lsn (p.ss.map (·.v)) slot s.v lsn).2.length = 4) := by
    unfold Hid setOf
    split
    · simp only [List.length_set, List.length_map]; exact hp4
    · simp only [List.length_map]; exact hp4
  have C5 := implSetSlot_any p hp4 slot s lsn
  have C6 := specSetSlot_any p hp4 slot s lsn
  have HC5 : Hid _ := C5
  have HC6 : Hid _ := C6
  clear C5 C6
  cases hok : okP p.lsn (p.ss.map (·.v)) with
  | false =>
    have HY0 : Hid (y3 = []) := by rw [Hid, HY3.out]; exact putP_no hok
    have HSF : Hid (_ = _) := HSN.out hok
    have HOK : Hid (_ = _) := hok
    have hC5 := HC5.out w4 (hgB _ N4) (hRp _ N4) hfp (hRs _ N4) hfs
    rw [HSF.out] at hC5
    clear hok HSN
    go_wp2_with (first | (guard_target = wpList _ _ _ (Oper.mk (some 34) _ _ _ _ _ :: _) _ _; refine wpList_load_mid rfl 31 (.tmp 3) rfl w1.heap.size 0 rfl p.cells _ (HRP.out _ N4) Tryd.underlying31 rfl HIp.out ?_) | (guard_target = wpList _ _ _ (Oper.mk (some 36) _ _ _ _ _ :: _) _ _; refine wpList_load_mid rfl 28 (.tmp 5) rfl (w1.heap.size + 1) 0 rfl s.cells _ (HRS.out _ N4) Tryd.underlying28 rfl HIs.out ?_) | fail)
    refine hC5.mono ?_
    clear hC5
    rintro e w5 ⟨ns, rfl, hvn, _, hb5⟩
    have N5 : Below W2.heap.size W2 w5 := N4.trans (hb5.mono hs4)
    have hn4 : (⟨(setOf p.lsn (p.ss.map (·.v)) slot s.v lsn).1, ns⟩ : PageA).ss.length = 4 := by have := congrArg List.length hvn.out; simp only [List.length_map] at this; rw [this]; exact HS4.out
    generalize (⟨(setOf p.lsn (p.ss.map (·.v)) slot s.v lsn).1, ns⟩ : PageA) = NN at *
    have HIn : Hid ((Tryd.prog.info? 31).map (·.size) = some NN.cells.length) := by rw [Hid, page_len _ hn4]; kernel_rfl
    have HOn : Hid (_) := all_oneCell_toArray (oneP NN)
    obtain ⟨V6, hV6, bz6, hbz6, hsz6⟩ := boxes1 w5 [.int .i64 0, .bool false, .int .i64 0, .slice none 0 0, .slice none 0 0, .bool false, .int .i64 0, .slice none 0 0, .slice none 0 0, .bool false, .int .i64 0, .slice none 0 0, .slice none 0 0, .bool false, .int .i64 0, .slice none 0 0, .slice none 0 0] 31
    obtain ⟨W6, hW6, hw6, hs6, HT6, _, _⟩ := page_out (C := w5.heap.size) (T := 31) NN hn4 _ rfl bz6 Tryd.underlying31 rfl (by kernel_rfl)
    have M6 : Below w5.heap.size w5 W6 := hbz6.trans (hw6.below (Nat.le_refl _) (by omega))
    have N6 : Below W2.heap.size W2 W6 := N5.trans (M6.mono N5.size)
    have hy0 : (y3.length : Int) = 0 := by rw [HY0.out]; rfl
    have hyb : ((y3.length : Int) == 0) = true := by rw [HY0.out]; rfl
    have C7 := implPageOk_any p hp4 W6 (hgB _ N6) (hRp _ N6) hfp
    rw [HOK.out] at C7
    clear bz6 hbz6 hsz6 hw6 hs6 hy0 hvn
    go_wp2_with (first | (guard_target = wpList _ _ _ (Oper.mk none (Op.store _ (Operand.tmp 8) _) _ _ _ _ :: _) _ _; refine wpList_store_mid rfl 31 (.tmp 8) (.tmp 39) rfl w5.heap.size 0 NN.cells.toArray rfl rfl (by rw [hV6.out]; exact HT6.out) (by rw [List.size_toArray]; exact HIn.out) HOn.out ?_) | (guard_target = wpList _ _ _ (Oper.mk (some 49) _ _ _ _ _ :: _) _ _; refine wpList_load_mid_if (by rfl) 31 (.tmp 3) rfl w1.heap.size 0 rfl p.cells _ (by rw [hV6.out, hW6.out]; exact HRP.out _ N6) Tryd.underlying31 rfl HIp.out ?_) | fail)
    rw [hV6.out, hW6.out]
    refine C7.mono ?_
    clear C7
    rintro e w7 ⟨rfl, hb7⟩
    go_wp2
    go_ret
    exact ⟨rfl, B2.trans ((N6.trans (hb7.mono N6.size)).mono B2.size)⟩
  | true =>
  have HOK : Hid (_ = _) := hok
  have HPP : Hid (pairP y3 = ((p.lsn, p.ss.map (·.v)), true)) := by rw [Hid, HY3.out]; exact pairP_put (by rw [List.length_map]; exact hp4) hok
  have HYL : Hid (y3.length ≤ 1000000) := by
    rw [Hid, HY3.out, putP_ok hok]
    have h1 := frameOf_len (bodyOf p.lsn (p.ss.map (·.v)))
    have h2 := body_len p.lsn (p.ss.map (·.v))
    rw [List.length_map, hp4] at h2
    omega
  have C5 := implGetPage_any a3 c3 y3 w4 (hgB _ N4) (ho3.reads.below hb4) (by have := HYL.out; omega) ho3.len_cap
  rw [HPP.out] at C5
  simp only at C5
  clear hok HSN
  go_wp2_with fail
  refine C5.mono ?_
  clear C5
  rintro e w5 ⟨xs, rfl, hvx, hox, hb5⟩
  have N5 : Below W2.heap.size W2 w5 := N4.trans (hb5.mono hs4)
  have hx4 : xs.length = 4 := by have := congrArg List.length hvx.out; simp only [List.length_map] at this; omega
  have HIx : Hid ((Tryd.prog.info? 31).map (·.size) = some (PageA.cells ⟨p.lsn, xs⟩).length) := by rw [Hid, page_len _ hx4]; kernel_rfl
  have HOx : Hid (_) := all_oneCell_toArray (oneP ⟨p.lsn, xs⟩)
  obtain ⟨V6, hV6, bz6, hbz6, hsz6⟩ := boxes1 w5 [.int .i64 0, .bool false, .int .i64 0, .slice none 0 0, .slice none 0 0, .bool false, .int .i64 0, .slice none 0 0, .slice none 0 0, .bool false, .int .i64 0, .slice none 0 0, .slice none 0 0, .bool false, .int .i64 0, .slice none 0 0, .slice none 0 0] 31
  obtain ⟨W6, hW6, hw6, hs6, HT6, _, bx6⟩ := page_out (C := w5.heap.size) (T := 31) ⟨p.lsn, xs⟩ hx4 _ rfl bz6 Tryd.underlying31 rfl (by kernel_rfl)
  have M6 : Below w5.heap.size w5 W6 := hbz6.trans (hw6.below (Nat.le_refl _) (by omega))
  have N6 : Below W2.heap.size W2 W6 := N5.trans (M6.mono N5.size)
  have rx6 := Box.range [] (PageA.cells ⟨p.lsn, xs⟩) [] (by simpa using bx6 : Box W6 w5.heap.size ([] ++ (PageA.cells ⟨p.lsn, xs⟩ ++ [])) 31)
  have C7 : Calls Tryd.prog 15 #[.agg (PageA.cells ⟨p.lsn, xs⟩).toArray, .agg p.cells.toArray] W6 fun e w' => e = .returned (.bool true) ∧ Below W6.heap.size W6 w' :=
    samePage_same p.lsn xs p.ss hx4 hvx.out.symm W6 (hox.below M6).reads (hRp _ N6) (fit_map hvx.out hfp)
  clear bz6 hbz6 hsz6 hw6 hs6
  go_wp2_with (first | (guard_target = wpList _ _ _ (Oper.mk none (Op.store _ (Operand.tmp 10) _) _ _ _ _ :: _) _ _; refine wpList_store_mid rfl 31 (.tmp 10) (.tmp 56) rfl w5.heap.size 0 (PageA.cells ⟨p.lsn, xs⟩).toArray rfl rfl (by rw [hV6.out]; exact HT6.out) (by rw [List.size_toArray]; exact HIx.out) HOx.out ?_) | (guard_target = wpList _ _ _ (Oper.mk (some 61) _ _ _ _ _ :: _) _ _; refine wpList_load_mid_if (by rfl) 31 (.tmp 10) rfl w5.heap.size 0 rfl (PageA.cells ⟨p.lsn, xs⟩) _ (by rw [hV6.out, hW6.out]; exact rx6) Tryd.underlying31 rfl HIx.out ?_) | (guard_target = wpList _ _ _ (Oper.mk (some 62) _ _ _ _ _ :: _) _ _; refine wpList_load_mid_if (by rfl) 31 (.tmp 3) rfl w1.heap.size 0 rfl p.cells _ (by rw [hV6.out, hW6.out]; exact HRP.out _ N6) Tryd.underlying31 rfl HIp.out ?_) | fail)
  rw [hV6.out, hW6.out]
  clear hV6 hW6 HT6 HOx rx6 bx6
  refine C7.mono ?_
  clear C7
  rintro e w7 ⟨rfl, hb7⟩
  have N7 : Below W2.heap.size W2 w7 := N6.trans (hb7.mono N6.size)
  have hs7 := N7.size
  have hC8 := HC5.out w7 (hgB _ N7) (hRp _ N7) hfp (hRs _ N7) hfs
  have HSP : Hid (setOk p.lsn (p.ss.map (·.v)) slot s.v lsn = true → _) := fun h => setOk_parts h
  have HSO : Hid (setOk p.lsn (p.ss.map (·.v)) slot s.v lsn = true → okP lsn ((p.ss.map (·.v)).set slot.toNat s.v) = true) := fun h => set_ok h
  have HSF : Hid (setOk p.lsn (p.ss.map (·.v)) slot s.v lsn = false → setOf p.lsn (p.ss.map (·.v)) slot s.v lsn = (p.lsn, p.ss.map (·.v))) := fun h => setOf_no h
  have HST : Hid (setOk p.lsn (p.ss.map (·.v)) slot s.v lsn = true → setOf p.lsn (p.ss.map (·.v)) slot s.v lsn = (lsn, (p.ss.map (·.v)).set slot.toNat s.v)) := fun h => setOf_ok h
  have HC6' : Hid (∀ w', Below W2.heap.size W2 w' → _) := fun w' hh => HC6.out w' (hRp _ hh) hfp (hRs _ hh) hfs
  clear HC5 HC6
  generalize setOk p.lsn (p.ss.map (·.v)) slot s.v lsn = OK at *
  generalize setOf p.lsn (p.ss.map (·.v)) slot s.v lsn = SO at *
  go_wp2_with (first | (guard_target = wpList _ _ _ (Oper.mk (some 67) _ _ _ _ _ :: _) _ _; refine wpList_load_mid rfl 31 (.tmp 3) rfl w1.heap.size 0 rfl p.cells _ (HRP.out _ N7) Tryd.underlying31 rfl HIp.out ?_) | (guard_target = wpList _ _ _ (Oper.mk (some 69) _ _ _ _ _ :: _) _ _; refine wpList_load_mid rfl 28 (.tmp 5) rfl (w1.heap.size + 1) 0 rfl s.cells _ (HRS.out _ N7) Tryd.underlying28 rfl HIs.out ?_) | fail)
  refine hC8.mono ?_
  clear hC8
  rintro e w8 ⟨ns, rfl, hvn, hon, hb8⟩
  have N8 : Below W2.heap.size W2 w8 := N7.trans (hb8.mono hs7)
  have hs8 := hb8.size
  have hn4 : ns.length = 4 := by have := congrArg List.length hvn.out; simp only [List.length_map] at this; rw [this]; exact HS4.out
  have HIn : Hid ((Tryd.prog.info? 31).map (·.size) = some (PageA.cells ⟨SO.1, ns⟩).length) := by rw [Hid, page_len _ hn4]; kernel_rfl
  have HOn : Hid (_) := all_oneCell_toArray (oneP ⟨SO.1, ns⟩)
  obtain ⟨V9, hV9, bz9, hbz9, hsz9⟩ := boxes1 w8 [.int .i64 0, .bool false, .int .i64 0, .slice none 0 0, .slice none 0 0, .bool false, .int .i64 0, .slice none 0 0, .slice none 0 0, .bool false, .int .i64 0, .slice none 0 0, .slice none 0 0, .bool false, .int .i64 0, .slice none 0 0, .slice none 0 0] 31
  obtain ⟨W9, hW9, hw9, hs9, HT9, _, bn9⟩ := page_out (C := w8.heap.size) (T := 31) ⟨SO.1, ns⟩ hn4 _ rfl bz9 Tryd.underlying31 rfl (by kernel_rfl)
  have M9 : Below w8.heap.size w8 W9 := hbz9.trans (hw9.below (Nat.le_refl _) (by omega))
  have N9 : Below W2.heap.size W2 W9 := N8.trans (M9.mono N8.size)
  have on9 : OwnS W9 w7.heap.size w8.heap.size ns := hon.below M9
  have hs9' := M9.size
  have hln := bn9.lt
  clear bz9 hbz9 hsz9 hw9 hs9 hon
  go_wp2_with (first | (guard_target = wpList _ _ _ (Oper.mk none (Op.store _ (Operand.tmp 12) _) _ _ _ _ :: _) _ _; refine wpList_store_mid rfl 31 (.tmp 12) (.tmp 72) rfl w8.heap.size 0 (PageA.cells ⟨SO.1, ns⟩).toArray rfl rfl (by rw [hV9.out]; exact HT9.out) (by rw [List.size_toArray]; exact HIn.out) HOn.out ?_) | (guard_target = wpList _ _ _ (Oper.mk (some 75) _ _ _ _ _ :: _) _ _; refine wpList_load_mid rfl 31 (.tmp 3) rfl w1.heap.size 0 rfl p.cells _ (by rw [hV9.out, hW9.out]; exact HRP.out _ N9) Tryd.underlying31 rfl HIp.out ?_) | (guard_target = wpList _ _ _ (Oper.mk (some 77) _ _ _ _ _ :: _) _ _; refine wpList_load_mid rfl 28 (.tmp 5) rfl (w1.heap.size + 1) 0 rfl s.cells _ (by rw [hV9.out, hW9.out]; exact HRS.out _ N9) Tryd.underlying28 rfl HIs.out ?_) | fail)
  rw [hV9.out, hW9.out]
  clear hV9 hW9 HT9 HOn
  refine (HC6'.out W9 N9).mono ?_
  rintro e w10 ⟨ms, rfl, hvm, hom, hb10⟩
  have hm4 : ms.length = 4 := by have := congrArg List.length hvm.out; simp only [List.length_map] at this; rw [this]; exact HS4.out
  have HIm : Hid ((Tryd.prog.info? 31).map (·.size) = some (PageA.cells ⟨SO.1, ms⟩).length) := by rw [Hid, page_len _ hm4]; kernel_rfl
  have HOm : Hid (_) := all_oneCell_toArray (oneP ⟨SO.1, ms⟩)
  obtain ⟨V11, hV11, bz11, hbz11, hsz11⟩ := boxes1 w10 [.int .i64 0, .bool false, .int .i64 0, .slice none 0 0, .slice none 0 0, .bool false, .int .i64 0, .slice none 0 0, .slice none 0 0, .bool false, .int .i64 0, .slice none 0 0, .slice none 0 0, .bool false, .int .i64 0, .slice none 0 0, .slice none 0 0] 31
  obtain ⟨W11, hW11, hw11, hs11, HT11, _, _⟩ := page_out (C := w10.heap.size) (T := 31) ⟨SO.1, ms⟩ hm4 _ rfl bz11 Tryd.underlying31 rfl (by kernel_rfl)
  have M11 : Below W9.heap.size W9 W11 := hb10.trans ((hbz11.trans (hw11.below (Nat.le_refl _) (by omega))).mono hb10.size)
  have N11 : Below W2.heap.size W2 W11 := N9.trans (M11.mono N9.size)
  have bn11 := bn9.below M11 hln
  have on11 := on9.below M11
  have hs911 := M11.size
  clear bz11 hbz11 hsz11 hw11 hs11 hom hb10 bn9 on9 hvm HC6'
  cases OK with
  | false =>
    have HSE : Hid (SO = (p.lsn, p.ss.map (·.v))) := HSF.out rfl
    have rn11 := Box.range [] (PageA.cells ⟨SO.1, ns⟩) [] (by simpa using bn11 : Box W11 w8.heap.size ([] ++ (PageA.cells ⟨SO.1, ns⟩ ++ [])) 31)
    have C12 : Calls Tryd.prog 15 #[.agg (PageA.cells ⟨SO.1, ns⟩).toArray, .agg p.cells.toArray] W11 fun e w' => e = .returned (.bool true) ∧ Below W11.heap.size W11 w' := by
      have hv2 : ns.map (·.v) = p.ss.map (·.v) := by rw [hvn.out, HSE.out]
      rw [HSE.out]
      exact samePage_same p.lsn ns p.ss hn4 hv2.symm W11 on11.reads (hRp _ N11) (fit_map hv2 hfp)
    clear HSE HSF HST HSP HSO
    go_wp2_with (first | (guard_target = wpList _ _ _ (Oper.mk none (Op.store _ (Operand.tmp 14) _) _ _ _ _ :: _) _ _; refine wpList_store_mid rfl 31 (.tmp 14) (.tmp 80) rfl w10.heap.size 0 (PageA.cells ⟨SO.1, ms⟩).toArray rfl rfl (by rw [hV11.out]; exact HT11.out) (by rw [List.size_toArray]; exact HIm.out) HOm.out ?_) | (guard_target = wpList _ _ _ (Oper.mk (some 93) _ _ _ _ _ :: _) _ _; refine wpList_load_mid_if (by rfl) 31 (.tmp 12) rfl w8.heap.size 0 rfl (PageA.cells ⟨SO.1, ns⟩) _ (by rw [hV11.out, hW11.out]; exact rn11) Tryd.underlying31 rfl HIn.out ?_) | (guard_target = wpList _ _ _ (Oper.mk (some 94) _ _ _ _ _ :: _) _ _; refine wpList_load_mid_if (by rfl) 31 (.tmp 3) rfl w1.heap.size 0 rfl p.cells _ (by rw [hV11.out, hW11.out]; exact HRP.out _ N11) Tryd.underlying31 rfl HIp.out ?_) | fail)
    rw [hV11.out, hW11.out]
    refine C12.mono ?_
    clear C12
    rintro e w12 ⟨rfl, hb12⟩
    go_wp2
    go_ret
    exact ⟨rfl, B2.trans ((N11.trans (hb12.mono N11.size)).mono B2.size)⟩
  | true =>
    obtain ⟨_, ⟨hsl0, hsl3⟩, _, _, _⟩ := HSP.out rfl
    have HSE : Hid (SO = (lsn, (p.ss.map (·.v)).set slot.toNat s.v)) := HST.out rfl
    have HSK : Hid (okP lsn ((p.ss.map (·.v)).set slot.toNat s.v) = true) := HSO.out rfl
    obtain ⟨kk, rfl⟩ : ∃ kk : Nat, slot = (kk : Int) := ⟨slot.toNat, by omega⟩
    rw [Int.toNat_natCast] at HSE HSK
    have HVN : Hid (ns.map (·.v) = (p.ss.map (·.v)).set kk s.v) := by rw [Hid, hvn.out, HSE.out]
    have HL : Hid (SO.1 = lsn) := by rw [Hid, HSE.out]
    have HAT1 : Hid (∀ k, k < 4 → k = kk → (ns.getD k zeroS).v = s.v) := by
      intro k hk e
      subst e
      have h := congrArg (fun l => l[k]?) HVN.out
      simp only [List.getElem?_map, List.getElem?_set_self'] at h
      have hkn : k < ns.length := by omega
      have hkp : k < p.ss.length := by omega
      simp [hkn, hkp] at h
      simp [List.getD, hkn, h]
    have HAT2 : Hid (∀ k, k < 4 → ¬ k = kk → (ns.getD k zeroS).v = (p.ss.getD k zeroS).v) := by
      intro k hk e
      have h := congrArg (fun l => l[k]?) HVN.out
      simp only [List.getElem?_map] at h
      rw [List.getElem?_set_ne (fun h => e h.symm), List.getElem?_map] at h
      have hkn : k < ns.length := by omega
      have hkp : k < p.ss.length := by omega
      simp [hkn, hkp] at h
      simp [List.getD, hkn, hkp, h]
    have hfn : Fit ns := by
      intro x hx
      have hm : x.v ∈ (p.ss.map (·.v)).set kk s.v := by rw [← HVN.out]; exact List.mem_map.2 ⟨x, hx, rfl⟩
      rcases List.mem_or_eq_of_mem_set hm with h | h
      · obtain ⟨y, hy, e⟩ := List.mem_map.1 h
        rw [← e]; exact hfp y hy
      · rw [h]; exact hfs s (List.mem_singleton.2 rfl)
    have hN2 := N11.size
    have bp11 := bp2.below N11 hlp
    have bs11 := bs2.below N11 hls
    have HFO : Hid (freeOf (ns.map (·.v)) = -1 ∨ ∃ j : Nat, j < (ns.map (·.v)).length ∧ freeOf (ns.map (·.v)) = (j : Int) ∧ ((ns.map (·.v)).getD j noS).has = false) := by
      rcases free_at (ns.map (·.v)) 0 with h | ⟨j, hj, he, hh⟩
      · exact .inl h
      · exact .inr ⟨j, hj, by rw [freeOf, he]; simp, hh⟩
    clear HSF HST HSP HSO HOK HPP HYL hvn
    go_wp2_with (first | (guard_target = wpList _ _ _ (Oper.mk none (Op.store _ (Operand.tmp 14) _) _ _ _ _ :: _) _ _; refine wpList_store_mid rfl 31 (.tmp 14) (.tmp 80) rfl w10.heap.size 0 (PageA.cells ⟨SO.1, ms⟩).toArray rfl rfl (by rw [hV11.out]; exact HT11.out) (by rw [List.size_toArray]; exact HIm.out) HOm.out ?_) | fail)
    rw [hV11.out, hW11.out]
    clear hV11 hW11 HT11
    go_loopw [16] (fun i wr => ∃ (k : Nat), i = .int .i64 k ∧ k ≤ 4 ∧ Below W11.heap.size W11 wr)
      (fun i _ => 4 - (intOf i).toNat)
    case atStart => exact ⟨0, rfl, by omega, Below.refl _ _⟩
    case round =>
      obtain ⟨k, rfl, hk, hbl⟩ := hrel
      have Nr : Below W2.heap.size W2 wr := N11.trans (hbl.mono N11.size)
      have hsr := hbl.size
      have hlnn := bn11.lt
      by_cases hlt : k < 4
      · have hkn : k < ns.length := by omega
        have hkp : k < p.ss.length := by omega
        have hi0 : (0 : Int) ≤ (k : Int) := by omega
        have hi4 : (k : Int) < 4 := by omega
        have bpr := bp11.below hbl bp11.lt
        have bsr := bs11.below hbl bs11.lt
        obtain ⟨c0, c1, c2, c3, _⟩ := bpr.pslot k hkp
        obtain ⟨nk, hnk⟩ : ∃ nk, ns.getD k zeroS = nk := ⟨_, rfl⟩
        have HNR : Hid (nk.reads wr ∧ nk.v.o.ints.length ≤ 1099511627776 ∧ nk.v.o.refs.length ≤ 1099511627776) := by
          rw [← hnk]
          exact ⟨(on11.below hbl).reads _ (getD_mem hkn), hfn _ (getD_mem hkn)⟩
        have hpr := hRp _ Nr _ (getD_mem hkp)
        have hv1 := HAT1.out k hlt
        have hv2 := HAT2.out k hlt
        rw [hnk] at hv1 hv2
        obtain ⟨pk, hpk⟩ : ∃ pk, p.ss.getD k zeroS = pk := ⟨_, rfl⟩
        rw [hpk] at c0 c1 c2 c3 hpr hv2
        clear bpr
        by_cases hks : k = kk
        · have hkb : ((k : Int) == (kk : Int)) = true := by simp [hks]
          have HEQ : Hid (s.v = nk.v) := (hv1 hks).symm
          obtain ⟨z0, z1, z2, z3, _⟩ := Box.four (show Box (wr.alloc (.cells #[.bool pk.v.has, .int .i64 pk.v.o.kind, .slice pk.aI pk.v.o.ints.length pk.cI, .slice pk.aR pk.v.o.refs.length pk.cR] 28)) (w1.heap.size + 1) [.bool s.v.has, .int .i64 s.v.o.kind, .slice s.aI s.v.o.ints.length s.cI, .slice s.aR s.v.o.refs.length s.cR] 28 from bsr.alloc _)
          have HRSr : Hid (s.reads wr) := hRs _ Nr
          clear hv1 hv2 hks
          obtain ⟨W12, hW12, bw12, hb12, hs12⟩ := boxes1 wr s.cells 28
          have hb12' := hb12
          have N12 : Below W11.heap.size W11 W12 := hbl.trans (hb12.mono hbl.size)
          have HSX : Hid (∀ w1, Below W12.heap.size W12 w1 → (w1.cell? ⟨w8.heap.size, 1 + k * 4, none⟩ = some (.bool nk.v.has) ∧ w1.cell? ⟨w8.heap.size, 1 + k * 4 + 1, none⟩ = some (.int .i64 nk.v.o.kind) ∧ w1.cell? ⟨w8.heap.size, 1 + k * 4 + 2, none⟩ = some (.slice nk.aI nk.v.o.ints.length nk.cI) ∧ w1.cell? ⟨w8.heap.size, 1 + k * 4 + 3, none⟩ = some (.slice nk.aR nk.v.o.refs.length nk.cR)) ∧ (w1.cell? ⟨wr.heap.size, 0, none⟩ = some (.bool s.v.has) ∧ w1.cell? ⟨wr.heap.size, 1, none⟩ = some (.int .i64 s.v.o.kind) ∧ w1.cell? ⟨wr.heap.size, 2, none⟩ = some (.slice s.aI s.v.o.ints.length s.cI) ∧ w1.cell? ⟨wr.heap.size, 3, none⟩ = some (.slice s.aR s.v.o.refs.length s.cR))) := fun v hh => by
            obtain ⟨d0, d1, d2, d3, _⟩ := ((bn11.below (N12.trans (hh.mono N12.size)) hlnn)).pslot k hkn
            rw [hnk] at d0 d1 d2 d3
            obtain ⟨e0, e1, e2, e3, _⟩ := Box.four (show Box v wr.heap.size [.bool s.v.has, .int .i64 s.v.o.kind, .slice s.aI s.v.o.ints.length s.cI, .slice s.aR s.v.o.refs.length s.cR] 28 from bw12.below hh bw12.lt)
            exact ⟨⟨d0, d1, d2, d3⟩, e0, e1, e2, e3⟩
          have hh := HSX.out W12 (Below.refl _ _)
          have HRW : Hid (nk.reads W12 ∧ s.reads W12 ∧ s.v = nk.v ∧ nk.v.o.ints.length ≤ 1099511627776 ∧ nk.v.o.refs.length ≤ 1099511627776) := ⟨ReadsO.below HNR.out.1 hb12', ReadsO.below HRSr.out hb12', HEQ.out, HNR.out.2⟩
          simp only [SlotA.cells] at hW12
          clear hb12 hs12
          go_wp2_with fail
          rw [hW12.out]
          clear hW12
          go_region_held3 (fun w1 => (w1.cell? ⟨w8.heap.size, 1 + k * 4, none⟩ = some (.bool nk.v.has) ∧ w1.cell? ⟨w8.heap.size, 1 + k * 4 + 1, none⟩ = some (.int .i64 nk.v.o.kind) ∧ w1.cell? ⟨w8.heap.size, 1 + k * 4 + 2, none⟩ = some (.slice nk.aI nk.v.o.ints.length nk.cI) ∧ w1.cell? ⟨w8.heap.size, 1 + k * 4 + 3, none⟩ = some (.slice nk.aR nk.v.o.refs.length nk.cR)) ∧ (w1.cell? ⟨wr.heap.size, 0, none⟩ = some (.bool s.v.has) ∧ w1.cell? ⟨wr.heap.size, 1, none⟩ = some (.int .i64 s.v.o.kind) ∧ w1.cell? ⟨wr.heap.size, 2, none⟩ = some (.slice s.aI s.v.o.ints.length s.cI) ∧ w1.cell? ⟨wr.heap.size, 3, none⟩ = some (.slice s.aR s.v.o.refs.length s.cR)))
            (first | exact HSX.out _ hw2 | go_keep | fail)
            ((first | (go_at_call 17; refine (sameSlot_same nk s HRW.out.2.2.1 _ (ReadsO.drew HRW.out.1) (ReadsO.drew HRW.out.2.1) HRW.out.2.2.2.1 HRW.out.2.2.2.2).mono ?_; rintro e w13 ⟨rfl, hb13⟩; have hw2 : Below W12.heap.size W12 w13 := ((Below.refl _ _).drew).trans hb13) | fail))
          all_goals
            go_wp2_with fail
            go_roundw
            case rel => exact ⟨k + 1, by go_num, by omega, N12.trans (hw2.mono N12.size)⟩
            case measure => simp [intOf]; omega
        · have hkb : ((k : Int) == (kk : Int)) = false := by simp; omega
          have HEQ : Hid (pk.v = nk.v) := (hv2 hks).symm
          have HRSr : Hid (pk.reads wr) := hpr
          clear hv1 hv2 hks
          obtain ⟨W12, hW12, bw12, hb12, hs12⟩ := boxes1 wr pk.cells 28
          have hb12' := hb12
          have N12 : Below W11.heap.size W11 W12 := hbl.trans (hb12.mono hbl.size)
          have HSX : Hid (∀ w1, Below W12.heap.size W12 w1 → (w1.cell? ⟨w8.heap.size, 1 + k * 4, none⟩ = some (.bool nk.v.has) ∧ w1.cell? ⟨w8.heap.size, 1 + k * 4 + 1, none⟩ = some (.int .i64 nk.v.o.kind) ∧ w1.cell? ⟨w8.heap.size, 1 + k * 4 + 2, none⟩ = some (.slice nk.aI nk.v.o.ints.length nk.cI) ∧ w1.cell? ⟨w8.heap.size, 1 + k * 4 + 3, none⟩ = some (.slice nk.aR nk.v.o.refs.length nk.cR)) ∧ (w1.cell? ⟨wr.heap.size, 0, none⟩ = some (.bool pk.v.has) ∧ w1.cell? ⟨wr.heap.size, 1, none⟩ = some (.int .i64 pk.v.o.kind) ∧ w1.cell? ⟨wr.heap.size, 2, none⟩ = some (.slice pk.aI pk.v.o.ints.length pk.cI) ∧ w1.cell? ⟨wr.heap.size, 3, none⟩ = some (.slice pk.aR pk.v.o.refs.length pk.cR))) := fun v hh => by
            obtain ⟨d0, d1, d2, d3, _⟩ := ((bn11.below (N12.trans (hh.mono N12.size)) hlnn)).pslot k hkn
            rw [hnk] at d0 d1 d2 d3
            obtain ⟨e0, e1, e2, e3, _⟩ := Box.four (show Box v wr.heap.size [.bool pk.v.has, .int .i64 pk.v.o.kind, .slice pk.aI pk.v.o.ints.length pk.cI, .slice pk.aR pk.v.o.refs.length pk.cR] 28 from bw12.below hh bw12.lt)
            exact ⟨⟨d0, d1, d2, d3⟩, e0, e1, e2, e3⟩
          have hh := HSX.out W12 (Below.refl _ _)
          have HRW : Hid (nk.reads W12 ∧ pk.reads W12 ∧ pk.v = nk.v ∧ nk.v.o.ints.length ≤ 1099511627776 ∧ nk.v.o.refs.length ≤ 1099511627776) := ⟨ReadsO.below HNR.out.1 hb12', ReadsO.below HRSr.out hb12', HEQ.out, HNR.out.2⟩
          simp only [SlotA.cells] at hW12
          clear hb12 hs12
          go_wp2_with fail
          rw [hW12.out]
          clear hW12
          go_region_held3 (fun w1 => (w1.cell? ⟨w8.heap.size, 1 + k * 4, none⟩ = some (.bool nk.v.has) ∧ w1.cell? ⟨w8.heap.size, 1 + k * 4 + 1, none⟩ = some (.int .i64 nk.v.o.kind) ∧ w1.cell? ⟨w8.heap.size, 1 + k * 4 + 2, none⟩ = some (.slice nk.aI nk.v.o.ints.length nk.cI) ∧ w1.cell? ⟨w8.heap.size, 1 + k * 4 + 3, none⟩ = some (.slice nk.aR nk.v.o.refs.length nk.cR)) ∧ (w1.cell? ⟨wr.heap.size, 0, none⟩ = some (.bool pk.v.has) ∧ w1.cell? ⟨wr.heap.size, 1, none⟩ = some (.int .i64 pk.v.o.kind) ∧ w1.cell? ⟨wr.heap.size, 2, none⟩ = some (.slice pk.aI pk.v.o.ints.length pk.cI) ∧ w1.cell? ⟨wr.heap.size, 3, none⟩ = some (.slice pk.aR pk.v.o.refs.length pk.cR)))
            (first | exact HSX.out _ hw2 | go_keep | fail)
            ((first | (go_at_call 17; refine (sameSlot_same nk pk HRW.out.2.2.1 _ (ReadsO.drew HRW.out.1) (ReadsO.drew HRW.out.2.1) HRW.out.2.2.2.1 HRW.out.2.2.2.2).mono ?_; rintro e w13 ⟨rfl, hb13⟩; have hw2 : Below W12.heap.size W12 w13 := ((Below.refl _ _).drew).trans hb13) | fail))
          all_goals
            go_wp2_with fail
            go_roundw
            case rel => exact ⟨k + 1, by go_num, by omega, N12.trans (hw2.mono N12.size)⟩
            case measure => simp [intOf]; omega
      · obtain rfl : k = 4 := by omega
        have hkk : ¬ ((4 : Nat) : Int) < 4 := by omega
        have bnr := bn11.below hbl hlnn
        have onr := on11.below hbl
        have rnr := Box.range [] (PageA.cells ⟨SO.1, ns⟩) [] (by simpa using bnr : Box wr w8.heap.size ([] ++ ((PageA.cells ⟨SO.1, ns⟩) ++ [])) 31)
        go_wp2_with (first | (guard_target = wpList _ _ _ (Oper.mk (some 116) _ _ _ _ _ :: _) _ _; refine wpList_load_mid rfl 31 (.tmp 12) rfl w8.heap.size 0 rfl (PageA.cells ⟨SO.1, ns⟩) _ (rnr) Tryd.underlying31 rfl HIn.out ?_) | fail)
        clear rnr
        refine (implFreeSlot_any ⟨SO.1, ns⟩ hn4 wr).mono ?_
        simp only
        rintro e w13 ⟨rfl, hb13⟩
        have bn13 := bnr.below hb13 bnr.lt
        have on13 := onr.below hb13
        have N13 : Below W2.heap.size W2 w13 := Nr.trans (hb13.mono Nr.size)
        have rn13 := Box.range [] (PageA.cells ⟨SO.1, ns⟩) [] (by simpa using bn13 : Box w13 w8.heap.size ([] ++ ((PageA.cells ⟨SO.1, ns⟩) ++ [])) 31)
        have C14 := implPageOk_any ⟨SO.1, ns⟩ hn4 w13 (hgB _ N13) on13.reads hfn
        simp only [HVN.out] at C14
        rw [HL.out, HSK.out] at C14
        have y0 : w13.cell? ⟨w8.heap.size, 0, none⟩ = some (.int .i64 lsn) := by have h := bn13.cell 0 _ (show (PageA.cells ⟨SO.1, ns⟩)[0]? = some (.int .i64 SO.1) from rfl); rw [HL.out] at h; exact h
        rw [HL.out] at rn13
        have HIn' : Hid ((Tryd.prog.info? 31).map (·.size) = some (PageA.cells ⟨lsn, ns⟩).length) := by have h := HIn.out; rw [HL.out] at h; exact h
        have HJ : Hid (∀ w', Below w13.heap.size w13 w' → ∀ j, j < ns.length → w'.cell? ⟨w8.heap.size, 1 + j * 4, none⟩ = some (.bool (ns.getD j zeroS).v.has)) := fun w' hh j hj => ((bn13.below hh bn13.lt).pslot j hj).1
        have HNV : Hid (∀ j, j < ns.length → ((ns.map (·.v)).getD j noS).has = (ns.getD j zeroS).v.has) := fun j hj => by simp [List.getD, hj]
        clear bn13 on13 bnr onr
        rcases HFO.out with hf | ⟨j, hj, hf, hh⟩
        · rw [hf]
          clear hf HFO
          go_wp2_with (first | (guard_target = wpList _ _ _ (Oper.mk (some 123) _ _ _ _ _ :: _) _ _; refine wpList_load_mid_if (by rfl) 31 (.tmp 12) rfl w8.heap.size 0 rfl (PageA.cells ⟨lsn, ns⟩) _ (rn13) Tryd.underlying31 rfl HIn'.out ?_) | fail)
          refine C14.mono ?_
          clear C14 rn13
          rintro e w14 ⟨rfl, hb14⟩
          go_wp2
          go_ret
          exact ⟨rfl, B2.trans ((N13.trans (hb14.mono N13.size)).mono B2.size)⟩
        · rw [hf]
          have hjn : j < ns.length := by rw [List.length_map] at hj; exact hj
          have hj0 : (0 : Int) ≤ (j : Int) := by omega
          have hj4 : (j : Int) < 4 := by omega
          have hjn0 : ¬ (j : Int) < 0 := by omega
          have hjd : decide ((j : Int) < 0) = false := decide_eq_false hjn0
          rw [HNV.out j hjn] at hh
          clear hf HFO hj
          go_wp2_with (first | (guard_target = wpList _ _ _ (Oper.mk (some 123) _ _ _ _ _ :: _) _ _; refine wpList_load_mid_if (by rfl) 31 (.tmp 12) rfl w8.heap.size 0 rfl (PageA.cells ⟨lsn, ns⟩) _ (rn13) Tryd.underlying31 rfl HIn'.out ?_) | fail)
          refine C14.mono ?_
          clear C14 rn13
          rintro e w14 ⟨rfl, hb14⟩
          have hcj := HJ.out w14 hb14 j hjn
          rw [hh] at hcj
          clear hh HJ HNV
          go_wp2
          go_ret
          exact ⟨rfl, B2.trans ((N13.trans (hb14.mono N13.size)).mono B2.size)⟩
end Go.Proofs.YtbaocehcnjdkkaaDoor

/- What the row's condition on errors.errorType gives a walk; a world that meets it. -/
namespace Go.Proofs.YtbaocehcnjdkkaaDoor
open Go.ChangeShapes Go.WideShapes Go.RowKit

theorem Tryd.et : Tryd.prog.globalNamed "errors.errorType" = some 0 := by kernel_rfl
theorem Tryd.rt : (Tryd.prog.cutTypes.find? (·.1 == "internal/reflectlite.rtype")).map (·.2) = some 154 := by kernel_rfl
theorem Tryd.oneRow : ((List.range 196).filter fun t => Tryd.prog.rowNamed t [101, 114, 114, 111, 114]) = [123] := by kernel_rfl
theorem Tryd.typesSize : Tryd.prog.types.size = 196 := by kernel_rfl

theorem errT_of_handles {W : World} {laid : List (String × DataW Unit)} (hm : ("errors.errorType", Rows.laid_errors_errorType) ∈ laid) (h : handlesMet Tryd.prog laid W) : ErrT W := by
  obtain ⟨name, u, ty, e1, e2, e3, e4, e5⟩ := h _ hm
  have en : name = [101, 114, 114, 111, 114] := (Option.some.inj e1).symm
  subst en
  obtain rfl := Option.some.inj (Tryd.rt.symm.trans e2)
  have hm : ty ∈ (List.range 196).filter fun t => Tryd.prog.rowNamed t [101, 114, 114, 111, 114] := List.mem_filter.2 ⟨List.mem_range.2 (by rw [← Tryd.typesSize]; exact e3), e4⟩
  rw [Tryd.oneRow] at hm
  obtain rfl := List.mem_singleton.1 hm
  have hh : typeHandle Tryd.prog 123 = .pointer (some ⟨1, 123, none⟩) := by kernel_rfl
  rw [hh] at e5
  unfold ErrT
  simpa using World.var?_cell Tryd.et e5 0

/-- The one listed variable. -/
def laid1 : List (String × DataW Unit) := [("errors.errorType", Rows.laid_errors_errorType)]
theorem errT_of_laid1 {W : World} (h : laidMetH Tryd.prog laid1 W) : ErrT W := by
  have h' : laidMet Tryd.prog [] W ∧ handlesMet Tryd.prog laid1 W := h
  exact errT_of_handles (List.mem_singleton.2 rfl) h'.2
end Go.Proofs.YtbaocehcnjdkkaaDoor
