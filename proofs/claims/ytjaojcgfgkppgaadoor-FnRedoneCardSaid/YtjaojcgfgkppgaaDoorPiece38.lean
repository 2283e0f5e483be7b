/- Several texts in one, in their order. -/
import Derived.Test.YtjaojcgfgkppgaaDoorPiece37
import Derived.Test.YtjaojcgfgkppgaaDoorPiece32
import Derived.Test.YtjaojcgfgkppgaaDoorPiece27
import Derived.Deep.QuietTactic
import Derived.BigQuiet
/- The walk of spec.Redo. -/
namespace Go.Proofs.YtjaojcgfgkppgaaDoor
open Go.RowKit

/-- What Redo answers, by the model and by the landed code. -/
def RedoAns (w w' : World) (n : Int) (vs : List SlotV) (r : RecV) (e : Ending) : Prop := ∃ ts : List SlotA, e = .returned (.tuple #[.agg (PageA.cells ⟨(redoOf n vs r).1, ts⟩).toArray, .bool (redoOk n vs r)]) ∧ Hid (ts.map (·.v) = (redoOf n vs r).2) ∧ OwnS w' w.heap.size w'.heap.size ts ∧ Below w.heap.size w w'
theorem redoAns_no {w w' : World} {n : Int} {vs : List SlotV} {r : RecV} {ts : List SlotA} (h : redoOk n vs r = false) (hv : ts.map (·.v) = vs) (ho : OwnS w' w.heap.size w'.heap.size ts) (hb : Below w.heap.size w w') : RedoAns w w' n vs r (.returned (.tuple #[.agg (PageA.cells ⟨n, ts⟩).toArray, .bool false])) :=
  ⟨ts, by rw [redoOf_no h, h], by rw [Hid, redoOf_no h]; exact hv, ho, hb⟩
theorem redoAns_yes {w w' : World} {n : Int} {vs : List SlotV} {r : RecV} {ts : List SlotA} {k : Nat} (h : redoOk n vs r = true) (hk : (r.oid % 4).toNat = k) (hv : ts.map (·.v) = vs.set k r.af) (ho : OwnS w' w.heap.size w'.heap.size ts) (hb : Below w.heap.size w w') : RedoAns w w' n vs r (.returned (.tuple #[.agg (PageA.cells ⟨r.lsn, ts⟩).toArray, .bool true])) :=
  ⟨ts, by rw [redoOf_yes h, h], by rw [Hid, redoOf_yes h, hk]; exact hv, ho, hb⟩

set_option maxHeartbeats 4000000 in
set_option maxRecDepth 100000 in
theorem specRedo_any (p : PageA) (h4 : p.ss.length = 4) (r : RecA) (w : World) (hr : ReadsS w p.ss) (hl : Fit p.ss) (hrr : r.reads w) (hlr : r.short 1099511627776) :
    Calls Tryd.prog 16 #[.agg p.cells.toArray, .agg r.cells.toArray] w fun e w' => RedoAns w w' p.lsn (p.ss.map (·.v)) r.v e := by
  obtain ⟨W, hW, b0, b1, b2, hbW, hsW⟩ := boxes3 w p.cells r.cells [.int .i64 0, .bool false, .int .i64 0, .slice none 0 0, .slice none 0 0, .bool false, .int .i64 0, .slice none 0 0, .slice none 0 0, .bool false, .int .i64 0, .slice none 0 0, .slice none 0 0, .bool false, .int .i64 0, .slice none 0 0, .slice none 0 0] 40 31 40
  have b2' : Box W (w.heap.size + 1 + 1) zero17 40 := b2
  have HX0 : Hid (∀ u, Below W.heap.size W u → Box u w.heap.size p.cells 40) := fun u hu => b0.below hu b0.lt
  have HX1 : Hid (∀ u, Below W.heap.size W u → Box u (w.heap.size + 1) r.cells 31) := fun u hu => b1.below hu b1.lt
  have HX2 : Hid (∀ u, Below W.heap.size W u → Box u (w.heap.size + 1 + 1) zero17 40) := fun u hu => b2'.below hu b2'.lt
  have HL : Hid (∀ u, Below W.heap.size W u → u.cell? ⟨w.heap.size, 0, none⟩ = some (.int .i64 p.lsn) ∧ u.cell? ⟨w.heap.size + 1, 0, none⟩ = some (.int .i64 r.lsn) ∧ u.cell? ⟨w.heap.size + 1, 3, none⟩ = some (.int .i64 r.kind)) := fun u hu => ⟨(HX0.out u hu).cell 0 _ rfl, (HX1.out u hu).cell 0 _ rfl, (HX1.out u hu).cell 3 _ rfl⟩
  have hlt := b2'.lt
  have C1 := specPageOk_any p h4 W (hr.below hbW) hl
  have HP : Hid (okP p.lsn (p.ss.map (·.v)) = false → redoOk p.lsn (p.ss.map (·.v)) r.v = false) := fun h => redo_p h
  have HR : Hid (okR r.v = false → redoOk p.lsn (p.ss.map (·.v)) r.v = false) := fun h => redo_r h
  have HK : Hid ((r.kind == 1) = false → (r.kind == 4) = false → redoOk p.lsn (p.ss.map (·.v)) r.v = false) := fun h h' => redo_k (r := r.v) h h'
  have HN : Hid (r.lsn ≤ p.lsn → redoOk p.lsn (p.ss.map (·.v)) r.v = false) := fun h => redo_n (r := r.v) h
  have HY : Hid (okP p.lsn (p.ss.map (·.v)) = true → okR r.v = true → (r.kind == 1 || r.kind == 4) = true → p.lsn < r.lsn → redoOk p.lsn (p.ss.map (·.v)) r.v = true) := fun a b c d => redo_all (r := r.v) a b c d
  clear hsW b2 b2' b1 b0
  go_enter Tryd.func16, Tryd.ntmps16
  go_wp2_with (first | (guard_target = wpList _ _ _ (Oper.mk (some 6) _ _ _ _ _ :: _) _ _; refine wpList_load_mid rfl 40 (.tmp 2) rfl w.heap.size 0 rfl p.cells _ (by rw [hW.out]; exact page_rng p (HX0.out _ (Below.refl _ _))) Tryd.underlying40 rfl (page_info p h4) ?_) | fail)
  rw [hW.out]
  clear hW
  refine C1.mono ?_
  clear C1
  rintro e w1 ⟨rfl, hb1⟩
  cases hp : okP p.lsn (p.ss.map (·.v)) with
  | false =>
    have HNO : Hid (redoOk p.lsn (p.ss.map (·.v)) r.v = false) := HP.out hp
    clear HP HR HK HN HY hp
    have rp := page_rng p (HX0.out _ hb1)
    go_wp2_with (first | (guard_target = wpList _ _ _ (Oper.mk (some 31) _ _ _ _ _ :: _) _ _; refine wpList_load_mid rfl 40 (.tmp 2) rfl w.heap.size 0 rfl p.cells _ rp Tryd.underlying40 rfl (page_info p h4) ?_) | fail)
    refine (l3Copy_own p h4 w1 (hr.below (hbW.trans (hb1.mono hbW.size))) hl).mono ?_
    rintro e v1 ⟨ts, rfl, hvt, hot, hbt⟩
    have M1 : Below W.heap.size W v1 := hb1.trans (hbt.mono hb1.size)
    have z1 := hb1.size
    have z2 := hbt.size
    have ht4 := map_len4 hvt.out h4
    obtain ⟨WF, hWF, hwF, hsF, HTF, HLF, _⟩ := page_out' ⟨p.lsn, ts⟩ ht4 (HX2.out _ M1)
    have HE : Hid (RedoAns w WF p.lsn (p.ss.map (·.v)) r.v (.returned (.tuple #[.agg (PageA.cells ⟨p.lsn, ts⟩).toArray, .bool false]))) := redoAns_no HNO.out hvt.out ((hot.within hwF (by omega)).widen (by omega) (by omega) (Nat.le_refl _)) ((hbW.trans (M1.mono hbW.size)).trans (hwF.below (by omega) (by omega)))
    clear hwF hsF rp
    go_wp2_with (first | (guard_target = wpList _ _ _ (Oper.mk none (Op.store _ (Operand.tmp 4) _) _ _ _ _ :: _) _ _; refine wpList_store_mid rfl 40 (.tmp 4) (.tmp 32) rfl (w.heap.size + 1 + 1) 0 (PageA.cells ⟨p.lsn, ts⟩).toArray rfl rfl HTF.out (by rw [List.size_toArray]; exact page_info _ ht4) (all_oneCell_toArray (oneP _)) ?_) | fail)
    rw [hWF.out]
    exact bodyPost_ret (v := .tuple #[.agg (PageA.cells ⟨p.lsn, ts⟩).toArray, .bool false]) (results_cell_flag Tryd.results16 rfl HLF.out rfl) rfl HE.out
  | true =>
  have r1 := rec_rng' r (HX1.out _ hb1)
  go_wp2_with (first | (guard_target = wpList _ _ _ (Oper.mk (some 10) _ _ _ _ _ :: _) _ _; refine wpList_load_mid_if (by rfl) 31 (.tmp 3) rfl (w.heap.size + 1) 0 rfl r.cells _ r1 Tryd.underlying31 rfl (rec_info _) ?_) | fail)
  refine (specRecOk_any r w1 (hrr.below (hbW.trans (hb1.mono hbW.size))) hlr).mono ?_
  clear r1
  rintro e w2 ⟨rfl, hb2'⟩
  have hb2 : Below W.heap.size W w2 := hb1.trans (hb2'.mono hb1.size)
  clear hb2'
  cases hk : okR r.v with
  | false =>
    have HNO : Hid (redoOk p.lsn (p.ss.map (·.v)) r.v = false) := HR.out hk
    clear HP HR HK HN HY hp hk
    have rp := page_rng p (HX0.out _ hb2)
    go_wp2_with (first | (guard_target = wpList _ _ _ (Oper.mk (some 31) _ _ _ _ _ :: _) _ _; refine wpList_load_mid rfl 40 (.tmp 2) rfl w.heap.size 0 rfl p.cells _ rp Tryd.underlying40 rfl (page_info p h4) ?_) | fail)
    refine (l3Copy_own p h4 w2 (hr.below (hbW.trans (hb2.mono hbW.size))) hl).mono ?_
    rintro e v1 ⟨ts, rfl, hvt, hot, hbt⟩
    have M1 : Below W.heap.size W v1 := hb2.trans (hbt.mono hb2.size)
    have z1 := hb2.size
    have z2 := hbt.size
    have ht4 := map_len4 hvt.out h4
    obtain ⟨WF, hWF, hwF, hsF, HTF, HLF, _⟩ := page_out' ⟨p.lsn, ts⟩ ht4 (HX2.out _ M1)
    have HE : Hid (RedoAns w WF p.lsn (p.ss.map (·.v)) r.v (.returned (.tuple #[.agg (PageA.cells ⟨p.lsn, ts⟩).toArray, .bool false]))) := redoAns_no HNO.out hvt.out ((hot.within hwF (by omega)).widen (by omega) (by omega) (Nat.le_refl _)) ((hbW.trans (M1.mono hbW.size)).trans (hwF.below (by omega) (by omega)))
    clear hwF hsF rp
    go_wp2_with (first | (guard_target = wpList _ _ _ (Oper.mk none (Op.store _ (Operand.tmp 4) _) _ _ _ _ :: _) _ _; refine wpList_store_mid rfl 40 (.tmp 4) (.tmp 32) rfl (w.heap.size + 1 + 1) 0 (PageA.cells ⟨p.lsn, ts⟩).toArray rfl rfl HTF.out (by rw [List.size_toArray]; exact page_info _ ht4) (all_oneCell_toArray (oneP _)) ?_) | fail)
    rw [hWF.out]
    exact bodyPost_ret (v := .tuple #[.agg (PageA.cells ⟨p.lsn, ts⟩).toArray, .bool false]) (results_cell_flag Tryd.results16 rfl HLF.out rfl) rfl HE.out
  | true =>
  cases k1 : (r.kind == 1) with
  | true =>
    obtain ⟨c0, c1, c3⟩ := HL.out _ hb2
    rw [show r.kind = 1 by simpa using k1] at c3
    by_cases hn : r.lsn ≤ p.lsn
    case pos =>
      have HNO : Hid (redoOk p.lsn (p.ss.map (·.v)) r.v = false) := HN.out hn
      clear HP HR HK HN HY hp hk
      have rp := page_rng p (HX0.out _ hb2)
      go_wp2_with (first | (guard_target = wpList _ _ _ (Oper.mk (some 31) _ _ _ _ _ :: _) _ _; refine wpList_load_mid rfl 40 (.tmp 2) rfl w.heap.size 0 rfl p.cells _ rp Tryd.underlying40 rfl (page_info p h4) ?_) | fail)
      refine (l3Copy_own p h4 w2 (hr.below (hbW.trans (hb2.mono hbW.size))) hl).mono ?_
      rintro e v1 ⟨ts, rfl, hvt, hot, hbt⟩
      have M1 : Below W.heap.size W v1 := hb2.trans (hbt.mono hb2.size)
      have z1 := hb2.size
      have z2 := hbt.size
      have ht4 := map_len4 hvt.out h4
      obtain ⟨WF, hWF, hwF, hsF, HTF, HLF, _⟩ := page_out' ⟨p.lsn, ts⟩ ht4 (HX2.out _ M1)
      have HE : Hid (RedoAns w WF p.lsn (p.ss.map (·.v)) r.v (.returned (.tuple #[.agg (PageA.cells ⟨p.lsn, ts⟩).toArray, .bool false]))) := redoAns_no HNO.out hvt.out ((hot.within hwF (by omega)).widen (by omega) (by omega) (Nat.le_refl _)) ((hbW.trans (M1.mono hbW.size)).trans (hwF.below (by omega) (by omega)))
      clear hwF hsF rp
      go_wp2_with (first | (guard_target = wpList _ _ _ (Oper.mk none (Op.store _ (Operand.tmp 4) _) _ _ _ _ :: _) _ _; refine wpList_store_mid rfl 40 (.tmp 4) (.tmp 32) rfl (w.heap.size + 1 + 1) 0 (PageA.cells ⟨p.lsn, ts⟩).toArray rfl rfl HTF.out (by rw [List.size_toArray]; exact page_info _ ht4) (all_oneCell_toArray (oneP _)) ?_) | fail)
      rw [hWF.out]
      exact bodyPost_ret (v := .tuple #[.agg (PageA.cells ⟨p.lsn, ts⟩).toArray, .bool false]) (results_cell_flag Tryd.results16 rfl HLF.out rfl) rfl HE.out
    case neg =>
      have HYES : Hid (redoOk p.lsn (p.ss.map (·.v)) r.v = true) := HY.out hp hk (by simp [k1]) (by omega)
      obtain ⟨k, hk4, hm, hm2, hm3⟩ := okR_oid hk
      clear HP HR HK HN HY hp hk
      have rp := page_rng p (HX0.out _ hb2)
      have rr := rec_rng' r (HX1.out _ hb2)
      go_wp2_with (first | (guard_target = wpList _ _ _ (Oper.mk (some 33) _ _ _ _ _ :: _) _ _; refine wpList_load_mid rfl 40 (.tmp 2) rfl w.heap.size 0 rfl p.cells _ rp Tryd.underlying40 rfl (page_info p h4) ?_) | (guard_target = wpList _ _ _ (Oper.mk (some 34) _ _ _ _ _ :: _) _ _; refine wpList_load_mid rfl 31 (.tmp 3) rfl (w.heap.size + 1) 0 rfl r.cells _ rr Tryd.underlying31 rfl (rec_info _) ?_) | fail)
      refine (l4Redo_own p h4 r k hk4 hm hm2 w2 (hr.below (hbW.trans (hb2.mono hbW.size))) hl (hrr.below (hbW.trans (hb2.mono hbW.size))) hlr).mono ?_
      rintro e v1 ⟨ts, rfl, hvt, hot, hbt⟩
      have M1 : Below W.heap.size W v1 := hb2.trans (hbt.mono hb2.size)
      have z1 := hb2.size
      have z2 := hbt.size
      have ht4 : ts.length = 4 := by have := congrArg List.length hvt.out; simp only [List.length_map, List.length_set] at this; omega
      obtain ⟨WF, hWF, hwF, hsF, HTF, HLF, _⟩ := page_out' ⟨r.lsn, ts⟩ ht4 (HX2.out _ M1)
      have HE : Hid (RedoAns w WF p.lsn (p.ss.map (·.v)) r.v (.returned (.tuple #[.agg (PageA.cells ⟨r.lsn, ts⟩).toArray, .bool true]))) := redoAns_yes (r := r.v) HYES.out hm3 hvt.out ((hot.within hwF (by omega)).widen (by omega) (by omega) (Nat.le_refl _)) ((hbW.trans (M1.mono hbW.size)).trans (hwF.below (by omega) (by omega)))
      clear hwF hsF rp rr c0 c1 c3
      go_wp2_with (first | (guard_target = wpList _ _ _ (Oper.mk none (Op.store _ (Operand.tmp 4) _) _ _ _ _ :: _) _ _; refine wpList_store_mid rfl 40 (.tmp 4) (.tmp 35) rfl (w.heap.size + 1 + 1) 0 (PageA.cells ⟨r.lsn, ts⟩).toArray rfl rfl HTF.out (by rw [List.size_toArray]; exact page_info _ ht4) (all_oneCell_toArray (oneP _)) ?_) | fail)
      rw [hWF.out]
      exact bodyPost_ret (v := .tuple #[.agg (PageA.cells ⟨r.lsn, ts⟩).toArray, .bool true]) (results_cell_flag Tryd.results16 rfl HLF.out rfl) rfl HE.out
  | false =>
  cases k4 : (r.kind == 4) with
  | true =>
    obtain ⟨c0, c1, c3⟩ := HL.out _ hb2
    rw [show r.kind = 4 by simpa using k4] at c3
    by_cases hn : r.lsn ≤ p.lsn
    case pos =>
      have HNO : Hid (redoOk p.lsn (p.ss.map (·.v)) r.v = false) := HN.out hn
      clear HP HR HK HN HY hp hk
      have rp := page_rng p (HX0.out _ hb2)
      go_wp2_with (first | (guard_target = wpList _ _ _ (Oper.mk (some 31) _ _ _ _ _ :: _) _ _; refine wpList_load_mid rfl 40 (.tmp 2) rfl w.heap.size 0 rfl p.cells _ rp Tryd.underlying40 rfl (page_info p h4) ?_) | fail)
      refine (l3Copy_own p h4 w2 (hr.below (hbW.trans (hb2.mono hbW.size))) hl).mono ?_
      rintro e v1 ⟨ts, rfl, hvt, hot, hbt⟩
      have M1 : Below W.heap.size W v1 := hb2.trans (hbt.mono hb2.size)
      have z1 := hb2.size
      have z2 := hbt.size
      have ht4 := map_len4 hvt.out h4
      obtain ⟨WF, hWF, hwF, hsF, HTF, HLF, _⟩ := page_out' ⟨p.lsn, ts⟩ ht4 (HX2.out _ M1)
      have HE : Hid (RedoAns w WF p.lsn (p.ss.map (·.v)) r.v (.returned (.tuple #[.agg (PageA.cells ⟨p.lsn, ts⟩).toArray, .bool false]))) := redoAns_no HNO.out hvt.out ((hot.within hwF (by omega)).widen (by omega) (by omega) (Nat.le_refl _)) ((hbW.trans (M1.mono hbW.size)).trans (hwF.below (by omega) (by omega)))
      clear hwF hsF rp
      go_wp2_with (first | (guard_target = wpList _ _ _ (Oper.mk none (Op.store _ (Operand.tmp 4) _) _ _ _ _ :: _) _ _; refine wpList_store_mid rfl 40 (.tmp 4) (.tmp 32) rfl (w.heap.size + 1 + 1) 0 (PageA.cells ⟨p.lsn, ts⟩).toArray rfl rfl HTF.out (by rw [List.size_toArray]; exact page_info _ ht4) (all_oneCell_toArray (oneP _)) ?_) | fail)
      rw [hWF.out]
      exact bodyPost_ret (v := .tuple #[.agg (PageA.cells ⟨p.lsn, ts⟩).toArray, .bool false]) (results_cell_flag Tryd.results16 rfl HLF.out rfl) rfl HE.out
    case neg =>
      have HYES : Hid (redoOk p.lsn (p.ss.map (·.v)) r.v = true) := HY.out hp hk (by simp [k4]) (by omega)
      obtain ⟨k, hk4, hm, hm2, hm3⟩ := okR_oid hk
      clear HP HR HK HN HY hp hk
      have rp := page_rng p (HX0.out _ hb2)
      have rr := rec_rng' r (HX1.out _ hb2)
      go_wp2_with (first | (guard_target = wpList _ _ _ (Oper.mk (some 33) _ _ _ _ _ :: _) _ _; refine wpList_load_mid rfl 40 (.tmp 2) rfl w.heap.size 0 rfl p.cells _ rp Tryd.underlying40 rfl (page_info p h4) ?_) | (guard_target = wpList _ _ _ (Oper.mk (some 34) _ _ _ _ _ :: _) _ _; refine wpList_load_mid rfl 31 (.tmp 3) rfl (w.heap.size + 1) 0 rfl r.cells _ rr Tryd.underlying31 rfl (rec_info _) ?_) | fail)
      refine (l4Redo_own p h4 r k hk4 hm hm2 w2 (hr.below (hbW.trans (hb2.mono hbW.size))) hl (hrr.below (hbW.trans (hb2.mono hbW.size))) hlr).mono ?_
      rintro e v1 ⟨ts, rfl, hvt, hot, hbt⟩
      have M1 : Below W.heap.size W v1 := hb2.trans (hbt.mono hb2.size)
      have z1 := hb2.size
      have z2 := hbt.size
      have ht4 : ts.length = 4 := by have := congrArg List.length hvt.out; simp only [List.length_map, List.length_set] at this; omega
      obtain ⟨WF, hWF, hwF, hsF, HTF, HLF, _⟩ := page_out' ⟨r.lsn, ts⟩ ht4 (HX2.out _ M1)
      have HE : Hid (RedoAns w WF p.lsn (p.ss.map (·.v)) r.v (.returned (.tuple #[.agg (PageA.cells ⟨r.lsn, ts⟩).toArray, .bool true]))) := redoAns_yes (r := r.v) HYES.out hm3 hvt.out ((hot.within hwF (by omega)).widen (by omega) (by omega) (Nat.le_refl _)) ((hbW.trans (M1.mono hbW.size)).trans (hwF.below (by omega) (by omega)))
      clear hwF hsF rp rr c0 c1 c3
      go_wp2_with (first | (guard_target = wpList _ _ _ (Oper.mk none (Op.store _ (Operand.tmp 4) _) _ _ _ _ :: _) _ _; refine wpList_store_mid rfl 40 (.tmp 4) (.tmp 35) rfl (w.heap.size + 1 + 1) 0 (PageA.cells ⟨r.lsn, ts⟩).toArray rfl rfl HTF.out (by rw [List.size_toArray]; exact page_info _ ht4) (all_oneCell_toArray (oneP _)) ?_) | fail)
      rw [hWF.out]
      exact bodyPost_ret (v := .tuple #[.agg (PageA.cells ⟨r.lsn, ts⟩).toArray, .bool true]) (results_cell_flag Tryd.results16 rfl HLF.out rfl) rfl HE.out
  | false =>
    obtain ⟨c0, c1, c3⟩ := HL.out _ hb2
    have hb1n : (r.kind != 1) = true := by simp only [bne, k1, Bool.not_false]
    have hb4n : (r.kind != 4) = true := by simp only [bne, k4, Bool.not_false]
    have HNO : Hid (redoOk p.lsn (p.ss.map (·.v)) r.v = false) := HK.out k1 k4
    clear HP HR HK HN HY hp hk
    have rp := page_rng p (HX0.out _ hb2)
    go_wp2_with (first | (guard_target = wpList _ _ _ (Oper.mk (some 31) _ _ _ _ _ :: _) _ _; refine wpList_load_mid rfl 40 (.tmp 2) rfl w.heap.size 0 rfl p.cells _ rp Tryd.underlying40 rfl (page_info p h4) ?_) | fail)
    refine (l3Copy_own p h4 w2 (hr.below (hbW.trans (hb2.mono hbW.size))) hl).mono ?_
    rintro e v1 ⟨ts, rfl, hvt, hot, hbt⟩
    have M1 : Below W.heap.size W v1 := hb2.trans (hbt.mono hb2.size)
    have z1 := hb2.size
    have z2 := hbt.size
    have ht4 := map_len4 hvt.out h4
    obtain ⟨WF, hWF, hwF, hsF, HTF, HLF, _⟩ := page_out' ⟨p.lsn, ts⟩ ht4 (HX2.out _ M1)
    have HE : Hid (RedoAns w WF p.lsn (p.ss.map (·.v)) r.v (.returned (.tuple #[.agg (PageA.cells ⟨p.lsn, ts⟩).toArray, .bool false]))) := redoAns_no HNO.out hvt.out ((hot.within hwF (by omega)).widen (by omega) (by omega) (Nat.le_refl _)) ((hbW.trans (M1.mono hbW.size)).trans (hwF.below (by omega) (by omega)))
    clear hwF hsF rp
    go_wp2_with (first | (guard_target = wpList _ _ _ (Oper.mk none (Op.store _ (Operand.tmp 4) _) _ _ _ _ :: _) _ _; refine wpList_store_mid rfl 40 (.tmp 4) (.tmp 32) rfl (w.heap.size + 1 + 1) 0 (PageA.cells ⟨p.lsn, ts⟩).toArray rfl rfl HTF.out (by rw [List.size_toArray]; exact page_info _ ht4) (all_oneCell_toArray (oneP _)) ?_) | fail)
    rw [hWF.out]
    exact bodyPost_ret (v := .tuple #[.agg (PageA.cells ⟨p.lsn, ts⟩).toArray, .bool false]) (results_cell_flag Tryd.results16 rfl HLF.out rfl) rfl HE.out
end Go.Proofs.YtjaojcgfgkppgaaDoor

/- The walks of slices.Equal over what is under way, impl.sameSlot and impl.sameRec. -/
namespace Go.Proofs.YtjaojcgfgkppgaaDoor
open Go.RowKit

def sameL (a b : LiveV) : Bool := decide (a.tx = b.tx) && (decide (a.last = b.last) && (a.aborts == b.aborts))
theorem sameL_iff {a b : LiveV} : sameL a b = true ↔ a = b := by
  obtain ⟨a1, a2, a3⟩ := a
  obtain ⟨b1, b2, b3⟩ := b
  simp [sameL]
def sameLs (xs ys : List LiveV) : Bool := decide (xs.length = ys.length) && (List.range xs.length).all fun k => sameL (xs.getD k zeroL) (ys.getD k zeroL)
theorem sameLs_len {xs ys : List LiveV} (h : ¬ xs.length = ys.length) : sameLs xs ys = false := by simp [sameLs, h]
theorem sameLs_no {xs ys : List LiveV} (k : Nat) (hk : k < xs.length) (h : sameL (xs.getD k zeroL) (ys.getD k zeroL) = false) : sameLs xs ys = false := by
  have : ((List.range xs.length).all fun k => sameL (xs.getD k zeroL) (ys.getD k zeroL)) = false := by
    rw [List.all_eq_false]
    exact ⟨k, List.mem_range.2 hk, by rw [h]; decide⟩
  unfold sameLs
  rw [this, Bool.and_false]
theorem sameLs_all {xs ys : List LiveV} (hl : xs.length = ys.length) (h : ∀ k, k < xs.length → sameL (xs.getD k zeroL) (ys.getD k zeroL) = true) : sameLs xs ys = true := by
  have : ((List.range xs.length).all fun k => sameL (xs.getD k zeroL) (ys.getD k zeroL)) = true := by
    rw [List.all_eq_true]
    exact fun k hk => h k (List.mem_range.1 hk)
  unfold sameLs
  rw [this, Bool.and_true]
  exact decide_eq_true hl
theorem sameLs_refl (xs : List LiveV) : sameLs xs xs = true := sameLs_all rfl (fun _ _ => sameL_iff.2 rfl)
theorem sameLs_nil (xs : List LiveV) : sameLs [] xs = decide (xs.length = 0) := by
  cases xs with
  | nil => rfl
  | cons x r => rw [sameLs_len (by simp)]; simp

theorem run_neq_live (a b : LiveV) (w : World) : (binOp .neq 65 (.agg #[.int .i64 a.tx, .int .i64 a.last, .bool a.aborts]) (.agg #[.int .i64 b.tx, .int .i64 b.last, .bool b.aborts])).run Tryd.prog w = .ok (.bool (!sameL a b)) w := by
  obtain ⟨a1, a2, a3⟩ := a
  obtain ⟨b1, b2, b3⟩ := b
  have hp : Tryd.prog.stoodInHeld 65 = false := by kernel_rfl
  by_cases h1 : a1 = b1 <;> by_cases h2 : a2 = b2 <;> cases a3 <;> cases b3 <;> go_simp <;> simp_all [sameL]

set_option maxHeartbeats 2000000 in
set_option maxRecDepth 100000 in
theorem equalLives_any (a b : Option Addr) (ca cb : Nat) (xs ys : List LiveV) (w : World) (ha : ReadsL w a xs) (hb : ReadsL w b ys) (hl : xs.length ≤ 1099511627776) (hl2 : ys.length ≤ 1099511627776) :
    Calls Tryd.prog 75 #[.slice a xs.length ca, .slice b ys.length cb] w fun e w' => e = .returned (.bool (sameLs xs ys)) ∧ ∃ n, w' = w.drewN n := by
  by_cases hle : xs.length = ys.length
  case neg =>
    have HE : Hid (_ = _) := sameLs_len hle
    have hle' : ((xs.length : Int) == (ys.length : Int)) = false := by simp; omega
    go_enter Tryd.func75, Tryd.ntmps75
    go_wp2
    go_ret
    exact ⟨ret_bool HE.out.symm, 0, rfl⟩
  case pos =>
  have HL : Hid (xs.length = ys.length) := hle
  have hle' : ((xs.length : Int) == (ys.length : Int)) = true := by simp; omega
  rcases ha.cases with rfl | ⟨b1, o1, rfl, hpos, hc1⟩
  · obtain rfl : ys = [] := List.length_eq_zero_iff.1 (by simpa using hle.symm)
    have HE : Hid (sameLs [] [] = true) := rfl
    clear hle hle' HL
    go_enter Tryd.func75, Tryd.ntmps75
    go_wp2
    refine wp_loop_rounds 1 ?_
    rw [rounds_succ]
    go_wp2
    go_ret
    exact ⟨ret_bool HE.out.symm, 0, rfl⟩
  · rcases hb.cases with rfl | ⟨b2, o2, rfl, _, hc2⟩
    · simp at hle; simp [hle] at hpos
    · clear hle
      go_enter Tryd.func75, Tryd.ntmps75
      go_wp2
      go_loopw [13] (fun i wr => ∃ k : Nat, k ≤ xs.length ∧ i = .int .i64 k ∧ Hid (∀ t, t < k → sameL (xs.getD t zeroL) (ys.getD t zeroL) = true) ∧ ∃ n, wr = w.drewN n) (fun i _ => xs.length - (intOf i).toNat)
      case atStart => exact ⟨0, Nat.zero_le _, rfl, fun t ht => by omega, 0, rfl⟩
      case round =>
        obtain ⟨k, hk, rfl, hall, n, rfl⟩ := hrel
        by_cases hlt : k < xs.length
        · obtain ⟨h10, h11, h12⟩ := hc1 k hlt
          obtain ⟨h20, h21, h22⟩ := hc2 k (by have := HL.out; omega)
          have hlt2 : (k : Int) < (ys.length : Int) := by have := HL.out; omega
          have hnl := run_neq_live (xs.getD k zeroL) (ys.getD k zeroL)
          clear hc1 hc2
          cases hz : sameL (xs.getD k zeroL) (ys.getD k zeroL) with
          | true =>
            have HN : Hid (∀ t, t < k + 1 → sameL (xs.getD t zeroL) (ys.getD t zeroL) = true) := by
              intro t ht
              by_cases e : t = k
              · rw [e]; exact hz
              · exact hall.out t (by omega)
            rw [hz] at hnl
            clear hz
            generalize xs.getD k zeroL = z at *
            generalize ys.getD k zeroL = y at *
            go_wp2
            go_quiet (fail)
            go_wp2
            go_roundw
            case rel => exact ⟨k + 1, by omega, by go_num, HN, _, rfl⟩
            case measure => simp [intOf]; omega
          | false =>
            have HE : Hid (_ = _) := sameLs_no k hlt hz
            rw [hz] at hnl
            clear hz
            generalize xs.getD k zeroL = z at *
            generalize ys.getD k zeroL = y at *
            go_wp2
            go_quiet (fail)
            go_wp2
            go_ret
            exact ⟨ret_bool HE.out.symm, n + nq, by first | rfl | simp⟩
        · have HE : Hid (_ = _) := sameLs_all HL.out (fun t ht => hall.out t (by omega))
          go_wp2
          go_ret
          exact ⟨ret_bool HE.out.symm, n, rfl⟩

def sameS (a b : SlotV) : Bool := (a.has == b.has) && sameO a.o b.o
set_option maxHeartbeats 1000000 in
set_option maxRecDepth 100000 in
theorem implSameSlot_any (s t : SlotA) (w : World) (hs : s.reads w) (ht : t.reads w) (hls : Fit [s]) (hlt : Fit [t]) :
    Calls Tryd.prog 74 #[.agg s.cells.toArray, .agg t.cells.toArray] w fun e w' => e = .returned (.bool (sameS s.v t.v)) ∧ Below w.heap.size w w' := by
  obtain ⟨h1, h2⟩ := hls s (List.mem_singleton.2 rfl)
  obtain ⟨h3, h4⟩ := hlt t (List.mem_singleton.2 rfl)
  obtain ⟨W, hW, b0, b1, hbW, hsW⟩ := boxes2 w s.cells t.cells 28 28
  have C1 := implSameObj_any s.v.o t.v.o s.aI s.cI s.aR s.cR t.aI t.cI t.aR t.cR W (ReadsO.below hs hbW) (ReadsO.below ht hbW) h1 h2 h3 h4
  have HZ : Hid (sameS s.v t.v = ((s.v.has == t.v.has) && sameO s.v.o t.v.o)) := rfl
  generalize sameS s.v t.v = R at *
  simp only [SlotA.cells] at *
  obtain ⟨x0, x1, x2, x3, _⟩ := b0.four
  obtain ⟨y0, y1, y2, y3, _⟩ := b1.four
  clear hsW b0 b1
  cases hb : (s.v.has == t.v.has) with
  | false =>
    have HR : Hid (R = false) := by rw [Hid, HZ.out]; simp [hb]
    clear HZ C1
    go_enter Tryd.func74, Tryd.ntmps74
    go_wp2
    go_ret
    exact ⟨ret_bool HR.out.symm, by rw [hW.out]; exact hbW⟩
  | true =>
    have HR : Hid (R = sameO s.v.o t.v.o) := by rw [Hid, HZ.out]; simp [hb]
    clear HZ
    go_enter Tryd.func74, Tryd.ntmps74
    go_wp2_with fail
    rw [hW.out]
    refine C1.mono ?_
    clear C1 x0 x1 x2 x3 y0 y1 y2 y3
    rintro e w1 ⟨rfl, hb1⟩
    go_wp2
    go_ret
    exact ⟨ret_bool HR.out.symm, hbW.trans (hb1.mono hbW.size)⟩

def sameR (r t : RecV) : Bool := ((r.lsn == t.lsn) && ((r.tx == t.tx) && ((r.prev == t.prev) && ((r.kind == t.kind) && ((r.oid == t.oid) && (sameS r.bf t.bf && (sameS r.af t.af && ((r.next == t.next) && sameLs r.txs t.txs))))))))
set_option maxHeartbeats 4000000 in
set_option maxRecDepth 100000 in
theorem sameRec_any (r t : RecA) (w : World) (hr : r.reads w) (ht : t.reads w) (hlr : r.short 1099511627776) (hlt : t.short 1099511627776) :
    Calls Tryd.prog 38 #[.agg r.cells.toArray, .agg t.cells.toArray] w fun e w' => e = .returned (.bool (sameR r.v t.v)) ∧ Below w.heap.size w w' := by
  obtain ⟨W, hW, b0, b1, hbW, hsW⟩ := boxes2 w r.cells t.cells 31 31
  have HZ : Hid (sameR r.v t.v = ((r.lsn == t.lsn) && ((r.tx == t.tx) && ((r.prev == t.prev) && ((r.kind == t.kind) && ((r.oid == t.oid) && (sameS r.bf.v t.bf.v && (sameS r.af.v t.af.v && ((r.next == t.next) && sameLs r.txs t.txs))))))))) := rfl
  have HB : Hid (∀ u, Below w.heap.size w u → Calls _ _ _ _ _) := fun u hu => implSameSlot_any r.bf t.bf u (ReadsO.below hr.bf hu) (ReadsO.below ht.bf hu) (fun s hs => by obtain rfl := List.mem_singleton.1 hs; exact hlr.bf) (fun s hs => by obtain rfl := List.mem_singleton.1 hs; exact hlt.bf)
  have HA : Hid (∀ u, Below w.heap.size w u → Calls _ _ _ _ _) := fun u hu => implSameSlot_any r.af t.af u (ReadsO.below hr.af hu) (ReadsO.below ht.af hu) (fun s hs => by obtain rfl := List.mem_singleton.1 hs; exact hlr.af) (fun s hs => by obtain rfl := List.mem_singleton.1 hs; exact hlt.af)
  have HL : Hid (∀ u, Below w.heap.size w u → Calls _ _ _ _ _) := fun u hu => equalLives_any r.aL t.aL r.cL t.cL r.txs t.txs u (hr.txs.below hu) (ht.txs.below hu) hlr.txs hlt.txs
  have HX : Hid (∀ u, Below W.heap.size W u → Box u w.heap.size r.cells 31 ∧ Box u (w.heap.size + 1) t.cells 31) := fun u hu => ⟨b0.below hu b0.lt, b1.below hu b1.lt⟩
  generalize sameR r.v t.v = R at *
  clear hsW hr ht hlr hlt b0 b1
  simp only [RecA.cells, SlotA.cells] at *
  have l0 : Below W.heap.size W W := Below.refl _ _
  obtain ⟨x0, x1, x2, x3, x4, x5, x6, x7, x8, x9, x10, x11, x12, x13, x14⟩ := fifteen (HX.out W l0).1
  obtain ⟨y0, y1, y2, y3, y4, y5, y6, y7, y8, y9, y10, y11, y12, y13, y14⟩ := fifteen (HX.out W l0).2
  go_enter Tryd.func38, Tryd.ntmps38
  cases c0 : (r.lsn == t.lsn) with
  | false =>
    have HR : Hid (R = false) := by rw [Hid, HZ.out]; simp [c0]
    clear HZ
    go_wp2
    go_ret
    exact ⟨ret_bool HR.out.symm, by rw [hW.out]; exact hbW⟩
  | true =>
    cases c1 : (r.tx == t.tx) with
    | false =>
      have HR : Hid (R = false) := by rw [Hid, HZ.out]; simp [c0, c1]
      clear HZ
      go_wp2
      go_ret
      exact ⟨ret_bool HR.out.symm, by rw [hW.out]; exact hbW⟩
    | true =>
      cases c2 : (r.prev == t.prev) with
      | false =>
        have HR : Hid (R = false) := by rw [Hid, HZ.out]; simp [c0, c1, c2]
        clear HZ
        go_wp2
        go_ret
        exact ⟨ret_bool HR.out.symm, by rw [hW.out]; exact hbW⟩
      | true =>
        cases c3 : (r.kind == t.kind) with
        | false =>
          have HR : Hid (R = false) := by rw [Hid, HZ.out]; simp [c0, c1, c2, c3]
          clear HZ
          go_wp2
          go_ret
          exact ⟨ret_bool HR.out.symm, by rw [hW.out]; exact hbW⟩
        | true =>
          cases c4 : (r.oid == t.oid) with
          | false =>
            have HR : Hid (R = false) := by rw [Hid, HZ.out]; simp [c0, c1, c2, c3, c4]
            clear HZ
            go_wp2
            go_ret
            exact ⟨ret_bool HR.out.symm, by rw [hW.out]; exact hbW⟩
          | true =>
            go_wp2_with fail
            rw [hW.out]
            clear hW
            refine (HB.out W hbW).mono ?_
            clear x0 x1 x2 x3 x4 x5 x6 x7 x8 x9 x10 x11 x12 x13 x14 y0 y1 y2 y3 y4 y5 y6 y7 y8 y9 y10 y11 y12 y13 y14
            rintro e u5 ⟨rfl, hb5⟩
            have b_5 : Below w.heap.size w u5 := (hbW).trans (hb5.mono (hbW).size)
            have l_5 : Below W.heap.size W u5 := (l0).trans (hb5.mono (l0).size)
            obtain ⟨x0, x1, x2, x3, x4, x5, x6, x7, x8, x9, x10, x11, x12, x13, x14⟩ := fifteen (HX.out u5 l_5).1
            obtain ⟨y0, y1, y2, y3, y4, y5, y6, y7, y8, y9, y10, y11, y12, y13, y14⟩ := fifteen (HX.out u5 l_5).2
            clear hb5
            cases c5 : sameS r.bf.v t.bf.v with
            | false =>
              have HR : Hid (R = false) := by rw [Hid, HZ.out]; simp [c0, c1, c2, c3, c4, c5]
              clear HZ
              go_wp2
              go_ret
              exact ⟨ret_bool HR.out.symm, b_5⟩
            | true =>
              go_wp2_with fail
              refine (HA.out u5 b_5).mono ?_
              clear x0 x1 x2 x3 x4 x5 x6 x7 x8 x9 x10 x11 x12 x13 x14 y0 y1 y2 y3 y4 y5 y6 y7 y8 y9 y10 y11 y12 y13 y14
              rintro e u6 ⟨rfl, hb6⟩
              have b_6 : Below w.heap.size w u6 := (b_5).trans (hb6.mono (b_5).size)
              have l_6 : Below W.heap.size W u6 := (l_5).trans (hb6.mono (l_5).size)
              obtain ⟨x0, x1, x2, x3, x4, x5, x6, x7, x8, x9, x10, x11, x12, x13, x14⟩ := fifteen (HX.out u6 l_6).1
              obtain ⟨y0, y1, y2, y3, y4, y5, y6, y7, y8, y9, y10, y11, y12, y13, y14⟩ := fifteen (HX.out u6 l_6).2
              clear hb6
              cases c6 : sameS r.af.v t.af.v with
              | false =>
                have HR : Hid (R = false) := by rw [Hid, HZ.out]; simp [c0, c1, c2, c3, c4, c5, c6]
                clear HZ
                go_wp2
                go_ret
                exact ⟨ret_bool HR.out.symm, b_6⟩
              | true =>
                cases c7 : (r.next == t.next) with
                | false =>
                  have HR : Hid (R = false) := by rw [Hid, HZ.out]; simp [c0, c1, c2, c3, c4, c5, c6, c7]
                  clear HZ
                  go_wp2
                  go_ret
                  exact ⟨ret_bool HR.out.symm, b_6⟩
                | true =>
                  go_wp2_with fail
                  refine (HL.out u6 b_6).mono ?_
                  clear x0 x1 x2 x3 x4 x5 x6 x7 x8 x9 x10 x11 x12 x13 x14 y0 y1 y2 y3 y4 y5 y6 y7 y8 y9 y10 y11 y12 y13 y14
                  rintro e u8 ⟨rfl, nn, hnn⟩
                  have hb8 : Below (u6).heap.size u6 u8 := by rw [hnn]; exact below_drewN (Below.refl _ _) nn
                  clear hnn
                  have b_8 : Below w.heap.size w u8 := (b_6).trans (hb8.mono (b_6).size)
                  have l_8 : Below W.heap.size W u8 := (l_6).trans (hb8.mono (l_6).size)
                  have HR : Hid (R = sameLs r.txs t.txs) := by rw [Hid, HZ.out]; simp [c0, c1, c2, c3, c4, c5, c6, c7]
                  clear HZ
                  go_wp2
                  go_ret
                  exact ⟨ret_bool HR.out.symm, b_8⟩
end Go.Proofs.YtjaojcgfgkppgaaDoor
