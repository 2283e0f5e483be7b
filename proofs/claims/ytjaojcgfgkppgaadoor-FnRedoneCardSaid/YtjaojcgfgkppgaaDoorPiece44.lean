/- Several texts in one, in their order. -/
import Derived.Test.YtjaojcgfgkppgaaDoorPiece36
import Derived.Test.YtjaojcgfgkppgaaDoorPiece28
import Derived.Test.YtjaojcgfgkppgaaDoorPiece42
import Derived.Test.YtjaojcgfgkppgaaDoorPiece43
import Derived.Test.YtjaojcgfgkppgaaDoorPiece29
import Derived.Deep.RegionHeld3
import Derived.Deep.CutRange
/- The walks of spec.DrawRedo and laws.FnRedone. -/
namespace Go.Proofs.YtjaojcgfgkppgaaDoor
open Go.RowKit

theorem getD_map_set {ts : List SlotA} {l : List SlotV} {k : Nat} {x : SlotV} (h : ts.map (·.v) = l.set k x) (hk : k < l.length) : (ts.getD k zeroS).v = x := by
  have hl : k < ts.length := by have h0 := congrArg List.length h; rw [List.length_map, List.length_set] at h0; omega
  have h1 := congrArg (fun q => q[k]?) h
  simp [hl, hk] at h1
  simpa [List.getD, hl] using h1

theorem results_pair {P : Program} {fn : Func} {s t : Nat} {ty tz : TypeId} {tmps : Array Value} {w : World} {v u : Value} {ad ae : Addr} (hf : fn.results = #[.cell s ty, .cell t tz]) (ht : tmps[s]?.getD undef = .pointer (some ad)) (hu : tmps[t]?.getD undef = .pointer (some ae)) (hl : (loadVar ty ad).run P w = .ok v w) (hm : (loadVar tz ae).run P w = .ok u w) : (results fn tmps).run P w = .ok (.tuple #[v, u]) w := by
  unfold results
  rw [hf]
  simp [ht, hu, asAddr, hl, hm]

set_option maxHeartbeats 4000000 in
set_option maxRecDepth 100000 in
theorem drawRedo_any (a : Option Addr) (c : Nat) (zs : List Int) (w : World) (hr : Reads w a zs) (hl : zs.length ≤ 70368744177664) :
    Calls Tryd.prog 14 #[.slice a zs.length c] w fun e w' => ∃ (p : PageA) (t : RecA), e = .returned (.tuple #[.agg p.cells.toArray, .agg t.cells.toArray]) ∧ p.ss.length = 4 ∧ Fit p.ss ∧ t.short 12 ∧ ReadsS w' p.ss ∧ t.reads w' ∧ Below w.heap.size w w' := by
  obtain ⟨W, hW, bP0, bR, hbW, hsW⟩ := boxes2 w [.int .i64 0, .bool false, .int .i64 0, .slice none 0 0, .slice none 0 0, .bool false, .int .i64 0, .slice none 0 0, .slice none 0 0, .bool false, .int .i64 0, .slice none 0 0, .slice none 0 0, .bool false, .int .i64 0, .slice none 0 0, .slice none 0 0] [.int .i64 0, .int .i64 0, .int .i64 0, .int .i64 0, .int .i64 0, .bool false, .int .i64 0, .slice none 0 0, .slice none 0 0, .bool false, .int .i64 0, .slice none 0 0, .slice none 0 0, .int .i64 0, .slice none 0 0] 40 31
  have bP : Box W w.heap.size zero17 40 := bP0
  have hsW' : w.heap.size + 1 < W.heap.size := bR.lt
  have BW : Below w.heap.size w W := hbW
  clear hsW hbW bP0
  go_enter Tryd.func14, Tryd.ntmps14
  go_wp2_with fail
  rw [hW.out]
  clear hW
  refine (l1New_any a c zs W (hr.below BW) hl).mono ?_
  rintro e w1 ⟨rfl, hc, hb1⟩
  have s1 := hb1.size
  have lc := hc.lt
  replace bR := bR.below hb1 bR.lt
  replace bP := bP.below hb1 bP.lt
  replace BW := BW.trans (hb1.mono BW.size)
  clear hb1
  go_wp2_with fail
  refine (l3PageAny_any W.heap.size zs w1 hc hl).mono ?_
  clear hc
  rintro e w2 ⟨n, ts, rfl, h4, hsm, ots, hc, hw2⟩
  have s2 := hw2.size
  replace bR := bR.within hw2 (by omega)
  replace bP := bP.within hw2 (by omega)
  replace BW := BW.trans (hw2.below (by omega) (by omega))
  clear hw2
  go_wp2_with fail
  refine (l4DrawAny_any W.heap.size zs w2 hc hl).mono ?_
  clear hc
  rintro e w3 ⟨t, rfl, hsh, ot, _, hw3⟩
  have s3 := hw3.size
  replace bR := bR.within hw3 (by omega)
  replace bP := bP.within hw3 (by omega)
  replace ots := ots.within hw3 (by omega)
  replace BW := BW.trans (hw3.below (by omega) (by omega))
  clear hw3
  have lP := bP.lt
  obtain ⟨w4, hS4, hw4, hz4, HT4, _, bP4⟩ := page_out' ⟨n, ts⟩ h4 bP
  replace bR := bR.within hw4 (by omega)
  obtain ⟨w5, hS5, hw5, hz5, HT5, HL5, bR5⟩ := rec_out t _ rfl bR
  have bP5 := bP4.within hw5 (by omega)
  have HLP : Hid ((loadVar 40 ⟨w.heap.size, 0, none⟩).run Tryd.prog w5 = .ok (.agg (PageA.cells ⟨n, ts⟩).toArray) w5) := run_loadVar_mid (P := Tryd.prog) w5 w.heap.size 0 40 _ _ (page_rng _ bP5) Tryd.underlying40 rfl (page_info _ h4)
  have HF : Hid (ReadsS w5 ts ∧ t.reads w5 ∧ Below w.heap.size w w5) := ⟨((ots.within hw4 (by omega)).within hw5 (by omega)).reads, ((ot.within hw4 (by omega)).within hw5 (by omega)).reads, (BW.trans (hw4.below (by omega) (by omega))).trans (hw5.below (by omega) (by omega))⟩
  clear hw4 hw5 hz4 hz5 bP4 bP5 bR5 ots ot
  go_wp2_with (first | (guard_target = wpList _ _ _ (Oper.mk none (Op.store _ (Operand.tmp 2) _) _ _ _ _ :: _) _ _; refine wpList_store_mid rfl 40 (.tmp 2) (.tmp 8) rfl w.heap.size 0 (PageA.cells ⟨n, ts⟩).toArray rfl rfl HT4.out (by rw [List.size_toArray]; exact page_info _ h4) (all_oneCell_toArray (oneP _)) ?_) | (guard_target = wpList _ _ _ (Oper.mk none (Op.store _ (Operand.tmp 3) _) _ _ _ _ :: _) _ _; refine wpList_store_mid rfl 31 (.tmp 3) (.tmp 10) rfl (w.heap.size + 1) 0 t.cells.toArray rfl rfl (by rw [hS4.out]; exact HT5.out) (by rw [List.size_toArray]; exact rec_info _) (rec_one _) ?_) | fail)
  rw [hS4.out, hS5.out]
  exact bodyPost_ret (v := .tuple #[.agg (PageA.cells ⟨n, ts⟩).toArray, .agg t.cells.toArray]) (results_pair Tryd.results14 rfl rfl HLP.out HL5.out) rfl ⟨⟨n, ts⟩, t, rfl, h4, fun s hs => by have := hsm s hs; omega, hsh, HF.out.1, HF.out.2.1, HF.out.2.2⟩

theorem back_ok {r : RecV} (h : okR r = true) (hk : r.kind = 1) (hn : r.lsn < 500000) : okR (backV r 500000 r.lsn) = true := by
  have d := okR_bd h
  have h1 := d.lsn; have h3 := d.prev; have hb := d.bf
  have htx : inB r.tx 1 1000 = true ∧ inB r.oid 1 31 = true := by
    unfold okR at h
    simp only [hk, Bool.and_eq_true] at h
    have h2 := h.2.2.2
    simp at h2
    exact ⟨h2.1, h2.2.2.2⟩
  have e : okR (backV r 500000 r.lsn) = (inB 500000 1 1000000 && (slotB noS && (slotB r.bf && (inB r.tx 1 1000 && (inB r.lsn 0 (500000 - 1) && (zeroB (backV r 500000 r.lsn) true true false true false && (inB r.oid 1 31 && inB r.prev 0 (500000 - 1)))))))) := rfl
  have e1 : inB r.lsn 0 (500000 - 1) = true := by simp [inB]; omega
  have e2 : inB r.prev 0 (500000 - 1) = true := by simp [inB]; omega
  have e3 : zeroB (backV r 500000 r.lsn) true true false true false = true := rfl
  rw [e, hb, htx.1, htx.2, e1, e2, e3]
  rfl
theorem set_okP {n m : Int} {vs : List SlotV} {k : Nat} {s : SlotV} (h : okP n vs = true) (hs : slotB s = true) (hm : 0 ≤ m ∧ m ≤ 1000000) : okP m (vs.set k s) = true := by
  obtain ⟨h1, _⟩ := okP_bd h
  simp only [okP, Bool.and_eq_true, List.all_eq_true, inB, decide_eq_true_eq]
  refine ⟨fun x hx => ?_, hm⟩
  rcases List.mem_or_eq_of_mem_set hx with h2 | rfl
  · exact h1 x h2
  · exact hs
theorem redo_parts {n : Int} {vs : List SlotV} {r : RecV} (h : redoOk n vs r = true) : okP n vs = true ∧ okR r = true ∧ (r.kind == 1 || r.kind == 4) = true ∧ n < r.lsn := by
  simp only [redoOk, Bool.and_eq_true, decide_eq_true_eq] at h
  exact ⟨h.1, h.2.1, h.2.2.1, h.2.2.2⟩
theorem undone {n : Int} {vs : List SlotV} {r : RecV} (h : redoOk n vs r = true) (hk : r.kind = 1) (hn : r.lsn < 500000) :
    redoOk r.lsn (vs.set (r.oid % 4).toNat r.af) (backV r 500000 r.lsn) = true ∧ undoV r 500000 r.lsn = backV r 500000 r.lsn := by
  obtain ⟨h1, h2, _, _⟩ := redo_parts h
  have d := okR_bd h2
  have hb := back_ok h2 hk hn
  exact ⟨redo_all (set_okP h1 d.af ⟨by have := d.lsn; omega, d.lsn.2⟩) hb rfl hn, undoV_yes h2 hk hb⟩

set_option maxHeartbeats 8000000 in
set_option maxRecDepth 100000 in
theorem lawRedone_walk (a : Option Addr) (cap : Nat) (zs : List Int) (w : World) (hg : ErrT w) (hr : Reads w a zs) :
    Calls Tryd.prog 4 #[.slice a zs.length cap] w fun e w' => e = .returned (.bool true) ∧ Below w.heap.size w w' := by
  by_cases hbig : 1048576 < zs.length
  · have hd : decide (1048576 < zs.length) = true := decide_eq_true hbig
    go_enter Tryd.func4, Tryd.ntmps4
    go_wp2_with fail
    refine (big_any a cap zs.length w).mono ?_
    rw [hd]
    rintro e u ⟨rfl, hu⟩
    rw [hu]
    clear hu u
    go_wp2
    go_ret
    exact ⟨rfl, Below.refl _ _⟩
  have hd : decide (1048576 < zs.length) = false := decide_eq_false hbig
  have BW : Below w.heap.size w w := Below.refl _ _
  go_enter Tryd.func4, Tryd.ntmps4
  go_wp2_with fail
  refine (big_any a cap zs.length w).mono ?_
  rw [hd]
  rintro e u ⟨rfl, hu⟩
  rw [hu]
  clear hu u hd
  go_wp2_with fail
  refine (drawRedo_any a cap zs w hr (by omega)).mono ?_
  rintro e w1 ⟨p, r, rfl, h4, hfp, hsh, hrp, hrr, hb1⟩
  replace BW := BW.trans (hb1.mono BW.size)
  have s1 := hb1.size
  have hrS : r.short 1099511627776 := ⟨by have := hsh.bf; omega, by have := hsh.af; omega, by have := hsh.txs; omega⟩
  clear hsh
  obtain ⟨Z, hZ, bZP0, bZR, hbZ, _⟩ := boxes2 w1 [.int .i64 0, .bool false, .int .i64 0, .slice none 0 0, .slice none 0 0, .bool false, .int .i64 0, .slice none 0 0, .slice none 0 0, .bool false, .int .i64 0, .slice none 0 0, .slice none 0 0, .bool false, .int .i64 0, .slice none 0 0, .slice none 0 0] [.int .i64 0, .int .i64 0, .int .i64 0, .int .i64 0, .int .i64 0, .bool false, .int .i64 0, .slice none 0 0, .slice none 0 0, .bool false, .int .i64 0, .slice none 0 0, .slice none 0 0, .int .i64 0, .slice none 0 0] 40 31
  have bZP : Box Z w1.heap.size zero17 40 := bZP0
  obtain ⟨w2a, hS2a, hw2a, hz2a, HT2a, _, bx3⟩ := page_out' p h4 bZP
  have bZR2 := bZR.within hw2a (by omega)
  obtain ⟨w2, hS2, hw2, hz2, HT2, _, bx4⟩ := rec_out r [.int .i64 0, .int .i64 0, .int .i64 0, .int .i64 0, .int .i64 0, .bool false, .int .i64 0, .slice none 0 0, .slice none 0 0, .bool false, .int .i64 0, .slice none 0 0, .slice none 0 0, .int .i64 0, .slice none 0 0] rfl bZR2
  replace bx3 := bx3.within hw2 (by omega)
  have hb2 : Below w1.heap.size w1 w2 := (hbZ.trans (hw2a.below (Nat.le_refl _) hbZ.size)).trans (hw2.below (by omega) (by have := hbZ.size; have := hw2a.size; omega))
  clear bZP0 bZP bZR bZR2 hbZ hw2a hw2 hz2a hz2
  replace hrp := hrp.below hb2
  replace hrr := hrr.below hb2
  replace BW := BW.trans (hb2.mono BW.size)
  have s2 := hb2.size
  have l3 := bx3.lt
  have l4 := bx4.lt
  go_wp2_with (first | (guard_target = wpList _ _ _ (Oper.mk none (Op.store _ (Operand.tmp 3) _) _ _ _ _ :: _) _ _; refine wpList_store_mid rfl 40 (.tmp 3) (.tmp 19) rfl w1.heap.size 0 p.cells.toArray rfl rfl (by rw [hZ.out]; exact HT2a.out) (by rw [List.size_toArray]; exact page_info _ h4) (all_oneCell_toArray (oneP _)) ?_) | (guard_target = wpList _ _ _ (Oper.mk none (Op.store _ (Operand.tmp 4) _) _ _ _ _ :: _) _ _; refine wpList_store_mid rfl 31 (.tmp 4) (.tmp 20) rfl (w1.heap.size + 1) 0 r.cells.toArray rfl rfl (by rw [hZ.out, hS2a.out]; exact HT2.out) (by rw [List.size_toArray]; exact rec_info _) (rec_one _) ?_) | (guard_target = wpList _ _ _ (Oper.mk (some 22) _ _ _ _ _ :: _) _ _; refine wpList_load_mid rfl 40 (.tmp 3) rfl w1.heap.size 0 rfl p.cells _ (by rw [hZ.out, hS2a.out, hS2.out]; exact page_rng p bx3) Tryd.underlying40 rfl (page_info _ h4) ?_) | (guard_target = wpList _ _ _ (Oper.mk (some 23) _ _ _ _ _ :: _) _ _; refine wpList_load_mid rfl 31 (.tmp 4) rfl (w1.heap.size + 1) 0 rfl r.cells _ (by rw [hZ.out, hS2a.out, hS2.out]; exact rec_rng' r bx4) Tryd.underlying31 rfl (rec_info _) ?_) | fail)
  rw [hZ.out, hS2a.out, hS2.out]
  clear hZ hS2a hS2 HT2a HT2
  refine (implRedo_any p h4 r w2 (hg.keep BW) hrp hfp hrr hrS).mono ?_
  rintro e w3 ⟨ts, rfl, HVT, ots, hb3⟩
  replace bx3 := bx3.below hb3 bx3.lt
  replace bx4 := bx4.below hb3 bx4.lt
  replace hrp := hrp.below hb3
  replace hrr := hrr.below hb3
  replace BW := BW.trans (hb3.mono BW.size)
  have s3 := hb3.size
  have HLEN : Hid ((redoOf p.lsn (p.ss.map (·.v)) r.v).2.length = 4) := by rw [Hid]; unfold redoOf; split <;> simp [h4]
  have ht4 : ts.length = 4 := by have := congrArg List.length HVT.out; rw [List.length_map, HLEN.out] at this; exact this
  obtain ⟨Zw4, hZw4, bZw40, hbZw4, _⟩ := boxes1 w3 [.int .i64 0, .bool false, .int .i64 0, .slice none 0 0, .slice none 0 0, .bool false, .int .i64 0, .slice none 0 0, .slice none 0 0, .bool false, .int .i64 0, .slice none 0 0, .slice none 0 0, .bool false, .int .i64 0, .slice none 0 0, .slice none 0 0] 40
  have bZw4 : Box Zw4 w3.heap.size zero17 40 := bZw40
  obtain ⟨w4, hSw4, hww4, hzw4, HTw4, _, bx5⟩ := page_out' ⟨(redoOf p.lsn (p.ss.map (·.v)) r.v).1, ts⟩ ht4 bZw4
  have hbw4 : Below w3.heap.size w3 w4 := hbZw4.trans (hww4.below (Nat.le_refl _) (by have := hbZw4.size; omega))
  clear bZw40 bZw4 hbZw4 hww4 hzw4
  replace bx3 := bx3.below hbw4 bx3.lt
  replace bx4 := bx4.below hbw4 bx4.lt
  replace hrp := hrp.below hbw4
  replace hrr := hrr.below hbw4
  replace ots := ots.below hbw4
  replace BW := BW.trans (hbw4.mono BW.size)
  have sw4 := hbw4.size
  have lw4 := bx5.lt
  go_wp2_with (first | (guard_target = wpList _ _ _ (Oper.mk none (Op.store _ (Operand.tmp 5) _) _ _ _ _ :: _) _ _; refine wpList_store_mid rfl 40 (.tmp 5) (.tmp 25) rfl w3.heap.size 0 (PageA.cells ⟨(redoOf p.lsn (p.ss.map (·.v)) r.v).1, ts⟩).toArray rfl rfl (by rw [hZw4.out]; exact HTw4.out) (by rw [List.size_toArray]; exact page_info _ ht4) (all_oneCell_toArray (oneP _)) ?_) | (guard_target = wpList _ _ _ (Oper.mk (some 28) _ _ _ _ _ :: _) _ _; refine wpList_load_mid rfl 40 (.tmp 3) rfl w1.heap.size 0 rfl p.cells _ (by rw [hZw4.out, hSw4.out]; exact page_rng p bx3) Tryd.underlying40 rfl (page_info _ h4) ?_) | (guard_target = wpList _ _ _ (Oper.mk (some 29) _ _ _ _ _ :: _) _ _; refine wpList_load_mid rfl 31 (.tmp 4) rfl (w1.heap.size + 1) 0 rfl r.cells _ (by rw [hZw4.out, hSw4.out]; exact rec_rng' r bx4) Tryd.underlying31 rfl (rec_info _) ?_) | fail)
  rw [hZw4.out, hSw4.out]
  clear hZw4 hSw4 HTw4
  refine (specRedo_any p h4 r w4 hrp hfp hrr hrS).mono ?_
  rintro e w5 ⟨us, rfl, HVU, _, hb5⟩
  have hu4 : us.length = 4 := by have := congrArg List.length HVU.out; rw [List.length_map, HLEN.out] at this; exact this
  clear HVU
  replace bx3 := bx3.below hb5 bx3.lt
  replace bx4 := bx4.below hb5 bx4.lt
  replace bx5 := bx5.below hb5 bx5.lt
  replace hrp := hrp.below hb5
  replace hrr := hrr.below hb5
  replace ots := ots.below hb5
  replace BW := BW.trans (hb5.mono BW.size)
  have s5 := hb5.size
  obtain ⟨Zw6, hZw6, bZw60, hbZw6, _⟩ := boxes1 w5 [.int .i64 0, .bool false, .int .i64 0, .slice none 0 0, .slice none 0 0, .bool false, .int .i64 0, .slice none 0 0, .slice none 0 0, .bool false, .int .i64 0, .slice none 0 0, .slice none 0 0, .bool false, .int .i64 0, .slice none 0 0, .slice none 0 0] 40
  have bZw6 : Box Zw6 w5.heap.size zero17 40 := bZw60
  obtain ⟨w6, hSw6, hww6, hzw6, HTw6, _, bx7⟩ := page_out' ⟨(redoOf p.lsn (p.ss.map (·.v)) r.v).1, us⟩ hu4 bZw6
  have hbw6 : Below w5.heap.size w5 w6 := hbZw6.trans (hww6.below (Nat.le_refl _) (by have := hbZw6.size; omega))
  clear bZw60 bZw6 hbZw6 hww6 hzw6
  replace bx3 := bx3.below hbw6 bx3.lt
  replace bx4 := bx4.below hbw6 bx4.lt
  replace bx5 := bx5.below hbw6 bx5.lt
  replace hrp := hrp.below hbw6
  replace hrr := hrr.below hbw6
  replace ots := ots.below hbw6
  replace BW := BW.trans (hbw6.mono BW.size)
  have sw6 := hbw6.size
  have lw6 := bx7.lt
  go_upto_region 6 with (first | (guard_target = wpList _ _ _ (Oper.mk none (Op.store _ (Operand.tmp 7) _) _ _ _ _ :: _) _ _; refine wpList_store_mid rfl 40 (.tmp 7) (.tmp 31) rfl w5.heap.size 0 (PageA.cells ⟨(redoOf p.lsn (p.ss.map (·.v)) r.v).1, us⟩).toArray rfl rfl (by rw [hZw6.out]; exact HTw6.out) (by rw [List.size_toArray]; exact page_info _ hu4) (all_oneCell_toArray (oneP _)) ?_) | fail)
  rw [hZw6.out, hSw6.out]
  clear hZw6 hSw6 HTw6
  cases hRK : redoOk p.lsn (p.ss.map (·.v)) r.v with
  | false =>
    have HL : Hid ((redoOf p.lsn (p.ss.map (·.v)) r.v).1 = p.lsn) := by rw [Hid, redoOf_no hRK]
    have d5 : w6.cell? ⟨w3.heap.size, 0, none⟩ = some (.int .i64 p.lsn) := by rw [← HL.out]; exact bx5.cell 0 _ rfl
    have d3 : w6.cell? ⟨w1.heap.size, 0, none⟩ = some (.int .i64 p.lsn) := bx3.cell 0 _ rfl
    clear hRK
    go_wp2
    go_ret
    exact ⟨rfl, BW⟩
  | true =>
  obtain ⟨hP, hR, hKK, hLL⟩ := redo_parts hRK
  have hRO := redoOf_yes hRK
  obtain ⟨k, hk4, hm, hm2, hm3⟩ := okR_oid hR
  rw [hRO] at HVT bx5 bx7
  simp only at HVT bx5 bx7
  replace bx5 : Box w6 w3.heap.size (PageA.cells ⟨r.lsn, ts⟩) 40 := bx5
  replace bx7 : Box w6 w5.heap.size (PageA.cells ⟨r.lsn, us⟩) 40 := bx7
  rw [show (r.v).oid = r.oid from rfl, show (r.v).af = r.af.v from rfl] at HVT
  rw [show ((r.oid % 4).toNat) = k from hm3] at HVT
  have HVK : Hid ((ts.getD k zeroS).v = r.af.v) := by
    rw [Hid]
    exact getD_map_set HVT.out (by rw [List.length_map]; omega)
  have HRA : Hid (redoOk r.lsn (ts.map (·.v)) r.v = false) := redo_n (r := r.v) (Int.le_refl _)
  have hfs : Fit ts := fun s hs => by
    have hm' : s.v ∈ (p.ss.map (·.v)).set k r.af.v := by rw [← HVT.out]; exact List.mem_map.2 ⟨s, hs, rfl⟩
    rcases List.mem_or_eq_of_mem_set hm' with h | h
    · obtain ⟨x, hx, ex⟩ := List.mem_map.1 h
      rw [← ex]; exact hfp x hx
    · rw [h]; exact hrS.af
  have d5 : w6.cell? ⟨w3.heap.size, 0, none⟩ = some (.int .i64 r.lsn) := bx5.cell 0 _ rfl
  have d3 : w6.cell? ⟨w1.heap.size, 0, none⟩ = some (.int .i64 p.lsn) := bx3.cell 0 _ rfl
  have d4 : w6.cell? ⟨(w1.heap.size + 1), 0, none⟩ = some (.int .i64 r.lsn) := bx4.cell 0 _ rfl
  clear hRK HLEN hRO
  go_wp2_with (first | (guard_target = wpList _ _ _ (Oper.mk (some 51) _ _ _ _ _ :: _) _ _; refine wpList_load_mid rfl 40 (.tmp 5) rfl w3.heap.size 0 rfl (PageA.cells ⟨r.lsn, ts⟩) _ (page_rng ⟨r.lsn, ts⟩ bx5) Tryd.underlying40 rfl (page_info _ ht4) ?_) | (guard_target = wpList _ _ _ (Oper.mk (some 52) _ _ _ _ _ :: _) _ _; refine wpList_load_mid rfl 31 (.tmp 4) rfl (w1.heap.size + 1) 0 rfl r.cells _ (rec_rng' r bx4) Tryd.underlying31 rfl (rec_info _) ?_) | fail)
  have CA := implRedo_any ⟨r.lsn, ts⟩ ht4 r w6 (hg.keep BW) ots.reads hfs hrr hrS
  simp only [RedoAns, HRA.out, redoOf_no HRA.out] at CA
  refine CA.mono ?_
  clear CA HRA
  rintro e w7 ⟨vs, rfl, HVV, _, hb7⟩
  have hv4 : vs.length = 4 := by have := congrArg List.length HVV.out; rw [List.length_map, List.length_map, ht4] at this; exact this
  clear HVV
  replace bx3 := bx3.below hb7 bx3.lt
  replace bx4 := bx4.below hb7 bx4.lt
  replace bx5 := bx5.below hb7 bx5.lt
  replace bx7 := bx7.below hb7 bx7.lt
  replace hrp := hrp.below hb7
  replace hrr := hrr.below hb7
  replace ots := ots.below hb7
  replace BW := BW.trans (hb7.mono BW.size)
  have s7 := hb7.size
  obtain ⟨Zw8, hZw8, bZw80, hbZw8, _⟩ := boxes1 w7 [.int .i64 0, .bool false, .int .i64 0, .slice none 0 0, .slice none 0 0, .bool false, .int .i64 0, .slice none 0 0, .slice none 0 0, .bool false, .int .i64 0, .slice none 0 0, .slice none 0 0, .bool false, .int .i64 0, .slice none 0 0, .slice none 0 0] 40
  have bZw8 : Box Zw8 w7.heap.size zero17 40 := bZw80
  obtain ⟨w8, hSw8, hww8, hzw8, HTw8, _, bx9⟩ := page_out' ⟨r.lsn, vs⟩ hv4 bZw8
  have hbw8 : Below w7.heap.size w7 w8 := hbZw8.trans (hww8.below (Nat.le_refl _) (by have := hbZw8.size; omega))
  clear bZw80 bZw8 hbZw8 hww8 hzw8
  replace bx3 := bx3.below hbw8 bx3.lt
  replace bx4 := bx4.below hbw8 bx4.lt
  replace bx5 := bx5.below hbw8 bx5.lt
  replace bx7 := bx7.below hbw8 bx7.lt
  replace hrp := hrp.below hbw8
  replace hrr := hrr.below hbw8
  replace ots := ots.below hbw8
  replace BW := BW.trans (hbw8.mono BW.size)
  have sw8 := hbw8.size
  have lw8 := bx9.lt
  go_upto_region 9 with (first | (guard_target = wpList _ _ _ (Oper.mk none (Op.store _ (Operand.tmp 9) _) _ _ _ _ :: _) _ _; refine wpList_store_mid rfl 40 (.tmp 9) (.tmp 54) rfl w7.heap.size 0 (PageA.cells ⟨r.lsn, vs⟩).toArray rfl rfl (by rw [hZw8.out]; exact HTw8.out) (by rw [List.size_toArray]; exact page_info _ hv4) (all_oneCell_toArray (oneP _)) ?_) | fail)
  rw [hZw8.out, hSw8.out]
  clear hZw8 hSw8 HTw8
  have hkl : k < ts.length := by omega
  have hi0 : (0 : Int) ≤ (k : Int) := by omega
  have hi4 : (k : Int) < 4 := by omega
  simp only [RecA.v] at hm hm2
  have HC9 : Hid (∀ w', Below w8.heap.size w8 w' → w'.cell? ⟨w3.heap.size, 0, none⟩ = some (.int .i64 r.lsn) ∧ w'.cell? ⟨(w1.heap.size + 1), 0, none⟩ = some (.int .i64 r.lsn) ∧ w'.cell? ⟨(w1.heap.size + 1), 4, none⟩ = some (.int .i64 r.oid) ∧ w'.cell? ⟨(w1.heap.size + 1), 9, none⟩ = some (.bool r.af.v.has) ∧ w'.cell? ⟨(w1.heap.size + 1), 10, none⟩ = some (.int .i64 r.af.v.o.kind) ∧ w'.cell? ⟨(w1.heap.size + 1), 11, none⟩ = some (.slice r.af.aI r.af.v.o.ints.length r.af.cI) ∧ w'.cell? ⟨(w1.heap.size + 1), 12, none⟩ = some (.slice r.af.aR r.af.v.o.refs.length r.af.cR) ∧ w'.cell? ⟨w3.heap.size, 1 + k * 4, none⟩ = some (.bool (ts.getD k zeroS).v.has) ∧ w'.cell? ⟨w3.heap.size, 1 + k * 4 + 1, none⟩ = some (.int .i64 (ts.getD k zeroS).v.o.kind) ∧ w'.cell? ⟨w3.heap.size, 1 + k * 4 + 2, none⟩ = some (.slice (ts.getD k zeroS).aI (ts.getD k zeroS).v.o.ints.length (ts.getD k zeroS).cI) ∧ w'.cell? ⟨w3.heap.size, 1 + k * 4 + 3, none⟩ = some (.slice (ts.getD k zeroS).aR (ts.getD k zeroS).v.o.refs.length (ts.getD k zeroS).cR)) := fun w' hh => by
    have b5 := bx5.below hh bx5.lt
    have b4 := bx4.below hh bx4.lt
    have b5' : Box w' w3.heap.size (.int .i64 r.lsn :: cellsS ts) 40 := b5
    obtain ⟨z0, z1, z2, z3, _⟩ := b5'.pslot k hkl
    exact ⟨b5.cell 0 _ rfl, b4.cell 0 _ rfl, b4.cell 4 _ rfl, b4.cell 9 _ rfl, b4.cell 10 _ rfl, b4.cell 11 _ rfl, b4.cell 12 _ rfl, z0, z1, z2, z3⟩
  have hnr : (ts.getD k zeroS).reads w8 := ots.reads _ (getD_mem hkl)
  have hnf := hfs _ (getD_mem hkl)
  generalize ts.getD k zeroS = nk at *
  refine wp_region_held_drew (S := fun w' => w'.cell? ⟨w3.heap.size, 0, none⟩ = some (.int .i64 r.lsn) ∧ w'.cell? ⟨(w1.heap.size + 1), 0, none⟩ = some (.int .i64 r.lsn) ∧ w'.cell? ⟨(w1.heap.size + 1), 4, none⟩ = some (.int .i64 r.oid) ∧ w'.cell? ⟨(w1.heap.size + 1), 9, none⟩ = some (.bool r.af.v.has) ∧ w'.cell? ⟨(w1.heap.size + 1), 10, none⟩ = some (.int .i64 r.af.v.o.kind) ∧ w'.cell? ⟨(w1.heap.size + 1), 11, none⟩ = some (.slice r.af.aI r.af.v.o.ints.length r.af.cI) ∧ w'.cell? ⟨(w1.heap.size + 1), 12, none⟩ = some (.slice r.af.aR r.af.v.o.refs.length r.af.cR) ∧ w'.cell? ⟨w3.heap.size, 1 + k * 4, none⟩ = some (.bool nk.v.has) ∧ w'.cell? ⟨w3.heap.size, 1 + k * 4 + 1, none⟩ = some (.int .i64 nk.v.o.kind) ∧ w'.cell? ⟨w3.heap.size, 1 + k * 4 + 2, none⟩ = some (.slice nk.aI nk.v.o.ints.length nk.cI) ∧ w'.cell? ⟨w3.heap.size, 1 + k * 4 + 3, none⟩ = some (.slice nk.aR nk.v.o.refs.length nk.cR)) (by kernel_rfl) (HC9.out _ (Below.refl _ _).drew) (fun hHeld => ?_)
  refine wpAnyH_take (i := 0) (v := .bool false) rfl (by kernel_rfl) (by kernel_rfl) (by kernel_rfl) (fun _ _ _ h => h) (Or.inl ⟨by rfl, ?_⟩) hHeld ?_
  · intro w' hSw
    go_simp <;> rfl
  try simp only [Act.put, List.getElem_toArray, List.getElem_cons_zero, List.setIfInBounds_toArray, List.set_cons_zero, List.set_cons_succ]
  refine wpAnyH_take (i := 1) (v := .bool false) rfl (by kernel_rfl) (by kernel_rfl) (by kernel_rfl) (fun _ _ _ h => h) (Or.inl ⟨by rfl, ?_⟩) hHeld ?_
  · intro w' hSw
    go_simp <;> rfl
  try simp only [Act.put, List.getElem_toArray, List.getElem_cons_zero, List.getElem_cons_succ, List.setIfInBounds_toArray, List.set_cons_zero, List.set_cons_succ]
  refine wpAnyH_take (i := 2) (v := .pointer (some ⟨w3.heap.size, 0, none⟩)) rfl (by kernel_rfl) (by kernel_rfl) (by kernel_rfl) (fun _ _ _ h => h) (Or.inl ⟨by rfl, ?_⟩) hHeld ?_
  · intro w' hSw
    go_simp <;> rfl
  try simp only [Act.put, List.getElem_toArray, List.getElem_cons_zero, List.getElem_cons_succ, List.setIfInBounds_toArray, List.set_cons_zero, List.set_cons_succ]
  refine wpAnyH_take (i := 3) (v := .int .i64 r.lsn) rfl (by kernel_rfl) (by kernel_rfl) (by kernel_rfl) (fun _ _ _ h => h) (Or.inl ⟨by rfl, ?_⟩) hHeld ?_
  · intro w' hSw
    go_simp <;> rfl
  try simp only [Act.put, List.getElem_toArray, List.getElem_cons_zero, List.getElem_cons_succ, List.setIfInBounds_toArray, List.set_cons_zero, List.set_cons_succ]
  refine wpAnyH_take (i := 4) (v := .pointer (some ⟨(w1.heap.size + 1), 0, none⟩)) rfl (by kernel_rfl) (by kernel_rfl) (by kernel_rfl) (fun _ _ _ h => h) (Or.inl ⟨by rfl, ?_⟩) hHeld ?_
  · intro w' hSw
    go_simp <;> rfl
  try simp only [Act.put, List.getElem_toArray, List.getElem_cons_zero, List.getElem_cons_succ, List.setIfInBounds_toArray, List.set_cons_zero, List.set_cons_succ]
  refine wpAnyH_take (i := 5) (v := .int .i64 r.lsn) rfl (by kernel_rfl) (by kernel_rfl) (by kernel_rfl) (fun _ _ _ h => h) (Or.inl ⟨by rfl, ?_⟩) hHeld ?_
  · intro w' hSw
    go_simp <;> rfl
  try simp only [Act.put, List.getElem_toArray, List.getElem_cons_zero, List.getElem_cons_succ, List.setIfInBounds_toArray, List.set_cons_zero, List.set_cons_succ]
  refine wpAnyH_take (i := 6) (v := .bool false) rfl (by kernel_rfl) (by kernel_rfl) (by kernel_rfl) (fun _ _ _ h => h) (Or.inl ⟨by rfl, ?_⟩) hHeld ?_
  · intro w' hSw
    go_simp <;> rfl
  try simp only [Act.put, List.getElem_toArray, List.getElem_cons_zero, List.getElem_cons_succ, List.setIfInBounds_toArray, List.set_cons_zero, List.set_cons_succ]
  refine wpAnyH_take (i := 7) (v := .bool false) rfl (by kernel_rfl) (by kernel_rfl) (by kernel_rfl) (fun _ _ _ h => h) (Or.inl ⟨by rfl, ?_⟩) hHeld ?_
  · intro w' hSw
    go_simp <;> rfl
  try simp only [Act.put, List.getElem_toArray, List.getElem_cons_zero, List.getElem_cons_succ, List.setIfInBounds_toArray, List.set_cons_zero, List.set_cons_succ]
  refine wpAnyH_take (i := 8) (v := .bool false) rfl (by kernel_rfl) (by kernel_rfl) (by kernel_rfl) (fun _ _ _ h => h) (Or.inl ⟨by rfl, ?_⟩) hHeld ?_
  · intro w' hSw
    go_simp <;> rfl
  try simp only [Act.put, List.getElem_toArray, List.getElem_cons_zero, List.getElem_cons_succ, List.setIfInBounds_toArray, List.set_cons_zero, List.set_cons_succ]
  refine wpAnyH_take (i := 9) (v := .pointer (some ⟨(w1.heap.size + 1), 4, none⟩)) rfl (by kernel_rfl) (by kernel_rfl) (by kernel_rfl) (fun _ _ _ h => h) (Or.inl ⟨by rfl, ?_⟩) hHeld ?_
  · intro w' hSw
    go_simp <;> rfl
  try simp only [Act.put, List.getElem_toArray, List.getElem_cons_zero, List.getElem_cons_succ, List.setIfInBounds_toArray, List.set_cons_zero, List.set_cons_succ]
  refine wpAnyH_take (i := 10) (v := .int .i64 r.oid) rfl (by kernel_rfl) (by kernel_rfl) (by kernel_rfl) (fun _ _ _ h => h) (Or.inl ⟨by rfl, ?_⟩) hHeld ?_
  · intro w' hSw
    go_simp <;> rfl
  try simp only [Act.put, List.getElem_toArray, List.getElem_cons_zero, List.getElem_cons_succ, List.setIfInBounds_toArray, List.set_cons_zero, List.set_cons_succ]
  refine wpAnyH_take (i := 11) (v := .int .i64 (k : Int)) rfl (by kernel_rfl) (by kernel_rfl) (by kernel_rfl) (fun _ _ _ h => h) (Or.inl ⟨by rfl, ?_⟩) hHeld ?_
  · intro w' hSw
    go_simp <;> rfl
  try simp only [Act.put, List.getElem_toArray, List.getElem_cons_zero, List.getElem_cons_succ, List.setIfInBounds_toArray, List.set_cons_zero, List.set_cons_succ]
  refine wpAnyH_take (i := 12) (v := .pointer (some ⟨w3.heap.size, 1, none⟩)) rfl (by kernel_rfl) (by kernel_rfl) (by kernel_rfl) (fun _ _ _ h => h) (Or.inl ⟨by rfl, ?_⟩) hHeld ?_
  · intro w' hSw
    go_simp <;> rfl
  try simp only [Act.put, List.getElem_toArray, List.getElem_cons_zero, List.getElem_cons_succ, List.setIfInBounds_toArray, List.set_cons_zero, List.set_cons_succ]
  refine wpAnyH_take (i := 13) (v := .pointer (some ⟨w3.heap.size, 1 + k * 4, none⟩)) rfl (by kernel_rfl) (by kernel_rfl) (by kernel_rfl) (fun _ _ _ h => h) (Or.inl ⟨by rfl, ?_⟩) hHeld ?_
  · intro w' hSw
    go_simp <;> rfl
  try simp only [Act.put, List.getElem_toArray, List.getElem_cons_zero, List.getElem_cons_succ, List.setIfInBounds_toArray, List.set_cons_zero, List.set_cons_succ]
  refine wpAnyH_take (i := 14) (v := .agg #[.bool nk.v.has, .int .i64 nk.v.o.kind, .slice nk.aI nk.v.o.ints.length nk.cI, .slice nk.aR nk.v.o.refs.length nk.cR]) rfl (by kernel_rfl) (by kernel_rfl) (by kernel_rfl) (fun _ _ _ h => h) (Or.inl ⟨by rfl, ?_⟩) hHeld ?_
  · intro w' hSw
    go_simp <;> rfl
  try simp only [Act.put, List.getElem_toArray, List.getElem_cons_zero, List.getElem_cons_succ, List.setIfInBounds_toArray, List.set_cons_zero, List.set_cons_succ]
  refine wpAnyH_take (i := 15) (v := .pointer (some ⟨(w1.heap.size + 1), 9, none⟩)) rfl (by kernel_rfl) (by kernel_rfl) (by kernel_rfl) (fun _ _ _ h => h) (Or.inl ⟨by rfl, ?_⟩) hHeld ?_
  · intro w' hSw
    go_simp <;> rfl
  try simp only [Act.put, List.getElem_toArray, List.getElem_cons_zero, List.getElem_cons_succ, List.setIfInBounds_toArray, List.set_cons_zero, List.set_cons_succ]
  refine wpAnyH_take (i := 16) (v := .agg #[.bool r.af.v.has, .int .i64 r.af.v.o.kind, .slice r.af.aI r.af.v.o.ints.length r.af.cI, .slice r.af.aR r.af.v.o.refs.length r.af.cR]) rfl (by kernel_rfl) (by kernel_rfl) (by kernel_rfl) (fun _ _ _ h => h) (Or.inl ⟨by rfl, ?_⟩) hHeld ?_
  · intro w' hSw
    go_simp <;> rfl
  try simp only [Act.put, List.getElem_toArray, List.getElem_cons_zero, List.getElem_cons_succ, List.setIfInBounds_toArray, List.set_cons_zero, List.set_cons_succ]
  refine wpAnyH_ready (rs := [17]) (by kernel_rfl) (by simp) ?_
  refine AllReadyH.cons rfl (fun K hK => ?_) AllReadyH.nil
  go_simp
  refine (sameSlot_same nk r.af HVK.out.symm _ (ReadsO.below hnr (Below.refl _ _).drew) (ReadsO.below hrr.af (Below.refl _ _).drew) hnf.1 hnf.2).mono ?_
  rintro e w9 ⟨rfl, hb9'⟩
  have hb9 : Below w8.heap.size w8 w9 := (Below.refl _ _).drew.trans hb9'
  clear hb9'
  refine hK.out _ _ (HC9.out _ hb9) (fun hHeld => ?_)
  clear hK K
  try simp only [Act.put, List.getElem_toArray, List.getElem_cons_zero, List.getElem_cons_succ, List.setIfInBounds_toArray, List.set_cons_zero, List.set_cons_succ]
  refine wpAnyH_take (i := 18) (v := .bool false) rfl (by kernel_rfl) (by kernel_rfl) (by kernel_rfl) (fun _ _ _ h => h) (Or.inl ⟨by rfl, ?_⟩) hHeld ?_
  · intro w' hSw
    go_simp <;> rfl
  try simp only [Act.put, List.getElem_toArray, List.getElem_cons_zero, List.getElem_cons_succ, List.setIfInBounds_toArray, List.set_cons_zero, List.set_cons_succ]
  refine wpAnyH_take (i := 19) (v := .bool false) rfl (by kernel_rfl) (by kernel_rfl) (by kernel_rfl) (fun _ _ _ h => h) (Or.inl ⟨by rfl, ?_⟩) hHeld ?_
  · intro w' hSw
    go_simp <;> rfl
  try simp only [Act.put, List.getElem_toArray, List.getElem_cons_zero, List.getElem_cons_succ, List.setIfInBounds_toArray, List.set_cons_zero, List.set_cons_succ]
  refine wpAnyH_done (by kernel_rfl) ?_ _
  clear hHeld hnr hnf HC9 HVK
  replace bx3 := bx3.below hb9 bx3.lt
  replace bx4 := bx4.below hb9 bx4.lt
  replace bx5 := bx5.below hb9 bx5.lt
  replace bx7 := bx7.below hb9 bx7.lt
  replace bx9 := bx9.below hb9 bx9.lt
  replace hrp := hrp.below hb9
  replace hrr := hrr.below hb9
  replace ots := ots.below hb9
  replace BW := BW.trans (hb9.mono BW.size)
  have s9 := hb9.size
  clear hb9
  have g0 : w9.cell? ⟨(w1.heap.size + 1), 0, none⟩ = some (.int .i64 r.lsn) := bx4.cell 0 _ rfl
  by_cases hbig2 : 500000 ≤ r.lsn
  · go_wp2
    go_ret
    exact ⟨rfl, BW⟩
  have hlt5 : r.lsn < 500000 := by omega
  go_wp2_with (first | (guard_target = wpList _ _ _ (Oper.mk (some 79) _ _ _ _ _ :: _) _ _; refine wpList_load_mid rfl 31 (.tmp 4) rfl (w1.heap.size + 1) 0 rfl r.cells _ (rec_rng' r bx4) Tryd.underlying31 rfl (rec_info _) ?_) | fail)
  refine (implUndoOf_any r 500000 r.lsn w9 (hg.keep BW) hrr hrS).mono ?_
  rintro e w10 ⟨u, rfl, HVN, ou, hb10⟩
  clear g0
  replace bx3 := bx3.below hb10 bx3.lt
  replace bx4 := bx4.below hb10 bx4.lt
  replace bx5 := bx5.below hb10 bx5.lt
  replace bx7 := bx7.below hb10 bx7.lt
  replace bx9 := bx9.below hb10 bx9.lt
  replace hrp := hrp.below hb10
  replace hrr := hrr.below hb10
  replace ots := ots.below hb10
  replace BW := BW.trans (hb10.mono BW.size)
  have s10 := hb10.size
  obtain ⟨Zw11, hZw11, bZw11, hbZw11, _⟩ := boxes1 w10 [.int .i64 0, .int .i64 0, .int .i64 0, .int .i64 0, .int .i64 0, .bool false, .int .i64 0, .slice none 0 0, .slice none 0 0, .bool false, .int .i64 0, .slice none 0 0, .slice none 0 0, .int .i64 0, .slice none 0 0] 31
  obtain ⟨w11, hSw11, hww11, hzw11, HTw11, _, bx11⟩ := rec_out u [.int .i64 0, .int .i64 0, .int .i64 0, .int .i64 0, .int .i64 0, .bool false, .int .i64 0, .slice none 0 0, .slice none 0 0, .bool false, .int .i64 0, .slice none 0 0, .slice none 0 0, .int .i64 0, .slice none 0 0] rfl bZw11
  have hbw11 : Below w10.heap.size w10 w11 := hbZw11.trans (hww11.below (Nat.le_refl _) (by have := hbZw11.size; omega))
  clear bZw11 hbZw11 hww11 hzw11
  replace bx3 := bx3.below hbw11 bx3.lt
  replace bx4 := bx4.below hbw11 bx4.lt
  replace bx5 := bx5.below hbw11 bx5.lt
  replace bx7 := bx7.below hbw11 bx7.lt
  replace bx9 := bx9.below hbw11 bx9.lt
  replace hrp := hrp.below hbw11
  replace hrr := hrr.below hbw11
  replace ots := ots.below hbw11
  replace ou := ou.below hbw11
  replace BW := BW.trans (hbw11.mono BW.size)
  have sw11 := hbw11.size
  have lw11 := bx11.lt
  go_upto_region 14 with (first | (guard_target = wpList _ _ _ (Oper.mk none (Op.store _ (Operand.tmp 11) _) _ _ _ _ :: _) _ _; refine wpList_store_mid rfl 31 (.tmp 11) (.tmp 82) rfl w10.heap.size 0 u.cells.toArray rfl rfl (by rw [hZw11.out]; exact HTw11.out) (by rw [List.size_toArray]; exact rec_info _) (rec_one _) ?_) | fail)
  rw [hZw11.out, hSw11.out]
  clear hZw11 hSw11 HTw11
  have g3 : w11.cell? ⟨(w1.heap.size + 1), 3, none⟩ = some (.int .i64 r.kind) := bx4.cell 3 _ rfl
  cases hk1 : (r.kind == 1) with
  | false =>
    have hne : ¬ (r.v).kind = 1 := by simpa [RecA.v] using hk1
    have hu0 : u.kind = 0 := by
      have h1 := HVN.out
      rw [undoV_kind hne] at h1
      simp only [RecA.v, noR, RecV.mk.injEq] at h1
      exact h1.2.2.2.1
    have hkn : (r.kind != 1) = true := by simp only [bne, hk1, Bool.not_false]
    have d3 : w11.cell? ⟨w10.heap.size, 3, none⟩ = some (.int .i64 0) := by rw [← hu0]; exact bx11.cell 3 _ rfl
    clear hne hu0
    go_wp2
    go_ret
    exact ⟨rfl, BW⟩
  | true =>
  have hk1' : (r.v).kind = 1 := by simpa [RecA.v] using hk1
  have hUN := undone (n := p.lsn) (vs := p.ss.map (·.v)) (r := r.v) (redo_all hP hR hKK hLL) hk1' hlt5
  rw [show (((r.v).oid % 4).toNat) = k from hm3, show (r.v).af = r.af.v from rfl, ← HVT.out] at hUN
  have HUV : Hid (u.v = backV r.v 500000 r.lsn) := HVN.out.trans hUN.2
  have HRB : Hid (redoOk r.lsn (ts.map (·.v)) u.v = true) := by rw [Hid, HUV.out]; exact hUN.1
  have hRO2 := redoOf_yes HRB.out
  have huS : u.short 1099511627776 := by
    have h1 := HUV.out
    simp only [RecA.v, backV, RecV.mk.injEq] at h1
    obtain ⟨_, _, _, _, _, h5, h6, _, h8⟩ := h1
    exact ⟨by rw [h5]; exact ⟨Nat.zero_le _, Nat.zero_le _⟩, by rw [h6]; exact hrS.bf, by rw [h8]; exact Nat.zero_le _⟩
  have HUF : Hid (u.lsn = 500000 ∧ u.next = r.prev ∧ u.oid = r.oid ∧ u.af.v = r.bf.v) := by
    have h1 := HUV.out
    simp only [RecA.v, backV, RecV.mk.injEq] at h1
    exact ⟨h1.1, h1.2.2.2.2.2.2.2.1, h1.2.2.2.2.1, h1.2.2.2.2.2.2.1⟩
  rw [show r.kind = 1 from hk1'] at g3
  clear hUN HVN hk1
  go_wp2_with (first | (guard_target = wpList _ _ _ (Oper.mk (some 90) _ _ _ _ _ :: _) _ _; refine wpList_load_mid rfl 40 (.tmp 5) rfl w3.heap.size 0 rfl (PageA.cells ⟨r.lsn, ts⟩) _ (page_rng ⟨r.lsn, ts⟩ bx5) Tryd.underlying40 rfl (page_info _ ht4) ?_) | (guard_target = wpList _ _ _ (Oper.mk (some 91) _ _ _ _ _ :: _) _ _; refine wpList_load_mid rfl 31 (.tmp 11) rfl w10.heap.size 0 rfl u.cells _ (rec_rng' u bx11) Tryd.underlying31 rfl (rec_info _) ?_) | fail)
  have CM := implRedo_any ⟨r.lsn, ts⟩ ht4 u w11 (hg.keep BW) ots.reads hfs ou.reads huS
  simp only [RedoAns, HRB.out, hRO2] at CM
  refine CM.mono ?_
  clear CM g3 hRO2
  rintro e w12 ⟨ms, rfl, HVM, oms, hb12⟩
  have hm4 : ms.length = 4 := by have := congrArg List.length HVM.out; rw [List.length_map, List.length_set, List.length_map, ht4] at this; exact this
  have HMK : Hid ((ms.getD k zeroS).v = r.bf.v) := by
    have h1 := HVM.out
    have ho : ((u.v).oid % 4).toNat = k := by rw [show (u.v).oid = u.oid from rfl, HUF.out.2.2.1]; exact hm3
    rw [ho] at h1
    have h2 : (u.v).af = r.bf.v := HUF.out.2.2.2
    rw [h2] at h1
    rw [Hid]
    exact getD_map_set h1 (by rw [List.length_map]; omega)
  have hul : (u.v).lsn = 500000 := HUF.out.1
  rw [hul]
  have hfm : (ms.getD k zeroS).v.o.ints.length ≤ 1099511627776 ∧ (ms.getD k zeroS).v.o.refs.length ≤ 1099511627776 := by rw [HMK.out]; exact hrS.bf
  clear hul
  replace bx3 := bx3.below hb12 bx3.lt
  replace bx4 := bx4.below hb12 bx4.lt
  replace bx5 := bx5.below hb12 bx5.lt
  replace bx7 := bx7.below hb12 bx7.lt
  replace bx9 := bx9.below hb12 bx9.lt
  replace bx11 := bx11.below hb12 bx11.lt
  replace hrp := hrp.below hb12
  replace hrr := hrr.below hb12
  replace ots := ots.below hb12
  replace ou := ou.below hb12
  replace BW := BW.trans (hb12.mono BW.size)
  have s12 := hb12.size
  obtain ⟨Zw13, hZw13, bZw130, hbZw13, _⟩ := boxes1 w12 [.int .i64 0, .bool false, .int .i64 0, .slice none 0 0, .slice none 0 0, .bool false, .int .i64 0, .slice none 0 0, .slice none 0 0, .bool false, .int .i64 0, .slice none 0 0, .slice none 0 0, .bool false, .int .i64 0, .slice none 0 0, .slice none 0 0] 40
  have bZw13 : Box Zw13 w12.heap.size zero17 40 := bZw130
  obtain ⟨w13, hSw13, hww13, hzw13, HTw13, _, bx12⟩ := page_out' ⟨500000, ms⟩ hm4 bZw13
  have hbw13 : Below w12.heap.size w12 w13 := hbZw13.trans (hww13.below (Nat.le_refl _) (by have := hbZw13.size; omega))
  clear bZw130 bZw13 hbZw13 hww13 hzw13
  replace bx3 := bx3.below hbw13 bx3.lt
  replace bx4 := bx4.below hbw13 bx4.lt
  replace bx5 := bx5.below hbw13 bx5.lt
  replace bx7 := bx7.below hbw13 bx7.lt
  replace bx9 := bx9.below hbw13 bx9.lt
  replace bx11 := bx11.below hbw13 bx11.lt
  replace hrp := hrp.below hbw13
  replace hrr := hrr.below hbw13
  replace ots := ots.below hbw13
  replace ou := ou.below hbw13
  replace oms := oms.below hbw13
  replace BW := BW.trans (hbw13.mono BW.size)
  have sw13 := hbw13.size
  have lw13 := bx12.lt
  go_upto_region 17 with (first | (guard_target = wpList _ _ _ (Oper.mk none (Op.store _ (Operand.tmp 12) _) _ _ _ _ :: _) _ _; refine wpList_store_mid rfl 40 (.tmp 12) (.tmp 93) rfl w12.heap.size 0 (PageA.cells ⟨500000, ms⟩).toArray rfl rfl (by rw [hZw13.out]; exact HTw13.out) (by rw [List.size_toArray]; exact page_info _ hm4) (all_oneCell_toArray (oneP _)) ?_) | fail)
  rw [hZw13.out, hSw13.out]
  clear hZw13 hSw13 HTw13
  have hkl2 : k < ms.length := by omega
  have HC17 : Hid (∀ w', Below w13.heap.size w13 w' → w'.cell? ⟨w12.heap.size, 0, none⟩ = some (.int .i64 500000) ∧ w'.cell? ⟨(w1.heap.size + 1), 2, none⟩ = some (.int .i64 r.prev) ∧ w'.cell? ⟨(w1.heap.size + 1), 4, none⟩ = some (.int .i64 r.oid) ∧ w'.cell? ⟨w10.heap.size, 13, none⟩ = some (.int .i64 r.prev) ∧ w'.cell? ⟨(w1.heap.size + 1), 5, none⟩ = some (.bool r.bf.v.has) ∧ w'.cell? ⟨(w1.heap.size + 1), 6, none⟩ = some (.int .i64 r.bf.v.o.kind) ∧ w'.cell? ⟨(w1.heap.size + 1), 7, none⟩ = some (.slice r.bf.aI r.bf.v.o.ints.length r.bf.cI) ∧ w'.cell? ⟨(w1.heap.size + 1), 8, none⟩ = some (.slice r.bf.aR r.bf.v.o.refs.length r.bf.cR) ∧ w'.cell? ⟨w12.heap.size, 1 + k * 4, none⟩ = some (.bool (ms.getD k zeroS).v.has) ∧ w'.cell? ⟨w12.heap.size, 1 + k * 4 + 1, none⟩ = some (.int .i64 (ms.getD k zeroS).v.o.kind) ∧ w'.cell? ⟨w12.heap.size, 1 + k * 4 + 2, none⟩ = some (.slice (ms.getD k zeroS).aI (ms.getD k zeroS).v.o.ints.length (ms.getD k zeroS).cI) ∧ w'.cell? ⟨w12.heap.size, 1 + k * 4 + 3, none⟩ = some (.slice (ms.getD k zeroS).aR (ms.getD k zeroS).v.o.refs.length (ms.getD k zeroS).cR)) := fun w' hh => by
    have b12 := bx12.below hh bx12.lt
    have b4 := bx4.below hh bx4.lt
    have b11 := bx11.below hh bx11.lt
    have b12' : Box w' w12.heap.size (.int .i64 500000 :: cellsS ms) 40 := b12
    obtain ⟨z0, z1, z2, z3, _⟩ := b12'.pslot k hkl2
    exact ⟨b12.cell 0 _ rfl, b4.cell 2 _ rfl, b4.cell 4 _ rfl, by rw [← HUF.out.2.1]; exact b11.cell 13 _ rfl, b4.cell 5 _ rfl, b4.cell 6 _ rfl, b4.cell 7 _ rfl, b4.cell 8 _ rfl, z0, z1, z2, z3⟩
  have hnr : (ms.getD k zeroS).reads w13 := oms.reads _ (getD_mem hkl2)
  generalize ms.getD k zeroS = mk at *
  refine wp_region_held_drew (S := fun w' => w'.cell? ⟨w12.heap.size, 0, none⟩ = some (.int .i64 500000) ∧ w'.cell? ⟨(w1.heap.size + 1), 2, none⟩ = some (.int .i64 r.prev) ∧ w'.cell? ⟨(w1.heap.size + 1), 4, none⟩ = some (.int .i64 r.oid) ∧ w'.cell? ⟨w10.heap.size, 13, none⟩ = some (.int .i64 r.prev) ∧ w'.cell? ⟨(w1.heap.size + 1), 5, none⟩ = some (.bool r.bf.v.has) ∧ w'.cell? ⟨(w1.heap.size + 1), 6, none⟩ = some (.int .i64 r.bf.v.o.kind) ∧ w'.cell? ⟨(w1.heap.size + 1), 7, none⟩ = some (.slice r.bf.aI r.bf.v.o.ints.length r.bf.cI) ∧ w'.cell? ⟨(w1.heap.size + 1), 8, none⟩ = some (.slice r.bf.aR r.bf.v.o.refs.length r.bf.cR) ∧ w'.cell? ⟨w12.heap.size, 1 + k * 4, none⟩ = some (.bool mk.v.has) ∧ w'.cell? ⟨w12.heap.size, 1 + k * 4 + 1, none⟩ = some (.int .i64 mk.v.o.kind) ∧ w'.cell? ⟨w12.heap.size, 1 + k * 4 + 2, none⟩ = some (.slice mk.aI mk.v.o.ints.length mk.cI) ∧ w'.cell? ⟨w12.heap.size, 1 + k * 4 + 3, none⟩ = some (.slice mk.aR mk.v.o.refs.length mk.cR)) (by kernel_rfl) (HC17.out _ (Below.refl _ _).drew) (fun hHeld => ?_)
  refine wpAnyH_take (i := 0) (v := .bool true) rfl (by kernel_rfl) (by kernel_rfl) (by kernel_rfl) (fun _ _ _ h => h) (Or.inl ⟨by rfl, ?_⟩) hHeld ?_
  · intro w' hSw
    go_simp <;> rfl
  try simp only [Act.put, List.getElem_toArray, List.getElem_cons_zero, List.setIfInBounds_toArray, List.set_cons_zero, List.set_cons_succ]
  refine wpAnyH_take (i := 1) (v := .bool true) rfl (by kernel_rfl) (by kernel_rfl) (by kernel_rfl) (fun _ _ _ h => h) (Or.inl ⟨by rfl, ?_⟩) hHeld ?_
  · intro w' hSw
    go_simp <;> rfl
  try simp only [Act.put, List.getElem_toArray, List.getElem_cons_zero, List.getElem_cons_succ, List.setIfInBounds_toArray, List.set_cons_zero, List.set_cons_succ]
  refine wpAnyH_take (i := 2) (v := .pointer (some ⟨(w1.heap.size + 1), 4, none⟩)) rfl (by kernel_rfl) (by kernel_rfl) (by kernel_rfl) (fun _ _ _ h => h) (Or.inl ⟨by rfl, ?_⟩) hHeld ?_
  · intro w' hSw
    go_simp <;> rfl
  try simp only [Act.put, List.getElem_toArray, List.getElem_cons_zero, List.getElem_cons_succ, List.setIfInBounds_toArray, List.set_cons_zero, List.set_cons_succ]
  refine wpAnyH_take (i := 3) (v := .int .i64 r.oid) rfl (by kernel_rfl) (by kernel_rfl) (by kernel_rfl) (fun _ _ _ h => h) (Or.inl ⟨by rfl, ?_⟩) hHeld ?_
  · intro w' hSw
    go_simp <;> rfl
  try simp only [Act.put, List.getElem_toArray, List.getElem_cons_zero, List.getElem_cons_succ, List.setIfInBounds_toArray, List.set_cons_zero, List.set_cons_succ]
  refine wpAnyH_take (i := 4) (v := .int .i64 (k : Int)) rfl (by kernel_rfl) (by kernel_rfl) (by kernel_rfl) (fun _ _ _ h => h) (Or.inl ⟨by rfl, ?_⟩) hHeld ?_
  · intro w' hSw
    go_simp <;> rfl
  try simp only [Act.put, List.getElem_toArray, List.getElem_cons_zero, List.getElem_cons_succ, List.setIfInBounds_toArray, List.set_cons_zero, List.set_cons_succ]
  refine wpAnyH_take (i := 5) (v := .pointer (some ⟨w12.heap.size, 1, none⟩)) rfl (by kernel_rfl) (by kernel_rfl) (by kernel_rfl) (fun _ _ _ h => h) (Or.inl ⟨by rfl, ?_⟩) hHeld ?_
  · intro w' hSw
    go_simp <;> rfl
  try simp only [Act.put, List.getElem_toArray, List.getElem_cons_zero, List.getElem_cons_succ, List.setIfInBounds_toArray, List.set_cons_zero, List.set_cons_succ]
  refine wpAnyH_take (i := 6) (v := .pointer (some ⟨w12.heap.size, 1 + k * 4, none⟩)) rfl (by kernel_rfl) (by kernel_rfl) (by kernel_rfl) (fun _ _ _ h => h) (Or.inl ⟨by rfl, ?_⟩) hHeld ?_
  · intro w' hSw
    go_simp <;> rfl
  try simp only [Act.put, List.getElem_toArray, List.getElem_cons_zero, List.getElem_cons_succ, List.setIfInBounds_toArray, List.set_cons_zero, List.set_cons_succ]
  refine wpAnyH_take (i := 7) (v := .agg #[.bool mk.v.has, .int .i64 mk.v.o.kind, .slice mk.aI mk.v.o.ints.length mk.cI, .slice mk.aR mk.v.o.refs.length mk.cR]) rfl (by kernel_rfl) (by kernel_rfl) (by kernel_rfl) (fun _ _ _ h => h) (Or.inl ⟨by rfl, ?_⟩) hHeld ?_
  · intro w' hSw
    go_simp <;> rfl
  try simp only [Act.put, List.getElem_toArray, List.getElem_cons_zero, List.getElem_cons_succ, List.setIfInBounds_toArray, List.set_cons_zero, List.set_cons_succ]
  refine wpAnyH_take (i := 8) (v := .pointer (some ⟨(w1.heap.size + 1), 5, none⟩)) rfl (by kernel_rfl) (by kernel_rfl) (by kernel_rfl) (fun _ _ _ h => h) (Or.inl ⟨by rfl, ?_⟩) hHeld ?_
  · intro w' hSw
    go_simp <;> rfl
  try simp only [Act.put, List.getElem_toArray, List.getElem_cons_zero, List.getElem_cons_succ, List.setIfInBounds_toArray, List.set_cons_zero, List.set_cons_succ]
  refine wpAnyH_take (i := 9) (v := .agg #[.bool r.bf.v.has, .int .i64 r.bf.v.o.kind, .slice r.bf.aI r.bf.v.o.ints.length r.bf.cI, .slice r.bf.aR r.bf.v.o.refs.length r.bf.cR]) rfl (by kernel_rfl) (by kernel_rfl) (by kernel_rfl) (fun _ _ _ h => h) (Or.inl ⟨by rfl, ?_⟩) hHeld ?_
  · intro w' hSw
    go_simp <;> rfl
  try simp only [Act.put, List.getElem_toArray, List.getElem_cons_zero, List.getElem_cons_succ, List.setIfInBounds_toArray, List.set_cons_zero, List.set_cons_succ]
  refine wpAnyH_ready (rs := [10]) (by kernel_rfl) (by simp) ?_
  refine AllReadyH.cons rfl (fun K hK => ?_) AllReadyH.nil
  go_simp
  refine (sameSlot_same mk r.bf HMK.out.symm _ (ReadsO.below hnr (Below.refl _ _).drew) (ReadsO.below hrr.bf (Below.refl _ _).drew) hfm.1 hfm.2).mono ?_
  rintro e w14 ⟨rfl, hb14'⟩
  have hb14 : Below w13.heap.size w13 w14 := (Below.refl _ _).drew.trans hb14'
  clear hb14'
  refine hK.out _ _ (HC17.out _ hb14) (fun hHeld => ?_)
  clear hK K
  try simp only [Act.put, List.getElem_toArray, List.getElem_cons_zero, List.getElem_cons_succ, List.setIfInBounds_toArray, List.set_cons_zero, List.set_cons_succ]
  refine wpAnyH_take (i := 11) (v := .bool true) rfl (by kernel_rfl) (by kernel_rfl) (by kernel_rfl) (fun _ _ _ h => h) (Or.inl ⟨by rfl, ?_⟩) hHeld ?_
  · intro w' hSw
    go_simp <;> rfl
  try simp only [Act.put, List.getElem_toArray, List.getElem_cons_zero, List.getElem_cons_succ, List.setIfInBounds_toArray, List.set_cons_zero, List.set_cons_succ]
  refine wpAnyH_take (i := 12) (v := .bool true) rfl (by kernel_rfl) (by kernel_rfl) (by kernel_rfl) (fun _ _ _ h => h) (Or.inl ⟨by rfl, ?_⟩) hHeld ?_
  · intro w' hSw
    go_simp <;> rfl
  try simp only [Act.put, List.getElem_toArray, List.getElem_cons_zero, List.getElem_cons_succ, List.setIfInBounds_toArray, List.set_cons_zero, List.set_cons_succ]
  refine wpAnyH_take (i := 13) (v := .pointer (some ⟨w10.heap.size, 13, none⟩)) rfl (by kernel_rfl) (by kernel_rfl) (by kernel_rfl) (fun _ _ _ h => h) (Or.inl ⟨by rfl, ?_⟩) hHeld ?_
  · intro w' hSw
    go_simp <;> rfl
  try simp only [Act.put, List.getElem_toArray, List.getElem_cons_zero, List.getElem_cons_succ, List.setIfInBounds_toArray, List.set_cons_zero, List.set_cons_succ]
  refine wpAnyH_take (i := 14) (v := .int .i64 r.prev) rfl (by kernel_rfl) (by kernel_rfl) (by kernel_rfl) (fun _ _ _ h => h) (Or.inl ⟨by rfl, ?_⟩) hHeld ?_
  · intro w' hSw
    go_simp <;> rfl
  try simp only [Act.put, List.getElem_toArray, List.getElem_cons_zero, List.getElem_cons_succ, List.setIfInBounds_toArray, List.set_cons_zero, List.set_cons_succ]
  refine wpAnyH_take (i := 15) (v := .pointer (some ⟨(w1.heap.size + 1), 2, none⟩)) rfl (by kernel_rfl) (by kernel_rfl) (by kernel_rfl) (fun _ _ _ h => h) (Or.inl ⟨by rfl, ?_⟩) hHeld ?_
  · intro w' hSw
    go_simp <;> rfl
  try simp only [Act.put, List.getElem_toArray, List.getElem_cons_zero, List.getElem_cons_succ, List.setIfInBounds_toArray, List.set_cons_zero, List.set_cons_succ]
  refine wpAnyH_take (i := 16) (v := .int .i64 r.prev) rfl (by kernel_rfl) (by kernel_rfl) (by kernel_rfl) (fun _ _ _ h => h) (Or.inl ⟨by rfl, ?_⟩) hHeld ?_
  · intro w' hSw
    go_simp <;> rfl
  try simp only [Act.put, List.getElem_toArray, List.getElem_cons_zero, List.getElem_cons_succ, List.setIfInBounds_toArray, List.set_cons_zero, List.set_cons_succ]
  refine wpAnyH_take (i := 17) (v := .bool true) rfl (by kernel_rfl) (by kernel_rfl) (by kernel_rfl) (fun _ _ _ h => h) (Or.inl ⟨by rfl, ?_⟩) hHeld ?_
  · intro w' hSw
    go_simp <;> rfl
  try simp only [Act.put, List.getElem_toArray, List.getElem_cons_zero, List.getElem_cons_succ, List.setIfInBounds_toArray, List.set_cons_zero, List.set_cons_succ]
  refine wpAnyH_take (i := 18) (v := .bool true) rfl (by kernel_rfl) (by kernel_rfl) (by kernel_rfl) (fun _ _ _ h => h) (Or.inl ⟨by rfl, ?_⟩) hHeld ?_
  · intro w' hSw
    go_simp <;> rfl
  try simp only [Act.put, List.getElem_toArray, List.getElem_cons_zero, List.getElem_cons_succ, List.setIfInBounds_toArray, List.set_cons_zero, List.set_cons_succ]
  refine wpAnyH_take (i := 19) (v := .bool true) rfl (by kernel_rfl) (by kernel_rfl) (by kernel_rfl) (fun _ _ _ h => h) (Or.inl ⟨by rfl, ?_⟩) hHeld ?_
  · intro w' hSw
    go_simp <;> rfl
  try simp only [Act.put, List.getElem_toArray, List.getElem_cons_zero, List.getElem_cons_succ, List.setIfInBounds_toArray, List.set_cons_zero, List.set_cons_succ]
  refine wpAnyH_take (i := 20) (v := .pointer (some ⟨w12.heap.size, 0, none⟩)) rfl (by kernel_rfl) (by kernel_rfl) (by kernel_rfl) (fun _ _ _ h => h) (Or.inl ⟨by rfl, ?_⟩) hHeld ?_
  · intro w' hSw
    go_simp <;> rfl
  try simp only [Act.put, List.getElem_toArray, List.getElem_cons_zero, List.getElem_cons_succ, List.setIfInBounds_toArray, List.set_cons_zero, List.set_cons_succ]
  refine wpAnyH_take (i := 21) (v := .int .i64 500000) rfl (by kernel_rfl) (by kernel_rfl) (by kernel_rfl) (fun _ _ _ h => h) (Or.inl ⟨by rfl, ?_⟩) hHeld ?_
  · intro w' hSw
    go_simp <;> rfl
  try simp only [Act.put, List.getElem_toArray, List.getElem_cons_zero, List.getElem_cons_succ, List.setIfInBounds_toArray, List.set_cons_zero, List.set_cons_succ]
  refine wpAnyH_take (i := 22) (v := .bool true) rfl (by kernel_rfl) (by kernel_rfl) (by kernel_rfl) (fun _ _ _ h => h) (Or.inl ⟨by rfl, ?_⟩) hHeld ?_
  · intro w' hSw
    go_simp <;> rfl
  try simp only [Act.put, List.getElem_toArray, List.getElem_cons_zero, List.getElem_cons_succ, List.setIfInBounds_toArray, List.set_cons_zero, List.set_cons_succ]
  refine wpAnyH_take (i := 23) (v := .bool true) rfl (by kernel_rfl) (by kernel_rfl) (by kernel_rfl) (fun _ _ _ h => h) (Or.inl ⟨by rfl, ?_⟩) hHeld ?_
  · intro w' hSw
    go_simp <;> rfl
  try simp only [Act.put, List.getElem_toArray, List.getElem_cons_zero, List.getElem_cons_succ, List.setIfInBounds_toArray, List.set_cons_zero, List.set_cons_succ]
  refine wpAnyH_take (i := 24) (v := .bool true) rfl (by kernel_rfl) (by kernel_rfl) (by kernel_rfl) (fun _ _ _ h => h) (Or.inl ⟨by rfl, ?_⟩) hHeld ?_
  · intro w' hSw
    go_simp <;> rfl
  try simp only [Act.put, List.getElem_toArray, List.getElem_cons_zero, List.getElem_cons_succ, List.setIfInBounds_toArray, List.set_cons_zero, List.set_cons_succ]
  refine wpAnyH_done (by kernel_rfl) ?_ _
  clear hHeld
  go_wp2
  go_ret
  exact ⟨rfl, BW.trans (hb14.mono BW.size)⟩
end Go.Proofs.YtjaojcgfgkppgaaDoor
