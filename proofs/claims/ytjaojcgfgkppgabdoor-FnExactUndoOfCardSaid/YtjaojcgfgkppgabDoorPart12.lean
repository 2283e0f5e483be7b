/- Several texts in one, in their order. -/
import Derived.Test.YtjaojcgfgkppgabDoorPart11
import Derived.Test.YtjaojcgfgkppgabDoorPart8
import Derived.Test.YtjaojcgfgkppgabDoorPart9
import Derived.Test.YtjaojcgfgkppgabDoorRows
import Derived.LaidLaws
import Derived.LaidHandle
import Derived.Stop.Joined
import Derived.ChangeVars
/- The walk of laws.FnExactUndoOf. -/
namespace Go.Proofs.YtjaojcgfgkppgabDoor
open Go.RowKit

theorem rec_rng {w : World} {B : Nat} {T : TypeId} (r : RecA) (b : Box w B r.cells T) : w.rangeAt B 0 r.cells := Box.range [] r.cells [] (by simpa using b)
theorem lrec_info (q : RecA) : (Tryd.prog.info? 29).map (·.size) = some q.cells.length := by show _ = some 15; kernel_rfl

theorem short_undo {r s : RecA} {n p : Int} {m : Nat} (h : r.short m) (hs : s.v = undoV r.v n p) : s.short m := by
  simp only [RecA.v] at hs
  have hc : undoV r.v n p = backV r.v n p ∨ undoV r.v n p = noR := by unfold undoV; split; exact .inl rfl; exact .inr rfl
  simp only [RecA.v] at hc
  rcases hc with e | e
  · rw [e] at hs
    simp only [backV, RecV.mk.injEq] at hs
    obtain ⟨_, _, _, _, _, h1, h2, _, h3⟩ := hs
    exact ⟨by rw [h1]; exact ⟨Nat.zero_le _, Nat.zero_le _⟩, by rw [h2]; exact h.bf, by rw [h3]; exact Nat.zero_le _⟩
  · rw [e] at hs
    simp only [noR, RecV.mk.injEq] at hs
    obtain ⟨_, _, _, _, _, h1, h2, _, h3⟩ := hs
    exact ⟨by rw [h1]; exact ⟨Nat.zero_le _, Nat.zero_le _⟩, by rw [h2]; exact ⟨Nat.zero_le _, Nat.zero_le _⟩, by rw [h3]; exact Nat.zero_le _⟩

set_option maxHeartbeats 8000000 in
set_option maxRecDepth 100000 in
theorem lawUndoOf_walk (r : RecA) (n p : Int) (w : World) (hg : ErrT w) (hin : InRec w r) :
    Calls Tryd.prog 3 #[.agg r.cells.toArray, .int .i64 n, .int .i64 p] w fun e w' => e = .returned (.bool true) ∧ Below w.heap.size w w' := by
  obtain ⟨W, hW, bx3, hbW, hsW⟩ := boxes1 w r.cells 29
  have hRd : ∀ u, Below W.heap.size W u → r.reads u := fun u hh => hin.reads.below (hbW.trans (hh.mono hbW.size))
  have hgB : ∀ u, Below W.heap.size W u → ErrT u := fun u hh => hg.keep (hbW.trans (hh.mono hbW.size))
  have BW : Below W.heap.size W W := Below.refl _ _
  have HSH : Hid (_) := hin.short
  have HU : Hid (∀ s : RecA, s.v = r.v → undoV s.v n p = undoV r.v n p) := fun s h => by rw [h]
  have HSU : Hid (r.short 1048576 → ∀ s : RecA, s.v = undoV r.v n p → s.short 1048576) := fun h s hs => short_undo h hs
  generalize undoV r.v n p = R at *
  have hW0 := bx3.lt
  clear hsW hin
  go_enter Tryd.func3, Tryd.ntmps3
  go_wp2_with (first | (guard_target = wpList _ _ _ (Oper.mk (some 15) _ _ _ _ _ :: _) _ _; refine wpList_load_mid rfl 29 (.tmp 3) rfl w.heap.size 0 rfl r.cells _ (by rw [hW.out]; exact rec_rng r bx3) Tryd.underlying29 rfl (lrec_info _) ?_) | fail)
  rw [hW.out]
  clear hW
  refine (szRec_any r 1048576 W HSH.out (by omega)).mono ?_
  rintro e w1 ⟨z, rfl, hz, hb1⟩
  replace bx3 := bx3.below hb1 bx3.lt
  replace BW := BW.trans (hb1.mono BW.size)
  have s1 := hb1.size
  rcases hz with hneg | ⟨hz0, _, hl⟩
  · go_wp2
    go_ret
    exact ⟨rfl, hbW.trans (BW.mono hbW.size)⟩
  have hzn : ¬ z < 0 := by omega
  go_wp2_with (first | (guard_target = wpList _ _ _ (Oper.mk (some 20) _ _ _ _ _ :: _) _ _; refine wpList_load_mid rfl 29 (.tmp 3) rfl w.heap.size 0 rfl r.cells _ (rec_rng r bx3) Tryd.underlying29 rfl (lrec_info _) ?_) | fail)
  refine (toRec_law r w1 (hRd _ BW) hl).mono ?_
  rintro e w2 ⟨t2, rfl, hv2, ho2, hb2⟩
  replace bx3 := bx3.below hb2 bx3.lt
  replace BW := BW.trans (hb2.mono BW.size)
  have s2 := hb2.size
  go_wp2_with fail
  refine (specUndoOf_any t2 n p w2 ho2.reads (short_wide (short_of hv2.out hl))).mono ?_
  rintro e w3 ⟨tw, rfl, hvw, ow, hb3⟩
  have HVW : Hid (tw.v = R) := hvw.out.trans (HU.out t2 hv2.out)
  clear hvw hv2 ho2
  replace bx3 := bx3.below hb3 bx3.lt
  replace BW := BW.trans (hb3.mono BW.size)
  have s3 := hb3.size
  obtain ⟨Zw4, hZw4, bZw4, hbZw4, _⟩ := boxes1 w3 [.int .i64 0, .int .i64 0, .int .i64 0, .int .i64 0, .int .i64 0, .bool false, .int .i64 0, .slice none 0 0, .slice none 0 0, .bool false, .int .i64 0, .slice none 0 0, .slice none 0 0, .int .i64 0, .slice none 0 0] 36
  obtain ⟨w4, hSw4, hww4, hzw4, HTw4, _, bx8⟩ := rec_out tw [.int .i64 0, .int .i64 0, .int .i64 0, .int .i64 0, .int .i64 0, .bool false, .int .i64 0, .slice none 0 0, .slice none 0 0, .bool false, .int .i64 0, .slice none 0 0, .slice none 0 0, .int .i64 0, .slice none 0 0] rfl bZw4
  have hbw4 : Below w3.heap.size w3 w4 := hbZw4.trans (hww4.below (Nat.le_refl _) (by have := hbZw4.size; omega))
  clear bZw4 hbZw4 hww4 hzw4
  replace bx3 := bx3.below hbw4 bx3.lt
  replace ow := ow.below hbw4
  replace BW := BW.trans (hbw4.mono BW.size)
  have sw4 := hbw4.size
  have lw4 := bx8.lt
  go_wp2_with (first | (guard_target = wpList _ _ _ (Oper.mk none (Op.store _ (Operand.tmp 8) _) _ _ _ _ :: _) _ _; refine wpList_store_mid rfl 36 (.tmp 8) (.tmp 24) rfl w3.heap.size 0 tw.cells.toArray rfl rfl (by rw [hZw4.out]; exact HTw4.out) (by rw [List.size_toArray]; exact rec_info _) (rec_one _) ?_) | (guard_target = wpList _ _ _ (Oper.mk (some 25) _ _ _ _ _ :: _) _ _; refine wpList_load_mid rfl 29 (.tmp 3) rfl w.heap.size 0 rfl r.cells _ (by rw [hZw4.out, hSw4.out]; exact rec_rng r bx3) Tryd.underlying29 rfl (lrec_info _) ?_) | fail)
  rw [hZw4.out, hSw4.out]
  clear hZw4 hSw4 HTw4
  refine (toRec_law r w4 (hRd _ BW) hl).mono ?_
  rintro e w5 ⟨q, rfl, hvq, oq, hb5⟩
  replace bx3 := bx3.below hb5 bx3.lt
  replace bx8 := bx8.below hb5 bx8.lt
  replace ow := ow.below hb5
  replace BW := BW.trans (hb5.mono BW.size)
  have s5 := hb5.size
  have hqS := short_of hvq.out hl
  obtain ⟨Zw6, hZw6, bZw6, hbZw6, _⟩ := boxes1 w5 [.int .i64 0, .int .i64 0, .int .i64 0, .int .i64 0, .int .i64 0, .bool false, .int .i64 0, .slice none 0 0, .slice none 0 0, .bool false, .int .i64 0, .slice none 0 0, .slice none 0 0, .int .i64 0, .slice none 0 0] 36
  obtain ⟨w6, hSw6, hww6, hzw6, HTw6, _, bx9⟩ := rec_out q [.int .i64 0, .int .i64 0, .int .i64 0, .int .i64 0, .int .i64 0, .bool false, .int .i64 0, .slice none 0 0, .slice none 0 0, .bool false, .int .i64 0, .slice none 0 0, .slice none 0 0, .int .i64 0, .slice none 0 0] rfl bZw6
  have hbw6 : Below w5.heap.size w5 w6 := hbZw6.trans (hww6.below (Nat.le_refl _) (by have := hbZw6.size; omega))
  clear bZw6 hbZw6 hww6 hzw6
  replace bx3 := bx3.below hbw6 bx3.lt
  replace bx8 := bx8.below hbw6 bx8.lt
  replace ow := ow.below hbw6
  replace oq := oq.below hbw6
  replace BW := BW.trans (hbw6.mono BW.size)
  have sw6 := hbw6.size
  have lw6 := bx9.lt
  go_wp2_with (first | (guard_target = wpList _ _ _ (Oper.mk none (Op.store _ (Operand.tmp 9) _) _ _ _ _ :: _) _ _; refine wpList_store_mid rfl 36 (.tmp 9) (.tmp 26) rfl w5.heap.size 0 q.cells.toArray rfl rfl (by rw [hZw6.out]; exact HTw6.out) (by rw [List.size_toArray]; exact rec_info _) (rec_one _) ?_) | (guard_target = wpList _ _ _ (Oper.mk (some 27) _ _ _ _ _ :: _) _ _; refine wpList_load_mid rfl 36 (.tmp 9) rfl w5.heap.size 0 rfl q.cells _ (by rw [hZw6.out, hSw6.out]; exact rec_rng q bx9) Tryd.underlying36 rfl (rec_info _) ?_) | fail)
  rw [hZw6.out, hSw6.out]
  clear hZw6 hSw6 HTw6
  refine (implUndoOf_any q n p w6 (hgB _ BW) oq.reads (short_wide hqS)).mono ?_
  rintro e w7 ⟨tg, rfl, hvg, og, hb7⟩
  have HVG : Hid (tg.v = R) := hvg.out.trans (HU.out q hvq.out)
  clear hvg
  replace bx3 := bx3.below hb7 bx3.lt
  replace bx8 := bx8.below hb7 bx8.lt
  replace bx9 := bx9.below hb7 bx9.lt
  replace ow := ow.below hb7
  replace oq := oq.below hb7
  replace BW := BW.trans (hb7.mono BW.size)
  have s7 := hb7.size
  obtain ⟨Zw8, hZw8, bZw8, hbZw8, _⟩ := boxes1 w7 [.int .i64 0, .int .i64 0, .int .i64 0, .int .i64 0, .int .i64 0, .bool false, .int .i64 0, .slice none 0 0, .slice none 0 0, .bool false, .int .i64 0, .slice none 0 0, .slice none 0 0, .int .i64 0, .slice none 0 0] 36
  obtain ⟨w8, hSw8, hww8, hzw8, HTw8, _, bx10⟩ := rec_out tg [.int .i64 0, .int .i64 0, .int .i64 0, .int .i64 0, .int .i64 0, .bool false, .int .i64 0, .slice none 0 0, .slice none 0 0, .bool false, .int .i64 0, .slice none 0 0, .slice none 0 0, .int .i64 0, .slice none 0 0] rfl bZw8
  have hbw8 : Below w7.heap.size w7 w8 := hbZw8.trans (hww8.below (Nat.le_refl _) (by have := hbZw8.size; omega))
  clear bZw8 hbZw8 hww8 hzw8
  replace bx3 := bx3.below hbw8 bx3.lt
  replace bx8 := bx8.below hbw8 bx8.lt
  replace bx9 := bx9.below hbw8 bx9.lt
  replace ow := ow.below hbw8
  replace oq := oq.below hbw8
  replace og := og.below hbw8
  replace BW := BW.trans (hbw8.mono BW.size)
  have sw8 := hbw8.size
  have lw8 := bx10.lt
  have HGW : Hid (tw.v = tg.v) := HVW.out.trans HVG.out.symm
  have hgS : tg.short 1048576 := HSU.out hl tg HVG.out
  go_wp2_with (first | (guard_target = wpList _ _ _ (Oper.mk none (Op.store _ (Operand.tmp 10) _) _ _ _ _ :: _) _ _; refine wpList_store_mid rfl 36 (.tmp 10) (.tmp 30) rfl w7.heap.size 0 tg.cells.toArray rfl rfl (by rw [hZw8.out]; exact HTw8.out) (by rw [List.size_toArray]; exact rec_info _) (rec_one _) ?_) | (guard_target = wpList _ _ _ (Oper.mk (some 31) _ _ _ _ _ :: _) _ _; refine wpList_load_mid rfl 36 (.tmp 10) rfl w7.heap.size 0 rfl tg.cells _ (by rw [hZw8.out, hSw8.out]; exact rec_rng tg bx10) Tryd.underlying36 rfl (rec_info _) ?_) | (guard_target = wpList _ _ _ (Oper.mk (some 32) _ _ _ _ _ :: _) _ _; refine wpList_load_mid rfl 36 (.tmp 8) rfl w3.heap.size 0 rfl tw.cells _ (by rw [hZw8.out, hSw8.out]; exact rec_rng tw bx8) Tryd.underlying36 rfl (rec_info _) ?_) | fail)
  rw [hZw8.out, hSw8.out]
  clear hZw8 hSw8 HTw8
  refine (eqRec_same tg tw HGW.out w8 og.reads ow.reads (short_wide hgS)).mono ?_
  rintro e w9 ⟨rfl, hb9⟩
  replace bx3 := bx3.below hb9 bx3.lt
  replace bx8 := bx8.below hb9 bx8.lt
  replace bx9 := bx9.below hb9 bx9.lt
  replace bx10 := bx10.below hb9 bx10.lt
  replace ow := ow.below hb9
  replace oq := oq.below hb9
  replace og := og.below hb9
  replace BW := BW.trans (hb9.mono BW.size)
  have s9 := hb9.size
  have HQ : Hid (_) := hvq.out
  have hu1 := Tryd.underlying29
  have hu2 := Tryd.underlying36
  have hi1 := lrec_info r
  have hi2 := rec_info q
  have HRG : Hid (∀ u, Below w9.heap.size w9 u → u.rangeAt w.heap.size 0 r.cells ∧ u.rangeAt w5.heap.size 0 q.cells) := fun u hu => ⟨rec_rng r (bx3.below hu bx3.lt), rec_rng q (bx9.below hu bx9.lt)⟩
  clear hvq
  go_wp2_with fail
  refine wp_region_held_drew (S := fun w' => w'.rangeAt w.heap.size 0 r.cells ∧ w'.rangeAt w5.heap.size 0 q.cells) (by kernel_rfl) (HRG.out _ (Below.refl _ _).drew) (fun hHeld => ?_)
  refine wpAnyH_take (i := 0) rfl (by kernel_rfl) (by kernel_rfl) (by kernel_rfl) (fun _ _ _ h => h) (yieldsIf_load_mid (by rfl) _ _ rfl _ _ rfl q.cells _ (fun _ h => h.2) hu2 rfl hi2) hHeld ?_
  refine wpAnyH_take (i := 1) rfl (by kernel_rfl) (by kernel_rfl) (by kernel_rfl) (fun _ _ _ h => h) (yieldsIf_load_mid (by rfl) _ _ rfl _ _ rfl r.cells _ (fun _ h => h.1) hu1 rfl hi1) hHeld ?_
  refine wpAnyH_ready (rs := [2]) (by kernel_rfl) (by simp) ?_
  refine AllReadyH.cons rfl (fun K hK => ?_) AllReadyH.nil
  go_simp
  refine (toRec_law r _ (hRd _ BW.drew) hl).mono ?_
  rintro e w10 ⟨vs, rfl, hvv, ov, hb10⟩
  have N10 : Below w9.heap.size w9 w10 := ((Below.refl _ _).drew).trans hb10
  refine hK.out _ _ (HRG.out _ N10) (fun hHeld => ?_)
  clear hK K
  refine wpAnyH_ready (rs := [3]) (by kernel_rfl) (by simp) ?_
  refine AllReadyH.cons rfl (fun K hK => ?_) AllReadyH.nil
  go_simp
  refine (eqRec_same q vs (hvv.out.trans HQ.out.symm) w10 (oq.reads.below N10) ov.reads (short_wide hqS)).mono ?_
  rintro e w11 ⟨rfl, hb11⟩
  have N11 : Below w9.heap.size w9 w11 := N10.trans (hb11.mono N10.size)
  refine hK.out _ _ (HRG.out _ N11) (fun hHeld => ?_)
  clear hK K
  refine wpAnyH_take (i := 4) (v := .bool false) rfl (by kernel_rfl) (by kernel_rfl) (by kernel_rfl) (fun _ _ _ h => h) (Or.inl ⟨by rfl, ?_⟩) hHeld ?_
  · intro w' _; go_simp
  refine wpAnyH_done (by kernel_rfl) ?_ _
  clear hHeld hb10 hb11 ov hvv HRG N10 HQ
  replace bx3 := bx3.below N11 bx3.lt
  replace bx8 := bx8.below N11 bx8.lt
  replace bx9 := bx9.below N11 bx9.lt
  replace bx10 := bx10.below N11 bx10.lt
  replace ow := ow.below N11
  replace oq := oq.below N11
  replace og := og.below N11
  replace BW := BW.trans (N11.mono BW.size)
  have s11 := N11.size
  clear N11 hu1 hu2 hi1 hi2
  go_wp2_with (first | (guard_target = wpList _ _ _ (Oper.mk (some 40) _ _ _ _ _ :: _) _ _; refine wpList_load_mid rfl 36 (.tmp 9) rfl w5.heap.size 0 rfl q.cells _ (rec_rng q bx9) Tryd.underlying36 rfl (rec_info _) ?_) | fail)
  refine (markRec_touch q w4.heap.size w5.heap.size 1 w11 oq (short_wide hqS) (by omega) (by omega)).mono ?_
  rintro e w12 ⟨rfl, _, ht12⟩
  have hw12 : Within w4.heap.size w5.heap.size w11 w12 := ht12.within oq.blocks_lt
  have s12 := hw12.size
  replace bx3 := bx3.within hw12 (by omega)
  replace bx8 := bx8.within hw12 (by omega)
  replace bx9 := bx9.within hw12 (by omega)
  replace bx10 := bx10.within hw12 (by omega)
  replace ow := ow.within hw12 (by omega)
  replace og := og.within hw12 (by omega)
  replace BW := BW.trans (hw12.below (by have := BW.size; omega) (by have := BW.size; omega))
  have hcn : ¬ ((1 : Int) + (q.count : Int)) < 0 := by omega
  clear ht12 hw12 oq
  generalize q.count = cq at *
  go_wp2_with (first | (guard_target = wpList _ _ _ (Oper.mk (some 46) _ _ _ _ _ :: _) _ _; refine wpList_load_mid_if (by rfl) 36 (.tmp 10) rfl w7.heap.size 0 rfl tg.cells _ (rec_rng tg bx10) Tryd.underlying36 rfl (rec_info _) ?_) | (guard_target = wpList _ _ _ (Oper.mk (some 47) _ _ _ _ _ :: _) _ _; refine wpList_load_mid_if (by rfl) 36 (.tmp 8) rfl w3.heap.size 0 rfl tw.cells _ (rec_rng tw bx8) Tryd.underlying36 rfl (rec_info _) ?_) | fail)
  refine (eqRec_same tg tw HGW.out w12 og.reads ow.reads (short_wide hgS)).mono ?_
  rintro e w13 ⟨rfl, hb13⟩
  replace bx3 := bx3.below hb13 bx3.lt
  replace bx8 := bx8.below hb13 bx8.lt
  replace bx9 := bx9.below hb13 bx9.lt
  replace bx10 := bx10.below hb13 bx10.lt
  replace ow := ow.below hb13
  replace og := og.below hb13
  replace BW := BW.trans (hb13.mono BW.size)
  have s13 := hb13.size
  go_wp2_with (first | (guard_target = wpList _ _ _ (Oper.mk (some 51) _ _ _ _ _ :: _) _ _; refine wpList_load_mid rfl 36 (.tmp 10) rfl w7.heap.size 0 rfl tg.cells _ (rec_rng tg bx10) Tryd.underlying36 rfl (rec_info _) ?_) | fail)
  refine (markRec_touch tg w6.heap.size w7.heap.size 1 w13 og (short_wide hgS) (by omega) (by omega)).mono ?_
  rintro e w14 ⟨rfl, og14, ht14⟩
  have hw14 : Within w6.heap.size w7.heap.size w13 w14 := ht14.within og.blocks_lt
  have s14 := hw14.size
  replace bx3 := bx3.within hw14 (by omega)
  replace bx8 := bx8.within hw14 (by omega)
  replace bx9 := bx9.within hw14 (by omega)
  replace bx10 := bx10.within hw14 (by omega)
  replace ow := ow.within hw14 (by omega)
  replace BW := BW.trans (hw14.below (by have := BW.size; omega) (by have := BW.size; omega))
  clear ht14 hw14 og
  have hcc : (0 : Int) ≤ (tg.count : Int) := by omega
  go_wp2_with (first | (guard_target = wpList _ _ _ (Oper.mk (some 54) _ _ _ _ _ :: _) _ _; refine wpList_load_mid rfl 36 (.tmp 10) rfl w7.heap.size 0 rfl tg.cells _ (rec_rng tg bx10) Tryd.underlying36 rfl (rec_info _) ?_) | fail)
  refine (heldRec_any tg w6.heap.size w7.heap.size 1 w14 og14 (short_wide hgS) (by omega) (by omega)).mono ?_
  rintro e w15 ⟨rfl, hb15⟩
  replace bx3 := bx3.below hb15 bx3.lt
  replace bx8 := bx8.below hb15 bx8.lt
  replace bx9 := bx9.below hb15 bx9.lt
  replace bx10 := bx10.below hb15 bx10.lt
  replace ow := ow.below hb15
  replace og14 := og14.below hb15
  replace BW := BW.trans (hb15.mono BW.size)
  have s15 := hb15.size
  have hcn2 : ¬ ((1 : Int) + (tg.count : Int)) < 0 := by omega
  go_wp2_with (first | (guard_target = wpList _ _ _ (Oper.mk (some 62) _ _ _ _ _ :: _) _ _; refine wpList_load_mid rfl 29 (.tmp 3) rfl w.heap.size 0 rfl r.cells _ (rec_rng r bx3) Tryd.underlying29 rfl (lrec_info _) ?_) | fail)
  refine (toRec_law r w15 (hRd _ BW) hl).mono ?_
  rintro e w16 ⟨t16, rfl, hv16, ho16, hb16⟩
  replace bx3 := bx3.below hb16 bx3.lt
  replace bx8 := bx8.below hb16 bx8.lt
  replace bx9 := bx9.below hb16 bx9.lt
  replace bx10 := bx10.below hb16 bx10.lt
  replace ow := ow.below hb16
  replace og14 := og14.below hb16
  replace BW := BW.trans (hb16.mono BW.size)
  have s16 := hb16.size
  go_wp2_with fail
  refine (implUndoOf_any t16 n p w16 (hgB _ BW) ho16.reads (short_wide (short_of hv16.out hl))).mono ?_
  rintro e w17 ⟨th, rfl, hvh, oh, hb17⟩
  have HVH : Hid (tw.v = th.v) := HVW.out.trans (hvh.out.trans (HU.out t16 hv16.out)).symm
  have hhS : th.short 1048576 := HSU.out hl th (HVH.out.symm.trans HVW.out)
  clear hvh hv16 ho16
  replace bx3 := bx3.below hb17 bx3.lt
  replace bx8 := bx8.below hb17 bx8.lt
  replace bx9 := bx9.below hb17 bx9.lt
  replace bx10 := bx10.below hb17 bx10.lt
  replace ow := ow.below hb17
  replace og14 := og14.below hb17
  replace BW := BW.trans (hb17.mono BW.size)
  have s17 := hb17.size
  obtain ⟨Zw18, hZw18, bZw18, hbZw18, _⟩ := boxes1 w17 [.int .i64 0, .int .i64 0, .int .i64 0, .int .i64 0, .int .i64 0, .bool false, .int .i64 0, .slice none 0 0, .slice none 0 0, .bool false, .int .i64 0, .slice none 0 0, .slice none 0 0, .int .i64 0, .slice none 0 0] 36
  obtain ⟨w18, hSw18, hww18, hzw18, HTw18, _, bx14⟩ := rec_out th [.int .i64 0, .int .i64 0, .int .i64 0, .int .i64 0, .int .i64 0, .bool false, .int .i64 0, .slice none 0 0, .slice none 0 0, .bool false, .int .i64 0, .slice none 0 0, .slice none 0 0, .int .i64 0, .slice none 0 0] rfl bZw18
  have hbw18 : Below w17.heap.size w17 w18 := hbZw18.trans (hww18.below (Nat.le_refl _) (by have := hbZw18.size; omega))
  clear bZw18 hbZw18 hww18 hzw18
  replace bx3 := bx3.below hbw18 bx3.lt
  replace bx8 := bx8.below hbw18 bx8.lt
  replace bx9 := bx9.below hbw18 bx9.lt
  replace bx10 := bx10.below hbw18 bx10.lt
  replace ow := ow.below hbw18
  replace og14 := og14.below hbw18
  replace oh := oh.below hbw18
  replace BW := BW.trans (hbw18.mono BW.size)
  have sw18 := hbw18.size
  have lw18 := bx14.lt
  go_wp2_with (first | (guard_target = wpList _ _ _ (Oper.mk none (Op.store _ (Operand.tmp 14) _) _ _ _ _ :: _) _ _; refine wpList_store_mid rfl 36 (.tmp 14) (.tmp 66) rfl w17.heap.size 0 th.cells.toArray rfl rfl (by rw [hZw18.out]; exact HTw18.out) (by rw [List.size_toArray]; exact rec_info _) (rec_one _) ?_) | (guard_target = wpList _ _ _ (Oper.mk (some 67) _ _ _ _ _ :: _) _ _; refine wpList_load_mid rfl 36 (.tmp 14) rfl w17.heap.size 0 rfl th.cells _ (by rw [hZw18.out, hSw18.out]; exact rec_rng th bx14) Tryd.underlying36 rfl (rec_info _) ?_) | (guard_target = wpList _ _ _ (Oper.mk (some 68) _ _ _ _ _ :: _) _ _; refine wpList_load_mid rfl 36 (.tmp 8) rfl w3.heap.size 0 rfl tw.cells _ (by rw [hZw18.out, hSw18.out]; exact rec_rng tw bx8) Tryd.underlying36 rfl (rec_info _) ?_) | fail)
  rw [hZw18.out, hSw18.out]
  clear hZw18 hSw18 HTw18
  refine (eqRec_same th tw HVH.out w18 oh.reads ow.reads (short_wide hhS)).mono ?_
  rintro e w19 ⟨rfl, hb19⟩
  replace bx3 := bx3.below hb19 bx3.lt
  replace bx8 := bx8.below hb19 bx8.lt
  replace bx9 := bx9.below hb19 bx9.lt
  replace bx10 := bx10.below hb19 bx10.lt
  replace bx14 := bx14.below hb19 bx14.lt
  replace ow := ow.below hb19
  replace og14 := og14.below hb19
  replace oh := oh.below hb19
  replace BW := BW.trans (hb19.mono BW.size)
  have s19 := hb19.size
  go_wp2_with (first | (guard_target = wpList _ _ _ (Oper.mk (some 71) _ _ _ _ _ :: _) _ _; refine wpList_load_mid rfl 36 (.tmp 10) rfl w7.heap.size 0 rfl tg.cells _ (rec_rng tg bx10) Tryd.underlying36 rfl (rec_info _) ?_) | fail)
  refine (heldRec_any tg w6.heap.size w7.heap.size 1 w19 og14 (short_wide hgS) (by omega) (by omega)).mono ?_
  rintro e w20 ⟨rfl, hb20⟩
  replace BW := BW.trans (hb20.mono BW.size)
  go_wp2
  go_ret
  exact ⟨rfl, hbW.trans (BW.mono hbW.size)⟩
end Go.Proofs.YtjaojcgfgkppgabDoor

/- What the row's condition on errors.errorType gives a walk; a world that meets it. -/
namespace Go.Proofs.YtjaojcgfgkppgabDoor
open Go.ChangeShapes Go.WideShapes Go.RowKit

theorem Tryd.et : Tryd.prog.globalNamed "errors.errorType" = some 0 := by kernel_rfl
theorem Tryd.rt : (Tryd.prog.cutTypes.find? (·.1 == "internal/reflectlite.rtype")).map (·.2) = some 117 := by kernel_rfl
theorem Tryd.oneRow : ((List.range 159).filter fun t => Tryd.prog.rowNamed t [101, 114, 114, 111, 114]) = [96] := by kernel_rfl
theorem Tryd.typesSize : Tryd.prog.types.size = 159 := by kernel_rfl

theorem errT_of_handles {W : World} {laid : List (String × DataW Unit)} (hm : ("errors.errorType", Rows.laid_errors_errorType) ∈ laid) (h : handlesMet Tryd.prog laid W) : ErrT W := by
  obtain ⟨name, u, ty, e1, e2, e3, e4, e5⟩ := h _ hm
  have en : name = [101, 114, 114, 111, 114] := (Option.some.inj e1).symm
  subst en
  obtain rfl := Option.some.inj (Tryd.rt.symm.trans e2)
  have hm : ty ∈ (List.range 159).filter fun t => Tryd.prog.rowNamed t [101, 114, 114, 111, 114] := List.mem_filter.2 ⟨List.mem_range.2 (by rw [← Tryd.typesSize]; exact e3), e4⟩
  rw [Tryd.oneRow] at hm
  obtain rfl := List.mem_singleton.1 hm
  have hh : typeHandle Tryd.prog 96 = .pointer (some ⟨1, 96, none⟩) := by kernel_rfl
  rw [hh] at e5
  unfold ErrT
  simpa using World.var?_cell Tryd.et e5 0

/-- The one listed variable. -/
def laid1 : List (String × DataW Unit) := [("errors.errorType", Rows.laid_errors_errorType)]
theorem errT_of_laid1 {W : World} (h : laidMetH Tryd.prog laid1 W) : ErrT W := by
  have h' : laidMet Tryd.prog [] W ∧ handlesMet Tryd.prog laid1 W := h
  exact errT_of_handles (List.mem_singleton.2 rfl) h'.2
end Go.Proofs.YtjaojcgfgkppgabDoor
