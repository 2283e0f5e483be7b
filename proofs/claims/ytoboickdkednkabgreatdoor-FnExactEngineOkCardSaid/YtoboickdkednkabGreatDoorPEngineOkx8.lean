/- Several texts in one, in their order. -/
import Derived.Test.YtoboickdkednkabGreatDoorPEngineOkx7
import Derived.Test.YtoboickdkednkabGreatDoorPEngineOkx3
import Derived.Deep.CutRange
import Derived.Deep.LoopGhost
import Derived.Test.YtoboickdkednkabGreatDoorPEngineOkx6
import Derived.Deep.MidRow
import Derived.Laws.Tables
import Derived.Test.YtoboickdkednkabGreatDoorPEngineOkx2
import Derived.Deep.RegionHeld3
import Derived.Test.YtoboickdkednkabGreatDoorPEngineOkx5
import Derived.Test.YtoboickdkednkabGreatDoorPEngineOkx4
import Derived.Test.YtoboickdkednkabGreatDoorPEngineOkx1
set_option maxHeartbeats 8000000
set_option maxRecDepth 100000
namespace Go.Proofs.YtoboickdkednkabGreatDoor
open Go.RowKit
theorem lsnAt_any (p : Int) (w : World) (h : 0 ≤ p ∧ p ≤ 1099511627776) :
  Calls Tryz.prog 100 #[.int .i64 p] w fun e w' => e = .returned (.int .i64 (p + 1)) ∧ w' = w := by
 go_enter Tryz.func100, Tryz.ntmps100
 go_wp2
 go_ret
 exact ⟨rfl, rfl⟩
theorem implLogOk_any (l : LogA) (w : World) (hg : ErrT w) (hr : l.reads w) (hl : l.short 1099511627776) :
  Calls Tryz.prog 42 #[.agg l.cells.toArray] w fun e w' => e = .returned (.bool (okLog l.v)) ∧ Below w.heap.size w w' := by
 have HLEN : Hid (¬ l.recs.length ≤ 4000 → okLog l.v = false) := fun h => okLog_len (by rw [l.v_len]; exact h)
 have HSURE : Hid (¬ (0 ≤ l.sure ∧ l.sure ≤ l.recs.length) → okLog l.v = false) := fun h => okLog_sure (by rw [l.v_len]; unfold inB; exact decide_eq_false h)
 have HNO : Hid (∀ k, k < l.recs.length → (((l.recs.getD k zeroR).lsn == (k + 1 : Int)) && okR (l.recs.getD k zeroR).v) = false → okLog l.v = false) := fun k hk h => okLog_no k (by rw [l.v_len]; exact hk) (by rw [okAt_v]; exact h)
 have HALL : Hid (l.recs.length ≤ 4000 → 0 ≤ l.sure ∧ l.sure ≤ l.recs.length → (∀ k, k < l.recs.length → (((l.recs.getD k zeroR).lsn == (k + 1 : Int)) && okR (l.recs.getD k zeroR).v) = true) → okLog l.v = true) := fun h0 h1 h => okLog_all (by rw [l.v_len]; exact h0) (by rw [l.v_len]; unfold inB; exact decide_eq_true h1) (fun k hk => by rw [okAt_v]; exact h k (by rw [l.v_len] at hk; exact hk))
 generalize okLog l.v = R at *
 have HS : Hid (∀ k, k < l.recs.length → (l.recs.getD k zeroR).short 1099511627776) := fun k hk => hl.at k hk
 have hlen := hl.len
 obtain ⟨rs, s, a, c⟩ := l
 simp only [LogA.reads, LogA.cells] at *
 obtain ⟨W, hW, b0, hbW, hsW⟩ := boxes1 w [.slice a rs.length c, .int .i64 s] 55
 have c0 := b0.cell 0 _ rfl
 have c1 := b0.cell 1 _ rfl
 clear hl hsW
 have HC : Hid (∀ k, k < rs.length → ∃ b off, a = some ⟨b, off, none⟩ ∧ W.rangeAt b (off + k * 15) (rs.getD k zeroR).cells ∧ (rs.getD k zeroR).reads W) := fun k hk => by
  obtain ⟨b, off, ha, hc⟩ := (ReadsRs.below hr hbW) (by intro e; rw [e] at hk; simp at hk)
  exact ⟨b, off, ha, hc k hk⟩
 have HI : Hid ((Tryz.prog.info? 85).map (·.size) = some 15) := by rw [Hid]; kernel_rfl
 have HG : Hid (∀ u, Below W.heap.size W u → ErrT u) := fun u hu => hg.keep (hbW.trans (hu.mono hbW.size))
 clear hr hg
 by_cases h4 : rs.length ≤ 4000
 case neg =>
  have HR : Hid (R = false) := HLEN.out h4
  clear HLEN HSURE HNO HALL
  go_enter Tryz.func42, Tryz.ntmps42
  go_wp2_with fail
  rw [hW.out]
  go_ret
  exact ⟨ret_bool HR.out.symm, hbW⟩
 case pos =>
  by_cases h5 : 0 ≤ s
  case neg =>
   have HR : Hid (R = false) := HSURE.out (fun h => h5 h.1)
   clear HLEN HSURE HNO HALL
   go_enter Tryz.func42, Tryz.ntmps42
   go_wp2_with fail
   rw [hW.out]
   go_ret
   exact ⟨ret_bool HR.out.symm, hbW⟩
  by_cases h6 : s ≤ rs.length
  case neg =>
   have HR : Hid (R = false) := HSURE.out (fun h => h6 h.2)
   clear HLEN HSURE HNO HALL
   go_enter Tryz.func42, Tryz.ntmps42
   go_wp2_with fail
   rw [hW.out]
   go_ret
   exact ⟨ret_bool HR.out.symm, hbW⟩
  have HRES : Hid ((∀ k, k < rs.length → (((rs.getD k zeroR).lsn == (k + 1 : Int)) && okR (rs.getD k zeroR).v) = true) → R = true) := HALL.out h4 ⟨h5, h6⟩
  clear HALL HLEN HSURE
  go_enter Tryz.func42, Tryz.ntmps42
  go_wp2_with fail
  rw [hW.out]
  clear hW
  go_loopw [25] (fun i wr => ∃ k : Nat, k ≤ rs.length ∧ i = .int .i64 k ∧ Hid (∀ j, j < k → (((rs.getD j zeroR).lsn == (j + 1 : Int)) && okR (rs.getD j zeroR).v) = true) ∧ Below W.heap.size W wr) (fun i _ => rs.length - (intOf i).toNat)
  case atStart => exact ⟨0, Nat.zero_le _, rfl, fun j hj => by omega, Below.refl _ _⟩
  case round =>
   obtain ⟨k, hk, rfl, hall, hbl⟩ := hrel
   have hbm : Below w.heap.size w wr := hbW.trans (hbl.mono hbW.size)
   clear c0 c1
   by_cases hlt : k < rs.length
   ·obtain ⟨b, off, rfl, hcell, hrd⟩ := HC.out k hlt
    have HR : Hid (wr.rangeAt b (off + k * 15) (rs.getD k zeroR).cells) := range_below hcell hbl
    have hrd' := hrd.below hbl
    have hsh := HS.out k hlt
    have HN : Hid ((((rs.getD k zeroR).lsn == (k + 1 : Int)) && okR (rs.getD k zeroR).v) = false → R = false) := HNO.out k hlt
    have HY : Hid ((((rs.getD k zeroR).lsn == (k + 1 : Int)) && okR (rs.getD k zeroR).v) = true → ∀ j, j < k + 1 → (((rs.getD j zeroR).lsn == (j + 1 : Int)) && okR (rs.getD j zeroR).v) = true) := fun h j hj => by
     by_cases e : j = k
     ·rw [e]; exact h
     ·exact hall.out j (by omega)
    clear hcell HC HNO hall HS hrd HRES
    generalize rs.getD k zeroR = y at *
    obtain ⟨W1, hW1, b1, hb1, hs1⟩ := boxes1 wr [.int .i64 0, .int .i64 0, .int .i64 0, .int .i64 0, .int .i64 0, .bool false, .int .i64 0, .slice none 0 0, .slice none 0 0, .bool false, .int .i64 0, .slice none 0 0, .slice none 0 0, .int .i64 0, .slice none 0 0] 85
    obtain ⟨W2, hW2, hw2, hs2, HT2, _, b2⟩ := rec_out y _ rfl b1
    have B2 : Below wr.heap.size wr W2 := hb1.trans (hw2.below (Nat.le_refl _) (by omega))
    have HRG : Hid (∀ u, Below W2.heap.size W2 u → u.rangeAt wr.heap.size 0 y.cells) := fun u hu => Box.range [] y.cells [] (by simpa using b2.below hu b2.lt)
    have C2 : Below W.heap.size W W2 := hbl.trans (B2.mono hbl.size)
    have hrd2 := hrd'.below B2
    have hO := rec_one y
    have D2 : Below w.heap.size w W2 := hbm.trans (B2.mono hbm.size)
    clear b1 b2 hw2 hs2 hs1 hb1 B2 hrd' hbl hbm
    go_wp2_with (first | (guard_target = wpList _ _ _ (Oper.mk (some 29) _ _ _ _ _ :: _) _ _; refine wpList_load_mid rfl 85 (.tmp 28) rfl b (off + k * 15) rfl y.cells _ HR.out Tryz.underlying85 rfl HI.out ?_) | (guard_target = wpList _ _ _ (Oper.mk none (Op.store _ (Operand.tmp 4) _) _ _ _ _ :: _) _ _; refine wpList_store_mid rfl 85 (.tmp 4) (.tmp 29) rfl wr.heap.size 0 y.cells.toArray rfl rfl (by rw [hW1.out]; exact HT2.out) HI.out hO ?_) | fail)
    rw [hW1.out, hW2.out]
    clear hW1 hW2 HT2 HR
    refine wp_region_held_drew (S := fun w' => w'.rangeAt wr.heap.size 0 y.cells) (by kernel_rfl) ?_ (fun hHeld => ?_)
    ·exact HRG.out _ (Below.refl _ _).drew
    refine tk 0 (v := .pointer (some ⟨wr.heap.size, 0, none⟩)) rfl (Or.inl ⟨by rfl, ?_⟩) hHeld ?_
    ·intro w' hSw
     go_simp <;> rfl
    try simp only [Act.put, zA, zB, zD, zE, zF]
    refine tk 1 (v := .int .i64 y.lsn) rfl (Or.inl ⟨by rfl, ?_⟩) hHeld ?_
    ·intro w' hSw
     have hx : w'.cell? ⟨wr.heap.size, 0, none⟩ = some (.int .i64 y.lsn) := hSw 0 _ rfl
     go_simp <;> rfl
    try simp only [Act.put, zA, zB, zC, zD, zE, zF]
    refine tk 2 (v := .int .i64 k) rfl (Or.inl ⟨by rfl, ?_⟩) hHeld ?_
    ·intro w' hSw
     go_simp <;> rfl
    try simp only [Act.put, zA, zB, zC, zD, zE, zF]
    refine wpAnyH_ready (rs := [3]) (by kernel_rfl) (by simp) ?_
    refine AllReadyH.cons rfl (fun K hK => ?_) AllReadyH.nil
    go_simp
    refine (lsnAt_any k _ (by omega)).mono ?_
    rintro e w3 ⟨rfl, rfl⟩
    refine hK.out _ _ (HRG.out _ (Below.refl _ _).drew) (fun hHeld => ?_)
    clear hK K
    try simp only [Act.put, zA, zB, zC, zD, zE, zF]
    refine tk 4 (v := .bool (y.lsn != (k : Int) + 1)) rfl (Or.inl ⟨by rfl, ?_⟩) hHeld ?_
    ·intro w' hSw
     go_simp <;> rfl
    try simp only [Act.put, zA, zB, zC, zD, zE, zF]
    cases h6 : (y.lsn == (k + 1 : Int)) with
    | false =>
     have HR2 : Hid (R = false) := HN.out (by rw [h6]; rfl)
     have h6b : (y.lsn != (k : Int) + 1) = true := by simp only [bne, h6, Bool.not_false]
     rw [h6b]
     clear h6 HN HY h6b
     refine tk 5 (v := .bool true) rfl (Or.inl ⟨by rfl, ?_⟩) hHeld ?_
     ·intro w' hSw
      go_simp <;> rfl
     try simp only [Act.put, zA, zB, zC, zD, zE, zF]
     refine tk 6 (v := undef) rfl (Or.inr ⟨by rfl, rfl⟩) hHeld ?_
     try simp only [Act.put, zA, zB, zC, zD, zE, zF]
     refine tk 7 (v := undef) rfl (Or.inr ⟨by rfl, rfl⟩) hHeld ?_
     try simp only [Act.put, zA, zB, zC, zD, zE, zF]
     refine tk 8 (v := undef) rfl (Or.inr ⟨by rfl, rfl⟩) hHeld ?_
     try simp only [Act.put, zA, zB, zC, zD, zE, zF]
     refine tk 9 (v := .bool true) rfl (Or.inl ⟨by rfl, ?_⟩) hHeld ?_
     ·intro w' hSw
      go_simp <;> rfl
     try simp only [Act.put, zA, zB, zC, zD, zE, zF]
     refine wpAnyH_done (by kernel_rfl) ?_ _
     go_wp2_with fail
     go_ret
     exact ⟨ret_bool HR2.out.symm, D2.drew⟩
    | true =>
     rw [h6, Bool.true_and] at HN HY
     have h6b : (y.lsn != (k : Int) + 1) = false := by simp only [bne, h6, Bool.not_true]
     rw [h6b]
     clear h6 h6b
     refine tk 5 (v := .bool false) rfl (Or.inl ⟨by rfl, ?_⟩) hHeld ?_
     ·intro w' hSw
      go_simp <;> rfl
     try simp only [Act.put, zA, zB, zC, zD, zE, zF]
     refine tk 6 rfl (yieldsIf_load_mid (by rfl) _ _ rfl _ _ rfl y.cells _ (fun _ h => h) Tryz.underlying85 rfl HI.out) hHeld ?_
     try simp only [Act.put, zA, zB, zC, zD, zE, zF]
     refine wpAnyH_ready (rs := [7]) (by kernel_rfl) (by simp) ?_
     refine AllReadyH.cons rfl (fun K hK => ?_) AllReadyH.nil
     go_simp
     refine (implRecOk_any y _ (HG.out _ C2.drew) (hrd2.below (Below.refl _ _).drew) hsh).mono ?_
     rintro e w4 ⟨rfl, hb4⟩
     have hb4' : Below W2.heap.size W2 w4 := (Below.refl _ _).drew.trans hb4
     have D4 : Below w.heap.size w w4 := D2.trans (hb4'.mono D2.size)
     have C4 : Below W.heap.size W w4 := C2.trans (hb4'.mono C2.size)
     refine hK.out _ _ (HRG.out _ hb4') (fun hHeld => ?_)
     clear hK K
     try simp only [Act.put, zA, zB, zC, zD, zE, zF]
     cases h7 : okR y.v with
     | false =>
      have HR2 : Hid (R = false) := HN.out h7
      clear HN HY
      refine tk 8 (v := .bool true) rfl (Or.inl ⟨by rfl, ?_⟩) hHeld ?_
      ·intro w' hSw
       go_simp <;> rfl
      try simp only [Act.put, zA, zB, zC, zD, zE, zF]
      refine tk 9 (v := .bool true) rfl (Or.inl ⟨by rfl, ?_⟩) hHeld ?_
      ·intro w' hSw
       go_simp <;> rfl
      try simp only [Act.put, zA, zB, zC, zD, zE, zF]
      refine wpAnyH_done (by kernel_rfl) ?_ _
      go_wp2_with fail
      go_ret
      exact ⟨ret_bool HR2.out.symm, D4⟩
     | true =>
      have HY2 := HY.out h7
      clear HN HY
      refine tk 8 (v := .bool false) rfl (Or.inl ⟨by rfl, ?_⟩) hHeld ?_
      ·intro w' hSw
       go_simp <;> rfl
      try simp only [Act.put, zA, zB, zC, zD, zE, zF]
      refine tk 9 (v := .bool false) rfl (Or.inl ⟨by rfl, ?_⟩) hHeld ?_
      ·intro w' hSw
       go_simp <;> rfl
      try simp only [Act.put, zA, zB, zC, zD, zE, zF]
      refine wpAnyH_done (by kernel_rfl) ?_ _
      go_wp2_with fail
      go_roundw
      case rel => exact ⟨k + 1, by omega, by go_num, HY2, C4⟩
      case measure => simp [intOf]; omega
   ·have HR : Hid (R = true) := HRES.out (fun j hj => hall.out j (by omega))
    clear HNO HRES
    go_wp2
    go_ret
    exact ⟨ret_bool HR.out.symm, hbm⟩
theorem load_if {ops : Array Oper} {rest : List Oper} {op : Oper} {a : Act} {w : World} {Q : Exit → Act → World → Prop} {P : Program} (hw : Region.wanted op (yielded ops a.tmps) = true) (ty : TypeId) (x : Operand) (ho : op.op = .load ty x)
  (b o : Nat) (hx : a.eval x = .pointer (some ⟨b, o, none⟩)) (cs : List Value) (d : TypeDesc) (hc : w.rangeAt b o cs)
  (hu : P.underlying ty = some d) (hd : d.isRow = true) (hi : (P.info? ty).map (·.size) = some cs.length)
  (h : wpList P ops Q rest (a.put op.dst (.agg cs.toArray)) w) : wpList P ops Q (op :: rest) a w :=
 wpList_step fun _ hK => by
  simp only [hw, if_true]
  exact wp_load_mid ty x ho b o hx cs d hc hu hd hi (hK _ _ h)
theorem specLogOk_any (l : LogA) (w : World) (hr : l.reads w) (hl : l.short 1099511627776) :
  Calls Tryz.prog 30 #[.agg l.cells.toArray] w fun e w' => e = .returned (.bool (okLog l.v)) ∧ Below w.heap.size w w' := by
 have HLEN : Hid (¬ l.recs.length ≤ 4000 → okLog l.v = false) := fun h => okLog_len (by rw [l.v_len]; exact h)
 have HSURE : Hid (inB l.sure 0 l.recs.length = false → okLog l.v = false) := fun h => okLog_sure (by rw [l.v_len]; exact h)
 have HNO : Hid (∀ k, k < l.recs.length → (((l.recs.getD k zeroR).lsn == (k + 1 : Int)) && okR (l.recs.getD k zeroR).v) = false → okLog l.v = false) := fun k hk h => okLog_no k (by rw [l.v_len]; exact hk) (by rw [okAt_v]; exact h)
 have HALL : Hid (l.recs.length ≤ 4000 → inB l.sure 0 l.recs.length = true → (∀ k, k < l.recs.length → (((l.recs.getD k zeroR).lsn == (k + 1 : Int)) && okR (l.recs.getD k zeroR).v) = true) → okLog l.v = true) := fun h0 h1 h => okLog_all (by rw [l.v_len]; exact h0) (by rw [l.v_len]; exact h1) (fun k hk => by rw [okAt_v]; exact h k (by rw [l.v_len] at hk; exact hk))
 generalize okLog l.v = R at *
 have HS : Hid (∀ k, k < l.recs.length → (l.recs.getD k zeroR).short 1099511627776) := fun k hk => hl.at k hk
 have hlen := hl.len
 obtain ⟨rs, s, a, c⟩ := l
 simp only [LogA.reads, LogA.cells] at *
 obtain ⟨W, hW, b0, hbW, hsW⟩ := boxes1 w [.slice a rs.length c, .int .i64 s] 55
 have c0 := b0.cell 0 _ rfl
 have c1 := b0.cell 1 _ rfl
 clear hl hsW
 have HC : Hid (∀ k, k < rs.length → ∃ b off, a = some ⟨b, off, none⟩ ∧ W.rangeAt b (off + k * 15) (rs.getD k zeroR).cells ∧ (rs.getD k zeroR).reads W) := fun k hk => by
  obtain ⟨b, off, ha, hc⟩ := (ReadsRs.below hr hbW) (by intro e; rw [e] at hk; simp at hk)
  exact ⟨b, off, ha, hc k hk⟩
 have HI : Hid ((Tryz.prog.info? 85).map (·.size) = some 15) := by rw [Hid]; kernel_rfl
 clear hr
 by_cases h4 : rs.length ≤ 4000
 case neg =>
  have HR : Hid (R = false) := HLEN.out h4
  clear HLEN HSURE HNO HALL
  go_enter Tryz.func30, Tryz.ntmps30
  go_wp2_with fail
  rw [hW.out]
  go_ret
  exact ⟨ret_bool HR.out.symm, hbW⟩
 case pos =>
  cases h5 : inB s 0 rs.length with
  | false =>
   have HR : Hid (R = false) := HSURE.out h5
   clear HLEN HSURE HNO HALL
   go_enter Tryz.func30, Tryz.ntmps30
   go_wp2_with fail
   rw [hW.out]
   refine (l1In_any _ _ _ W).mono ?_
   rintro e u ⟨rfl, hu⟩
   rw [hu]
   clear hu u
   go_wp2
   go_ret
   exact ⟨ret_bool HR.out.symm, hbW⟩
  | true =>
   go_enter Tryz.func30, Tryz.ntmps30
   go_wp2_with fail
   rw [hW.out]
   refine (l1In_any _ _ _ W).mono ?_
   rintro e u ⟨rfl, hu⟩
   rw [hu]
   clear hu u hW
   go_wp2_with fail
   go_loopw [3] (fun i wr => ∃ k : Nat, k ≤ rs.length ∧ i = .int .i64 k ∧ Hid (∀ j, j < k → (((rs.getD j zeroR).lsn == (j + 1 : Int)) && okR (rs.getD j zeroR).v) = true) ∧ Below W.heap.size W wr) (fun i _ => rs.length - (intOf i).toNat)
   case atStart => exact ⟨0, Nat.zero_le _, rfl, fun j hj => by omega, Below.refl _ _⟩
   case round =>
    obtain ⟨k, hk, rfl, hall, hbl⟩ := hrel
    have hbm : Below w.heap.size w wr := hbW.trans (hbl.mono hbW.size)
    have r0 := (hbl.cell (block_lt c0)).trans c0
    clear c0 c1
    by_cases hlt : k < rs.length
    ·obtain ⟨b, off, rfl, hcell, hrd⟩ := HC.out k hlt
     have HR : Hid (wr.rangeAt b (off + k * 15) (rs.getD k zeroR).cells) := range_below hcell hbl
     have x0 : wr.cell? ⟨b, off + k * 15, none⟩ = some (.int .i64 (rs.getD k zeroR).lsn) := HR.out 0 _ rfl
     have C := specRecOk_any (rs.getD k zeroR) wr (hrd.below hbl) (HS.out k hlt)
     have HN : Hid ((((rs.getD k zeroR).lsn == (k + 1 : Int)) && okR (rs.getD k zeroR).v) = false → R = false) := HNO.out k hlt
     have HY : Hid ((((rs.getD k zeroR).lsn == (k + 1 : Int)) && okR (rs.getD k zeroR).v) = true → ∀ j, j < k + 1 → (((rs.getD j zeroR).lsn == (j + 1 : Int)) && okR (rs.getD j zeroR).v) = true) := fun h j hj => by
      by_cases e : j = k
      ·rw [e]; exact h
      ·exact hall.out j (by omega)
     clear hcell HC HLEN HSURE HNO HALL hall HS hrd
     generalize rs.getD k zeroR = y at *
     cases h6 : (y.lsn == (k + 1 : Int)) with
     | false =>
      have HR2 : Hid (R = false) := HN.out (by rw [h6]; rfl)
      have h6b : (y.lsn != (k : Int) + 1) = true := by simp only [bne, h6, Bool.not_false]
      clear h6
      clear HN HY C
      go_wp2_with fail
      go_ret
      exact ⟨ret_bool HR2.out.symm, hbm⟩
     | true =>
      rw [h6, Bool.true_and] at HN HY
      have h6b : (y.lsn != (k : Int) + 1) = false := by simp only [bne, h6, Bool.not_true]
      clear h6
      cases h7 : okR y.v with
      | false =>
       have HR2 : Hid (R = false) := HN.out h7
       clear HN HY
       rw [h7] at C
       go_wp2_with (first | (guard_target = wpList _ _ _ (Oper.mk (some 38) _ _ _ _ _ :: _) _ _; refine load_if (by rfl) 85 (.tmp 37) rfl b (off + k * 15) rfl y.cells _ HR.out Tryz.underlying85 rfl HI.out ?_) | fail)
       refine C.mono ?_
       rintro e w1 ⟨rfl, hb1⟩
       go_wp2_with fail
       go_ret
       exact ⟨ret_bool HR2.out.symm, hbm.trans (hb1.mono hbm.size)⟩
      | true =>
       have HY2 := HY.out h7
       clear HN HY
       rw [h7] at C
       go_wp2_with (first | (guard_target = wpList _ _ _ (Oper.mk (some 38) _ _ _ _ _ :: _) _ _; refine load_if (by rfl) 85 (.tmp 37) rfl b (off + k * 15) rfl y.cells _ HR.out Tryz.underlying85 rfl HI.out ?_) | fail)
       refine C.mono ?_
       rintro e w1 ⟨rfl, hb1⟩
       clear C
       have hb2 : Below W.heap.size W w1 := hbl.trans (hb1.mono hbl.size)
       go_wp2_with fail
       go_roundw
       case rel => exact ⟨k + 1, by omega, by go_num, HY2, hb2⟩
       case measure => simp [intOf]; omega
    ·have HR : Hid (R = true) := HALL.out h4 h5 (fun j hj => hall.out j (by omega))
     clear HLEN HSURE HNO HALL
     go_wp2
     go_ret
     exact ⟨ret_bool HR.out.symm, hbm⟩
theorem nodup_part {A P P' C : List Nat} {n : Nat} (h : (A ++ (P ++ C)).Nodup) (hP : P'.Nodup) (hf : ∀ k ∈ P', k ∈ P ∨ n ≤ k) (hA : ∀ k ∈ A, k < n) (hC : ∀ k ∈ C, k < n) : (A ++ (P' ++ C)).Nodup := by
 simp only [List.nodup_append, List.mem_append] at h ⊢
 obtain ⟨h1, ⟨_, h3, h4⟩, h5⟩ := h
 refine ⟨h1, ⟨hP, h3, fun a ha b hb e => ?_⟩, fun a ha b hb e => ?_⟩
 ·rcases hf a ha with h | h
  ·exact h4 a h b hb e
  ·have := hC b hb; omega
 ·rcases hb with hb | hb
  ·rcases hf b hb with h | h
   ·exact h5 a ha b (.inl h) e
   ·have := hA a ha; omega
  ·exact h5 a ha b (.inr hb) e
abbrev TE : TypeId := 59
structure EngAt (w : World) (E : Nat) (e : EngA) : Prop where
 box : Box w E e.cells TE
 shape : e.shape
 own : e.own w 0 w.heap.size
 off : E ∉ e.blocks
theorem EngAt.lt {w : World} {E : Nat} {e : EngA} (h : EngAt w E e) : ∀ k ∈ e.blocks, k < w.heap.size := fun k hk => (h.own.blocks_lt k hk).2
theorem EngAt.touch {w w' : World} {E : Nat} {e : EngA} {bl : List Nat} (h : EngAt w E e) (ht : Touch bl w w') (hE : E ∉ bl) (hd : ∀ k ∈ e.blocks, k ∉ bl) : EngAt w' E e :=
 ⟨h.box.touch ht hE, h.shape, (h.own.touch ht hd).widen (Nat.le_refl _) ht.size (Nat.le_refl _), h.off⟩
def Off (E : Nat) (e : EngA) (B : Nat) : Prop := B ≠ E ∧ B ∉ e.blocks
theorem EngAt.new {w : World} {E B : Nat} {e : EngA} (h : EngAt w E e) (hB : w.heap.size ≤ B) : Off E e B :=
 ⟨by have := h.box.lt; omega, fun hk => by have := h.lt B hk; omega⟩
structure EngStep (E : Nat) (e : EngA) (w : World) (e' : EngA) (w' : World) : Prop where
 at' : EngAt w' E e'
 touch : Touch (E :: e.blocks) w w'
 fresh : ∀ k ∈ e'.blocks, k ∈ e.blocks ∨ w.heap.size ≤ k
theorem EngStep.size {E : Nat} {e e' : EngA} {w w' : World} (s : EngStep E e w e' w') : w.heap.size ≤ w'.heap.size := s.touch.size
theorem EngStep.off {E B : Nat} {e e' : EngA} {w w' : World} (s : EngStep E e w e' w') (hB : B < w.heap.size) (ho : Off E e B) : Off E e' B :=
 ⟨ho.1, fun hk => (s.fresh B hk).elim ho.2 (fun h => by omega)⟩
theorem EngStep.block {E B : Nat} {e e' : EngA} {w w' : World} (s : EngStep E e w e' w') (hB : B < w.heap.size) (ho : Off E e B) : w'.heap[B]? = w.heap[B]? :=
 s.touch.block B hB (fun h => (List.mem_cons.1 h).elim ho.1 ho.2)
theorem EngA.mem_disk {e : EngA} {k : Nat} (h : k ∈ e.diskBl) : k ∈ e.blocks := by simp only [EngA.blocks, List.mem_append]; exact .inl h
theorem EngA.mem_pool {e : EngA} {k : Nat} (h : k ∈ blocksSts e.aS e.cS e.seats) : k ∈ e.blocks := by simp only [EngA.blocks, List.mem_append]; exact .inr (.inl h)
theorem EngA.mem_log {e : EngA} {k : Nat} (h : k ∈ blocksRs e.log.a e.log.c e.log.recs) : k ∈ e.blocks := by simp only [EngA.blocks, List.mem_append]; exact .inr (.inr (.inl h))
theorem EngA.mem_txs {e : EngA} {k : Nat} (h : k ∈ rowOf e.aT e.txs.length e.cT) : k ∈ e.blocks := by simp only [EngA.blocks, List.mem_append]; exact .inr (.inr (.inr (.inl h)))
theorem EngA.mem_holds {e : EngA} {k : Nat} (h : k ∈ rowOf e.aH e.holds.length e.cH) : k ∈ e.blocks := by simp only [EngA.blocks, List.mem_append]; exact .inr (.inr (.inr (.inr h)))
theorem rowOf_nodup (a : Option Addr) (n c : Nat) : (rowOf a n c).Nodup := by unfold rowOf; cases (Value.slice a n c).ownBlock <;> simp
structure EngA.apartAll (e : EngA) : Prop where
 dp : ∀ k ∈ e.diskBl, k ∉ blocksSts e.aS e.cS e.seats
 dl : ∀ k ∈ e.diskBl, k ∉ blocksRs e.log.a e.log.c e.log.recs
 dt : ∀ k ∈ e.diskBl, k ∉ rowOf e.aT e.txs.length e.cT
 dh : ∀ k ∈ e.diskBl, k ∉ rowOf e.aH e.holds.length e.cH
 pl : ∀ k ∈ blocksSts e.aS e.cS e.seats, k ∉ blocksRs e.log.a e.log.c e.log.recs
 pt : ∀ k ∈ blocksSts e.aS e.cS e.seats, k ∉ rowOf e.aT e.txs.length e.cT
 ph : ∀ k ∈ blocksSts e.aS e.cS e.seats, k ∉ rowOf e.aH e.holds.length e.cH
 lt : ∀ k ∈ blocksRs e.log.a e.log.c e.log.recs, k ∉ rowOf e.aT e.txs.length e.cT
 lh : ∀ k ∈ blocksRs e.log.a e.log.c e.log.recs, k ∉ rowOf e.aH e.holds.length e.cH
 th : ∀ k ∈ rowOf e.aT e.txs.length e.cT, k ∉ rowOf e.aH e.holds.length e.cH
theorem EngA.apart_of {e : EngA} (h : e.blocks.Nodup) : e.apartAll := by
 simp only [EngA.blocks, List.nodup_append, List.mem_append] at h
 obtain ⟨_, ⟨_, ⟨_, ⟨_, _, h4⟩, h3⟩, h2⟩, h1⟩ := h
 exact ⟨fun k a b => h1 k a k (.inl b) rfl, fun k a b => h1 k a k (.inr (.inl b)) rfl, fun k a b => h1 k a k (.inr (.inr (.inl b))) rfl, fun k a b => h1 k a k (.inr (.inr (.inr b))) rfl, fun k a b => h2 k a k (.inl b) rfl, fun k a b => h2 k a k (.inr (.inl b)) rfl, fun k a b => h2 k a k (.inr (.inr b)) rfl, fun k a b => h3 k a k (.inl b) rfl, fun k a b => h3 k a k (.inr b) rfl, fun k a b => h4 k a k b rfl⟩
theorem EngAt.apart {w : World} {E : Nat} {e : EngA} (h : EngAt w E e) : e.apartAll := EngA.apart_of h.own.apart
theorem not_part {E k : Nat} {P : List Nat} (h1 : k ≠ E) (h2 : k ∉ P) : k ∉ E :: P := fun h => (List.mem_cons.1 h).elim h1 h2
def EngA.withPool (e : EngA) (ss : List SeatA) (a : Option Addr) (c : Nat) (hand : Int) : EngA := { e with seats := ss, aS := a, cS := c, hand := hand }
theorem EngAt.pool {w w' : World} {E : Nat} {e : EngA} (h : EngAt w E e) (ss : List SeatA) (a : Option Addr) (c : Nat) (hand : Int) (bx : Box w' E (e.withPool ss a c hand).cells TE) (ho : OwnSts w' 0 w'.heap.size a c ss)
  (ht : Touch (E :: blocksSts e.aS e.cS e.seats) w w') (hf : ∀ k ∈ blocksSts a c ss, k ∈ blocksSts e.aS e.cS e.seats ∨ w.heap.size ≤ k) : EngStep E e w (e.withPool ss a c hand) w' := by
 have ap := h.apart
 have hE : ∀ k ∈ e.blocks, k ≠ E := fun k hk he => h.off (he ▸ hk)
 have W : ∀ {lo hi : Nat}, hi ≤ w.heap.size → hi ≤ w'.heap.size := fun hh => Nat.le_trans hh ht.size
 refine ⟨⟨bx, ⟨h.shape.eight, h.shape.four⟩, ⟨?_, ho, ?_, ?_, ?_, ?_⟩, ?_⟩, ?_, ?_⟩
 ·exact (h.own.disk.touch ht (fun k hk => not_part (hE k (EngA.mem_disk hk)) (ap.dp k hk))).widen (Nat.le_refl _) ht.size (Nat.le_refl _)
 ·exact (h.own.log.touch ht (fun k hk => not_part (hE k (EngA.mem_log hk)) (fun hp => ap.pl k hp hk))).widen (Nat.le_refl _) ht.size (Nat.le_refl _)
 ·exact (h.own.txs.touch ht (fun k hk => not_part (hE k (EngA.mem_txs (Option.mem_toList.2 hk))) (fun hp => ap.pt k hp (Option.mem_toList.2 hk)))).widen (Nat.le_refl _) ht.size (Nat.le_refl _)
 ·exact (h.own.holds.touch ht (fun k hk => not_part (hE k (EngA.mem_holds (Option.mem_toList.2 hk))) (fun hp => ap.ph k hp (Option.mem_toList.2 hk)))).widen (Nat.le_refl _) ht.size (Nat.le_refl _)
 ·exact nodup_part h.own.apart ho.apart hf (fun k hk => h.lt k (EngA.mem_disk hk)) (fun k hk => h.lt k (by simp only [EngA.blocks, List.mem_append] at hk ⊢; exact .inr (.inr hk)))
 ·intro hk
  simp only [EngA.blocks, EngA.withPool, List.mem_append] at hk
  have hlt := h.box.lt
  have hoff := h.off
  simp only [EngA.blocks, List.mem_append] at hoff
  rcases hk with hk | hk | hk
  ·exact hoff (.inl hk)
  ·rcases hf E hk with hk | hk
   ·exact hoff (.inr (.inl hk))
   ·omega
  ·exact hoff (.inr (.inr hk))
 ·exact ht.mono (fun k hk => (List.mem_cons.1 hk).elim (fun h => by simp [h]) (fun h => List.mem_cons_of_mem _ (EngA.mem_pool h)))
 ·intro k hk
  simp only [EngA.blocks, EngA.withPool, List.mem_append] at hk ⊢
  rcases hk with hk | hk | hk
  ·exact .inl (.inl hk)
  ·rcases hf k hk with h | h
   ·exact .inl (.inr (.inl h))
   ·exact .inr h
  ·exact .inl (.inr (.inr hk))
def EngA.withHolds (e : EngA) (ls : List HoldV) (a : Option Addr) (c : Nat) : EngA := { e with holds := ls, aH := a, cH := c }
theorem EngAt.held {w w' : World} {E : Nat} {e : EngA} (h : EngAt w E e) (ls : List HoldV) (a : Option Addr) (c : Nat) (bx : Box w' E (e.withHolds ls a c).cells TE) (ho : OwnH w' 0 w'.heap.size a c ls)
  (ht : Touch (E :: rowOf e.aH e.holds.length e.cH) w w') (hf : ∀ k ∈ rowOf a ls.length c, k ∈ rowOf e.aH e.holds.length e.cH ∨ w.heap.size ≤ k) : EngStep E e w (e.withHolds ls a c) w' := by
 have ap := h.apart
 have hE : ∀ k ∈ e.blocks, k ≠ E := fun k hk he => h.off (he ▸ hk)
 refine ⟨⟨bx, ⟨h.shape.eight, h.shape.four⟩, ⟨?_, ?_, ?_, ?_, ho, ?_⟩, ?_⟩, ?_, ?_⟩
 ·exact (h.own.disk.touch ht (fun k hk => not_part (hE k (EngA.mem_disk hk)) (ap.dh k hk))).widen (Nat.le_refl _) ht.size (Nat.le_refl _)
 ·exact (h.own.pool.touch ht (fun k hk => not_part (hE k (EngA.mem_pool hk)) (ap.ph k hk))).widen (Nat.le_refl _) ht.size (Nat.le_refl _)
 ·exact (h.own.log.touch ht (fun k hk => not_part (hE k (EngA.mem_log hk)) (ap.lh k hk))).widen (Nat.le_refl _) ht.size (Nat.le_refl _)
 ·exact (h.own.txs.touch ht (fun k hk => not_part (hE k (EngA.mem_txs (Option.mem_toList.2 hk))) (ap.th k (Option.mem_toList.2 hk)))).widen (Nat.le_refl _) ht.size (Nat.le_refl _)
 ·have h1 := h.own.apart
  simp only [EngA.blocks, EngA.withHolds] at h1 ⊢
  rw [← List.append_assoc, ← List.append_assoc, ← List.append_assoc] at h1 ⊢
  have h2 := nodup_part (C := []) (n := w.heap.size) (by rw [List.append_nil]; exact h1) (rowOf_nodup a ls.length c) hf (fun k hk => h.lt k (by simp only [EngA.blocks, List.mem_append] at hk ⊢; rcases hk with ((hk | hk) | hk) | hk; exact .inl hk; exact .inr (.inl hk); exact .inr (.inr (.inl hk)); exact .inr (.inr (.inr (.inl hk))))) (by simp)
  rw [List.append_nil] at h2
  exact h2
 ·intro hk
  simp only [EngA.blocks, EngA.withHolds, List.mem_append] at hk
  have hlt := h.box.lt
  have hoff := h.off
  simp only [EngA.blocks, List.mem_append] at hoff
  rcases hk with hk | hk | hk | hk | hk
  ·exact hoff (.inl hk)
  ·exact hoff (.inr (.inl hk))
  ·exact hoff (.inr (.inr (.inl hk)))
  ·exact hoff (.inr (.inr (.inr (.inl hk))))
  ·rcases hf E hk with hk | hk
   ·exact hoff (.inr (.inr (.inr (.inr hk))))
   ·omega
 ·exact ht.mono (fun k hk => (List.mem_cons.1 hk).elim (fun h => by simp [h]) (fun h => List.mem_cons_of_mem _ (EngA.mem_holds h)))
 ·intro k hk
  simp only [EngA.blocks, EngA.withHolds, List.mem_append] at hk ⊢
  rcases hk with hk | hk | hk | hk | hk
  ·exact .inl (.inl hk)
  ·exact .inl (.inr (.inl hk))
  ·exact .inl (.inr (.inr (.inl hk)))
  ·exact .inl (.inr (.inr (.inr (.inl hk))))
  ·rcases hf k hk with h | h
   ·exact .inl (.inr (.inr (.inr (.inr h))))
   ·exact .inr h
def zeroStV : SeatV := zeroSt.v
theorem seatV_at (ls : List SeatA) (k : Nat) : (ls.map SeatA.v).getD k zeroStV = (ls.getD k zeroSt).v := by
 simp only [List.getD, List.getElem?_map]
 cases ls[k]? <;> rfl
theorem seat_one (q : SeatA) : q.cells.toArray.all (·.oneCell') = true := all_oneCell_toArray (oneSt q)
theorem seat_info (q : SeatA) : (Tryz.prog.info? 88).map (·.size) = some q.cells.length := by show _ = some 20; kernel_rfl
theorem seat_load {w : World} {C : Nat} (q : SeatA) (b : Box w C q.cells 88) : (loadVar 88 ⟨C, 0, none⟩).run Tryz.prog w = .ok (.agg q.cells.toArray) w :=
 run_loadVar_mid (P := Tryz.prog) w C 0 88 q.cells _ (Box.range [] q.cells [] (by simpa using b)) Tryz.underlying88 rfl (seat_info q)
theorem seat_out {w : World} {C : Nat} (q : SeatA) (old : List Value) (ho : old.length = 20) (bC : Box w C old 88) :
  ∃ WF, Hid (w.setCells C 0 q.cells = WF) ∧ Within C (C + 1) w WF ∧ WF.heap.size = w.heap.size ∧ Hid (w.there C 0 q.cells.toArray.size) ∧ Hid ((loadVar 88 ⟨C, 0, none⟩).run Tryz.prog WF = .ok (.agg q.cells.toArray) WF) ∧ Box WF C q.cells 88 := by
 obtain ⟨WF, hWF, bF, hwF, hsF⟩ := range_fill [] old q.cells [] (by simpa using bC) (by rw [ho]; rfl)
 have bF' : Box WF C q.cells 88 := by simpa using bF
 exact ⟨WF, hWF, hwF, hsF, bC.there 0 _ (by rw [ho]; show 0 + 20 ≤ 20; decide), seat_load q bF', bF'⟩
theorem Tryz.infoPg (p : PageA) (h : p.ss.length = 4) : (Tryz.prog.info? 48).map (·.size) = some p.cells.length := by rw [page_len p h]; kernel_rfl
theorem Tryz.infoLPg (p : PageA) (h : p.ss.length = 4) : (Tryz.prog.info? 29).map (·.size) = some p.cells.length := by rw [page_len p h]; kernel_rfl
theorem page_one (p : PageA) : p.cells.toArray.all (·.oneCell') = true := all_oneCell_toArray (oneP p)
theorem seat_page {w : World} {B : Nat} {t : TypeId} (s : SeatA) (b : Box w B s.cells t) : w.rangeAt B 1 s.page.cells := by
 rw [SeatA.cells_page] at b
 exact Box.range [.int .i64 s.no] s.page.cells [.bool s.dirty, .bool s.hot] b
theorem seat_fill {w : World} {B : Nat} {t : TypeId} (s : SeatA) (b : Box w B s.cells t) (lsn : Int) (a b' c d : SlotA) :
  ∃ W, Hid (w.setCells B 1 (PageA.cells ⟨lsn, [a, b', c, d]⟩) = W) ∧ Box W B (SeatA.cells ⟨s.no, lsn, a, b', c, d, s.dirty, s.hot⟩) t ∧ Within B (B + 1) w W ∧ W.heap.size = w.heap.size ∧ w.there B 1 (PageA.cells ⟨lsn, [a, b', c, d]⟩).toArray.size := by
 have hth : w.there B 1 (PageA.cells ⟨lsn, [a, b', c, d]⟩).toArray.size := b.there 1 _ (by rw [List.size_toArray]; show 1 + 17 ≤ 20; decide)
 rw [SeatA.cells_page] at b
 obtain ⟨W, hW, bW, hw, hs⟩ := range_fill [.int .i64 s.no] s.page.cells (PageA.cells ⟨lsn, [a, b', c, d]⟩) [.bool s.dirty, .bool s.hot] b rfl
 refine ⟨W, hW, ?_, hw, hs, hth⟩
 rw [SeatA.cells_page]
 exact bW
theorem toSeat_any (s : SeatA) (w : World) (hr : s.reads w) (hl : s.short 1048576) :
  Calls Tryz.prog 151 #[.agg s.cells.toArray] w fun e w' => ∃ t : SeatA, e = .returned (.agg t.cells.toArray) ∧ Hid (t.v = s.v) ∧ t.own w' w.heap.size w'.heap.size ∧ Below w.heap.size w w' := by
 obtain ⟨V, hV, a0, a1, a2, hbV, hsV⟩ := boxes3 w s.cells [.int .i64 0, .int .i64 0, .bool false, .int .i64 0, .slice none 0 0, .slice none 0 0, .bool false, .int .i64 0, .slice none 0 0, .slice none 0 0, .bool false, .int .i64 0, .slice none 0 0, .slice none 0 0, .bool false, .int .i64 0, .slice none 0 0, .slice none 0 0, .bool false, .bool false] [.int .i64 0, .int .i64 0, .bool false, .int .i64 0, .slice none 0 0, .slice none 0 0, .bool false, .int .i64 0, .slice none 0 0, .slice none 0 0, .bool false, .int .i64 0, .slice none 0 0, .slice none 0 0, .bool false, .int .i64 0, .slice none 0 0, .slice none 0 0, .bool false, .bool false] 180 88 88
 have hs0V : w.heap.size + 1 + 1 < V.heap.size := by omega
 have b1V : Box V (w.heap.size + 1) zeroSt.cells 88 := a1
 obtain ⟨W, hW, b2', hwW, hsW⟩ := box_set a2 0 (.int .i64 s.no)
 have b0 := a0.within hwW (by omega)
 have b1' := b1V.within hwW (by omega)
 have hbW : Below w.heap.size w W := hbV.trans (hwW.below (by omega) (by omega))
 have hs0 : w.heap.size + 1 + 1 < W.heap.size := by omega
 have b2' : Box W (w.heap.size + 1 + 1) (SeatA.cells { zeroSt with no := s.no }) 88 := b2'
 have hc0 : V.cell? ⟨w.heap.size, 0, none⟩ = some (.int .i64 s.no) := a0.cell 0 _ rfl
 have hx0 := a2.cell 0 _ rfl
 have hf0 := a2.frozen 0
 have hrg0 : W.rangeAt w.heap.size 1 s.page.cells := seat_page s b0
 have HL := Tryz.infoLPg s.page rfl
 have C := toPage_own s.page rfl W (hr.below hbW) (wide_of hl)
 clear hsV hsW hwW b1V a0 a1 a2 hbV hs0V
 go_enter Tryz.func151, Tryz.ntmps151
 go_upto_region 2 with fail
 rw [hV.out]
 clear hV
 go_wp2_with (first | (guard_target = wpList _ _ _ (Oper.mk (some 8) _ _ _ _ _ :: _) _ _; rw [hW.out]; refine wpList_load_mid rfl 29 (.tmp 7) rfl w.heap.size 1 rfl s.page.cells _ hrg0 Tryz.underlying29 rfl HL ?_) | fail)
 clear hW hrg0 hc0 HL hx0 hf0
 refine C.mono ?_
 clear C
 rintro e w1 ⟨ts, rfl, hv, ho, hb1⟩
 obtain ⟨y0, y1, y2, y3, rfl⟩ := four_slots' (ts := ts) (by have := congrArg List.length hv.out; simpa [SeatA.page, SeatA.ss] using this)
 have hs1 := hb1.size
 have b01 := b0.below hb1 b0.lt
 have b11 := b1'.below hb1 b1'.lt
 have b21 := b2'.below hb1 b2'.lt
 obtain ⟨W2, hW2, b22, hw2, hs2, hth2⟩ := seat_fill _ b21 s.page.lsn y0 y1 y2 y3
 obtain ⟨W3, hW3, b33, hw3, hs3⟩ := box_set b22 18 (.bool s.dirty)
 obtain ⟨W4, hW4, b44, hw4, hs4⟩ := box_set b33 19 (.bool s.hot)
 obtain ⟨q, hq⟩ : ∃ q : SeatA, Hid ((⟨s.no, s.page.lsn, y0, y1, y2, y3, s.dirty, s.hot⟩ : SeatA) = q) := ⟨_, rfl⟩
 have b4q : Box W4 (w.heap.size + 1 + 1) q.cells 88 := by rw [← hq.out]; exact b44
 have b02 := b01.within hw2 (by omega)
 have b14 := ((b11.within hw2 (by omega)).within hw3 (by omega)).within hw4 (by omega)
 obtain ⟨WF, hWF, hwF, hsF, HTF, HLF, bF⟩ := seat_out q _ rfl b14
 have d18 : W2.cell? ⟨w.heap.size, 18, none⟩ = some (.bool s.dirty) := b02.cell 18 _ rfl
 have d19 : W2.cell? ⟨w.heap.size, 19, none⟩ = some (.bool s.hot) := b02.cell 19 _ rfl
 have x18 := b22.cell 18 _ rfl
 have x19 := b22.cell 19 _ rfl
 have f18 := b22.frozen 18
 have f19 := b22.frozen 19
 have r4 : W4.rangeAt (w.heap.size + 1 + 1) 0 q.cells := Box.range [] q.cells [] (by simpa using b4q)
 have oq : q.own w1 W.heap.size w1.heap.size := by rw [← hq.out]; exact ho
 have HV : Hid (q.v = s.v) := by rw [Hid, ← hq.out]; simp only [SeatA.v, SeatA.ss]; rw [show List.map (fun x : SlotA => x.v) [y0, y1, y2, y3] = s.page.ss.map (·.v) from hv.out]; rfl
 have HFIN : Hid (q.own WF w.heap.size WF.heap.size ∧ Below w.heap.size w WF) := ⟨((((oq.within hw2 (.inr (by omega))).within hw3 (.inr (by omega))).within hw4 (.inr (by omega))).within hwF (.inr (by omega))).widen (by omega) (by omega) (Nat.le_refl _), ((((hbW.trans (hb1.mono (by omega))).trans (hw2.below (by omega) (by omega))).trans (hw3.below (by omega) (by omega))).trans (hw4.below (by omega) (by omega))).trans (hwF.below (by omega) (by omega))⟩
 have H34 : Hid ((W2.setCell ⟨w.heap.size + 1 + 1, 18, none⟩ (.bool s.dirty)).setCell ⟨w.heap.size + 1 + 1, 19, none⟩ (.bool s.hot) = W4) := by rw [Hid, hW3.out, hW4.out]
 have HI1 := Tryz.infoPg ⟨s.page.lsn, [y0, y1, y2, y3]⟩ rfl
 have HO1 := page_one ⟨s.page.lsn, [y0, y1, y2, y3]⟩
 have HI2 := seat_info q
 have HO2 := seat_one q
 have HW2 : Hid (w1.setCells (w.heap.size + 1 + 1) 1 (PageA.cells ⟨s.page.lsn, [y0, y1, y2, y3]⟩).toArray.toList = W2) := hW2.out
 have HWF : Hid (W4.setCells (w.heap.size + 1) 0 q.cells.toArray.toList = WF) := hWF.out
 have HTF' : W4.there (w.heap.size + 1) 0 q.cells.toArray.size := HTF.out
 clear hW2 hW3 hW4 hWF HTF hq hs1 hs2 hs3 hs4 hsF hw2 hw3 hw4 hwF b01 b11 b21 b22 b33 b44 b4q b02 b14 bF oq ho hv hb1 b0 b1' b2' hbW
 generalize PageA.cells ⟨s.page.lsn, [y0, y1, y2, y3]⟩ = pc at *
 go_wp2_with (first | (guard_target = wpList _ _ _ (Oper.mk none (Op.store _ (Operand.tmp 10) _) _ _ _ _ :: _) _ _; refine wpList_store_mid rfl 48 (.tmp 10) (.tmp 9) rfl (w.heap.size + 1 + 1) 1 pc.toArray rfl rfl hth2 (by rw [List.size_toArray]; exact HI1) HO1 ?_; rw [HW2.out]) | (guard_target = wpList _ _ _ (Oper.mk (some 17) _ _ _ _ _ :: _) _ _; rw [H34.out]; refine wpList_load_mid rfl 88 (.tmp 3) rfl (w.heap.size + 1 + 1) 0 rfl q.cells _ r4 Tryz.underlying88 rfl HI2 ?_) | (guard_target = wpList _ _ _ (Oper.mk none (Op.store _ (Operand.tmp 2) _) _ _ _ _ :: _) _ _; refine wpList_store_mid rfl 88 (.tmp 2) (.tmp 17) rfl (w.heap.size + 1) 0 q.cells.toArray rfl rfl HTF' (by rw [List.size_toArray]; exact HI2) HO2 ?_; rw [HWF.out]) | fail)
 exact bodyPost_ret (v := .agg q.cells.toArray) (results_one Tryz.results151 rfl HLF.out) rfl ⟨q, rfl, HV, HFIN.out.1, HFIN.out.2⟩
theorem szSeat_any (s : SeatA) (left : Int) (w : World) (hn : s.short 9223372036854775807) (h0 : 0 ≤ left ∧ left ≤ 1048576) :
  Calls Tryz.prog 145 #[.agg s.cells.toArray, .int .i64 left] w fun e w' => ∃ z, e = .returned (.int .i64 z) ∧ (z < 0 ∨ (0 ≤ z ∧ z ≤ left ∧ s.short 1048576)) ∧ Below w.heap.size w w' := by
 obtain ⟨W, hW, b0, hbW, hsW⟩ := boxes1 w s.cells 180
 have hrg0 : W.rangeAt w.heap.size 1 s.page.cells := seat_page s b0
 have HL := Tryz.infoLPg s.page rfl
 have C := szPage_any s.page rfl left W hn h0
 clear hsW b0
 go_enter Tryz.func145, Tryz.ntmps145
 go_wp2_with (first | (guard_target = wpList _ _ _ (Oper.mk (some 6) _ _ _ _ _ :: _) _ _; refine wpList_load_mid rfl 29 (.tmp 5) rfl w.heap.size 1 rfl s.page.cells _ (by rw [hW.out]; exact hrg0) Tryz.underlying29 rfl HL ?_) | fail)
 rw [hW.out]
 clear hW hrg0 HL
 refine C.mono ?_
 clear C
 rintro e w1 ⟨z, rfl, hz, hb1⟩
 have HZ : Hid (z < 0 ∨ (0 ≤ z ∧ z ≤ left ∧ s.short 1048576)) := hz
 clear hz
 by_cases hneg : z < 0
 ·go_wp2
  go_ret
  exact ⟨-1, rfl, .inl (by omega), hbW.trans (hb1.mono hbW.size)⟩
 ·go_wp2
  go_ret
  exact ⟨z, rfl, HZ.out, hbW.trans (hb1.mono hbW.size)⟩
theorem eqSeat_same (s t : SeatA) (he : t.v = s.v) (w : World) (hs : s.reads w) (ht : t.reads w) (hl : s.short 1099511627776) :
  Calls Tryz.prog 161 #[.agg s.cells.toArray, .agg t.cells.toArray] w fun e w' => e = .returned (.bool true) ∧ Below w.heap.size w w' := by
 obtain ⟨W, hW, b0, b1, hbW, hsW⟩ := boxes2 w s.cells t.cells 88 88
 have HEQ : Hid (t.no = s.no ∧ t.lsn = s.lsn ∧ t.ss.map (·.v) = s.ss.map (·.v) ∧ t.dirty = s.dirty ∧ t.hot = s.hot) := by
  simp only [SeatA.v, SeatV.mk.injEq] at he
  exact he
 have hrg0 : W.rangeAt w.heap.size 1 s.page.cells := seat_page s b0
 have hrg1 : W.rangeAt (w.heap.size + 1) 1 t.page.cells := seat_page t b1
 have HI0 := Tryz.infoPg s.page rfl
 have HI1 := Tryz.infoPg t.page rfl
 have C := eqPage_same s.lsn s.ss t.ss rfl HEQ.out.2.2.1 W (hs.below hbW) (ht.below hbW) hl
 have e1 : PageA.cells ⟨s.lsn, t.ss⟩ = t.page.cells := by rw [SeatA.page, HEQ.out.2.1]
 rw [e1] at C
 have c0 : W.cell? ⟨w.heap.size, 0, none⟩ = some (.int .i64 s.no) := b0.cell 0 _ rfl
 have c1 : W.cell? ⟨w.heap.size + 1, 0, none⟩ = some (.int .i64 s.no) := (b1.cell 0 _ rfl).trans (by rw [HEQ.out.1])
 have HC : Hid (∀ u, Below W.heap.size W u → u.cell? ⟨w.heap.size, 18, none⟩ = some (.bool s.dirty) ∧ u.cell? ⟨w.heap.size, 19, none⟩ = some (.bool s.hot) ∧ u.cell? ⟨w.heap.size + 1, 18, none⟩ = some (.bool s.dirty) ∧ u.cell? ⟨w.heap.size + 1, 19, none⟩ = some (.bool s.hot)) := fun u hu => ⟨(b0.below hu b0.lt).cell 18 _ rfl, (b0.below hu b0.lt).cell 19 _ rfl, ((b1.below hu b1.lt).cell 18 _ rfl).trans (by rw [HEQ.out.2.2.2.1]), ((b1.below hu b1.lt).cell 19 _ rfl).trans (by rw [HEQ.out.2.2.2.2])⟩
 clear hsW b0 b1 he HEQ e1
 generalize hsc : s.cells = cs0 at *
 generalize htc : t.cells = cs1 at *
 clear hsc htc
 go_enter Tryz.func161, Tryz.ntmps161
 go_upto_region 1 with fail
 rw [hW.out]
 clear hW
 go_wp2_with (first | (guard_target = wpList _ _ _ (Oper.mk (some 11) _ _ _ _ _ :: _) _ _; refine wpList_load_mid rfl 48 (.tmp 10) rfl w.heap.size 1 rfl s.page.cells _ hrg0 Tryz.underlying48 rfl HI0 ?_) | (guard_target = wpList _ _ _ (Oper.mk (some 13) _ _ _ _ _ :: _) _ _; refine wpList_load_mid rfl 48 (.tmp 12) rfl (w.heap.size + 1) 1 rfl t.page.cells _ hrg1 Tryz.underlying48 rfl HI1 ?_) | fail)
 refine C.mono ?_
 clear C hrg0 hrg1 HI0 HI1 c0 c1
 rintro e w1 ⟨rfl, hb1⟩
 obtain ⟨d0, d1, d2, d3⟩ := HC.out w1 hb1
 clear HC
 generalize s.dirty = sd at *
 generalize s.hot = sh at *
 go_wp2
 go_ret
 exact ⟨rfl, hbW.trans (hb1.mono hbW.size)⟩
theorem repSt_len (n : Nat) (r : SeatA) : (List.replicate n r).length = n := by simp
theorem zero_cellsSts (n : Nat) : (madeCells (Value.agg zeroSt.cells.toArray).cells (n * 20)).toList = cellsSts (List.replicate n zeroSt) := by
 apply List.ext_getElem?
 intro i
 by_cases h : i < n * 20
 ·have e := cellsSts_at (List.replicate n zeroSt) (i / 20) (i % 20) (by simp; omega) (Nat.mod_lt _ (by omega))
  rw [show i / 20 * 20 + i % 20 = i by omega] at e
  rw [e]
  have hg : (List.replicate n zeroSt).getD (i / 20) zeroSt = zeroSt := by simp [List.getD, show i / 20 < n by omega]
  rw [hg]
  simp only [madeCells, Array.toList_map, List.getElem?_map, Array.toList_range, List.getElem?_range h, Option.map_some]
  have hm : i % 20 < 20 := Nat.mod_lt _ (by omega)
  have hz : ∀ j, j < 20 → some ((Value.agg zeroSt.cells.toArray).cells[j]!) = zeroSt.cells[j]? := by
   intro j hj
   rcases (by omega : j = 0 ∨ j = 1 ∨ j = 2 ∨ j = 3 ∨ j = 4 ∨ j = 5 ∨ j = 6 ∨ j = 7 ∨ j = 8 ∨ j = 9 ∨ j = 10 ∨ j = 11 ∨ j = 12 ∨ j = 13 ∨ j = 14 ∨ j = 15 ∨ j = 16 ∨ j = 17 ∨ j = 18 ∨ j = 19) with rfl | rfl | rfl | rfl | rfl | rfl | rfl | rfl | rfl | rfl | rfl | rfl | rfl | rfl | rfl | rfl | rfl | rfl | rfl | rfl <;> rfl
  exact hz _ hm
 ·rw [List.getElem?_eq_none (by simp [size_madeCells]; omega), List.getElem?_eq_none (by rw [cellsSts_len]; simp; omega)]
theorem own_zeroSts {w : World} {lo hi g c : Nat} (n : Nat) (h : w.ownsRow lo 88 20 (.slice (some ⟨g, 0, none⟩) n c) n (cellsSts (List.replicate n zeroSt))) (ht : hi ≤ w.heap.size) (hg : g < hi) : OwnSts w lo hi (some ⟨g, 0, none⟩) c (List.replicate n zeroSt) := by
 refine ⟨by rw [repSt_len]; exact h, ht, fun k hk => by cases hk; exact hg, fun r hr => ?_, ?_⟩
 ·rw [(List.mem_replicate.1 hr).2]
  exact zeroSt_own' w lo hi ht
 ·have e : (List.replicate n zeroSt).flatMap SeatA.blocks = [] := by
   rw [List.flatMap_eq_nil_iff]
   intro r hr
   rw [(List.mem_replicate.1 hr).2]
   rfl
  rw [e]
  simp [Value.ownBlock]
def CameSt (rs ts : List SeatA) (k : Nat) : Prop := ts.length = k ∧ ts.map SeatA.v = (rs.take k).map SeatA.v
theorem cameSt_none (rs : List SeatA) : CameSt rs [] 0 := ⟨rfl, by simp⟩
theorem CameSt.snoc {rs ts : List SeatA} {k : Nat} (h : CameSt rs ts k) (hk : k < rs.length) {q : SeatA} (hq : q.v = (rs.getD k zeroSt).v) : CameSt rs (ts ++ [q]) (k + 1) := by
 refine ⟨by simp [h.1], ?_⟩
 have e : rs.getD k zeroSt = rs[k] := by simp [List.getD, hk]
 rw [List.map_append, h.2, List.take_succ_eq_append_getElem hk, List.map_append, List.map_singleton, List.map_singleton, hq, e]
theorem CameSt.all {rs ts : List SeatA} (h : CameSt rs ts rs.length) : ts.map SeatA.v = rs.map SeatA.v := by
 have := h.2
 rwa [List.take_length] at this
theorem rangeSt_below {w w' : World} {b o : Nat} {r : SeatA} (h : w.rangeAt b o r.cells) (hb : Below w.heap.size w w') : w'.rangeAt b o r.cells := rangeAt_below h hb (rangeSt_lt h)
theorem toSeatS_any (a : Option Addr) (cap : Nat) (rs : List SeatA) (w : World) (hr : ReadsSts w a rs) (hl : rs.length ≤ 1048576) (hs : ∀ r ∈ rs, r.short 1048576) :
  Calls Tryz.prog 93 #[.slice a rs.length cap] w fun e w' => ∃ a' c' ts, e = .returned (.slice a' ts.length c') ∧ Hid (ts.map SeatA.v = rs.map SeatA.v) ∧ OwnSts w' w.heap.size w'.heap.size a' c' ts ∧ Below w.heap.size w w' := by
 obtain ⟨i0, hi, hz0, hz1, hz2⟩ := info_parts Tryz.infoSeat
 have HI : Hid ((Tryz.prog.info? 180).map (·.size) = some 20) := by rw [Hid]; kernel_rfl
 have HJ : Hid ((Tryz.prog.info? 88).map (·.size) = some 20) := by rw [Hid]; kernel_rfl
 rcases hr.cases with rfl | ⟨b, off, rfl, hpos, hcell⟩
 ·go_enter Tryz.func93, Tryz.ntmps93
  go_wp2_with (at_make; refine wpList_make_full _ rfl _ _ 50 rfl w.heap.size 88 i0 (.agg zeroSt.cells.toArray) 20 Tryz.underlying50 hi hz0 hz1 _ _ _ _ 0 rfl rfl (by simp) (by simp) (by omega) (by simp [maxLen]) (Nat.le_refl _) ?_)
  intro w0 hown0 hgrow0
  have hB : Below w.heap.size w w0 := (Below.refl _ _).grown hgrow0 (Nat.le_refl _) (fun k h => by cases h)
  have ho : w0.ownsRow w.heap.size 88 20 (.slice (some ⟨w.heap.size, 0, none⟩) 0 0) 0 (cellsSts (List.replicate 0 zeroSt)) := by
   rw [← zero_cellsSts]
   exact hown0
  have HO : Hid (OwnSts w0 w.heap.size w0.heap.size (some ⟨w.heap.size, 0, none⟩) 0 []) := own_zeroSts 0 ho (Nat.le_refl _) (ho.lt _ rfl).2
  clear hown0 hgrow0 ho
  go_wp2
  refine wp_loop_rounds 1 ?_
  rw [rounds_succ]
  go_wp2
  go_ret
  exact ⟨_, _, [], rfl, rfl, HO.out, hB⟩
 ·have hbB : b < w.heap.size := rangeSt_lt (hcell 0 hpos).1
  go_enter Tryz.func93, Tryz.ntmps93
  go_wp2_with (at_make; refine wpList_make_full _ rfl _ _ 50 rfl w.heap.size 88 i0 (.agg zeroSt.cells.toArray) 20 Tryz.underlying50 hi hz0 hz1 _ _ _ _ rs.length rfl rfl rfl rfl (by rw [hz2]; omega) (by simp [maxLen]; omega) (Nat.le_refl _) ?_)
  intro w0 hown0 hgrow0
  have hb0 : Below w.heap.size w w0 := (Below.refl _ _).grown hgrow0 (Nat.le_refl _) (fun k h => by cases h)
  have ho : w0.ownsRow w.heap.size 88 20 (.slice (some ⟨w.heap.size, 0, none⟩) rs.length rs.length) rs.length (cellsSts (List.replicate rs.length zeroSt)) := by
   rw [← zero_cellsSts]
   exact hown0
  have HO : Hid (OwnSts w0 w.heap.size w0.heap.size (some ⟨w.heap.size, 0, none⟩) rs.length (List.replicate rs.length zeroSt)) := own_zeroSts _ ho (Nat.le_refl _) (ho.lt _ rfl).2
  clear hown0 hgrow0 ho
  go_wp2
  go_loopw [4] (fun i wr => ∃ (k : Nat) (ts : List SeatA), k ≤ rs.length ∧ i = .int .i64 k ∧ Hid (CameSt rs ts k) ∧ Hid (OwnSts wr w.heap.size wr.heap.size (some ⟨w.heap.size, 0, none⟩) rs.length (ts ++ List.replicate (rs.length - k) zeroSt)) ∧ Below w.heap.size w wr)
   (fun i _ => rs.length - (intOf i).toNat)
  case atStart => exact ⟨0, [], Nat.zero_le _, rfl, cameSt_none rs, HO, hb0⟩
  case round =>
   obtain ⟨k, ts, hk, rfl, hc, hown, hnx⟩ := hrel
   by_cases hlt : k < rs.length
   ·obtain ⟨c0, c1⟩ := hcell k hlt
    have HR : Hid (wr.rangeAt b (off + k * 20) (rs.getD k zeroSt).cells) := rangeAt_below c0 hnx hbB
    have hrd : (rs.getD k zeroSt).reads wr := c1.below hnx
    have hsh : (rs.getD k zeroSt).short 1048576 := hs _ (seatD_mem rs k hlt)
    have C := toSeat_any (rs.getD k zeroSt) wr hrd hsh
    have HS : Hid (∀ q : SeatA, q.v = (rs.getD k zeroSt).v → CameSt rs (ts ++ [q]) (k + 1)) := fun q hq => hc.out.snoc hlt hq
    have HP : Hid (ts ++ List.replicate (rs.length - k) zeroSt = ts ++ zeroSt :: List.replicate (rs.length - (k + 1)) zeroSt ∧ (ts ++ zeroSt :: List.replicate (rs.length - (k + 1)) zeroSt).length = rs.length ∧ ts.length = k) := by
     have e : rs.length - k = (rs.length - (k + 1)) + 1 := by omega
     refine ⟨by rw [e, List.replicate_succ], ?_, hc.out.1⟩
     have := hc.out.1
     simp
     omega
    clear c0 c1 hcell hb0 HO hs hrd hsh
    generalize rs.getD k zeroSt = z at *
    go_wp2_with (first | (guard_target = wpList _ _ _ (Oper.mk (some 19) _ _ _ _ _ :: _) _ _; refine wpList_load_mid rfl 180 (.tmp 18) rfl b (off + k * 20) rfl z.cells _ HR.out Tryz.underlying180 rfl HI.out ?_) | fail)
    refine C.mono ?_
    clear C HR
    rintro e w1 ⟨q, rfl, hq, hqo, hb1⟩
    have hs1 := hb1.size
    have ho1 := hown.out.below hb1
    rw [HP.out.1] at ho1
    obtain ⟨W2, hW2, ho2, ht2, hs2⟩ := ho1.fill q hqo (Nat.le_refl _) (by have := hnx.size; omega) (Nat.le_refl _)
    rw [HP.out.2.2] at hW2
    have HT : Hid (w1.there w.heap.size (k * 20) 20) := (row_seat ho1.row rfl k (by rw [HP.out.2.1]; exact hlt)).2
    have hB2 : Below w.heap.size w W2 := (hnx.trans (hb1.mono hnx.size)).trans ((ht2.within (lo := w.heap.size) (hi := w.heap.size + 1) (fun j hj => by obtain rfl := List.mem_singleton.1 hj; omega)).below (Nat.le_refl _) (by have := hnx.size; omega))
    have HH : Hid (OwnSts W2 w.heap.size W2.heap.size (some ⟨w.heap.size, 0, none⟩) rs.length ((ts ++ [q]) ++ List.replicate (rs.length - (k + 1)) zeroSt)) := by
     have := ho2.widen (Nat.le_refl _) (show max wr.heap.size w1.heap.size ≤ W2.heap.size by omega) (Nat.le_refl _)
     rw [List.append_assoc, List.singleton_append]
     exact this
    have HB : Hid _ := hB2
    have HC := HS.out q hq.out
    have HO1 := seat_one' q
    clear ho1 ho2 ht2 hs2 hB2 hqo hb1 hnx hown hq HS hs1
    go_wp2_with (first | (guard_target = wpList _ _ _ (Oper.mk none (Op.store _ (Operand.tmp 21) _) _ _ _ _ :: _) _ _; refine wpList_store_mid rfl 88 (.tmp 21) (.tmp 20) rfl w.heap.size (k * 20) q.cells.toArray rfl rfl HT.out HJ.out HO1 ?_) | fail)
    rw [hW2.out]
    go_roundw
    case rel => exact ⟨k + 1, ts ++ [q], by omega, by go_num, HC, HH, HB.out⟩
    case measure => simp [intOf]; omega
   ·have HE : Hid (ts.map SeatA.v = rs.map SeatA.v ∧ OwnSts wr w.heap.size wr.heap.size (some ⟨w.heap.size, 0, none⟩) rs.length ts ∧ ts.length = rs.length) := by
     have e : k = rs.length := by omega
     rw [e] at hown hc
     rw [Nat.sub_self, List.replicate_zero, List.append_nil] at hown
     exact ⟨hc.out.all, hown.out, hc.out.1⟩
    go_wp2
    go_ret
    exact ⟨some ⟨w.heap.size, 0, none⟩, rs.length, ts, by rw [HE.out.2.2]; rfl, HE.out.1, HE.out.2.1, hnx⟩
theorem mapSt_nil {ts : List SeatA} (h : ts.map SeatA.v = ([] : List SeatA).map SeatA.v) : ts = [] := by simpa using h
theorem toPool_any (l : PoolA) (w : World) (hr : l.reads w) (hl : l.short 1048576) :
  Calls Tryz.prog 37 #[.agg l.cells.toArray] w fun e w' => ∃ t : PoolA, e = .returned (.agg t.cells.toArray) ∧ Hid (t.v = l.v) ∧ t.own w' w.heap.size w'.heap.size ∧ Below w.heap.size w w' := by
 obtain ⟨rs, s, a, c⟩ := l
 obtain ⟨hl1, hl2⟩ := hl
 simp only [PoolA.reads, PoolA.cells, PoolA.own] at *
 obtain ⟨W, hW, b0, b1, b2, hbW, hsW⟩ := boxes3 w [.slice a rs.length c, .int .i64 s] [.slice none 0 0, .int .i64 0] [.slice none 0 0, .int .i64 0] 33 52 52
 have C := toSeatS_any a c rs W (hr.below hbW) hl1 hl2
 go_enter Tryz.func37, Tryz.ntmps37
 go_wp2_with fail
 rw [hW.out]
 clear hW
 have hs0 : w.heap.size + 1 + 1 < W.heap.size := by omega
 clear hsW
 refine C.mono ?_
 clear C
 rintro e w1 ⟨a', c', ts, rfl, hv, ho1, hb1⟩
 have hs1 := hb1.size
 have b01 := b0.below hb1 b0.lt
 have b11 := b1.below hb1 b1.lt
 have b21 := b2.below hb1 b2.lt
 have x1 := b01.cell 1 _ rfl
 have y0 := b21.cell 0 _ rfl
 have y1 := b21.cell 1 _ rfl
 have f0 := b21.frozen 0
 have f1 := b21.frozen 1
 have z0 := b11.cell 0 _ rfl
 have z1 := b11.cell 1 _ rfl
 have g0 := b11.frozen 0
 have g1 := b11.frozen 1
 obtain ⟨W2, hW2, b22, hw2, hs2⟩ := box_set b21 0 (.slice a' ts.length c')
 obtain ⟨W3, hW3, b23, hw3, hs3⟩ := box_set b22 1 (.int .i64 s)
 have b13 := (b11.within hw2 (by omega)).within hw3 (by omega)
 obtain ⟨W4, hW4, b14, hw4, hs4⟩ := box_set b13 0 (.slice a' ts.length c')
 obtain ⟨W5, hW5, b15, hw5, hs5⟩ := box_set b14 1 (.int .i64 s)
 simp only [List.set] at b15
 have q0 := b15.cell 0 _ rfl
 have q1 := b15.cell 1 _ rfl
 have hB5 : Below w.heap.size w W5 := ((((hbW.trans (hb1.mono (by omega))).trans (hw2.below (by omega) (by omega))).trans (hw3.below (by omega) (by omega))).trans (hw4.below (by omega) (by omega))).trans (hw5.below (by omega) (by omega))
 have ho5 := ((((ho1.within hw2 (.inr (by omega))).within hw3 (.inr (by omega))).within hw4 (.inr (by omega))).within hw5 (.inr (by omega))).widen (show w.heap.size ≤ W.heap.size by omega) (show w1.heap.size ≤ W5.heap.size by omega) (Nat.le_refl _)
 have HH : Hid (_ ∧ _ ∧ _) := ⟨ho5, hB5, hv.out⟩
 clear ho5 hB5 hv ho1 hb1 hw2 hw3 hw4 hw5 hs2 hs3 hs4 hs5 b01 b11 b21 b22 b23 b13 b14 b15 b0 b1 b2 hbW
 have h34 : Hid (((((w1.setCell ⟨w.heap.size + 1 + 1, 0, none⟩ (.slice a' ts.length c')).setCell ⟨w.heap.size + 1 + 1, 1, none⟩ (.int .i64 s)).setCell ⟨w.heap.size + 1, 0, none⟩ (.slice a' ts.length c')).setCell ⟨w.heap.size + 1, 1, none⟩ (.int .i64 s)) = W5) := by rw [Hid, hW2.out, hW3.out, hW4.out, hW5.out]
 clear hW2 hW3 hW4 hW5
 go_wp2
 rw [h34.out]
 exact bodyPost_ret (v := .agg #[.slice a' ts.length c', .int .i64 s]) (by simp [results, Tryz.results37, go_sem, q0, q1]) rfl ⟨⟨ts, s, a', c'⟩, rfl, by simp only [Hid, PoolA.v]; rw [HH.out.2.2], HH.out.1, HH.out.2.1⟩
theorem eqSeatS_same (a b : Option Addr) (ca cb : Nat) (rs ts : List SeatA) (he : ts.map SeatA.v = rs.map SeatA.v) (w : World) (ha : ReadsSts w a rs) (hb : ReadsSts w b ts) (hl : rs.length ≤ 1099511627776) (hs : ∀ r ∈ rs, r.short 1099511627776) :
  Calls Tryz.prog 107 #[.slice a rs.length ca, .slice b ts.length cb] w fun e w' => e = .returned (.bool true) ∧ Below w.heap.size w w' := by
 rcases ha.cases with rfl | ⟨b1, o1, rfl, hpos, hc1⟩
 ·obtain rfl := mapSt_nil he
  go_enter Tryz.func107, Tryz.ntmps107
  go_wp2
  refine wp_loop_rounds 1 ?_
  rw [rounds_succ]
  go_wp2
  go_ret
  exact ⟨rfl, Below.refl _ _⟩
 ·have hlen := mapSt_len he
  rcases hb.cases with rfl | ⟨b2, o2, rfl, _, hc2⟩
  ·simp at hlen; omega
  ·have HV : Hid (∀ k, k < rs.length → (ts.getD k zeroSt).v = (rs.getD k zeroSt).v) := fun k hk => mapSt_at he k hk
   have HS : Hid (∀ k, k < rs.length → (rs.getD k zeroSt).short 1099511627776) := fun k hk => hs _ (seatD_mem rs k hk)
   have HI : Hid ((Tryz.prog.info? 88).map (·.size) = some 20) := by rw [Hid]; kernel_rfl
   have hu := Tryz.underlying88
   rw [hlen] at hc2 ⊢
   clear he hs hlen
   go_enter Tryz.func107, Tryz.ntmps107
   go_wp2
   go_loopw [5] (fun i wr => ∃ k : Nat, k ≤ rs.length ∧ i = .int .i64 k ∧ Below w.heap.size w wr) (fun i _ => rs.length - (intOf i).toNat)
   case atStart => exact ⟨0, Nat.zero_le _, rfl, Below.refl _ _⟩
   case round =>
    obtain ⟨k, hk, rfl, hbl⟩ := hrel
    by_cases hlt : k < rs.length
    ·obtain ⟨h1, r1⟩ := hc1 k hlt
     obtain ⟨h2, r2⟩ := hc2 k hlt
     have hv := HV.out k hlt
     have hsh := HS.out k hlt
     clear hc1 hc2
     generalize rs.getD k zeroSt = z at *
     generalize ts.getD k zeroSt = y at *
     have HR : Hid (∀ w1, Below w.heap.size w w1 → w1.rangeAt b1 (o1 + k * 20) z.cells ∧ w1.rangeAt b2 (o2 + k * 20) y.cells) := fun w1 hh => ⟨rangeSt_below h1 hh, rangeSt_below h2 hh⟩
     have HD : Hid (∀ w1, Below w.heap.size w w1 → z.reads w1 ∧ y.reads w1) := fun w1 hh => ⟨r1.below hh, r2.below hh⟩
     clear h1 h2 r1 r2
     go_wp2_with fail
     refine wp_region_held_drew (S := fun w' => w'.rangeAt b1 (o1 + k * 20) z.cells ∧ w'.rangeAt b2 (o2 + k * 20) y.cells) (by kernel_rfl) ?_ (fun hHeld => ?_)
     ·exact HR.out _ hbl.drew
     refine tk 0 (v := .slice (some ⟨b1, o1, none⟩) rs.length ca) rfl (Or.inl ⟨by rfl, ?_⟩) hHeld ?_
     ·intro w' hSw
      go_simp <;> rfl
     try simp only [Act.put, zA, zB, zD, zE, zF]
     refine tk 1 (v := .int .i64 k) rfl (Or.inl ⟨by rfl, ?_⟩) hHeld ?_
     ·intro w' hSw
      go_simp <;> rfl
     try simp only [Act.put, zA, zB, zC, zD, zE, zF]
     refine tk 2 (v := .pointer (some ⟨b1, o1 + k * 20, none⟩)) rfl (Or.inl ⟨by rfl, ?_⟩) hHeld ?_
     ·intro w' hSw
      go_simp <;> rfl
     try simp only [Act.put, zA, zB, zC, zD, zE, zF]
     refine tk 3 rfl (yieldsIf_load_mid (by rfl) _ _ rfl _ _ rfl z.cells _ (fun _ h => h.1) Tryz.underlying88 rfl HI.out) hHeld ?_
     try simp only [Act.put, zA, zB, zC, zD, zE, zF]
     refine tk 4 (v := .slice (some ⟨b2, o2, none⟩) rs.length cb) rfl (Or.inl ⟨by rfl, ?_⟩) hHeld ?_
     ·intro w' hSw
      go_simp <;> rfl
     try simp only [Act.put, zA, zB, zC, zD, zE, zF]
     refine tk 5 (v := .int .i64 k) rfl (Or.inl ⟨by rfl, ?_⟩) hHeld ?_
     ·intro w' hSw
      go_simp <;> rfl
     try simp only [Act.put, zA, zB, zC, zD, zE, zF]
     refine tk 6 (v := .pointer (some ⟨b2, o2 + k * 20, none⟩)) rfl (Or.inl ⟨by rfl, ?_⟩) hHeld ?_
     ·intro w' hSw
      go_simp <;> rfl
     try simp only [Act.put, zA, zB, zC, zD, zE, zF]
     refine tk 7 rfl (yieldsIf_load_mid (by rfl) _ _ rfl _ _ rfl y.cells _ (fun _ h => h.2) Tryz.underlying88 rfl HI.out) hHeld ?_
     try simp only [Act.put, zA, zB, zC, zD, zE, zF]
     refine wpAnyH_ready (rs := [8]) (by kernel_rfl) (by simp) ?_
     refine AllReadyH.cons rfl (fun K hK => ?_) AllReadyH.nil
     go_simp
     refine (eqSeat_same z y hv _ (HD.out _ hbl.drew).1 (HD.out _ hbl.drew).2 hsh).mono ?_
     rintro e w2 ⟨rfl, hb2⟩
     have hw2 : Below w.heap.size w w2 := (hbl.drew).trans (hb2.mono hbl.size)
     refine hK.out _ _ (HR.out _ hw2) (fun hHeld => ?_)
     clear hK K
     try simp only [Act.put, zA, zB, zC, zD, zE, zF]
     refine tk 9 (v := .bool false) rfl (Or.inl ⟨by rfl, ?_⟩) hHeld ?_
     ·intro w' hSw
      go_simp <;> rfl
     try simp only [Act.put, zA, zB, zC, zD, zE, zF]
     refine wpAnyH_done (by kernel_rfl) ?_ _
     go_wp2_with fail
     go_roundw
     case rel => exact ⟨k + 1, by omega, by go_num, hw2⟩
     case measure => simp [intOf]; omega
    ·go_wp2
     go_ret
     exact ⟨rfl, hbl⟩
theorem eqPool_same (l t : PoolA) (he : t.v = l.v) (w : World) (hr : l.reads w) (ht : t.reads w) (hl : l.short 1099511627776) :
  Calls Tryz.prog 50 #[.agg l.cells.toArray, .agg t.cells.toArray] w fun e w' => e = .returned (.bool true) ∧ Below w.heap.size w w' := by
 obtain ⟨rs, s, a, c⟩ := l
 obtain ⟨ts, s', a', c'⟩ := t
 obtain ⟨hl1, hl2⟩ := hl
 simp only [PoolA.v, PoolV.mk.injEq] at he
 obtain ⟨he, rfl⟩ := he
 simp only [PoolA.reads, PoolA.cells] at *
 obtain ⟨W, hW, b0, b1, hbW, hsW⟩ := boxes2 w [.slice a rs.length c, .int .i64 s'] [.slice a' ts.length c', .int .i64 s'] 52 52
 have C := eqSeatS_same a a' c c' rs ts he W (hr.below hbW) (ht.below hbW) hl1 hl2
 clear hsW he hl1 hl2 hr ht
 go_enter Tryz.func50, Tryz.ntmps50
 go_wp2_with fail
 rw [hW.out]
 clear hW
 refine C.mono ?_
 clear C
 rintro e w1 ⟨rfl, hb1⟩
 have x1 := (b0.below hb1 b0.lt).cell 1 _ rfl
 have y1 := (b1.below hb1 b1.lt).cell 1 _ rfl
 clear b0 b1
 go_wp2
 go_ret
 exact ⟨rfl, hbW.trans (hb1.mono hbW.size)⟩
theorem szSeatS_any (a : Option Addr) (cap : Nat) (rs : List SeatA) (left : Int) (w : World) (hr : ReadsSts w a rs) (hn : rs.length ≤ 9223372036854775807) (hs : ∀ r ∈ rs, r.short 9223372036854775807) (hl : 0 ≤ left ∧ left ≤ 1048576) :
  Calls Tryz.prog 87 #[.slice a rs.length cap, .int .i64 left] w fun e w' => ∃ z : Int, e = .returned (.int .i64 z) ∧ (z < 0 ∨ (0 ≤ z ∧ z ≤ left ∧ rs.length ≤ 1048576 ∧ ∀ r ∈ rs, r.short 1048576)) ∧ Below w.heap.size w w' := by
 have HI : Hid ((Tryz.prog.info? 180).map (·.size) = some 20) := by rw [Hid]; kernel_rfl
 by_cases hle : left - rs.length < 0
 ·go_enter Tryz.func87, Tryz.ntmps87
  go_wp2
  go_ret
  exact ⟨-1, rfl, .inl (by omega), Below.refl _ _⟩
 have HS : Hid (∀ k, k < rs.length → (rs.getD k zeroSt).short 9223372036854775807) := fun k hk => hs _ (seatD_mem rs k hk)
 have hlen : rs.length ≤ 1048576 := by omega
 have HC : Hid (∀ k, k < rs.length → ∃ b off, a = some ⟨b, off, none⟩ ∧ w.rangeAt b (off + k * 20) (rs.getD k zeroSt).cells) := fun k hk => by
  obtain ⟨b, off, ha, hc⟩ := hr (by intro e; rw [e] at hk; simp at hk)
  exact ⟨b, off, ha, (hc k hk).1⟩
 have HA : Hid ((∀ k, k < rs.length → (rs.getD k zeroSt).short 1048576) → ∀ r ∈ rs, r.short 1048576) := by
  intro h r hr
  obtain ⟨k, hk, rfl⟩ := List.getElem_of_mem hr
  have := h k hk
  simpa [List.getD, hk] using this
 clear hr hs
 go_enter Tryz.func87, Tryz.ntmps87
 go_wp2
 go_loopw [1, 5] (fun v i wr => ∃ (k : Nat) (z : Int), k ≤ rs.length ∧ i = .int .i64 k ∧ v = .int .i64 z ∧ 0 ≤ z ∧ z ≤ left ∧ Hid (∀ j, j < k → (rs.getD j zeroSt).short 1048576) ∧ Below w.heap.size w wr) (fun _ i _ => rs.length - (intOf i).toNat)
 case atStart => exact ⟨0, left - rs.length, Nat.zero_le _, rfl, by go_num, by omega, by omega, fun j hj => by omega, Below.refl _ _⟩
 case round =>
  obtain ⟨k, z, hk, rfl, rfl, hz0, hz1, hsh, hbl⟩ := hrel
  by_cases hlt : k < rs.length
  ·obtain ⟨b, off, rfl, hcell⟩ := HC.out k hlt
   have HR : Hid (wr.rangeAt b (off + k * 20) (rs.getD k zeroSt).cells) := rangeSt_below hcell hbl
   have C := szSeat_any (rs.getD k zeroSt) z wr (HS.out k hlt) (by omega)
   clear hcell HC
   have HN : Hid ((rs.getD k zeroSt).short 1048576 → ∀ j, j < k + 1 → (rs.getD j zeroSt).short 1048576) := fun h j hj => by
    by_cases e : j = k
    ·rw [e]; exact h
    ·exact hsh.out j (by omega)
   generalize rs.getD k zeroSt = y at *
   go_wp2_with (first | (guard_target = wpList _ _ _ (Oper.mk (some 21) _ _ _ _ _ :: _) _ _; refine wpList_load_mid rfl 180 (.tmp 20) rfl b (off + k * 20) rfl y.cells _ HR.out Tryz.underlying180 rfl HI.out ?_) | fail)
   refine C.mono ?_
   clear C HR
   rintro e w1 ⟨z1, rfl, hz, hb1⟩
   have hB1 : Below w.heap.size w w1 := hbl.trans (hb1.mono hbl.size)
   rcases hz with hneg | ⟨g0, g1, g2⟩
   ·go_wp2
    go_ret
    exact ⟨-1, rfl, .inl (by omega), hB1⟩
   ·have hzn : ¬ z1 < 0 := by omega
    have HH := HN.out g2
    go_wp2
    go_roundw
    case rel => exact ⟨k + 1, z1, by omega, by go_num, rfl, g0, by omega, HH, hB1⟩
    case measure => simp [intOf]; omega
  ·have HE : Hid (∀ r ∈ rs, r.short 1048576) := HA.out (fun j hj => hsh.out j (by omega))
   go_wp2
   go_ret
   exact ⟨z, rfl, .inr ⟨hz0, hz1, hlen, HE.out⟩, hbl⟩
theorem szPool_any (l : PoolA) (left : Int) (w : World) (hr : l.reads w) (hs : l.short 9223372036854775807) (hl : 0 ≤ left ∧ left ≤ 1048576) :
  Calls Tryz.prog 26 #[.agg l.cells.toArray, .int .i64 left] w fun e w' => ∃ z : Int, e = .returned (.int .i64 z) ∧ (z < 0 ∨ (0 ≤ z ∧ z ≤ left ∧ l.short 1048576)) ∧ Below w.heap.size w w' := by
 obtain ⟨rs, s, a, c⟩ := l
 obtain ⟨hl1, hl2⟩ := hs
 simp only [PoolA.reads, PoolA.cells] at *
 obtain ⟨W, hW, b0, hbW, hsW⟩ := boxes1 w [.slice a rs.length c, .int .i64 s] 33
 have C := szSeatS_any a c rs left W (hr.below hbW) hl1 hl2 hl
 clear hsW hr hl1 hl2
 go_enter Tryz.func26, Tryz.ntmps26
 go_wp2_with fail
 rw [hW.out]
 clear hW
 refine C.mono ?_
 clear C
 rintro e w1 ⟨z, rfl, hz, hb1⟩
 have hB : Below w.heap.size w w1 := hbW.trans (hb1.mono hbW.size)
 rcases hz with hneg | ⟨h0, h1, h2, h3⟩
 ·go_wp2
  go_ret
  exact ⟨-1, rfl, .inl (by omega), hB⟩
 ·have hzn : ¬ z < 0 := by omega
  go_wp2
  go_ret
  exact ⟨z, rfl, .inr ⟨h0, h1, h2, h3⟩, hB⟩
end Go.Proofs.YtoboickdkednkabGreatDoor
namespace Go.Proofs.YtoboickdkednkabGreatDoor
open Go.ChangeShapes Go.WideShapes Go.ChangeAt Go.RowKit
structure InSeat (w : World) (s : SeatA) : Prop where
 slots : ∀ x ∈ s.ss, InSlot w x
 no : InI64 s.no
 lsn : InI64 s.lsn
theorem InSeat.reads {w : World} {s : SeatA} (h : InSeat w s) : s.reads w := fun x hx => (h.slots x hx).reads
theorem InSeat.short {w : World} {s : SeatA} (h : InSeat w s) : s.short 9223372036854775807 := fun x hx => by
 have h1 := (h.slots x hx).lI
 have h2 := (h.slots x hx).lR
 simp only [maxLen] at h1 h2
 omega
structure InPool (w : World) (l : PoolA) : Prop where
 seats : ReadsSts w l.a l.seats
 each : ∀ r ∈ l.seats, InSeat w r
 len : l.seats.length ≤ maxLen
 num : InI64 l.hand
theorem InPool.short {w : World} {l : PoolA} (h : InPool w l) : l.short 9223372036854775807 := ⟨by have := h.len; simp only [maxLen] at this; omega, fun r hr => (h.each r hr).short⟩
theorem InPool.reads {w : World} {l : PoolA} (h : InPool w l) : l.reads w := h.seats
section
variable {H : Type} {enc : TypeId × Value → H} {w : World} {base : Nat} {spare : Nat → Bool} {held : Bool}
theorem Tryz.cellsSt_ : Tryz.prog.cellsOf 180 = 20 := by kernel_rfl
theorem trod_seat {fuel : Nat} {cs : List Value} {x : DataW H × List MemPlace} (h : DataW.trod enc Tryz.prog w base spare held fuel 180 cs = some x) :
  ∃ s : SeatA, cs = s.cells ∧ InSeat w s := by
 obtain ⟨xs, n, _, _, hlen, hxl, hf⟩ := DataW.trod_struct Tryz.underlying180 h
 rw [Tryz.cellsSt_] at hlen
 match cs, hlen with
 | [v0, v1, v2, v3, v4, v5, v6, v7, v8, v9, v10, v11, v12, v13, v14, v15, v16, v17, v18, v19], _ =>
  have f0 := hf 0 _ rfl
  have f1 := hf 1 _ rfl
  have f2 := hf 2 _ rfl
  have f3 := hf 3 _ rfl
  obtain ⟨y0, hx0⟩ := some_at xs 0 (by rw [hxl]; decide)
  rw [hx0] at f0
  obtain ⟨y1, hx1⟩ := some_at xs 1 (by rw [hxl]; decide)
  rw [hx1] at f1
  obtain ⟨y2, hx2⟩ := some_at xs 2 (by rw [hxl]; decide)
  rw [hx2] at f2
  obtain ⟨y3, hx3⟩ := some_at xs 3 (by rw [hxl]; decide)
  rw [hx3] at f3
  simp only [List.getElem_toArray, List.getElem_cons_zero, List.getElem_cons_succ, Tryz.cellsI, Tryz.cellsB, Tryz.cellsPg, List.drop, List.take] at f0 f1 f2 f3
  obtain ⟨n0, e0, w0⟩ := trod_num f0
  obtain ⟨p, e1, h4, w1, hs⟩ := trod_page f1
  obtain ⟨d, e2, _⟩ := DataW.trod_bool Tryz.underlying4 f2
  obtain ⟨t, e3, _⟩ := DataW.trod_bool Tryz.underlying4 f3
  obtain ⟨lsn, ss⟩ := p
  obtain ⟨a, b, c, d', rfl⟩ := four_slots' (ts := ss) h4
  simp only [List.cons.injEq, and_true] at e0 e2 e3
  subst e0 e2 e3
  refine ⟨⟨n0, lsn, a, b, c, d', d, t⟩, ?_, hs, w0, w1⟩
  rw [SeatA.cells_page]
  show _ = Value.int .i64 n0 :: ((PageA.cells ⟨lsn, [a, b, c, d']⟩) ++ [.bool d, .bool t])
  rw [← e1]
  rfl
theorem Tryz.cellsSts_ : Tryz.prog.cellsOf 31 = 1 := by kernel_rfl
theorem Tryz.cellsPl : Tryz.prog.cellsOf 33 = 2 := by kernel_rfl
theorem trod_seats {fuel : Nat} {cs : List Value} {x : DataW H × List MemPlace} (h : DataW.trod enc Tryz.prog w base spare held fuel 31 cs = some x) :
  ∃ (a : Option Addr) (c : Nat) (rs : List SeatA), cs = [.slice a rs.length c] ∧ ReadsSts w a rs ∧ (∀ r ∈ rs, InSeat w r) ∧ rs.length ≤ maxLen := by
 rcases DataW.trod_slice Tryz.underlying31 h with ⟨rfl, _⟩ | ⟨a, len, cap, elems, rest, n, _, rfl, _, _, hl, hm, hlen, hel, _, _⟩
 ·exact ⟨none, 0, [], rfl, ReadsSts.nil _ _, fun r hr => by simp at hr, by simp⟩
 rw [Tryz.cellsSt_] at hel
 have each : ∀ i, i < len → ∃ t : SeatA, w.cells? base (a.add (i * 20)) 20 = some t.cells ∧ InSeat w t := by
  intro i hi
  have hy := hel i hi
  rw [List.getElem?_eq_getElem (by omega : i < elems.length), Option.bind_eq_some_iff] at hy
  obtain ⟨cs', hcs, hy'⟩ := hy
  obtain ⟨t, e, ht⟩ := trod_seat hy'
  exact ⟨t, by rw [hcs, e], ht⟩
 obtain ⟨f, hf⟩ : ∃ f : Nat → SeatA, ∀ i, i < len → w.cells? base (a.add (i * 20)) 20 = some (f i).cells ∧ InSeat w (f i) := by
  refine ⟨fun i => if h : i < len then (each i h).choose else zeroSt, fun i hi => ?_⟩
  simp only [dif_pos hi]
  exact (each i hi).choose_spec
 refine ⟨some a, cap, (List.range len).map f, by simp, ?_, ?_, by simp; omega⟩
 ·intro hne
  have hpos := List.length_pos_iff.2 hne
  simp only [List.length_map, List.length_range] at hpos ⊢
  obtain ⟨b, off, spot⟩ := a
  have c0 := (World.cells?_some (hf 0 hpos).1).2.2 0 (by decide)
  have hspot : spot = none := by simpa [Addr.add] using World.cell?_spot c0
  subst hspot
  refine ⟨b, off, rfl, fun k hk => ?_⟩
  have e : ((List.range len).map f).getD k zeroSt = f k := by simp [List.getD, hk]
  rw [e]
  have hc := (World.cells?_some (hf k hk).1).2.2
  refine ⟨fun j v hv => ?_, (hf k hk).2.reads⟩
  have hj : j < 20 := by have := (List.getElem?_eq_some_iff.1 hv).1; rwa [cellsSt_len] at this
  have d := hc j (by simpa using hj)
  simp only [Addr_add] at d
  rw [d, hv]
 ·intro r hr
  obtain ⟨k, hk, rfl⟩ := List.mem_map.1 hr
  exact (hf k (List.mem_range.1 hk)).2
theorem trod_pool {fuel : Nat} {cs : List Value} {x : DataW H × List MemPlace} (h : DataW.trod enc Tryz.prog w base spare held fuel 33 cs = some x) :
  ∃ l : PoolA, cs = l.cells ∧ InPool w l := by
 obtain ⟨xs, n, _, _, hlen, hxl, hf⟩ := DataW.trod_struct Tryz.underlying33 h
 rw [Tryz.cellsPl] at hlen
 match cs, hlen with
 | [v0, v1], _ =>
  have f0 := hf 0 _ rfl
  have f1 := hf 1 _ rfl
  obtain ⟨y0, hx0⟩ := some_at xs 0 (by rw [hxl]; decide)
  rw [hx0] at f0
  obtain ⟨y1, hx1⟩ := some_at xs 1 (by rw [hxl]; decide)
  rw [hx1] at f1
  simp only [List.getElem_toArray, List.getElem_cons_zero, List.getElem_cons_succ, Tryz.cellsI, Tryz.cellsSts_, List.drop, List.take] at f0 f1
  obtain ⟨a, c, rs, e0, h0, h1, h2⟩ := trod_seats f0
  obtain ⟨m, e1, w1⟩ := trod_num f1
  simp only [List.cons.injEq, and_true] at e0 e1
  subst e0 e1
  exact ⟨⟨rs, m, a, c⟩, rfl, h0, h1, h2, w1⟩
theorem open_pool {b0 : Nat} {v : Value} {d : DataW H} {ps : List MemPlace} (hval : Value.okWide Tryz.prog w .any b0 33 v) (h : DataW.Trod enc Tryz.prog w base spare held 33 v d ps) :
  ∃ l : PoolA, v = .agg l.cells.toArray ∧ InPool w l := by
 obtain ⟨cs, rfl, hcs⟩ := okWide_struct Tryz.underlying33 hval
 obtain ⟨fuel, hf⟩ := h
 have e : (Value.agg cs).cells.toList = cs.toList := rfl
 rw [e] at hf
 obtain ⟨r, hc, rest⟩ := trod_pool hf
 refine ⟨r, ?_, rest⟩
 congr 1
 apply Array.toList_inj.1
 rw [hc]
end
end Go.Proofs.YtoboickdkednkabGreatDoor
namespace Go.Proofs.YtoboickdkednkabGreatDoor
open Go.RowKit
theorem PoolA.reads.below {w w' : World} {l : PoolA} (h : l.reads w) (hb : Below w.heap.size w w') : l.reads w' := ReadsSts.below h hb
theorem PoolA.own.reads {w : World} {lo hi : Nat} {l : PoolA} (h : l.own w lo hi) : l.reads w := OwnSts.reads h
theorem PoolA.own.below {w w' : World} {lo hi : Nat} {l : PoolA} (h : l.own w lo hi) (hb : Below w.heap.size w w') : l.own w' lo hi := OwnSts.below h hb
theorem PoolA.own.within {w w' : World} {lo hi a b : Nat} {l : PoolA} (h : l.own w lo hi) (hw : Within a b w w') (hd : hi ≤ a ∨ b ≤ lo) : l.own w' lo hi := OwnSts.within h hw hd
theorem PoolA.own.widen {w : World} {lo hi lo' hi' : Nat} {l : PoolA} (h : l.own w lo hi) (h1 : lo' ≤ lo) (h2 : hi ≤ hi') (h3 : hi' ≤ w.heap.size) : l.own w lo' hi' := OwnSts.widen h h1 h2 h3
def PoolA.blocks (l : PoolA) : List Nat := blocksSts l.a l.c l.seats
theorem PoolA.own.blocks_lt {w : World} {lo hi : Nat} {l : PoolA} (h : l.own w lo hi) : ∀ k ∈ l.blocks, lo ≤ k ∧ k < hi := OwnSts.blocks_lt h
theorem PoolA.own.touch {w w' : World} {lo hi : Nat} {l : PoolA} {bl : List Nat} (h : l.own w lo hi) (ht : Touch bl w w') (hd : ∀ k ∈ l.blocks, k ∉ bl) : l.own w' lo hi := OwnSts.touch h ht hd
theorem onePool (l : PoolA) : ∀ v ∈ l.cells, v.oneCell' = true := by
 intro v hv
 simp only [PoolA.cells, List.mem_cons, List.not_mem_nil, or_false] at hv
 rcases hv with rfl | rfl <;> rfl
theorem pool_one (q : PoolA) : q.cells.toArray.all (·.oneCell') = true := all_oneCell_toArray (onePool q)
theorem pool_info (q : PoolA) : (Tryz.prog.info? 52).map (·.size) = some q.cells.length := by show _ = some 2; kernel_rfl
def markSt (s : SeatA) (k : Int) : SeatA := ⟨k, k + 1, s.s0, s.s1, s.s2, s.s3, ((k + 1 + 1) % 3 == 0), ((k + 1 + 1 + 1) % 3 == 0)⟩
def markSts : List SeatA → Int → List SeatA
 | [], _ => []
 | r :: t, k => markSt r k :: markSts t (k + 4)
theorem markSt_blocks (r : SeatA) (k : Int) : (markSt r k).blocks = r.blocks := rfl
theorem markSts_len (rs : List SeatA) : ∀ k, (markSts rs k).length = rs.length := by
 induction rs with
 | nil => intro k; rfl
 | cons x r ih => intro k; simp [markSts, ih]
theorem markSts_blocks (rs : List SeatA) : ∀ k, (markSts rs k).flatMap SeatA.blocks = rs.flatMap SeatA.blocks := by
 induction rs with
 | nil => intro k; rfl
 | cons x r ih => intro k; simp only [markSts, List.flatMap_cons, ih, markSt_blocks]
def PoolA.mark (l : PoolA) (k : Int) : PoolA := { l with seats := markSts l.seats k }
def PoolA.count (l : PoolA) : Nat := 4 * l.seats.length
def markRA (r : RecA) (k : Int) : RecA :=
 ⟨k, k + 1, k + 1 + 1, k + 1 + 1 + 1, k + 1 + 1 + 1 + 1,
  ⟨⟨((k + 1 + 1 + 1 + 1 + 1) % 3 == 0), ⟨k + 1 + 1 + 1 + 1 + 1 + 1, marksI (k + 1 + 1 + 1 + 1 + 1 + 1 + 1) r.bf.v.o.ints.length, marksI (k + 1 + 1 + 1 + 1 + 1 + 1 + 1 + r.bf.v.o.ints.length) r.bf.v.o.refs.length⟩⟩, r.bf.aI, r.bf.cI, r.bf.aR, r.bf.cR⟩,
  ⟨⟨((k + 1 + 1 + 1 + 1 + 1 + 1 + 1 + r.bf.v.o.ints.length + r.bf.v.o.refs.length) % 3 == 0), ⟨k + 1 + 1 + 1 + 1 + 1 + 1 + 1 + r.bf.v.o.ints.length + r.bf.v.o.refs.length + 1, marksI (k + 1 + 1 + 1 + 1 + 1 + 1 + 1 + r.bf.v.o.ints.length + r.bf.v.o.refs.length + 1 + 1) r.af.v.o.ints.length, marksI (k + 1 + 1 + 1 + 1 + 1 + 1 + 1 + r.bf.v.o.ints.length + r.bf.v.o.refs.length + 1 + 1 + r.af.v.o.ints.length) r.af.v.o.refs.length⟩⟩, r.af.aI, r.af.cI, r.af.aR, r.af.cR⟩,
  k + 1 + 1 + 1 + 1 + 1 + 1 + 1 + r.bf.v.o.ints.length + r.bf.v.o.refs.length + 1 + 1 + r.af.v.o.ints.length + r.af.v.o.refs.length,
  marksL (k + 1 + 1 + 1 + 1 + 1 + 1 + 1 + r.bf.v.o.ints.length + r.bf.v.o.refs.length + 1 + 1 + r.af.v.o.ints.length + r.af.v.o.refs.length + 1) r.txs.length, r.aL, r.cL⟩
def countRA (r : RecA) : Nat := 10 + r.bf.v.o.ints.length + r.bf.v.o.refs.length + r.af.v.o.ints.length + r.af.v.o.refs.length + 3 * r.txs.length
def markRs : List RecA → Int → List RecA
 | [], _ => []
 | r :: t, k => markRA r k :: markRs t (k + countRA r)
def countRs : List RecA → Nat
 | [] => 0
 | r :: t => countRA r + countRs t
theorem markRA_blocks (r : RecA) (k : Int) : (markRA r k).blocks = r.blocks := by simp [markRA, RecA.blocks, SlotA.blocks, marksI_len, marksL_len]
theorem markRs_len (rs : List RecA) : ∀ k, (markRs rs k).length = rs.length := by
 induction rs with
 | nil => intro k; rfl
 | cons x r ih => intro k; simp [markRs, ih]
theorem markRs_blocks (rs : List RecA) : ∀ k, (markRs rs k).flatMap RecA.blocks = rs.flatMap RecA.blocks := by
 induction rs with
 | nil => intro k; rfl
 | cons x r ih => intro k; simp only [markRs, List.flatMap_cons, ih, markRA_blocks]
def RowR (w : World) (base g n cap : Nat) (pre cs post : List Value) : Prop := w.ownsRow base 85 15 (.slice (some ⟨g, 0, none⟩) n cap) n (pre ++ (cs ++ post))
theorem RowR.block {w w' : World} {base g n cap : Nat} {pre cs post : List Value} (h : RowR w base g n cap pre cs post) (hb : w'.heap[g]? = w.heap[g]?) : RowR w' base g n cap pre cs post := ownsRow_block h (fun k hk => by cases hk; exact hb)
def LogA.mark (l : LogA) (k : Int) : LogA := { l with recs := markRs l.recs k }
def LogA.count (l : LogA) : Nat := countRs l.recs
def EngA.poolA (e : EngA) : PoolA := ⟨e.seats, e.hand, e.aS, e.cS⟩
theorem EngA.shape.disk8 {e : EngA} (h : e.shape) : Disk8 e.disk := ⟨h.eight, h.four⟩
structure EngA.reads (w : World) (e : EngA) : Prop where
 disk : ∀ p ∈ e.disk, ReadsS w p.ss
 pool : e.poolA.reads w
 log : e.log.reads w
 txs : ReadsL w e.aT e.txs
 holds : ReadsH w e.aH e.holds
structure EngA.short (e : EngA) (m : Nat) : Prop where
 disk : ∀ p ∈ e.disk, ∀ x ∈ p.ss, x.v.o.ints.length ≤ m ∧ x.v.o.refs.length ≤ m
 pool : e.poolA.short m
 log : e.log.short m
 txs : e.txs.length ≤ m
 holds : e.holds.length ≤ m
theorem EngA.short.fit {e : EngA} (h : e.short 1099511627776) : ∀ p ∈ e.disk, Fit p.ss := fun p hp s hs => h.disk p hp s hs
theorem EngA.reads.below {w w' : World} {e : EngA} (h : e.reads w) (hb : Below w.heap.size w w') : e.reads w' :=
 ⟨fun p hp => (h.disk p hp).below hb, h.pool.below hb, h.log.below hb, h.txs.below hb, h.holds.below hb⟩
theorem OwnS.readsAll {w : World} {lo hi : Nat} {ps : List PageA} (h : OwnS w lo hi (ps.flatMap (·.ss))) : ∀ p ∈ ps, ReadsS w p.ss := fun p hp s hs => h.reads s (List.mem_flatMap.2 ⟨p, hp, hs⟩)
theorem EngA.own.reads {w : World} {lo hi : Nat} {e : EngA} (h : e.own w lo hi) : e.reads w := ⟨OwnS.readsAll h.disk, OwnSts.reads h.pool, OwnRs.reads h.log, h.txs.reads, h.holds.reads⟩
theorem eng_parts {w : World} {B : Nat} {t : TypeId} {e : EngA} (h : e.shape) (b : Box w B e.cells t) :
  w.rangeAt B 0 (cellsPs e.disk) ∧ w.rangeAt B 136 e.poolA.cells ∧ w.rangeAt B 138 e.log.cells ∧ w.cell? ⟨B, 140, none⟩ = some (.slice e.aT e.txs.length e.cT) ∧ w.cell? ⟨B, 141, none⟩ = some (.slice e.aH e.holds.length e.cH) ∧ w.cell? ⟨B, 142, none⟩ = some (.int .i64 e.next) ∧ w.cell? ⟨B, 143, none⟩ = some (.bool e.down) := by
 have hl := EngA.disk_len h
 refine ⟨?_, ?_, ?_, EngA.cell_at h b 4 _ rfl, EngA.cell_at h b 5 _ rfl, EngA.cell_at h b 6 _ rfl, EngA.cell_at h b 7 _ rfl⟩
 ·exact Box.range [] (cellsPs e.disk) e.tail b
 ·have := Box.range (cellsPs e.disk) e.poolA.cells [.slice e.log.a e.log.recs.length e.log.c, .int .i64 e.log.sure, .slice e.aT e.txs.length e.cT, .slice e.aH e.holds.length e.cH, .int .i64 e.next, .bool e.down] b
  rwa [hl] at this
 ·have := Box.range (cellsPs e.disk ++ e.poolA.cells) e.log.cells [.slice e.aT e.txs.length e.cT, .slice e.aH e.holds.length e.cH, .int .i64 e.next, .bool e.down] (by rw [List.append_assoc]; exact b)
  rw [List.length_append, hl] at this
  exact this
theorem eqEngine_same (e f : EngA) (se : e.shape) (sf : f.shape) (he : f.v = e.v) (w : World) (re : e.reads w) (rf : f.reads w) (hl : e.short 1099511627776) :
  Calls Tryz.prog 11 #[.agg e.cells.toArray, .agg f.cells.toArray] w fun r w' => r = .returned (.bool true) ∧ Below w.heap.size w w' := by
 simp only [EngA.v, EngV.mk.injEq] at he
 obtain ⟨h1, h2, h3, h4, h5, h6, h7, h8⟩ := he
 have HD : Hid (f.disk.map pgv = e.disk.map pgv) := h1
 have HPV : Hid (f.poolA.v = e.poolA.v) := by rw [Hid, PoolA.v, PoolA.v]; simp only [EngA.poolA, h2, h3]
 have HLV : Hid (f.log.v = e.log.v) := h4
 obtain ⟨W, hW, b0, b1, hbW, hsW⟩ := boxes2 w e.cells f.cells 59 59
 have HE : Hid (∀ u, Below W.heap.size W u → _) := fun u hu => eng_parts se (b0.below hu b0.lt)
 have HF : Hid (∀ u, Below W.heap.size W u → _) := fun u hu => eng_parts sf (b1.below hu b1.lt)
 have HR : Hid (∀ u, Below W.heap.size W u → e.reads u ∧ f.reads u) := fun u hu => ⟨(re.below hbW).below hu, (rf.below hbW).below hu⟩
 have hie := disk8_info se.disk8
 have hif := disk8_info sf.disk8
 clear h1 h2 h3 h4 hsW b0 b1
 have N : Below W.heap.size W W := Below.refl _ _
 obtain ⟨p0, p1, p2, p3, p4, p5, p6⟩ := HE.out _ N
 obtain ⟨q0, q1, q2, q3, q4, q5, q6⟩ := HF.out _ N
 go_enter Tryz.func11, Tryz.ntmps11
 go_wp2_with (first | (guard_target = wpList _ _ _ (Oper.mk (some 6) _ _ _ _ _ :: _) _ _; refine wpList_load_mid rfl 49 (.tmp 5) rfl w.heap.size 0 rfl (cellsPs e.disk) _ (by rw [hW.out]; exact p0) Tryz.underlying49 rfl hie ?_) | (guard_target = wpList _ _ _ (Oper.mk (some 8) _ _ _ _ _ :: _) _ _; refine wpList_load_mid rfl 49 (.tmp 7) rfl (w.heap.size + 1) 0 rfl (cellsPs f.disk) _ (by rw [hW.out]; exact q0) Tryz.underlying49 rfl hif ?_) | fail)
 rw [hW.out]
 clear hW
 refine (eqPageA8_same e.disk f.disk se.disk8 sf.disk8 HD.out W (HR.out _ N).1.disk (HR.out _ N).2.disk hl.fit).mono ?_
 rintro r w1 ⟨rfl, hbw1⟩
 replace N := N.trans (hbw1.mono N.size)
 clear p0 p1 p2 p3 p4 p5 p6 q0 q1 q2 q3 q4 q5 q6 hbw1
 obtain ⟨p0, p1, p2, p3, p4, p5, p6⟩ := HE.out _ N
 obtain ⟨q0, q1, q2, q3, q4, q5, q6⟩ := HF.out _ N
 go_wp2_with (first | (guard_target = wpList _ _ _ (Oper.mk (some 12) _ _ _ _ _ :: _) _ _; refine wpList_load_mid rfl 52 (.tmp 11) rfl w.heap.size 136 rfl (e.poolA.cells) _ p1 Tryz.underlying52 rfl (pool_info _) ?_) | (guard_target = wpList _ _ _ (Oper.mk (some 14) _ _ _ _ _ :: _) _ _; refine wpList_load_mid rfl 52 (.tmp 13) rfl (w.heap.size + 1) 136 rfl (f.poolA.cells) _ q1 Tryz.underlying52 rfl (pool_info _) ?_) | fail)
 refine (eqPool_same e.poolA f.poolA HPV.out w1 (HR.out _ N).1.pool (HR.out _ N).2.pool hl.pool).mono ?_
 rintro r w2 ⟨rfl, hbw2⟩
 replace N := N.trans (hbw2.mono N.size)
 clear p0 p1 p2 p3 p4 p5 p6 q0 q1 q2 q3 q4 q5 q6 hbw2
 obtain ⟨p0, p1, p2, p3, p4, p5, p6⟩ := HE.out _ N
 obtain ⟨q0, q1, q2, q3, q4, q5, q6⟩ := HF.out _ N
 go_wp2_with (first | (guard_target = wpList _ _ _ (Oper.mk (some 18) _ _ _ _ _ :: _) _ _; refine wpList_load_mid rfl 55 (.tmp 17) rfl w.heap.size 138 rfl (e.log.cells) _ p2 Tryz.underlying55 rfl (log_info _) ?_) | (guard_target = wpList _ _ _ (Oper.mk (some 20) _ _ _ _ _ :: _) _ _; refine wpList_load_mid rfl 55 (.tmp 19) rfl (w.heap.size + 1) 138 rfl (f.log.cells) _ q2 Tryz.underlying55 rfl (log_info _) ?_) | fail)
 refine (eqLog_same e.log f.log HLV.out w2 (HR.out _ N).1.log (HR.out _ N).2.log hl.log).mono ?_
 rintro r w3 ⟨rfl, hbw3⟩
 replace N := N.trans (hbw3.mono N.size)
 clear p0 p1 p2 p3 p4 p5 p6 q0 q1 q2 q3 q4 q5 q6 hbw3
 obtain ⟨p0, p1, p2, p3, p4, p5, p6⟩ := HE.out _ N
 obtain ⟨q0, q1, q2, q3, q4, q5, q6⟩ := HF.out _ N
 rw [h5] at q3
 have C4 := eqLiveS_same e.aT f.aT e.cT f.cT e.txs w3 (HR.out _ N).1.txs (by have := (HR.out _ N).2.txs; rwa [h5] at this) hl.txs
 go_wp2_with fail
 refine (C4).mono ?_
 rintro r w4 ⟨rfl, hbw4⟩
 replace N := N.trans (hbw4.mono N.size)
 clear p0 p1 p2 p3 p4 p5 p6 q0 q1 q2 q3 q4 q5 q6 hbw4
 obtain ⟨p0, p1, p2, p3, p4, p5, p6⟩ := HE.out _ N
 obtain ⟨q0, q1, q2, q3, q4, q5, q6⟩ := HF.out _ N
 clear C4
 rw [h6] at q4
 have C5 := eqHoldS_same e.aH f.aH e.cH f.cH e.holds w4 (HR.out _ N).1.holds (by have := (HR.out _ N).2.holds; rwa [h6] at this) hl.holds
 go_wp2_with fail
 refine (C5).mono ?_
 rintro r w5 ⟨rfl, hbw5⟩
 replace N := N.trans (hbw5.mono N.size)
 clear p0 p1 p2 p3 p4 p5 p6 q0 q1 q2 q3 q4 q5 q6 hbw5
 obtain ⟨p0, p1, p2, p3, p4, p5, p6⟩ := HE.out _ N
 obtain ⟨q0, q1, q2, q3, q4, q5, q6⟩ := HF.out _ N
 clear C5
 rw [h7] at q5
 rw [h8] at q6
 have HEND : Hid (Below w.heap.size w w5) := hbW.trans (N.mono hbW.size)
 clear h5 h6 h7 h8
 go_wp2
 go_ret
 exact ⟨rfl, HEND.out⟩
def EngA.kP (e : EngA) (k : Int) : Int := k + countS (slots8 e.disk)
def EngA.kL (e : EngA) (k : Int) : Int := e.kP k + e.poolA.count
def EngA.kT (e : EngA) (k : Int) : Int := e.kL k + e.log.count
def EngA.kH (e : EngA) (k : Int) : Int := e.kT k + 3 * e.txs.length
structure EngA.marked (w : World) (lo hi : Nat) (e : EngA) (k : Int) : Prop where
 disk : OwnS w lo hi (markSs (slots8 e.disk) k)
 pool : (e.poolA.mark (e.kP k)).own w lo hi
 log : (e.log.mark (e.kL k)).own w lo hi
 txs : OwnL w lo hi e.aT e.cT (marksL (e.kT k) e.txs.length)
 holds : OwnH w lo hi e.aH e.cH (marksH (e.kH k) e.holds.length)
theorem EngA.marked.touch {w w' : World} {lo hi : Nat} {e : EngA} {k : Int} {bl : List Nat} (h : e.marked w lo hi k) (ht : Touch bl w w') (hd : ∀ j ∈ e.blocks, j ∉ bl) : e.marked w' lo hi k := by
 simp only [EngA.blocks, List.mem_append] at hd
 refine ⟨h.disk.touch ht (fun j hj => hd j (.inl (by rw [markSs_blocks] at hj; exact hj))), h.pool.touch ht (fun j hj => hd j (.inr (.inl ?_))), h.log.touch ht (fun j hj => hd j (.inr (.inr (.inl ?_)))), h.txs.touch ht (fun j hj => hd j (.inr (.inr (.inr (.inl ?_))))), h.holds.touch ht (fun j hj => hd j (.inr (.inr (.inr (.inr ?_)))))⟩
 ·simpa [PoolA.blocks, PoolA.mark, blocksSts, markSts_len, markSts_blocks, EngA.poolA] using hj
 ·simpa [LogA.blocks, LogA.mark, blocksRs, markRs_len, markRs_blocks] using hj
 ·rw [marksL_len] at hj; exact Option.mem_toList.2 hj
 ·rw [marksH_len] at hj; exact Option.mem_toList.2 hj
end Go.Proofs.YtoboickdkednkabGreatDoor
namespace Go.Proofs.YtoboickdkednkabGreatDoor
open Go.RowKit
theorem alloc_eng {w : World} {ops : Array Oper} {rest : List Oper} {dst : Option Nat} {ty : TypeId} {pos : String} {aft : Array Edge} {act : Act} {Q : Exit → Act → World → Prop}
  (h : wpList Tryz.prog ops Q rest (act.put dst (.pointer (some ⟨w.heap.size, 0, none⟩))) (w.alloc (.cells zeroE.cells.toArray TE))) :
  wpList Tryz.prog ops Q ({ dst := dst, op := .alloc 59, type := ty, pos := pos, after := aft, guard := none } :: rest) act w := by
 refine wpList_plain rfl fun K hK => ?_
 have hz := Tryz.zeroEng
 cases hi : Tryz.prog.info? 59 with
 | none => rw [hi] at hz; cases hz
 | some inf =>
  rw [hi] at hz
  have hz' : inf.zero = some (.agg zeroE.cells.toArray) := by simpa using hz
  obtain ⟨cs, hcs⟩ : ∃ cs, zeroE.cells = cs := ⟨_, rfl⟩
  rw [hcs] at hz' h
  unfold Oper.wp execOp
  have e1 : (zeroValue 59).run Tryz.prog w = .ok (.agg cs.toArray) w := by simp [zeroValue, typeInfo, hi, hz']
  have e2 : (Instr.alloc 59 true (.tuple #[])).run Tryz.prog w = .ok (.pointer (some ⟨w.heap.size, 0, none⟩)) (w.alloc (.cells cs.toArray TE)) := by
   unfold Instr.alloc
   simp only [Sem.run_bind, e1, Result.andThen_ok]
   simp [newVar, go_sem]
  simp only [Sem.run_bind, e2, Result.andThen_ok, Sem.run_pure]
  exact hK _ _ h
theorem eng_info {e : EngA} (h : e.shape) : (Tryz.prog.info? 59).map (·.size) = some e.cells.length := by rw [EngA.cells_len h]; exact Tryz.infoEng
theorem oneE (e : EngA) : ∀ v ∈ e.cells, v.oneCell' = true := by
 intro v hv
 simp only [EngA.cells, List.mem_append] at hv
 rcases hv with hv | hv
 ·obtain ⟨p, _, hp⟩ := List.mem_flatMap.1 hv
  exact oneP p v hp
 ·simp only [EngA.tail, List.mem_cons, List.not_mem_nil, or_false] at hv
  rcases hv with rfl | rfl | rfl | rfl | rfl | rfl | rfl | rfl <;> rfl
theorem zeroE_shape : zeroE.shape := ⟨rfl, fun p hp => by
 simp only [zeroE, List.mem_cons, List.not_mem_nil, or_false] at hp
 have : p = zeroP := by rcases hp with h | h | h | h | h | h | h | h <;> exact h
 rw [this]; rfl⟩
theorem eng_out {w : World} {C : Nat} {q old : EngA} (hq : q.shape) (ho : old.shape) (bC : Box w C old.cells TE) :
  ∃ WF, Hid (w.setCells C 0 q.cells.toArray.toList = WF) ∧ Within C (C + 1) w WF ∧ WF.heap.size = w.heap.size ∧ Hid (w.there C 0 q.cells.toArray.size) ∧ Box WF C q.cells TE := by
 obtain ⟨WF, hWF, bF, hwF, hsF⟩ := range_fill [] old.cells q.cells [] (by simpa using bC) (by rw [EngA.cells_len hq, EngA.cells_len ho])
 refine ⟨WF, hWF, hwF, hsF, bC.there 0 _ (by rw [List.size_toArray, EngA.cells_len hq, EngA.cells_len ho]; omega), by simpa using bF⟩
theorem eng_load {w : World} {C : Nat} {q : EngA} (hq : q.shape) (b : Box w C q.cells TE) : (loadVar 59 ⟨C, 0, none⟩).run Tryz.prog w = .ok (.agg q.cells.toArray) w :=
 run_loadVar_mid (P := Tryz.prog) w C 0 59 q.cells _ (Box.range [] q.cells [] (by simpa using b)) Tryz.underlying59 rfl (eng_info hq)
end Go.Proofs.YtoboickdkednkabGreatDoor