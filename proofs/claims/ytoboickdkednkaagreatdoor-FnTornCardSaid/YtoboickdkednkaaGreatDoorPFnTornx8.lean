/- Several texts in one, in their order. -/
import Derived.Test.YtoboickdkednkaaGreatDoorPFnTornx7
import Derived.Test.YtoboickdkednkaaGreatDoorPFnTornx3
import Derived.Test.YtoboickdkednkaaGreatDoorPFnTornx6
import Derived.Deep.Cut
import Derived.Test.YtoboickdkednkaaGreatDoorPFnTornx4
import Derived.Deep.CutRange
import Derived.Deep.LoopGhost
import Derived.Deep.MidRow
import Derived.Laws.Tables
import Derived.Deep.RegionLaw
import Derived.Deep.DrawnRows
import Derived.Test.YtoboickdkednkaaGreatDoorPFnTornx1
set_option maxHeartbeats 8000000
set_option maxRecDepth 100000
namespace Go.Proofs.YtoboickdkednkaaGreatDoor
open Go.RowKit
theorem load_if {ops : Array Oper} {rest : List Oper} {op : Oper} {a : Act} {w : World} {Q : Exit → Act → World → Prop} {P : Program} (hw : Region.wanted op (yielded ops a.tmps) = true) (ty : TypeId) (x : Operand) (ho : op.op = .load ty x)
  (b o : Nat) (hx : a.eval x = .pointer (some ⟨b, o, none⟩)) (cs : List Value) (d : TypeDesc) (hc : w.rangeAt b o cs)
  (hu : P.underlying ty = some d) (hd : d.isRow = true) (hi : (P.info? ty).map (·.size) = some cs.length)
  (h : wpList P ops Q rest (a.put op.dst (.agg cs.toArray)) w) : wpList P ops Q (op :: rest) a w :=
 wpList_step fun _ hK => by
  simp only [hw, if_true]
  exact wp_load_mid ty x ho b o hx cs d hc hu hd hi (hK _ _ h)
theorem specLogOk_any (l : LogA) (w : World) (hr : l.reads w) (hl : l.short 1099511627776) :
  Calls Tryz.prog 10 #[.agg l.cells.toArray] w fun e w' => e = .returned (.bool (okLog l.v)) ∧ Below w.heap.size w w' := by
 have HLEN : Hid (¬ l.recs.length ≤ 4000 → okLog l.v = false) := fun h => okLog_len (by rw [l.v_len]; exact h)
 have HSURE : Hid (inB l.sure 0 l.recs.length = false → okLog l.v = false) := fun h => okLog_sure (by rw [l.v_len]; exact h)
 have HNO : Hid (∀ k, k < l.recs.length → (((l.recs.getD k zeroR).lsn == (k + 1 : Int)) && okR (l.recs.getD k zeroR).v) = false → okLog l.v = false) := fun k hk h => okLog_no k (by rw [l.v_len]; exact hk) (by rw [okAt_v]; exact h)
 have HALL : Hid (l.recs.length ≤ 4000 → inB l.sure 0 l.recs.length = true → (∀ k, k < l.recs.length → (((l.recs.getD k zeroR).lsn == (k + 1 : Int)) && okR (l.recs.getD k zeroR).v) = true) → okLog l.v = true) := fun h0 h1 h => okLog_all (by rw [l.v_len]; exact h0) (by rw [l.v_len]; exact h1) (fun k hk => by rw [okAt_v]; exact h k (by rw [l.v_len] at hk; exact hk))
 generalize okLog l.v = R at *
 have HS : Hid (∀ k, k < l.recs.length → (l.recs.getD k zeroR).short 1099511627776) := fun k hk => hl.at k hk
 have hlen := hl.len
 obtain ⟨rs, s, a, c⟩ := l
 simp only [LogA.reads, LogA.cells] at *
 obtain ⟨W, hW, b0, hbW, hsW⟩ := boxes1 w [.slice a rs.length c, .int .i64 s] 26
 have c0 := b0.cell 0 _ rfl
 have c1 := b0.cell 1 _ rfl
 clear hl hsW
 have HC : Hid (∀ k, k < rs.length → ∃ b off, a = some ⟨b, off, none⟩ ∧ W.rangeAt b (off + k * 15) (rs.getD k zeroR).cells ∧ (rs.getD k zeroR).reads W) := fun k hk => by
  obtain ⟨b, off, ha, hc⟩ := (ReadsRs.below hr hbW) (by intro e; rw [e] at hk; simp at hk)
  exact ⟨b, off, ha, hc k hk⟩
 have HI : Hid ((Tryz.prog.info? 39).map (·.size) = some 15) := by rw [Hid]; kernel_rfl
 clear hr
 by_cases h4 : rs.length ≤ 4000
 case neg =>
  have HR : Hid (R = false) := HLEN.out h4
  clear HLEN HSURE HNO HALL
  go_enter Tryz.func10, Tryz.ntmps10
  go_wp2_with fail
  rw [hW.out]
  go_ret
  exact ⟨ret_bool HR.out.symm, hbW⟩
 case pos =>
  cases h5 : inB s 0 rs.length with
  | false =>
   have HR : Hid (R = false) := HSURE.out h5
   clear HLEN HSURE HNO HALL
   go_enter Tryz.func10, Tryz.ntmps10
   go_wp2_with fail
   rw [hW.out]
   refine (l1In_any _ _ _ W).mono ?_
   rintro e u ⟨rfl, hu⟩
   rw [hu]
   clear hu u
   go_wp2
   go_ret
   exact ⟨ret_bool HR.out.symm, hbW⟩
  | true =>
   go_enter Tryz.func10, Tryz.ntmps10
   go_wp2_with fail
   rw [hW.out]
   refine (l1In_any _ _ _ W).mono ?_
   rintro e u ⟨rfl, hu⟩
   rw [hu]
   clear hu u hW
   go_wp2_with fail
   go_loopw [3] (fun i wr => ∃ k : Nat, k ≤ rs.length ∧ i = .int .i64 k ∧ Hid (∀ j, j < k → (((rs.getD j zeroR).lsn == (j + 1 : Int)) && okR (rs.getD j zeroR).v) = true) ∧ Below W.heap.size W wr) (fun i _ => rs.length - (intOf i).toNat)
   case atStart => exact ⟨0, Nat.zero_le _, rfl, fun j hj => by omega, Below.refl _ _⟩
   case round =>
    obtain ⟨k, hk, rfl, hall, hbl⟩ := hrel
    have hbm : Below w.heap.size w wr := hbW.trans (hbl.mono hbW.size)
    have r0 := (hbl.cell (block_lt c0)).trans c0
    clear c0 c1
    by_cases hlt : k < rs.length
    ·obtain ⟨b, off, rfl, hcell, hrd⟩ := HC.out k hlt
     have HR : Hid (wr.rangeAt b (off + k * 15) (rs.getD k zeroR).cells) := range_below hcell hbl
     have x0 : wr.cell? ⟨b, off + k * 15, none⟩ = some (.int .i64 (rs.getD k zeroR).lsn) := HR.out 0 _ rfl
     have C := specRecOk_any (rs.getD k zeroR) wr (hrd.below hbl) (HS.out k hlt)
     have HN : Hid ((((rs.getD k zeroR).lsn == (k + 1 : Int)) && okR (rs.getD k zeroR).v) = false → R = false) := HNO.out k hlt
     have HY : Hid ((((rs.getD k zeroR).lsn == (k + 1 : Int)) && okR (rs.getD k zeroR).v) = true → ∀ j, j < k + 1 → (((rs.getD j zeroR).lsn == (j + 1 : Int)) && okR (rs.getD j zeroR).v) = true) := fun h j hj => by
      by_cases e : j = k
      ·rw [e]; exact h
      ·exact hall.out j (by omega)
     clear hcell HC HLEN HSURE HNO HALL hall HS hrd
     generalize rs.getD k zeroR = y at *
     cases h6 : (y.lsn == (k + 1 : Int)) with
     | false =>
      have HR2 : Hid (R = false) := HN.out (by rw [h6]; rfl)
      have h6b : (y.lsn != (k : Int) + 1) = true := by simp only [bne, h6, Bool.not_false]
      clear h6
      clear HN HY C
      go_wp2_with fail
      go_ret
      exact ⟨ret_bool HR2.out.symm, hbm⟩
     | true =>
      rw [h6, Bool.true_and] at HN HY
      have h6b : (y.lsn != (k : Int) + 1) = false := by simp only [bne, h6, Bool.not_true]
      clear h6
      cases h7 : okR y.v with
      | false =>
       have HR2 : Hid (R = false) := HN.out h7
       clear HN HY
       rw [h7] at C
       go_wp2_with (first | (guard_target = wpList _ _ _ (Oper.mk (some 38) _ _ _ _ _ :: _) _ _; refine load_if (by rfl) 39 (.tmp 37) rfl b (off + k * 15) rfl y.cells _ HR.out Tryz.underlying39 rfl HI.out ?_) | fail)
       refine C.mono ?_
       rintro e w1 ⟨rfl, hb1⟩
       go_wp2_with fail
       go_ret
       exact ⟨ret_bool HR2.out.symm, hbm.trans (hb1.mono hbm.size)⟩
      | true =>
       have HY2 := HY.out h7
       clear HN HY
       rw [h7] at C
       go_wp2_with (first | (guard_target = wpList _ _ _ (Oper.mk (some 38) _ _ _ _ _ :: _) _ _; refine load_if (by rfl) 39 (.tmp 37) rfl b (off + k * 15) rfl y.cells _ HR.out Tryz.underlying39 rfl HI.out ?_) | fail)
       refine C.mono ?_
       rintro e w1 ⟨rfl, hb1⟩
       clear C
       have hb2 : Below W.heap.size W w1 := hbl.trans (hb1.mono hbl.size)
       go_wp2_with fail
       go_roundw
       case rel => exact ⟨k + 1, by omega, by go_num, HY2, hb2⟩
       case measure => simp [intOf]; omega
    ·have HR : Hid (R = true) := HALL.out h4 h5 (fun j hj => hall.out j (by omega))
     clear HLEN HSURE HNO HALL
     go_wp2
     go_ret
     exact ⟨ret_bool HR.out.symm, hbm⟩
theorem logForce_any (B o : Nat) (cs : List Value) (T : TypeId) (a : Option Addr) (c n : Nat) (s x : Int) (w : World) (b : Box w B cs T) (h0 : cs[o]? = some (.slice a n c)) (h1 : cs[o + 1]? = some (.int .i64 s)) :
  Calls Tryz.prog 37 #[.pointer (some ⟨B, o, none⟩), .int .i64 x] w fun e w' => (∃ v, e = .returned v) ∧ Box w' B (cs.set (o + 1) (.int .i64 (min (max s x) (n : Int)))) T ∧ Within B (B + 1) w w' ∧ w'.heap.size = w.heap.size := by
 have D0 : Below w.heap.size w w.drew := (Below.refl _ _).drew
 have b0 := b.below D0 b.lt
 have c0 := b0.cell o _ h0
 have c1 := b0.cell (o + 1) _ h1
 have f1 := b0.frozen (o + 1)
 have HMM : Hid ((if (n : Int) < (if s < x then x else s) then (n : Int) else if s < x then x else s) = min (max s x) n) := by
  rw [Hid]
  split <;> split <;> omega
 obtain ⟨W, hW, bW, hw, hs⟩ := box_set b0 (o + 1) (.int .i64 (if (n : Int) < (if s < x then x else s) then (n : Int) else if s < x then x else s))
 have HE : Hid (Box W B (cs.set (o + 1) (.int .i64 (min (max s x) (n : Int)))) T ∧ Within B (B + 1) w W ∧ W.heap.size = w.heap.size) := ⟨by rw [← HMM.out]; exact bW, (Within.of_below D0).trans hw, hs⟩
 clear bW hw hs HMM b0 D0
 go_enter Tryz.func37, Tryz.ntmps37
 refine wp_region_late (· == 15) (S := fun u => u.cell? ⟨B, o, none⟩ = some (.slice a n c) ∧ u.cell? ⟨B, o + 1, none⟩ = some (.int .i64 s)) (by kernel_rfl) ⟨c0, c1⟩ (fun hHeld => ?_)
 generalize w.drew = d0 at *
 refine wpAnyL_take (i := 0) (v := .pointer (some ⟨B, o, none⟩)) rfl (by kernel_rfl) (fun _ _ _ h => h) (Or.inl ⟨by rfl, ?_⟩) hHeld ?_
 ·intro w' hSw
  go_simp <;> rfl
 try simp only [Act.put, zA, zB, zD, zE, zF]
 refine wpAnyL_take (i := 1) (v := .pointer (some ⟨B, o, none⟩)) rfl (by kernel_rfl) (fun _ _ _ h => h) (Or.inl ⟨by rfl, ?_⟩) hHeld ?_
 ·intro w' hSw
  go_simp <;> rfl
 try simp only [Act.put, zA, zB, zC, zD, zE, zF]
 refine wpAnyL_take (i := 2) (v := .pointer (some ⟨B, o, none⟩)) rfl (by kernel_rfl) (fun _ _ _ h => h) (Or.inl ⟨by rfl, ?_⟩) hHeld ?_
 ·intro w' hSw
  go_simp <;> rfl
 try simp only [Act.put, zA, zB, zC, zD, zE, zF]
 refine wpAnyL_take (i := 3) (v := .pointer (some ⟨B, o + 1, none⟩)) rfl (by kernel_rfl) (fun _ _ _ h => h) (Or.inl ⟨by rfl, ?_⟩) hHeld ?_
 ·intro w' hSw
  go_simp <;> rfl
 try simp only [Act.put, zA, zB, zC, zD, zE, zF]
 refine wpAnyL_take (i := 4) (v := .int .i64 s) rfl (by kernel_rfl) (fun _ _ _ h => h) (Or.inl ⟨by rfl, ?_⟩) hHeld ?_
 ·intro w' hSw
  have hx := hSw.2
  go_simp <;> rfl
 try simp only [Act.put, zA, zB, zC, zD, zE, zF]
 refine wpAnyL_take (i := 5) (v := .int .i64 x) rfl (by kernel_rfl) (fun _ _ _ h => h) (Or.inl ⟨by rfl, ?_⟩) hHeld ?_
 ·intro w' hSw
  go_simp <;> rfl
 try simp only [Act.put, zA, zB, zC, zD, zE, zF]
 refine wpAnyL_take (i := 6) (v := .int .i64 (if s < x then x else s)) rfl (by kernel_rfl) (fun _ _ _ h => h) (Or.inl ⟨by rfl, ?_⟩) hHeld ?_
 ·intro w' hSw
  go_simp <;> rfl
 try simp only [Act.put, zA, zB, zC, zD, zE, zF]
 refine wpAnyL_take (i := 7) (v := .pointer (some ⟨B, o, none⟩)) rfl (by kernel_rfl) (fun _ _ _ h => h) (Or.inl ⟨by rfl, ?_⟩) hHeld ?_
 ·intro w' hSw
  go_simp <;> rfl
 try simp only [Act.put, zA, zB, zC, zD, zE, zF]
 refine wpAnyL_take (i := 8) (v := .pointer (some ⟨B, o, none⟩)) rfl (by kernel_rfl) (fun _ _ _ h => h) (Or.inl ⟨by rfl, ?_⟩) hHeld ?_
 ·intro w' hSw
  go_simp <;> rfl
 try simp only [Act.put, zA, zB, zC, zD, zE, zF]
 refine wpAnyL_take (i := 9) (v := .pointer (some ⟨B, o, none⟩)) rfl (by kernel_rfl) (fun _ _ _ h => h) (Or.inl ⟨by rfl, ?_⟩) hHeld ?_
 ·intro w' hSw
  go_simp <;> rfl
 try simp only [Act.put, zA, zB, zC, zD, zE, zF]
 refine wpAnyL_take (i := 10) (v := .slice a n c) rfl (by kernel_rfl) (fun _ _ _ h => h) (Or.inl ⟨by rfl, ?_⟩) hHeld ?_
 ·intro w' hSw
  have hx := hSw.1
  go_simp <;> rfl
 try simp only [Act.put, zA, zB, zC, zD, zE, zF]
 refine wpAnyL_take (i := 11) (v := .int .i64 (n : Int)) rfl (by kernel_rfl) (fun _ _ _ h => h) (Or.inl ⟨by rfl, ?_⟩) hHeld ?_
 ·intro w' hSw
  go_simp <;> rfl
 try simp only [Act.put, zA, zB, zC, zD, zE, zF]
 refine wpAnyL_take (i := 12) (v := .int .i64 (if (n : Int) < (if s < x then x else s) then (n : Int) else if s < x then x else s)) rfl (by kernel_rfl) (fun _ _ _ h => h) (Or.inl ⟨by rfl, ?_⟩) hHeld ?_
 ·intro w' hSw
  go_simp <;> rfl
 try simp only [Act.put, zA, zB, zC, zD, zE, zF]
 refine wpAnyL_next 13 (by kernel_rfl) rfl (fun K hK => ?_)
 go_simp
 refine hK.out _ _ (hHeld) (fun hHeld => ?_)
 clear hK K 
 try simp only [Act.put, zA, zB, zC, zD, zE, zF]
 refine wpAnyL_take (i := 14) (v := .pointer (some ⟨B, o + 1, none⟩)) rfl (by kernel_rfl) (fun _ _ _ h => h) (Or.inl ⟨by rfl, ?_⟩) hHeld ?_
 ·intro w' hSw
  go_simp <;> rfl
 try simp only [Act.put, zA, zB, zC, zD, zE, zF]
 refine wpAnyL_last 15 (by kernel_rfl) rfl rfl (fun K hK => ?_)
 go_simp
 rw [hW.out]
 refine hK.out _ _ ?_
 clear hK K
 refine wpAnyL_done (by kernel_rfl) ?_ _
 clear hW hHeld
 generalize (if (n : Int) < (if s < x then x else s) then (n : Int) else if s < x then x else s) = I1 at *
 generalize (if s < x then x else s) = I2 at *
 go_wp2
 go_end0
 exact ⟨⟨_, rfl⟩, HE.out⟩
theorem forceOf_no {l : LogV} (n : Int) (h : okLog l = false) : forceOf l n = l := by unfold forceOf; rw [if_neg (by rw [h]; decide)]
theorem forceOf_yes {l : LogV} (n : Int) (h : okLog l = true) : forceOf l n = ⟨l.recs, max l.sure (min n l.recs.length)⟩ := by unfold forceOf; rw [if_pos h]
theorem l5Force_any (B : Nat) (a : Option Addr) (c : Nat) (rs : List RecA) (s n : Int) (w : World) (b : Box w B [.slice a rs.length c, .int .i64 s] 26) :
  Calls Tryz.prog 59 #[.pointer (some ⟨B, 0, none⟩), .int .i64 n] w fun e w' => (∃ v, e = .returned v) ∧ Box w' B [.slice a rs.length c, .int .i64 (max s (min n rs.length))] 26 ∧ Within B (B + 1) w w' ∧ w'.heap.size = w.heap.size := by
 have c0 := b.cell 0 _ rfl
 have c1 := b.cell 1 _ rfl
 have f1 := b.frozen 1
 by_cases h1 : n > rs.length
 ·by_cases h2 : (rs.length : Int) > s
  ·have HM : Hid (max s (min n (rs.length : Int)) = rs.length) := by rw [Hid]; omega
   obtain ⟨W, hW, bW, hw, hs⟩ := box_set b 1 (.int .i64 rs.length)
   simp only [List.set] at bW
   clear hs
   have HS : Hid (W.heap.size = w.heap.size) := by rw [Hid, ← hW.out]; simp
   go_enter Tryz.func59, Tryz.ntmps59
   go_wp2
   rw [hW.out]
   go_end0
   exact ⟨⟨_, rfl⟩, by rw [HM.out]; exact bW, hw, HS.out⟩
  ·have HM : Hid (max s (min n (rs.length : Int)) = s) := by rw [Hid]; omega
   go_enter Tryz.func59, Tryz.ntmps59
   go_wp2
   go_end0
   exact ⟨⟨_, rfl⟩, by rw [HM.out]; exact b, Within.refl _ _ _, rfl⟩
 ·by_cases h2 : n > s
  ·have HM : Hid (max s (min n (rs.length : Int)) = n) := by rw [Hid]; omega
   obtain ⟨W, hW, bW, hw, hs⟩ := box_set b 1 (.int .i64 n)
   simp only [List.set] at bW
   clear hs
   have HS : Hid (W.heap.size = w.heap.size) := by rw [Hid, ← hW.out]; simp
   go_enter Tryz.func59, Tryz.ntmps59
   go_wp2
   rw [hW.out]
   go_end0
   exact ⟨⟨_, rfl⟩, by rw [HM.out]; exact bW, hw, HS.out⟩
  ·have HM : Hid (max s (min n (rs.length : Int)) = s) := by rw [Hid]; omega
   go_enter Tryz.func59, Tryz.ntmps59
   go_wp2
   go_end0
   exact ⟨⟨_, rfl⟩, by rw [HM.out]; exact b, Within.refl _ _ _, rfl⟩
theorem specForce_any (l : LogA) (n : Int) (w : World) (hr : l.reads w) (hl : l.short 1048576) (hcp : ∀ r ∈ l.recs, r.aL = none → r.cL = 0) :
  Calls Tryz.prog 27 #[.agg l.cells.toArray, .int .i64 n] w fun e w' => ∃ t : LogA, e = .returned (.agg t.cells.toArray) ∧ Hid (t.v = forceOf l.v n) ∧ t.own w' w.heap.size w'.heap.size ∧ Below w.heap.size w w' := by
 have HNO : Hid (okLog l.v = false → forceOf l.v n = l.v) := fun h => forceOf_no n h
 have HYES : Hid (okLog l.v = true → forceOf l.v n = ⟨l.v.recs, max l.sure (min n l.recs.length)⟩) := fun h => by rw [forceOf_yes n h, l.v_len]; rfl
 obtain ⟨W, hW, b0, b1, hbW, hsW⟩ := boxes2 w l.cells [.slice none 0 0, .int .i64 0] 26 26
 have hs0 : w.heap.size + 1 < W.heap.size := by omega
 clear hsW
 have C1 := l5Copy_any l W (hr.below hbW) hl hcp
 have HLV : Hid (∀ t : LogA, t.v = l.v → t.recs.length = l.recs.length ∧ t.sure = l.sure ∧ t.recs.map RecA.v = l.v.recs) := fun t h => by
  simp only [LogA.v, LogV.mk.injEq] at h
  exact ⟨mapV_len h.1, h.2, h.1⟩
 have HX : Hid (∀ u, Below W.heap.size W u → Box u w.heap.size l.cells 26) := fun u hu => b0.below hu b0.lt
 have hll := hl.len
 simp only [LogA.cells] at *
 have x0 := b0.cell 0 _ rfl
 have x1 := b0.cell 1 _ rfl
 clear b0
 go_enter Tryz.func27, Tryz.ntmps27
 go_wp2_with fail
 rw [hW.out]
 clear hW
 refine C1.mono ?_
 clear C1 x0 x1
 rintro e w1 ⟨t, rfl, hv, ho, hb1⟩
 have HE : Hid (_ ∧ _ ∧ _) := HLV.out t hv.out
 obtain ⟨rt, st, at', ct⟩ := t
 have hrt : rt.length ≤ 1048576 := by have := HE.out.1; simp only at this; omega
 simp only
 obtain ⟨W2, hW2, b2, hb2, hs2⟩ := boxes1 w1 [.slice at' rt.length ct, .int .i64 st] 26
 have k12 : Below W.heap.size W W2 := hb1.trans (hb2.mono hb1.size)
 have hs1 := hb1.size
 have hs2' := hb2.size
 have hlt2 := b2.lt
 have D2 : Below w.heap.size w W2 := hbW.trans (k12.mono hbW.size)
 have o2 : OwnRs W2 W.heap.size w1.heap.size at' ct rt := OwnRs.below ho hb2
 have b12 := b1.below k12 b1.lt
 have C2 := specLogOk_any l W2 (hr.below D2) (LogA.short_wide hl)
 simp only [LogA.cells] at C2
 have y0 := (HX.out W2 k12).cell 0 _ rfl
 have y1 := (HX.out W2 k12).cell 1 _ rfl
 clear hs2 ho hb1 hb2 b1
 go_upto_region 2 with fail
 rw [hW2.out]
 clear hW2
 go_wp2_with fail
 refine C2.mono ?_
 clear C2 y0 y1
 generalize okLog l.v = R at *
 rintro e w3 ⟨rfl, hb3⟩
 have hs3 := hb3.size
 have b23 := b2.below hb3 b2.lt
 have b13 := b12.below hb3 b12.lt
 have o3 := OwnRs.below o2 hb3
 have D3 : Below w.heap.size w w3 := D2.trans (hb3.mono D2.size)
 clear b2 b12 o2 hb3 D2 k12
 cases R with
 | false =>
  have HV := HNO.out rfl
  have e0 := b23.cell 0 _ rfl
  have e1' := b23.cell 1 _ rfl
  have m0 := b13.cell 0 _ rfl
  have m1 := b13.cell 1 _ rfl
  have mf0 := b13.frozen 0
  have mf1 := b13.frozen 1
  obtain ⟨WF, hWF, bF, hwF, hsF⟩ := box2_fill b13 (.slice at' rt.length ct) (.int .i64 st)
  have q0 := bF.cell 0 _ rfl
  have q1 := bF.cell 1 _ rfl
  have hoF := (o3.within hwF (.inr (by omega))).widen (show w.heap.size ≤ W.heap.size by omega) (show w1.heap.size ≤ WF.heap.size by omega) (Nat.le_refl _)
  have hbF : Below w.heap.size w WF := D3.trans (hwF.below (by omega) (by omega))
  have HF : Hid (_ ∧ _ ∧ _) := ⟨hv.out.trans HV.symm, hoF, hbF⟩
  clear hwF hsF bF hv HV hoF hbF HNO HYES HLV HE hs1 hs2' hs3 hlt2
  go_wp2
  rw [hWF.out]
  exact bodyPost_ret (v := .agg #[.slice at' rt.length ct, .int .i64 st]) (by simp [results, Tryz.results27, go_sem, q0, q1]) rfl ⟨⟨rt, st, at', ct⟩, rfl, HF.out.1, HF.out.2.1, HF.out.2.2⟩
 | true =>
  have HV := HYES.out rfl
  have C3 := l5Force_any w1.heap.size at' ct rt st n w3 b23
  go_wp2_with fail
  refine C3.mono ?_
  clear C3
  rintro e w4 ⟨⟨v4, rfl⟩, b24, hw4, hs4⟩
  have hs4a := Nat.le_of_eq hs4
  have hs4b := Nat.le_of_eq hs4.symm
  have b14 := b13.within hw4 (by omega)
  have o4 := o3.within hw4 (.inl (Nat.le_refl _))
  have D4 : Below w.heap.size w w4 := D3.trans (hw4.below (by omega) (by omega))
  have e0 := b24.cell 0 _ rfl
  have e1' := b24.cell 1 _ rfl
  have m0 := b14.cell 0 _ rfl
  have m1 := b14.cell 1 _ rfl
  have mf0 := b14.frozen 0
  have mf1 := b14.frozen 1
  obtain ⟨WF, hWF, bF, hwF, hsF⟩ := box2_fill b14 (.slice at' rt.length ct) (.int .i64 (max st (min n rt.length)))
  have q0 := bF.cell 0 _ rfl
  have q1 := bF.cell 1 _ rfl
  have hoF := (o4.within hwF (.inr (by omega))).widen (show w.heap.size ≤ W.heap.size by omega) (show w1.heap.size ≤ WF.heap.size by omega) (Nat.le_refl _)
  have hbF : Below w.heap.size w WF := D4.trans (hwF.below (by omega) (by omega))
  have HVV : Hid ((⟨rt, max st (min n rt.length), at', ct⟩ : LogA).v = forceOf l.v n) := by
   rw [Hid, HV]
   have e1 : rt.length = l.recs.length := HE.out.1
   have e2 : st = l.sure := HE.out.2.1
   have e3 : rt.map RecA.v = l.v.recs := HE.out.2.2
   simp only [LogA.v] at e3 ⊢
   rw [e3, e1, e2]
  have HF : Hid (_ ∧ _ ∧ _) := ⟨HVV.out, hoF, hbF⟩
  clear hwF hsF bF hv HV hoF hbF HNO HYES HLV HE hs1 hs2' hs3 hlt2 HVV hs4 hs4a hs4b hw4
  generalize max st (min n (rt.length : Int)) = M at *
  go_wp2
  rw [hWF.out]
  exact bodyPost_ret (v := .agg #[.slice at' rt.length ct, .int .i64 M]) (by simp [results, Tryz.results27, go_sem, q0, q1]) rfl ⟨⟨rt, M, at', ct⟩, rfl, HF.out.1, HF.out.2.1, HF.out.2.2⟩
theorem implForce_any (l : LogA) (n : Int) (w : World) (hg : ErrT w) (hr : l.reads w) (hl : l.short 1048576) (hcp : ∀ r ∈ l.recs, r.aL = none → r.cL = 0) :
  Calls Tryz.prog 12 #[.agg l.cells.toArray, .int .i64 n] w fun e w' => ∃ t : LogA, e = .returned (.agg t.cells.toArray) ∧ Hid (t.v = forceOf l.v n) ∧ t.own w' w.heap.size w'.heap.size ∧ Below w.heap.size w w' := by
 have HNO : Hid (okLog l.v = false → forceOf l.v n = l.v) := fun h => forceOf_no n h
 have HYES : Hid (okLog l.v = true → forceOf l.v n = ⟨l.v.recs, max l.sure (min n l.recs.length)⟩) := fun h => by rw [forceOf_yes n h, l.v_len]; rfl
 obtain ⟨W, hW, b0, b1, hbW, hsW⟩ := boxes2 w l.cells [.slice none 0 0, .int .i64 0] 26 26
 have hs0 : w.heap.size + 1 < W.heap.size := by omega
 clear hsW
 have C1 := copyLog_any l W (hr.below hbW) hl hcp
 have HLV : Hid (∀ t : LogA, t.v = l.v → t.recs.length = l.recs.length ∧ t.sure = l.sure ∧ t.recs.map RecA.v = l.v.recs) := fun t h => by
  simp only [LogA.v, LogV.mk.injEq] at h
  exact ⟨mapV_len h.1, h.2, h.1⟩
 have HSR : Hid (okLog l.v = true → l.sure ≤ l.recs.length) := fun h => by have := (okLog_yes h).2.2.1; rw [l.v_len] at this; exact this
 have HX : Hid (∀ u, Below W.heap.size W u → Box u w.heap.size l.cells 26) := fun u hu => b0.below hu b0.lt
 have hll := hl.len
 simp only [LogA.cells] at *
 have x0 := b0.cell 0 _ rfl
 have x1 := b0.cell 1 _ rfl
 clear b0
 go_enter Tryz.func12, Tryz.ntmps12
 go_wp2_with fail
 rw [hW.out]
 clear hW
 refine C1.mono ?_
 clear C1 x0 x1
 rintro e w1 ⟨t, rfl, hv, ho, hb1⟩
 have HE : Hid (_ ∧ _ ∧ _) := HLV.out t hv.out
 obtain ⟨rt, st, at', ct⟩ := t
 have hrt : rt.length ≤ 1048576 := by have := HE.out.1; simp only at this; omega
 simp only
 obtain ⟨W2, hW2, b2, hb2, hs2⟩ := boxes1 w1 [.slice at' rt.length ct, .int .i64 st] 26
 have k12 : Below W.heap.size W W2 := hb1.trans (hb2.mono hb1.size)
 have hs1 := hb1.size
 have hs2' := hb2.size
 have hlt2 := b2.lt
 have D2 : Below w.heap.size w W2 := hbW.trans (k12.mono hbW.size)
 have o2 : OwnRs W2 W.heap.size w1.heap.size at' ct rt := OwnRs.below ho hb2
 have b12 := b1.below k12 b1.lt
 have C2 := implLogOk_any l W2 (hg.keep D2) (hr.below D2) (LogA.short_wide hl)
 simp only [LogA.cells] at C2
 have y0 := (HX.out W2 k12).cell 0 _ rfl
 have y1 := (HX.out W2 k12).cell 1 _ rfl
 clear hs2 ho hb1 hb2 b1
 go_upto_region 2 with fail
 rw [hW2.out]
 clear hW2
 go_wp2_with fail
 refine C2.mono ?_
 clear C2 y0 y1
 generalize okLog l.v = R at *
 rintro e w3 ⟨rfl, hb3⟩
 have hs3 := hb3.size
 have b23 := b2.below hb3 b2.lt
 have b13 := b12.below hb3 b12.lt
 have o3 := OwnRs.below o2 hb3
 have D3 : Below w.heap.size w w3 := D2.trans (hb3.mono D2.size)
 have k13 : Below W.heap.size W w3 := k12.trans (hb3.mono k12.size)
 clear b2 b12 o2 hb3 D2 k12
 cases R with
 | false =>
  have HV := HNO.out rfl
  have e0 := b23.cell 0 _ rfl
  have e1' := b23.cell 1 _ rfl
  have m0 := b13.cell 0 _ rfl
  have m1 := b13.cell 1 _ rfl
  have mf0 := b13.frozen 0
  have mf1 := b13.frozen 1
  obtain ⟨WF, hWF, bF, hwF, hsF⟩ := box2_fill b13 (.slice at' rt.length ct) (.int .i64 st)
  have q0 := bF.cell 0 _ rfl
  have q1 := bF.cell 1 _ rfl
  have hoF := (o3.within hwF (.inr (by omega))).widen (show w.heap.size ≤ W.heap.size by omega) (show w1.heap.size ≤ WF.heap.size by omega) (Nat.le_refl _)
  have hbF : Below w.heap.size w WF := D3.trans (hwF.below (by omega) (by omega))
  have HF : Hid (_ ∧ _ ∧ _) := ⟨hv.out.trans HV.symm, hoF, hbF⟩
  clear hwF hsF bF hv HV hoF hbF HNO HYES HLV HE hs1 hs2' hs3 hlt2
  go_wp2
  rw [hWF.out]
  exact bodyPost_ret (v := .agg #[.slice at' rt.length ct, .int .i64 st]) (by simp [results, Tryz.results12, go_sem, q0, q1]) rfl ⟨⟨rt, st, at', ct⟩, rfl, HF.out.1, HF.out.2.1, HF.out.2.2⟩
 | true =>
  have HV := HYES.out rfl
  have hsr := HSR.out rfl
  have C3 := logForce_any w1.heap.size 0 [.slice at' rt.length ct, .int .i64 st] 26 at' ct rt.length st n w3 b23 rfl rfl
  have HMM : Hid (min (max st n) (rt.length : Int) = max l.sure (min n l.recs.length)) := by
   have e1 : rt.length = l.recs.length := HE.out.1
   have e2 : st = l.sure := HE.out.2.1
   rw [Hid, e1, e2]
   omega
  go_wp2_with fail
  refine C3.mono ?_
  clear C3
  rintro e W4 ⟨⟨v, rfl⟩, b24, hw4, hs4⟩
  simp only [List.set] at b24
  have hs4a := Nat.le_of_eq hs4
  have hs4b := Nat.le_of_eq hs4.symm
  clear hs4
  have b14 := b13.within hw4 (by omega)
  have o4 := o3.within hw4 (.inl (Nat.le_refl _))
  have D4 : Below w.heap.size w W4 := D3.trans (hw4.below (by omega) (by omega))
  rw [HMM.out] at b24
  clear HMM
  have e0 := b24.cell 0 _ rfl
  have e1' := b24.cell 1 _ rfl
  have m0 := b14.cell 0 _ rfl
  have m1 := b14.cell 1 _ rfl
  have mf0 := b14.frozen 0
  have mf1 := b14.frozen 1
  obtain ⟨WF, hWF, bF, hwF, hsF⟩ := box2_fill b14 (.slice at' rt.length ct) (.int .i64 (max l.sure (min n l.recs.length)))
  have q0 := bF.cell 0 _ rfl
  have q1 := bF.cell 1 _ rfl
  have hoF := (o4.within hwF (.inr (by omega))).widen (show w.heap.size ≤ W.heap.size by omega) (show w1.heap.size ≤ WF.heap.size by omega) (Nat.le_refl _)
  have hbF : Below w.heap.size w WF := D4.trans (hwF.below (by omega) (by omega))
  have HVV : Hid ((⟨rt, max l.sure (min n l.recs.length), at', ct⟩ : LogA).v = forceOf l.v n) := by
   rw [Hid, HV]
   have e3 : rt.map RecA.v = l.v.recs := HE.out.2.2
   simp only [LogA.v] at e3 ⊢
   rw [e3]
  have HF : Hid (_ ∧ _ ∧ _) := ⟨HVV.out, hoF, hbF⟩
  clear hwF hsF bF hv HV hoF hbF HNO HYES HLV HE hs1 hs2' hs3 hlt2 HVV hs4a hs4b hw4
  generalize max l.sure (min n (l.recs.length : Int)) = M at *
  go_wp2
  rw [hWF.out]
  exact bodyPost_ret (v := .agg #[.slice at' rt.length ct, .int .i64 M]) (by simp [results, Tryz.results12, go_sem, q0, q1]) rfl ⟨⟨rt, M, at', ct⟩, rfl, HF.out.1, HF.out.2.1, HF.out.2.2⟩
theorem l5ForceAt_any (B o : Nat) (a : Option Addr) (c m : Nat) (s n : Int) (w : World) (c0 : w.cell? ⟨B, o, none⟩ = some (.slice a m c)) (c1 : w.cell? ⟨B, o + 1, none⟩ = some (.int .i64 s)) (f1 : w.frozen? ⟨B, o + 1, none⟩ = false) :
  Calls Tryz.prog 59 #[.pointer (some ⟨B, o, none⟩), .int .i64 n] w fun e w' => (∃ v, e = .returned v) ∧ ((w' = w ∧ max s (min n (m : Int)) = s) ∨ w' = w.setCell ⟨B, o + 1, none⟩ (.int .i64 (max s (min n (m : Int))))) := by
 by_cases h1 : n > m
 ·by_cases h2 : (m : Int) > s
  ·have HM : Hid (max s (min n (m : Int)) = m) := by rw [Hid]; omega
   go_enter Tryz.func59, Tryz.ntmps59
   go_wp2
   go_end0
   exact ⟨⟨_, rfl⟩, .inr (by rw [HM.out])⟩
  ·have HM : Hid (max s (min n (m : Int)) = s) := by rw [Hid]; omega
   go_enter Tryz.func59, Tryz.ntmps59
   go_wp2
   go_end0
   exact ⟨⟨_, rfl⟩, .inl ⟨rfl, HM.out⟩⟩
 ·by_cases h2 : n > s
  ·have HM : Hid (max s (min n (m : Int)) = n) := by rw [Hid]; omega
   go_enter Tryz.func59, Tryz.ntmps59
   go_wp2
   go_end0
   exact ⟨⟨_, rfl⟩, .inr (by rw [HM.out])⟩
  ·have HM : Hid (max s (min n (m : Int)) = s) := by rw [Hid]; omega
   go_enter Tryz.func59, Tryz.ntmps59
   go_wp2
   go_end0
   exact ⟨⟨_, rfl⟩, .inl ⟨rfl, HM.out⟩⟩
theorem cellsSts_mid (A B : List SeatA) (z z' : SeatA) (i : Nat) (v : Value) (hi : i < 20) (hc : z'.cells = z.cells.set i v) : (cellsSts (A ++ z :: B)).set (A.length * 20 + i) v = cellsSts (A ++ z' :: B) := by
 rw [cellsSts_app, cellsSts_cons, cellsSts_app, cellsSts_cons, List.set_append_right _ _ (by rw [cellsSts_len]; omega), cellsSts_len, show A.length * 20 + i - A.length * 20 = i by omega, List.set_append_left _ _ (by rw [cellsSt_len]; omega), hc]
theorem OwnSts.cellSet {w : World} {lo hi g c : Nat} {A B : List SeatA} {z z' : SeatA} (h : OwnSts w lo hi (some ⟨g, 0, none⟩) c (A ++ z :: B)) (i : Nat) (v : Value) (hi' : i < 20) (hc : z'.cells = z.cells.set i v) (hss : z'.ss = z.ss) :
  OwnSts (w.setCell ⟨g, A.length * 20 + i, none⟩ v) lo hi (some ⟨g, 0, none⟩) c (A ++ z' :: B) ∧ Touch [g] w (w.setCell ⟨g, A.length * 20 + i, none⟩ v) := by
 have hrow := h.row
 obtain ⟨h1, h2⟩ := hrow.stored (A.length * 20 + i) v
 have ht : Touch [g] w (w.setCell ⟨g, A.length * 20 + i, none⟩ v) := Touch.of_grown h2 (fun k hk => by cases hk; simp)
 have hbl : z'.blocks = z.blocks := by unfold SeatA.blocks; rw [hss]
 have hap := h.apart
 have hng : ∀ r ∈ A ++ z :: B, g ∉ r.blocks := fun r hr hk => by
  have := (List.nodup_append.1 hap).2.2 g (by simp [Value.ownBlock]) g (List.mem_flatMap.2 ⟨r, hr, hk⟩)
  exact this rfl
 have hlen : (A ++ z' :: B).length = (A ++ z :: B).length := by simp
 have hz : z'.own w lo hi := by
  have := h.each z (by simp)
  unfold SeatA.own at this ⊢
  rwa [hss]
 refine ⟨⟨?_, ?_, ?_, fun r hr => ?_, ?_⟩, ht⟩
 ·rw [hlen, ← cellsSts_mid A B z z' i v hi' hc]
  exact h1
 ·simpa using h.top
 ·rw [hlen]; exact h.blk
 ·rcases List.mem_append.1 hr with hr | hr
  ·exact (h.each r (by simp [hr])).touch ht (fun k hk hk' => hng r (by simp [hr]) (by rw [← List.mem_singleton.1 hk']; exact hk))
  ·rcases List.mem_cons.1 hr with rfl | hr
   ·exact hz.touch ht (fun k hk hk' => hng z (by simp) (by rw [← hbl, ← List.mem_singleton.1 hk']; exact hk))
   ·exact (h.each r (by simp [hr])).touch ht (fun k hk hk' => hng r (by simp [hr]) (by rw [← List.mem_singleton.1 hk']; exact hk))
 ·rw [hlen]
  simpa [hbl] using hap
theorem nodup_part {A P P' C : List Nat} {n : Nat} (h : (A ++ (P ++ C)).Nodup) (hP : P'.Nodup) (hf : ∀ k ∈ P', k ∈ P ∨ n ≤ k) (hA : ∀ k ∈ A, k < n) (hC : ∀ k ∈ C, k < n) : (A ++ (P' ++ C)).Nodup := by
 simp only [List.nodup_append, List.mem_append] at h ⊢
 obtain ⟨h1, ⟨_, h3, h4⟩, h5⟩ := h
 refine ⟨h1, ⟨hP, h3, fun a ha b hb e => ?_⟩, fun a ha b hb e => ?_⟩
 ·rcases hf a ha with h | h
  ·exact h4 a h b hb e
  ·have := hC b hb; omega
 ·rcases hb with hb | hb
  ·rcases hf b hb with h | h
   ·exact h5 a ha b (.inl h) e
   ·have := hA a ha; omega
  ·exact h5 a ha b (.inr hb) e
abbrev TE : TypeId := 128
structure EngAt (w : World) (E : Nat) (e : EngA) : Prop where
 box : Box w E e.cells TE
 shape : e.shape
 own : e.own w 0 w.heap.size
 off : E ∉ e.blocks
theorem EngAt.below {w w' : World} {E : Nat} {e : EngA} (h : EngAt w E e) (hb : Below w.heap.size w w') : EngAt w' E e :=
 ⟨h.box.below hb h.box.lt, h.shape, (h.own.below hb).widen (Nat.le_refl _) hb.size (Nat.le_refl _), h.off⟩
theorem EngAt.lt {w : World} {E : Nat} {e : EngA} (h : EngAt w E e) : ∀ k ∈ e.blocks, k < w.heap.size := fun k hk => (h.own.blocks_lt k hk).2
theorem EngAt.touch {w w' : World} {E : Nat} {e : EngA} {bl : List Nat} (h : EngAt w E e) (ht : Touch bl w w') (hE : E ∉ bl) (hd : ∀ k ∈ e.blocks, k ∉ bl) : EngAt w' E e :=
 ⟨h.box.touch ht hE, h.shape, (h.own.touch ht hd).widen (Nat.le_refl _) ht.size (Nat.le_refl _), h.off⟩
theorem EngAt.within {w w' : World} {E l r : Nat} {e : EngA} (h : EngAt w E e) (hw : Within l r w w') (hE : ¬ (l ≤ E ∧ E < r)) (hd : ∀ k ∈ e.blocks, ¬ (l ≤ k ∧ k < r)) : EngAt w' E e :=
 h.touch (bl := (List.range r).filter (fun k => decide (l ≤ k))) ⟨hw.os, hw.tape, hw.output, hw.size, fun k hk hn => hw.block k hk (fun hh => hn (by simp [hh.1, hh.2]))⟩ (by simpa [and_comm] using hE) (fun k hk => by have := hd k hk; simpa [and_comm] using this)
def Off (E : Nat) (e : EngA) (B : Nat) : Prop := B ≠ E ∧ B ∉ e.blocks
theorem EngAt.new {w : World} {E B : Nat} {e : EngA} (h : EngAt w E e) (hB : w.heap.size ≤ B) : Off E e B :=
 ⟨by have := h.box.lt; omega, fun hk => by have := h.lt B hk; omega⟩
structure EngStep (E : Nat) (e : EngA) (w : World) (e' : EngA) (w' : World) : Prop where
 at' : EngAt w' E e'
 touch : Touch (E :: e.blocks) w w'
 fresh : ∀ k ∈ e'.blocks, k ∈ e.blocks ∨ w.heap.size ≤ k
theorem EngStep.size {E : Nat} {e e' : EngA} {w w' : World} (s : EngStep E e w e' w') : w.heap.size ≤ w'.heap.size := s.touch.size
theorem EngStep.refl {E : Nat} {e : EngA} {w : World} (h : EngAt w E e) : EngStep E e w e w := ⟨h, Touch.refl _ _, fun _ hk => .inl hk⟩
theorem EngStep.trans {E : Nat} {e e1 e2 : EngA} {w w1 w2 : World} (s : EngStep E e w e1 w1) (t : EngStep E e1 w1 e2 w2) : EngStep E e w e2 w2 := by
 refine ⟨t.at', ⟨t.touch.os.trans s.touch.os, t.touch.tape.trans s.touch.tape, t.touch.output.trans s.touch.output, Nat.le_trans s.size t.size, fun k hk hn => ?_⟩, fun k hk => ?_⟩
 ·have hn1 : k ∉ E :: e1.blocks := fun h => by
   rcases List.mem_cons.1 h with h | h
   ·exact hn (by simp [h])
   ·rcases s.fresh k h with h | h
    ·exact hn (List.mem_cons_of_mem _ h)
    ·omega
  exact (t.touch.block k (Nat.lt_of_lt_of_le hk s.size) hn1).trans (s.touch.block k hk hn)
 ·rcases t.fresh k hk with h | h
  ·exact s.fresh k h
  ·exact .inr (Nat.le_trans s.size h)
theorem EngStep.below {E : Nat} {e e' : EngA} {w w' w'' : World} (s : EngStep E e w e' w') (hb : Below w'.heap.size w' w'') : EngStep E e w e' w'' :=
 ⟨s.at'.below hb, s.touch.trans (Touch.of_below hb), s.fresh⟩
theorem EngStep.after {E : Nat} {e e' : EngA} {w0 w w' : World} (hb : Below w0.heap.size w0 w) (s : EngStep E e w e' w') : EngStep E e w0 e' w' :=
 ⟨s.at', (Touch.of_below hb).trans s.touch, fun k hk => (s.fresh k hk).imp id (Nat.le_trans hb.size)⟩
theorem EngStep.off {E B : Nat} {e e' : EngA} {w w' : World} (s : EngStep E e w e' w') (hB : B < w.heap.size) (ho : Off E e B) : Off E e' B :=
 ⟨ho.1, fun hk => (s.fresh B hk).elim ho.2 (fun h => by omega)⟩
theorem EngStep.block {E B : Nat} {e e' : EngA} {w w' : World} (s : EngStep E e w e' w') (hB : B < w.heap.size) (ho : Off E e B) : w'.heap[B]? = w.heap[B]? :=
 s.touch.block B hB (fun h => (List.mem_cons.1 h).elim ho.1 ho.2)
theorem EngStep.boxes {E B : Nat} {e e' : EngA} {w w' : World} {vs : List Value} {t : TypeId} (s : EngStep E e w e' w') (b : Box w B vs t) (ho : Off E e B) : Box w' B vs t := b.block (s.block b.lt ho)
theorem EngA.mem_disk {e : EngA} {k : Nat} (h : k ∈ e.diskBl) : k ∈ e.blocks := by simp only [EngA.blocks, List.mem_append]; exact .inl h
theorem EngA.mem_pool {e : EngA} {k : Nat} (h : k ∈ blocksSts e.aS e.cS e.seats) : k ∈ e.blocks := by simp only [EngA.blocks, List.mem_append]; exact .inr (.inl h)
theorem EngA.mem_log {e : EngA} {k : Nat} (h : k ∈ blocksRs e.log.a e.log.c e.log.recs) : k ∈ e.blocks := by simp only [EngA.blocks, List.mem_append]; exact .inr (.inr (.inl h))
theorem EngA.mem_txs {e : EngA} {k : Nat} (h : k ∈ rowOf e.aT e.txs.length e.cT) : k ∈ e.blocks := by simp only [EngA.blocks, List.mem_append]; exact .inr (.inr (.inr (.inl h)))
theorem EngA.mem_holds {e : EngA} {k : Nat} (h : k ∈ rowOf e.aH e.holds.length e.cH) : k ∈ e.blocks := by simp only [EngA.blocks, List.mem_append]; exact .inr (.inr (.inr (.inr h)))
theorem rowOf_nodup (a : Option Addr) (n c : Nat) : (rowOf a n c).Nodup := by unfold rowOf; cases (Value.slice a n c).ownBlock <;> simp
structure EngA.apartAll (e : EngA) : Prop where
 dp : ∀ k ∈ e.diskBl, k ∉ blocksSts e.aS e.cS e.seats
 dl : ∀ k ∈ e.diskBl, k ∉ blocksRs e.log.a e.log.c e.log.recs
 dt : ∀ k ∈ e.diskBl, k ∉ rowOf e.aT e.txs.length e.cT
 dh : ∀ k ∈ e.diskBl, k ∉ rowOf e.aH e.holds.length e.cH
 pl : ∀ k ∈ blocksSts e.aS e.cS e.seats, k ∉ blocksRs e.log.a e.log.c e.log.recs
 pt : ∀ k ∈ blocksSts e.aS e.cS e.seats, k ∉ rowOf e.aT e.txs.length e.cT
 ph : ∀ k ∈ blocksSts e.aS e.cS e.seats, k ∉ rowOf e.aH e.holds.length e.cH
 lt : ∀ k ∈ blocksRs e.log.a e.log.c e.log.recs, k ∉ rowOf e.aT e.txs.length e.cT
 lh : ∀ k ∈ blocksRs e.log.a e.log.c e.log.recs, k ∉ rowOf e.aH e.holds.length e.cH
 th : ∀ k ∈ rowOf e.aT e.txs.length e.cT, k ∉ rowOf e.aH e.holds.length e.cH
theorem EngA.apart_of {e : EngA} (h : e.blocks.Nodup) : e.apartAll := by
 simp only [EngA.blocks, List.nodup_append, List.mem_append] at h
 obtain ⟨_, ⟨_, ⟨_, ⟨_, _, h4⟩, h3⟩, h2⟩, h1⟩ := h
 exact ⟨fun k a b => h1 k a k (.inl b) rfl, fun k a b => h1 k a k (.inr (.inl b)) rfl, fun k a b => h1 k a k (.inr (.inr (.inl b))) rfl, fun k a b => h1 k a k (.inr (.inr (.inr b))) rfl, fun k a b => h2 k a k (.inl b) rfl, fun k a b => h2 k a k (.inr (.inl b)) rfl, fun k a b => h2 k a k (.inr (.inr b)) rfl, fun k a b => h3 k a k (.inl b) rfl, fun k a b => h3 k a k (.inr b) rfl, fun k a b => h4 k a k b rfl⟩
theorem EngAt.apart {w : World} {E : Nat} {e : EngA} (h : EngAt w E e) : e.apartAll := EngA.apart_of h.own.apart
theorem not_part {E k : Nat} {P : List Nat} (h1 : k ≠ E) (h2 : k ∉ P) : k ∉ E :: P := fun h => (List.mem_cons.1 h).elim h1 h2
def EngA.withPool (e : EngA) (ss : List SeatA) (a : Option Addr) (c : Nat) (hand : Int) : EngA := { e with seats := ss, aS := a, cS := c, hand := hand }
theorem EngAt.pool {w w' : World} {E : Nat} {e : EngA} (h : EngAt w E e) (ss : List SeatA) (a : Option Addr) (c : Nat) (hand : Int) (bx : Box w' E (e.withPool ss a c hand).cells TE) (ho : OwnSts w' 0 w'.heap.size a c ss)
  (ht : Touch (E :: blocksSts e.aS e.cS e.seats) w w') (hf : ∀ k ∈ blocksSts a c ss, k ∈ blocksSts e.aS e.cS e.seats ∨ w.heap.size ≤ k) : EngStep E e w (e.withPool ss a c hand) w' := by
 have ap := h.apart
 have hE : ∀ k ∈ e.blocks, k ≠ E := fun k hk he => h.off (he ▸ hk)
 have W : ∀ {lo hi : Nat}, hi ≤ w.heap.size → hi ≤ w'.heap.size := fun hh => Nat.le_trans hh ht.size
 refine ⟨⟨bx, ⟨h.shape.eight, h.shape.four⟩, ⟨?_, ho, ?_, ?_, ?_, ?_⟩, ?_⟩, ?_, ?_⟩
 ·exact (h.own.disk.touch ht (fun k hk => not_part (hE k (EngA.mem_disk hk)) (ap.dp k hk))).widen (Nat.le_refl _) ht.size (Nat.le_refl _)
 ·exact (h.own.log.touch ht (fun k hk => not_part (hE k (EngA.mem_log hk)) (fun hp => ap.pl k hp hk))).widen (Nat.le_refl _) ht.size (Nat.le_refl _)
 ·exact (h.own.txs.touch ht (fun k hk => not_part (hE k (EngA.mem_txs (Option.mem_toList.2 hk))) (fun hp => ap.pt k hp (Option.mem_toList.2 hk)))).widen (Nat.le_refl _) ht.size (Nat.le_refl _)
 ·exact (h.own.holds.touch ht (fun k hk => not_part (hE k (EngA.mem_holds (Option.mem_toList.2 hk))) (fun hp => ap.ph k hp (Option.mem_toList.2 hk)))).widen (Nat.le_refl _) ht.size (Nat.le_refl _)
 ·exact nodup_part h.own.apart ho.apart hf (fun k hk => h.lt k (EngA.mem_disk hk)) (fun k hk => h.lt k (by simp only [EngA.blocks, List.mem_append] at hk ⊢; exact .inr (.inr hk)))
 ·intro hk
  simp only [EngA.blocks, EngA.withPool, List.mem_append] at hk
  have hlt := h.box.lt
  have hoff := h.off
  simp only [EngA.blocks, List.mem_append] at hoff
  rcases hk with hk | hk | hk
  ·exact hoff (.inl hk)
  ·rcases hf E hk with hk | hk
   ·exact hoff (.inr (.inl hk))
   ·omega
  ·exact hoff (.inr (.inr hk))
 ·exact ht.mono (fun k hk => (List.mem_cons.1 hk).elim (fun h => by simp [h]) (fun h => List.mem_cons_of_mem _ (EngA.mem_pool h)))
 ·intro k hk
  simp only [EngA.blocks, EngA.withPool, List.mem_append] at hk ⊢
  rcases hk with hk | hk | hk
  ·exact .inl (.inl hk)
  ·rcases hf k hk with h | h
   ·exact .inl (.inr (.inl h))
   ·exact .inr h
  ·exact .inl (.inr (.inr hk))
def EngA.withLog (e : EngA) (l : LogA) : EngA := { e with log := l }
theorem EngAt.logs {w w' : World} {E : Nat} {e : EngA} (h : EngAt w E e) (l : LogA) (bx : Box w' E (e.withLog l).cells TE) (ho : OwnRs w' 0 w'.heap.size l.a l.c l.recs)
  (ht : Touch (E :: blocksRs e.log.a e.log.c e.log.recs) w w') (hf : ∀ k ∈ blocksRs l.a l.c l.recs, k ∈ blocksRs e.log.a e.log.c e.log.recs ∨ w.heap.size ≤ k) : EngStep E e w (e.withLog l) w' := by
 have ap := h.apart
 have hE : ∀ k ∈ e.blocks, k ≠ E := fun k hk he => h.off (he ▸ hk)
 refine ⟨⟨bx, ⟨h.shape.eight, h.shape.four⟩, ⟨?_, ?_, ho, ?_, ?_, ?_⟩, ?_⟩, ?_, ?_⟩
 ·exact (h.own.disk.touch ht (fun k hk => not_part (hE k (EngA.mem_disk hk)) (ap.dl k hk))).widen (Nat.le_refl _) ht.size (Nat.le_refl _)
 ·exact (h.own.pool.touch ht (fun k hk => not_part (hE k (EngA.mem_pool hk)) (fun hp => ap.pl k hk hp))).widen (Nat.le_refl _) ht.size (Nat.le_refl _)
 ·exact (h.own.txs.touch ht (fun k hk => not_part (hE k (EngA.mem_txs (Option.mem_toList.2 hk))) (fun hp => ap.lt k hp (Option.mem_toList.2 hk)))).widen (Nat.le_refl _) ht.size (Nat.le_refl _)
 ·exact (h.own.holds.touch ht (fun k hk => not_part (hE k (EngA.mem_holds (Option.mem_toList.2 hk))) (fun hp => ap.lh k hp (Option.mem_toList.2 hk)))).widen (Nat.le_refl _) ht.size (Nat.le_refl _)
 ·have h1 := h.own.apart
  simp only [EngA.blocks, EngA.withLog] at h1 ⊢
  rw [← List.append_assoc] at h1 ⊢
  exact nodup_part h1 ho.apart hf (fun k hk => h.lt k (by simp only [EngA.blocks, List.mem_append] at hk ⊢; exact hk.elim .inl (fun h => .inr (.inl h)))) (fun k hk => h.lt k (by simp only [EngA.blocks, List.mem_append] at hk ⊢; exact .inr (.inr (.inr hk))))
 ·intro hk
  simp only [EngA.blocks, EngA.withLog, List.mem_append] at hk
  have hlt := h.box.lt
  have hoff := h.off
  simp only [EngA.blocks, List.mem_append] at hoff
  rcases hk with hk | hk | hk | hk
  ·exact hoff (.inl hk)
  ·exact hoff (.inr (.inl hk))
  ·rcases hf E hk with hk | hk
   ·exact hoff (.inr (.inr (.inl hk)))
   ·omega
  ·exact hoff (.inr (.inr (.inr hk)))
 ·exact ht.mono (fun k hk => (List.mem_cons.1 hk).elim (fun h => by simp [h]) (fun h => List.mem_cons_of_mem _ (EngA.mem_log h)))
 ·intro k hk
  simp only [EngA.blocks, EngA.withLog, List.mem_append] at hk ⊢
  rcases hk with hk | hk | hk | hk
  ·exact .inl (.inl hk)
  ·exact .inl (.inr (.inl hk))
  ·rcases hf k hk with h | h
   ·exact .inl (.inr (.inr (.inl h)))
   ·exact .inr h
  ·exact .inl (.inr (.inr (.inr hk)))
def EngA.withTxs (e : EngA) (ls : List LiveV) (a : Option Addr) (c : Nat) : EngA := { e with txs := ls, aT := a, cT := c }
theorem EngAt.lives {w w' : World} {E : Nat} {e : EngA} (h : EngAt w E e) (ls : List LiveV) (a : Option Addr) (c : Nat) (bx : Box w' E (e.withTxs ls a c).cells TE) (ho : OwnL w' 0 w'.heap.size a c ls)
  (ht : Touch (E :: rowOf e.aT e.txs.length e.cT) w w') (hf : ∀ k ∈ rowOf a ls.length c, k ∈ rowOf e.aT e.txs.length e.cT ∨ w.heap.size ≤ k) : EngStep E e w (e.withTxs ls a c) w' := by
 have ap := h.apart
 have hE : ∀ k ∈ e.blocks, k ≠ E := fun k hk he => h.off (he ▸ hk)
 refine ⟨⟨bx, ⟨h.shape.eight, h.shape.four⟩, ⟨?_, ?_, ?_, ho, ?_, ?_⟩, ?_⟩, ?_, ?_⟩
 ·exact (h.own.disk.touch ht (fun k hk => not_part (hE k (EngA.mem_disk hk)) (ap.dt k hk))).widen (Nat.le_refl _) ht.size (Nat.le_refl _)
 ·exact (h.own.pool.touch ht (fun k hk => not_part (hE k (EngA.mem_pool hk)) (ap.pt k hk))).widen (Nat.le_refl _) ht.size (Nat.le_refl _)
 ·exact (h.own.log.touch ht (fun k hk => not_part (hE k (EngA.mem_log hk)) (ap.lt k hk))).widen (Nat.le_refl _) ht.size (Nat.le_refl _)
 ·exact (h.own.holds.touch ht (fun k hk => not_part (hE k (EngA.mem_holds (Option.mem_toList.2 hk))) (fun hp => ap.th k hp (Option.mem_toList.2 hk)))).widen (Nat.le_refl _) ht.size (Nat.le_refl _)
 ·have h1 := h.own.apart
  simp only [EngA.blocks, EngA.withTxs] at h1 ⊢
  rw [← List.append_assoc, ← List.append_assoc] at h1 ⊢
  exact nodup_part h1 (rowOf_nodup _ _ _) hf (fun k hk => h.lt k (by simp only [EngA.blocks, List.mem_append] at hk ⊢; rcases hk with (hk | hk) | hk; exact .inl hk; exact .inr (.inl hk); exact .inr (.inr (.inl hk)))) (fun k hk => h.lt k (EngA.mem_holds hk))
 ·intro hk
  simp only [EngA.blocks, EngA.withTxs, List.mem_append] at hk
  have hlt := h.box.lt
  have hoff := h.off
  simp only [EngA.blocks, List.mem_append] at hoff
  rcases hk with hk | hk | hk | hk | hk
  ·exact hoff (.inl hk)
  ·exact hoff (.inr (.inl hk))
  ·exact hoff (.inr (.inr (.inl hk)))
  ·rcases hf E hk with hk | hk
   ·exact hoff (.inr (.inr (.inr (.inl hk))))
   ·omega
  ·exact hoff (.inr (.inr (.inr (.inr hk))))
 ·exact ht.mono (fun k hk => (List.mem_cons.1 hk).elim (fun h => by simp [h]) (fun h => List.mem_cons_of_mem _ (EngA.mem_txs h)))
 ·intro k hk
  simp only [EngA.blocks, EngA.withTxs, List.mem_append] at hk ⊢
  rcases hk with hk | hk | hk | hk | hk
  ·exact .inl (.inl hk)
  ·exact .inl (.inr (.inl hk))
  ·exact .inl (.inr (.inr (.inl hk)))
  ·rcases hf k hk with h | h
   ·exact .inl (.inr (.inr (.inr (.inl h))))
   ·exact .inr h
  ·exact .inl (.inr (.inr (.inr (.inr hk))))
def EngA.withHolds (e : EngA) (ls : List HoldV) (a : Option Addr) (c : Nat) : EngA := { e with holds := ls, aH := a, cH := c }
theorem EngAt.held {w w' : World} {E : Nat} {e : EngA} (h : EngAt w E e) (ls : List HoldV) (a : Option Addr) (c : Nat) (bx : Box w' E (e.withHolds ls a c).cells TE) (ho : OwnH w' 0 w'.heap.size a c ls)
  (ht : Touch (E :: rowOf e.aH e.holds.length e.cH) w w') (hf : ∀ k ∈ rowOf a ls.length c, k ∈ rowOf e.aH e.holds.length e.cH ∨ w.heap.size ≤ k) : EngStep E e w (e.withHolds ls a c) w' := by
 have ap := h.apart
 have hE : ∀ k ∈ e.blocks, k ≠ E := fun k hk he => h.off (he ▸ hk)
 refine ⟨⟨bx, ⟨h.shape.eight, h.shape.four⟩, ⟨?_, ?_, ?_, ?_, ho, ?_⟩, ?_⟩, ?_, ?_⟩
 ·exact (h.own.disk.touch ht (fun k hk => not_part (hE k (EngA.mem_disk hk)) (ap.dh k hk))).widen (Nat.le_refl _) ht.size (Nat.le_refl _)
 ·exact (h.own.pool.touch ht (fun k hk => not_part (hE k (EngA.mem_pool hk)) (ap.ph k hk))).widen (Nat.le_refl _) ht.size (Nat.le_refl _)
 ·exact (h.own.log.touch ht (fun k hk => not_part (hE k (EngA.mem_log hk)) (ap.lh k hk))).widen (Nat.le_refl _) ht.size (Nat.le_refl _)
 ·exact (h.own.txs.touch ht (fun k hk => not_part (hE k (EngA.mem_txs (Option.mem_toList.2 hk))) (ap.th k (Option.mem_toList.2 hk)))).widen (Nat.le_refl _) ht.size (Nat.le_refl _)
 ·have h1 := h.own.apart
  simp only [EngA.blocks, EngA.withHolds] at h1 ⊢
  rw [← List.append_assoc, ← List.append_assoc, ← List.append_assoc] at h1 ⊢
  have h2 := nodup_part (C := []) (n := w.heap.size) (by rw [List.append_nil]; exact h1) (rowOf_nodup a ls.length c) hf (fun k hk => h.lt k (by simp only [EngA.blocks, List.mem_append] at hk ⊢; rcases hk with ((hk | hk) | hk) | hk; exact .inl hk; exact .inr (.inl hk); exact .inr (.inr (.inl hk)); exact .inr (.inr (.inr (.inl hk))))) (by simp)
  rw [List.append_nil] at h2
  exact h2
 ·intro hk
  simp only [EngA.blocks, EngA.withHolds, List.mem_append] at hk
  have hlt := h.box.lt
  have hoff := h.off
  simp only [EngA.blocks, List.mem_append] at hoff
  rcases hk with hk | hk | hk | hk | hk
  ·exact hoff (.inl hk)
  ·exact hoff (.inr (.inl hk))
  ·exact hoff (.inr (.inr (.inl hk)))
  ·exact hoff (.inr (.inr (.inr (.inl hk))))
  ·rcases hf E hk with hk | hk
   ·exact hoff (.inr (.inr (.inr (.inr hk))))
   ·omega
 ·exact ht.mono (fun k hk => (List.mem_cons.1 hk).elim (fun h => by simp [h]) (fun h => List.mem_cons_of_mem _ (EngA.mem_holds h)))
 ·intro k hk
  simp only [EngA.blocks, EngA.withHolds, List.mem_append] at hk ⊢
  rcases hk with hk | hk | hk | hk | hk
  ·exact .inl (.inl hk)
  ·exact .inl (.inr (.inl hk))
  ·exact .inl (.inr (.inr (.inl hk)))
  ·exact .inl (.inr (.inr (.inr (.inl hk))))
  ·rcases hf k hk with h | h
   ·exact .inl (.inr (.inr (.inr (.inr h))))
   ·exact .inr h
def EngA.withDisk (e : EngA) (ps : List PageA) : EngA := { e with disk := ps }
def zeroStV : SeatV := zeroSt.v
def coldV (s : SeatV) : SeatV := { s with hot := false }
def victimV : Nat → List SeatV → Nat → List SeatV × Nat × Nat
 | 0, ss, h => (ss, h, 0)
 | n + 1, ss, h => if (ss.getD h zeroStV).hot = true then victimV n (ss.set h (coldV (ss.getD h zeroStV))) ((h + 1) % 3) else (ss, (h + 1) % 3, h)
def hots (ss : List SeatV) : Nat := (ss.filter (·.hot)).length
def SeatA.cold (s : SeatA) : SeatA := { s with hot := false }
theorem cold_v (s : SeatA) : s.cold.v = coldV s.v := rfl
theorem seatV_at (ls : List SeatA) (k : Nat) : (ls.map SeatA.v).getD k zeroStV = (ls.getD k zeroSt).v := by
 simp only [List.getD, List.getElem?_map]
 cases ls[k]? <;> rfl
theorem seat_set (ls : List SeatA) (k : Nat) (s : SeatA) (hk : k < ls.length) : ls.set k s = ls.take k ++ s :: ls.drop (k + 1) := by
 rw [List.set_eq_take_append_cons_drop, if_pos hk]
theorem hots_set (ls : List SeatV) (k : Nat) (hk : k < ls.length) (hh : (ls.getD k zeroStV).hot = true) : hots (ls.set k (coldV (ls.getD k zeroStV))) + 1 = hots ls := by
 induction ls generalizing k with
 | nil => simp at hk
 | cons s r ih =>
  cases k with
  | zero =>
   simp only [List.getD_cons_zero] at hh
   simp [hots, coldV, hh]
  | succ k =>
   simp only [List.getD_cons_succ] at hh ⊢
   have := ih k (by simpa using hk) hh
   simp only [hots, List.set_cons_succ, List.filter_cons] at this ⊢
   split <;> simp_all <;> omega
theorem hots_le (ls : List SeatV) : hots ls ≤ ls.length := List.length_filter_le _ _
theorem victim_len (n : Nat) (ls : List SeatV) (h : Nat) : (victimV n ls h).1.length = ls.length := by
 induction n generalizing ls h with
 | zero => rfl
 | succ n ih =>
  rw [victimV]
  split
  ·rw [ih]; simp
  ·rfl
theorem victim_hand (n : Nat) (ls : List SeatV) (h : Nat) (hh : h < 3) : (victimV n ls h).2.1 < 3 ∧ (victimV n ls h).2.2 < 3 := by
 induction n generalizing ls h with
 | zero => exact ⟨hh, by show 0 < 3; omega⟩
 | succ n ih =>
  rw [victimV]
  split
  ·exact ih _ _ (Nat.mod_lt _ (by omega))
  ·exact ⟨Nat.mod_lt _ (by omega), hh⟩
theorem victim_step (n : Nat) (ts : List SeatA) (k : Nat) : victimV (n + 1) (ts.map SeatA.v) k = if (ts.getD k zeroSt).hot = true then victimV n ((ts.map SeatA.v).set k (coldV (ts.getD k zeroSt).v)) ((k + 1) % 3) else (ts.map SeatA.v, (k + 1) % 3, k) := by
 rw [victimV, seatV_at]
 rfl
structure PoolAt (w : World) (lo hi B o : Nat) (vs : List Value) (t : TypeId) (a : Option Addr) (c : Nat) (ss : List SeatA) (hand : Int) : Prop where
 box : Box w B vs t
 c0 : vs[o]? = some (.slice a ss.length c)
 c1 : vs[o + 1]? = some (.int .i64 hand)
 own : OwnSts w lo hi a c ss
 off : B ∉ blocksSts a c ss
theorem blocksSts_len {a : Option Addr} {c n : Nat} {ss ts : List SeatA} (h : ss.length = n) (h2 : ts.length = n) (hb : ss.flatMap SeatA.blocks = ts.flatMap SeatA.blocks) : blocksSts a c ss = blocksSts a c ts := by
 unfold blocksSts; rw [h, h2, hb]
theorem cold_blocks (ls : List SeatA) (k : Nat) (hk : k < ls.length) : (ls.set k (ls.getD k zeroSt).cold).flatMap SeatA.blocks = ls.flatMap SeatA.blocks := by
 rw [seat_set _ _ _ hk]
 conv => rhs; rw [seatD_split ls k hk]
 simp only [List.flatMap_append, List.flatMap_cons]
 rfl
theorem l6Victim_any (lo hi B o : Nat) (vs : List Value) (t : TypeId) (a : Option Addr) (c : Nat) (ss : List SeatA) (h : Nat) (w : World) (hp : PoolAt w lo hi B o vs t a c ss h) (h3 : ss.length = 3) (hh : h < 3) :
  Calls Tryz.prog 138 #[.pointer (some ⟨B, o, none⟩)] w fun r w' => ∃ (ts : List SeatA) (k hand : Nat), r = .returned (.int .i64 k) ∧ Hid (victimV 4 (ss.map SeatA.v) h = (ts.map SeatA.v, hand, k)) ∧ ts.length = 3 ∧ PoolAt w' lo hi B o (vs.set (o + 1) (.int .i64 hand)) t a c ts hand ∧ Hid (blocksSts a c ts = blocksSts a c ss) ∧ Touch (B :: blocksSts a c ss) w w' := by
 have hv1 : o + 1 < vs.length := (List.getElem?_eq_some_iff.1 hp.c1).1
 go_enter Tryz.func138, Tryz.ntmps138
 go_wp2_with fail
 go_loopg [2] 4 (fun n v wr => ∃ (ts : List SeatA) (k : Nat), v = .int .i64 0 ∧ k < 3 ∧ ts.length = 3 ∧ PoolAt wr lo hi B o (vs.set (o + 1) (.int .i64 (k : Int))) t a c ts k ∧ Hid (victimV 4 (ss.map SeatA.v) h = victimV n (ts.map SeatA.v) k) ∧ hots (ts.map SeatA.v) < n ∧ Hid (blocksSts a c ts = blocksSts a c ss) ∧ Touch (B :: blocksSts a c ss) w wr)
 case atStart =>
  have e : vs.set (o + 1) (.int .i64 (h : Int)) = vs := by
   obtain ⟨_, hg⟩ := List.getElem?_eq_some_iff.1 hp.c1
   rw [← hg]; simp
  refine ⟨ss, h, rfl, hh, h3, by rw [e]; exact hp, rfl, ?_, rfl, Touch.refl _ _⟩
  have := hots_le (ss.map SeatA.v)
  rw [List.length_map] at this
  omega
 case round =>
  obtain ⟨ts, k, rfl, hk, hlen, pt, hv, hhot, hbl, htc⟩ := hrel
  clear hp h3 hh
  have vlen : (vs.set (o + 1) (.int .i64 (k : Int))).length = vs.length := by simp
  have x1 : wr.cell? ⟨B, o + 1, none⟩ = some (.int .i64 (k : Int)) := pt.box.cell (o + 1) _ pt.c1
  have f1 := pt.box.frozen (o + 1)
  obtain ⟨g, rfl⟩ : ∃ g, a = some ⟨g, 0, none⟩ := by
   rcases pt.own.row.2 with ⟨_, h0⟩ | ⟨g, cap', cur, hv, _⟩
   ·omega
   ·simp only [Value.slice.injEq] at hv; exact ⟨g, hv.1⟩
  have hmem : g ∈ blocksSts (some ⟨g, 0, none⟩) c ts := by simp [blocksSts, Value.ownBlock]
  have hgB : B ≠ g := fun e => pt.off (e ▸ hmem)
  obtain ⟨W1, hW1, b1, hw1, hs1⟩ := box_set pt.box (o + 1) (.int .i64 (((k + 1) % 3 : Nat) : Int))
  rw [List.set_set] at b1
  have t1 : Touch [B] wr W1 := ⟨hw1.os, hw1.tape, hw1.output, hw1.size, fun j hj hn => hw1.block j hj (fun hh => hn (by simp; omega))⟩
  have o1 : OwnSts W1 lo hi (some ⟨g, 0, none⟩) c ts := pt.own.touch t1 (fun j hj hh => pt.off (by rw [← List.mem_singleton.1 hh]; exact hj))
  have c0 : (vs.set (o + 1) (.int .i64 (((k + 1) % 3 : Nat) : Int)))[o]? = some (.slice (some ⟨g, 0, none⟩) ts.length c) := by
   have := pt.c0
   rw [List.getElem?_set_ne (by omega)] at this ⊢
   exact this
  have c1 : (vs.set (o + 1) (.int .i64 (((k + 1) % 3 : Nat) : Int)))[o + 1]? = some (.int .i64 (((k + 1) % 3 : Nat) : Int)) := List.getElem?_set_self hv1
  have y0 := b1.cell o _ c0
  have C0 : Hid (_ = _) := c0
  have C1 : Hid (_ = _) := c1
  have r1 := (row_seat o1.row rfl k (by omega)).1 19 _ (show (ts.getD k zeroSt).cells[19]? = some (.bool (ts.getD k zeroSt).hot) from rfl)
  have rf1 := o1.row.frozenAt (k * 20 + 19)
  have HT1 : Hid (Touch (B :: blocksSts (some ⟨g, 0, none⟩) c ss) w W1) := htc.trans (t1.mono (by simp))
  have hoff : B ∉ blocksSts (some ⟨g, 0, none⟩) c ts := pt.off
  have HST : Hid (victimV 4 (ss.map SeatA.v) h = victimV gk (ts.map SeatA.v) k) := hv
  have hkb : (k : Int) < (ts.length : Int) := by omega
  have hk0 : (0 : Int) ≤ (k : Int) := by omega
  have HM : Hid (wr.setCell ⟨B, o + 1, none⟩ (.int .i64 (((k + 1) % 3 : Nat) : Int)) = W1) := hW1
  have HMOD : Hid (((k : Int) + 1) % 3 = (((k + 1) % 3 : Nat) : Int)) := by rw [Hid]; omega
  have hl1 : ts.length ≤ 3 := by omega
  have hl2 : 3 ≤ ts.length := by omega
  clear hW1 hw1 hs1 t1 pt hv htc vlen c0 c1 hlen hv1
  cases gk with
  | zero => exact absurd hhot (Nat.not_lt_zero _)
  | succ n =>
   have HST2 : Hid (victimV 4 (ss.map SeatA.v) h = if (ts.getD k zeroSt).hot = true then victimV n ((ts.map SeatA.v).set k (coldV (ts.getD k zeroSt).v)) ((k + 1) % 3) else (ts.map SeatA.v, (k + 1) % 3, k)) := by
    rw [Hid, HST.out]
    exact victim_step n ts k
   go_upto_region 3 with fail
   rw [HMOD.out, HM.out]
   clear HM HMOD HST x1 f1
   generalize hz : ts.getD k zeroSt = z at *
   cases hht : z.hot with
   | true =>
    rw [hht] at r1
    obtain ⟨o2, t2⟩ := OwnSts.cellSet (A := ts.take k) (z := z) (B := ts.drop (k + 1)) (z' := z.cold) (by rw [← hz, ← seatD_split ts k (by omega)]; exact o1) 19 (.bool false) (by omega) rfl rfl
    have hkl : (ts.take k).length = k := by rw [List.length_take]; omega
    rw [hkl, ← seat_set ts k _ (by omega)] at o2
    rw [hkl] at t2
    obtain ⟨W2, hW2⟩ : ∃ W2, Hid (W1.setCell ⟨g, k * 20 + 19, none⟩ (.bool false) = W2) := ⟨_, rfl⟩
    rw [hW2.out] at o2 t2
    have HO2 : Hid (_) := o2
    have b2 := b1.touch t2 (by simpa using hgB)
    have HST3 : Hid (victimV 4 (ss.map SeatA.v) h = victimV n ((ts.map SeatA.v).set k (coldV z.v)) ((k + 1) % 3)) := by
     have := HST2.out; rw [hht, if_pos rfl] at this; exact this
    have HH : Hid (hots ((ts.set k z.cold).map SeatA.v) < n) := by
     have e := hots_set (ts.map SeatA.v) k (by rw [List.length_map]; omega) (by rw [seatV_at, hz]; exact hht)
     rw [seatV_at, hz] at e
     rw [Hid, List.map_set, cold_v]
     omega
    have HB2 : Hid (blocksSts (some ⟨g, 0, none⟩) c (ts.set k z.cold) = blocksSts (some ⟨g, 0, none⟩) c ss) := by
     rw [Hid, ← hbl.out]
     have e := cold_blocks ts k (by omega)
     rw [hz] at e
     exact blocksSts_len (n := ts.length) (by simp) rfl e
    have HT2 : Hid (Touch (B :: blocksSts (some ⟨g, 0, none⟩) c ss) w W2) := HT1.out.trans (t2.mono (fun j hj => List.mem_cons_of_mem _ (by rw [← hbl.out, List.mem_singleton.1 hj]; exact hmem)))
    clear o1 o2 t2 HST2 hz HT1 hhot
    go_wp2_with fail
    rw [hW2.out]
    go_roundg n
    case measure => omega
    case rel => exact ⟨ts.set k z.cold, (k + 1) % 3, rfl, Nat.mod_lt _ (by omega), by rw [List.length_set]; omega, ⟨b2, by rw [List.length_set]; exact C0.out, C1.out, HO2.out, by rw [HB2.out, ← hbl.out]; exact hoff⟩, by rw [Hid, HST3.out, List.map_set, cold_v], HH.out, HB2, HT2.out⟩
   | false =>
    rw [hht] at r1
    have HST3 : Hid (victimV 4 (ss.map SeatA.v) h = (ts.map SeatA.v, (k + 1) % 3, k)) := by
     have := HST2.out; rw [hht, if_neg (by decide)] at this; exact this
    have HO1 : Hid (_) := o1
    clear HST2 hz o1
    go_wp2_with fail
    go_ret
    exact ⟨ts, k, (k + 1) % 3, rfl, HST3, by omega, ⟨b1, C0.out, C1.out, HO1.out, hoff⟩, hbl, HT1.out⟩
theorem build_seat {w : World} {ops : Array Oper} {rest : List Oper} {dst : Option Nat} {ty : TypeId} {pos : String} {aft : Array Edge} {act : Act} {Q : Exit → Act → World → Prop} (x y : Operand) (no lsn : Int) (a b c d : SlotA)
  (hx : act.eval x = .int .i64 no) (hy : act.eval y = .agg (PageA.cells ⟨lsn, [a, b, c, d]⟩).toArray)
  (h : wpList Tryz.prog ops Q rest (act.put dst (.agg (SeatA.cells ⟨no, lsn, a, b, c, d, false, true⟩).toArray)) w) :
  wpList Tryz.prog ops Q ({ dst := dst, op := .build 172 #[(0, x), (1, y), (3, .const (.bool true))], type := ty, pos := pos, after := aft, guard := none } :: rest) act w := by
 refine wpList_plain rfl fun K hK => ?_
 unfold Oper.wp execOp
 simp only [List.map_toArray, List.map_cons, List.map_nil, hx, hy]
 have e : (Instr.build 172 #[(0, Value.int .i64 no), (1, Value.agg (PageA.cells ⟨lsn, [a, b, c, d]⟩).toArray), (3, Value.bool true)]).run Tryz.prog w = .ok (.agg (SeatA.cells ⟨no, lsn, a, b, c, d, false, true⟩).toArray) w := run_build w _ _ _ (by kernel_rfl)
 have ec : act.eval (.const (.bool true)) = .bool true := rfl
 rw [ec]
 simp only [Sem.run_bind, e, Result.andThen_ok, Sem.run_pure]
 exact hK _ _ h
theorem build_zero_seat {w : World} {ops : Array Oper} {rest : List Oper} {dst : Option Nat} {ty : TypeId} {pos : String} {aft : Array Edge} {act : Act} {Q : Exit → Act → World → Prop}
  (h : wpList Tryz.prog ops Q rest (act.put dst (.agg zeroSt.cells.toArray)) w) :
  wpList Tryz.prog ops Q ({ dst := dst, op := .build 172 #[], type := ty, pos := pos, after := aft, guard := none } :: rest) act w := by
 refine wpList_plain rfl fun K hK => ?_
 unfold Oper.wp execOp
 have e : (Instr.build 172 #[]).run Tryz.prog w = .ok (.agg zeroSt.cells.toArray) w := run_build w _ _ _ (by kernel_rfl)
 simp only [List.map_toArray, List.map_nil, Sem.run_bind, e, Result.andThen_ok, Sem.run_pure]
 exact hK _ _ h
theorem lit_seat (q : SeatA) : List.foldl (fun cs x => cs.setIfInBounds x.snd x.fst) (#[.int .i64 0, .int .i64 0, .bool false, .int .i64 0, .slice none 0 0, .slice none 0 0, .bool false, .int .i64 0, .slice none 0 0, .slice none 0 0, .bool false, .int .i64 0, .slice none 0 0, .slice none 0 0, .bool false, .int .i64 0, .slice none 0 0, .slice none 0 0, .bool false, .bool false] : Array Value) q.cells.zipIdx = q.cells.toArray := by simp [SeatA.cells, SlotA.cells, List.zipIdx]
theorem seat_one (q : SeatA) : q.cells.toArray.all (·.oneCell') = true := all_oneCell_toArray (oneSt q)
theorem seat_info (q : SeatA) : (Tryz.prog.info? 172).map (·.size) = some q.cells.length := by show _ = some 20; kernel_rfl
theorem seat_load {w : World} {C : Nat} (q : SeatA) (b : Box w C q.cells 172) : (loadVar 172 ⟨C, 0, none⟩).run Tryz.prog w = .ok (.agg q.cells.toArray) w :=
 run_loadVar_mid (P := Tryz.prog) w C 0 172 q.cells _ (Box.range [] q.cells [] (by simpa using b)) Tryz.underlying172 rfl (seat_info q)
theorem seat_out {w : World} {C : Nat} (q : SeatA) (old : List Value) (ho : old.length = 20) (bC : Box w C old 172) :
  ∃ WF, Hid (w.setCells C 0 q.cells = WF) ∧ Within C (C + 1) w WF ∧ WF.heap.size = w.heap.size ∧ Hid (w.there C 0 q.cells.toArray.size) ∧ Hid ((loadVar 172 ⟨C, 0, none⟩).run Tryz.prog WF = .ok (.agg q.cells.toArray) WF) ∧ Box WF C q.cells 172 := by
 obtain ⟨WF, hWF, bF, hwF, hsF⟩ := range_fill [] old q.cells [] (by simpa using bC) (by rw [ho]; rfl)
 have bF' : Box WF C q.cells 172 := by simpa using bF
 exact ⟨WF, hWF, hwF, hsF, bC.there 0 _ (by rw [ho]; show 0 + 20 ≤ 20; decide), seat_load q bF', bF'⟩
def EngA.withNext (e : EngA) (n : Int) : EngA := { e with next := n }
def newE : EngA := zeroE.withNext 1
theorem alloc_eng {w : World} {ops : Array Oper} {rest : List Oper} {dst : Option Nat} {ty : TypeId} {pos : String} {aft : Array Edge} {act : Act} {Q : Exit → Act → World → Prop}
  (h : wpList Tryz.prog ops Q rest (act.put dst (.pointer (some ⟨w.heap.size, 0, none⟩))) (w.alloc (.cells zeroE.cells.toArray TE))) :
  wpList Tryz.prog ops Q ({ dst := dst, op := .alloc 128, type := ty, pos := pos, after := aft, guard := none } :: rest) act w := by
 refine wpList_plain rfl fun K hK => ?_
 have hz := Tryz.zeroEng
 cases hi : Tryz.prog.info? 128 with
 | none => rw [hi] at hz; cases hz
 | some inf =>
  rw [hi] at hz
  have hz' : inf.zero = some (.agg zeroE.cells.toArray) := by simpa using hz
  obtain ⟨cs, hcs⟩ : ∃ cs, zeroE.cells = cs := ⟨_, rfl⟩
  rw [hcs] at hz' h
  unfold Oper.wp execOp
  have e1 : (zeroValue 128).run Tryz.prog w = .ok (.agg cs.toArray) w := by simp [zeroValue, typeInfo, hi, hz']
  have e2 : (Instr.alloc 128 true (.tuple #[])).run Tryz.prog w = .ok (.pointer (some ⟨w.heap.size, 0, none⟩)) (w.alloc (.cells cs.toArray TE)) := by
   unfold Instr.alloc
   simp only [Sem.run_bind, e1, Result.andThen_ok]
   simp [newVar, go_sem]
  simp only [Sem.run_bind, e2, Result.andThen_ok, Sem.run_pure]
  exact hK _ _ h
theorem run_buildE (w : World) : (Instr.build 128 #[(5, Value.int .i64 1)]).run Tryz.prog w = .ok (.agg newE.cells.toArray) w := run_build w _ _ _ (by kernel_rfl)
theorem build_engine {w : World} {ops : Array Oper} {rest : List Oper} {dst : Option Nat} {ty : TypeId} {pos : String} {aft : Array Edge} {act : Act} {Q : Exit → Act → World → Prop}
  (h : wpList Tryz.prog ops Q rest (act.put dst (.agg newE.cells.toArray)) w) :
  wpList Tryz.prog ops Q ({ dst := dst, op := .build 128 #[(5, .const (.int .i64 1))], type := ty, pos := pos, after := aft, guard := none } :: rest) act w := by
 refine wpList_plain rfl fun K hK => ?_
 unfold Oper.wp execOp
 simp only [List.map_toArray, List.map_cons, List.map_nil]
 have ec : act.eval (.const (.int .i64 1)) = .int .i64 1 := rfl
 rw [ec]
 simp only [Sem.run_bind, run_buildE w, Result.andThen_ok, Sem.run_pure]
 exact hK _ _ h
theorem eng_info {e : EngA} (h : e.shape) : (Tryz.prog.info? 128).map (·.size) = some e.cells.length := by rw [EngA.cells_len h]; exact Tryz.infoEng
theorem oneE (e : EngA) : ∀ v ∈ e.cells, v.oneCell' = true := by
 intro v hv
 simp only [EngA.cells, List.mem_append] at hv
 rcases hv with hv | hv
 ·obtain ⟨p, _, hp⟩ := List.mem_flatMap.1 hv
  exact oneP p v hp
 ·simp only [EngA.tail, List.mem_cons, List.not_mem_nil, or_false] at hv
  rcases hv with rfl | rfl | rfl | rfl | rfl | rfl | rfl | rfl <;> rfl
theorem zeroE_shape : zeroE.shape := ⟨rfl, fun p hp => by
 simp only [zeroE, List.mem_cons, List.not_mem_nil, or_false] at hp
 have : p = zeroP := by rcases hp with h | h | h | h | h | h | h | h <;> exact h
 rw [this]; rfl⟩
theorem newE_shape : newE.shape := ⟨zeroE_shape.eight, zeroE_shape.four⟩
theorem eng_out {w : World} {C : Nat} {q old : EngA} (hq : q.shape) (ho : old.shape) (bC : Box w C old.cells TE) :
  ∃ WF, Hid (w.setCells C 0 q.cells.toArray.toList = WF) ∧ Within C (C + 1) w WF ∧ WF.heap.size = w.heap.size ∧ Hid (w.there C 0 q.cells.toArray.size) ∧ Box WF C q.cells TE := by
 obtain ⟨WF, hWF, bF, hwF, hsF⟩ := range_fill [] old.cells q.cells [] (by simpa using bC) (by rw [EngA.cells_len hq, EngA.cells_len ho])
 refine ⟨WF, hWF, hwF, hsF, bC.there 0 _ (by rw [List.size_toArray, EngA.cells_len hq, EngA.cells_len ho]; omega), by simpa using bF⟩
theorem eng_load {w : World} {C : Nat} {q : EngA} (hq : q.shape) (b : Box w C q.cells TE) : (loadVar 128 ⟨C, 0, none⟩).run Tryz.prog w = .ok (.agg q.cells.toArray) w :=
 run_loadVar_mid (P := Tryz.prog) w C 0 128 q.cells _ (Box.range [] q.cells [] (by simpa using b)) Tryz.underlying128 rfl (eng_info hq)
theorem engineNew_any (w : World) : Calls Tryz.prog 107 #[] w fun r w' => r = .returned (.agg newE.cells.toArray) ∧ Below w.heap.size w w' := by
 obtain ⟨W, hW, b0, hbW, hsW⟩ := boxes1 w zeroE.cells TE
 obtain ⟨W1, hW1, hw1, hs1, HT1, b1⟩ := eng_out newE_shape zeroE_shape b0
 have N1 : Below w.heap.size w W1 := hbW.trans (hw1.below (Nat.le_refl _) (by omega))
 have HLD : Hid ((loadVar 128 ⟨w.heap.size, 0, none⟩).run Tryz.prog W1 = .ok (.agg newE.cells.toArray) W1) := eng_load newE_shape b1
 have HI1 : Hid ((Tryz.prog.info? 128).map (·.size) = some newE.cells.toArray.size) := eng_info newE_shape
 have HO := all_oneCell_toArray (oneE newE)
 clear hsW hw1 hs1 b0 b1
 obtain ⟨q, hq⟩ : ∃ q, Hid (newE = q) := ⟨_, rfl⟩
 obtain ⟨z, hz⟩ : ∃ z, Hid (zeroE = z) := ⟨_, rfl⟩
 rw [hq.out] at hW1 HT1 HLD HI1 HO ⊢
 rw [hz.out] at hW
 go_enter Tryz.func107, Tryz.ntmps107
 go_wp2_with (first | (guard_target = wpList _ _ _ (Oper.mk (some 0) _ _ _ _ _ :: _) _ _; refine alloc_eng ?_; rw [hz.out, hW.out]) | (guard_target = wpList _ _ _ (Oper.mk (some 1) _ _ _ _ _ :: _) _ _; refine build_engine ?_; rw [hq.out]) | (guard_target = wpList _ _ _ (Oper.mk none (Op.store _ (Operand.tmp 0) _) _ _ _ _ :: _) _ _; refine wpList_store_mid rfl 128 (.tmp 0) (.tmp 1) rfl w.heap.size 0 q.cells.toArray rfl rfl HT1.out HI1.out HO ?_; rw [hW1.out]) | fail)
 exact bodyPost_ret (v := .agg q.cells.toArray) (results_one Tryz.results107 rfl HLD.out) rfl ⟨rfl, N1⟩
theorem newE_own (w : World) : newE.own w 0 w.heap.size := by
 refine ⟨⟨fun s hs => ?_, List.nodup_nil⟩, ownSts_nil _ _ _ (Nat.le_refl _), ownRs_nil _ _ _ (Nat.le_refl _), ownL_nil _ _ _ (Nat.le_refl _), ownH_nil _ _ _ (Nat.le_refl _), List.nodup_nil⟩
 have h1 : ∀ p ∈ newE.disk, p = zeroP := fun p hp => by
  simp only [newE, EngA.withNext, zeroE, List.mem_cons, List.not_mem_nil, or_false] at hp
  rcases hp with h | h | h | h | h | h | h | h <;> exact h
 obtain ⟨p, hp, hs⟩ := List.mem_flatMap.1 hs
 rw [h1 p hp] at hs
 have h2 : s = zeroS := by simpa [zeroP] using hs
 rw [h2]
 exact zero_own _ _ _ (Nat.le_refl _)
theorem run_append_seat {w : World} (ty : TypeId) (lo hi : Nat) (a : Option Addr) (c : Nat) (rs : List SeatA) (hown : OwnSts w lo hi a c rs)
  (b off : Nat) (sc : Nat) (q : SeatA) (hr : w.rangeAt b off q.cells) (l u : Nat) (hq : q.own w l u) (hl : hi ≤ l) (hu : u ≤ w.heap.size)
  (hb : rs.length + 1 ≤ 68719476736) (hlo : lo ≤ hi) :
  ∃ a' c' w', (Builtin.append_ #[123, 123] ty #[.slice a rs.length c, .slice (some ⟨b, off, none⟩) 1 sc]).run Tryz.prog w = .ok (.slice a' (rs ++ [q]).length c') w' ∧ OwnSts w' lo w'.heap.size a' c' (rs ++ [q]) ∧ w.grownBy w' (Value.slice a rs.length c).ownBlock ∧
   (∀ k, (Value.slice a' (rs ++ [q]).length c').ownBlock = some k → (Value.slice a rs.length c).ownBlock = some k ∨ k = w.heap.size) := by
 obtain ⟨i0, hi0, hz0, hz1, hz2⟩ := info_parts Tryz.infoSeat
 have hqb := hq.blocks_lt
 have htop := hown.top
 obtain ⟨v', w', hrun, h1, h2, _, h5⟩ := run_append_own_at (P := Tryz.prog) w lo 123 ty 172 i0 (.agg zeroSt.cells.toArray) 20 280 Tryz.underlying123 hi0 hz0 hz1 hz2 rfl (by decide) _ _ _ hown.row ⟨b, off, none⟩ 1 sc q.cells (by rfl) (by
  intro j v hj
  rw [Addr_add]
  exact hr j v hj) (oneSt q) (by simp only [maxLen]; omega) (by omega) (by omega)
 have e : cellsSts rs ++ q.cells = cellsSts (rs ++ [q]) := by rw [cellsSts_app, cellsSts_cons]; simp [cellsSts]
 have e2 : rs.length + 1 = (rs ++ [q]).length := by simp
 rw [e, e2] at h1
 have sh : ∃ a' c', v' = .slice a' (rs ++ [q]).length c' := by
  rcases h1.2 with ⟨rfl, h0⟩ | ⟨g, cap, cur, rfl, _⟩
  ·simp at h0
  ·exact ⟨_, _, rfl⟩
 obtain ⟨a', c', rfl⟩ := sh
 have hsz := h2.size
 have ht : Touch (Value.slice a rs.length c).ownBlock.toList w w' := Touch.of_grown h2 (fun k hk => Option.mem_toList.2 hk)
 have hrow := h1.lt
 have hold : ∀ r ∈ rs, r.own w' lo w'.heap.size := fun r hr => ((hown.each r hr).touch ht (fun k hk hk' => (List.nodup_append.1 hown.apart).2.2 k hk' k (List.mem_flatMap.2 ⟨r, hr, hk⟩) rfl)).widen (Nat.le_refl _) (by omega) (Nat.le_refl _)
 have hnew : q.own w' lo w'.heap.size := (hq.touch ht (fun k hk hk' => by have := hqb k hk; have := hown.blk k (Option.mem_toList.1 hk'); omega)).widen (by omega) (by omega) (Nat.le_refl _)
 refine ⟨a', c', w', hrun, ⟨h1, Nat.le_refl _, fun k hk => (hrow k hk).2, fun r hr => ?_, ?_⟩, h2, fun k hk => h5.elim (fun h5 => .inl (by rw [← h5]; exact hk)) (fun h5 => by rw [h5] at hk; exact .inr (Option.some.inj hk).symm)⟩
 ·rcases List.mem_append.1 hr with hr | hr
  ·exact hold r hr
  ·obtain rfl := List.mem_singleton.1 hr
   exact hnew
 ·rw [List.flatMap_append, List.nodup_append, List.nodup_append]
  have hap := (List.nodup_append.1 hown.apart).2.1
  have hin : ∀ x ∈ rs.flatMap SeatA.blocks, lo ≤ x ∧ x < hi := fun x hx => by
   obtain ⟨r, hr, hx⟩ := List.mem_flatMap.1 hx
   exact (hown.each r hr).blocks_lt x hx
  refine ⟨by cases (Value.slice a' (rs ++ [q]).length c').ownBlock <;> simp, ⟨hap, by simpa using hq.apart, fun x hx y hy e => ?_⟩, fun x hx y hy e => ?_⟩
  ·have := hin x hx
   simp only [List.flatMap_cons, List.flatMap_nil, List.append_nil] at hy
   have := hqb y hy
   omega
  ·have hx' := Option.mem_toList.1 hx
   subst e
   rcases List.mem_append.1 hy with hy | hy
   ·obtain ⟨r, hr, hy⟩ := List.mem_flatMap.1 hy
    exact rowSt_apart h1 (hold r hr) x hx' hy
   ·simp only [List.flatMap_cons, List.flatMap_nil, List.append_nil] at hy
    exact rowSt_apart h1 hnew x hx' hy
theorem step_append_seat {w : World} {ops : Array Oper} {o : Oper} {act : Act} {K : Act → World → Prop} {Q : Exit → Act → World → Prop} {E : Prop} (hgd : o.guard = none) (s x : Operand)
  (ho : o.op = .call { callee := .builtin .append, args := #[s, x], argTypes := #[123, 123] })
  (lo hi : Nat) (a : Option Addr) (c : Nat) (rs : List SeatA) (hs : act.eval s = .slice a rs.length c) (hown : OwnSts w lo hi a c rs)
  (b off : Nat) (sc : Nat) (q : SeatA) (hx : act.eval x = .slice (some ⟨b, off, none⟩) 1 sc) (hr : w.rangeAt b off q.cells) (l u : Nat) (hq : q.own w l u) (hl : hi ≤ l) (hu : u ≤ w.heap.size)
  (hb : rs.length + 1 ≤ 68719476736) (hlo : lo ≤ hi)
  (h : ∀ a' c' w', OwnSts w' lo w'.heap.size a' c' (rs ++ [q]) → w.grownBy w' (Value.slice a rs.length c).ownBlock → (∀ k, (Value.slice a' (rs ++ [q]).length c').ownBlock = some k → (Value.slice a rs.length c).ownBlock = some k ∨ k = w.heap.size) → K (act.put o.dst (.slice a' (rs ++ [q]).length c')) w') :
  if Region.wanted o (yielded ops act.tmps) = true then Oper.wp Tryz.prog o act w K Q else E := by
 have hw : Region.wanted o (yielded ops act.tmps) = true := by simp [Region.wanted, hgd]
 rw [if_pos hw]
 obtain ⟨a', c', w', hrun, h2, h3, h4⟩ := run_append_seat (w := w) o.type lo hi a c rs hown b off sc q hr l u hq hl hu hb hlo
 unfold Oper.wp
 simp [execOp, ho, resolve, invoke, builtin, hs, hx, hrun, Result.andThen]
 have := h a' c' w' h2 h3 h4
 rw [List.length_append, List.length_singleton] at this
 exact this
end Go.Proofs.YtoboickdkednkaaGreatDoor
namespace Go.Proofs.YtoboickdkednkaaGreatDoor
open Go.RowKit
attribute [local go_sem ↓] Go.wp_at_zero Go.wp_at_succ
theorem four_slots {ts : List SlotA} (h : ts.length = 4) : ∃ a b c d, ts = [a, b, c, d] := by
 match ts, h with
 | [a, b, c, d], _ => exact ⟨a, b, c, d, rfl⟩
def bringV (ss : List SeatV) (h : Nat) (new : SeatV) : List SeatV × Nat × SeatV × Bool :=
 if ss.length < 3 then (ss ++ [new], h, zeroStV, false) else ((victimV 4 ss h).1.set (victimV 4 ss h).2.2 new, (victimV 4 ss h).2.1, (victimV 4 ss h).1.getD (victimV 4 ss h).2.2 zeroStV, true)
structure Brought (lo B o : Nat) (vs : List Value) (t : TypeId) (a : Option Addr) (c : Nat) (ss : List SeatA) (w w' : World) (ts : List SeatA) (a' : Option Addr) (c' hand' : Nat) (old : SeatA) : Prop where
 pool : PoolAt w' lo w'.heap.size B o ((vs.set o (.slice a' ts.length c')).set (o + 1) (.int .i64 hand')) t a' c' ts hand'
 fresh : ∀ k ∈ blocksSts a' c' ts, k ∈ blocksSts a c ss ∨ w.heap.size ≤ k
 touch : Touch (B :: blocksSts a c ss) w w'
 went : old.own w' lo w'.heap.size
 wentB : ∀ k ∈ old.blocks, k ∈ blocksSts a c ss
def BringAns (lo B o : Nat) (vs : List Value) (t : TypeId) (a : Option Addr) (c : Nat) (ss : List SeatA) (h : Nat) (new : SeatV) (w : World) (r : Ending) (w' : World) : Prop :=
 ∃ (ts : List SeatA) (a' : Option Addr) (c' hand' : Nat) (old : SeatA) (went : Bool), r = .returned (.tuple #[.agg old.cells.toArray, .bool went]) ∧ Hid (bringV (ss.map SeatA.v) h new = (ts.map SeatA.v, hand', old.v, went)) ∧ Brought lo B o vs t a c ss w w' ts a' c' hand' old
theorem PoolAt.below {w w' : World} {lo hi B o : Nat} {vs : List Value} {t : TypeId} {a : Option Addr} {c : Nat} {ss : List SeatA} {hand : Int} (h : PoolAt w lo hi B o vs t a c ss hand) (hb : Below w.heap.size w w') : PoolAt w' lo hi B o vs t a c ss hand :=
 ⟨h.box.below hb h.box.lt, h.c0, h.c1, h.own.below hb, h.off⟩
theorem zeroS_own (w : World) (lo hi : Nat) (h : hi ≤ w.heap.size) : zeroS.own w lo hi := ⟨ownI_nil w lo hi h, ownI_nil w lo hi h, fun k h1 _ => by cases h1⟩
theorem zeroSt_blocks : zeroSt.blocks = [] := rfl
theorem zeroSt_own (w : World) (lo hi : Nat) (h : hi ≤ w.heap.size) : zeroSt.own w lo hi := ⟨fun s hs => by
 simp only [SeatA.ss, zeroSt, List.mem_cons, List.not_mem_nil, or_false] at hs
 have : s = zeroS := by rcases hs with h | h | h | h <;> exact h
 subst this
 exact zeroS_own w lo hi h, by show ([] : List Nat).Nodup; simp⟩
theorem set_set_ne {vs : List Value} {o : Nat} {x y : Value} (h : vs[o + 1]? = some y) : (vs.set o x).set (o + 1) y = vs.set o x := by
 have h1 : (vs.set o x)[o + 1]? = some y := by rw [List.getElem?_set_ne (by omega)]; exact h
 obtain ⟨_, h2⟩ := List.getElem?_eq_some_iff.1 h1
 rw [← h2, List.set_getElem_self]
theorem l6Bring_any (lo hi B o : Nat) (vs : List Value) (t : TypeId) (a : Option Addr) (c : Nat) (ss : List SeatA) (h : Nat) (no : Int) (pg : PageA) (w : World) (hp : PoolAt w lo hi B o vs t a c ss h) (hlo : lo ≤ hi) (h3 : ss.length ≤ 3) (hh : h < 3) (h4 : pg.ss.length = 4) (hr : ReadsS w pg.ss) (hl : Fit pg.ss) :
  Calls Tryz.prog 133 #[.pointer (some ⟨B, o, none⟩), .int .i64 no, .agg pg.cells.toArray] w fun r w' => BringAns lo B o vs t a c ss h ⟨no, pg.lsn, pg.ss.map (·.v), false, true⟩ w r w' := by
 obtain ⟨W, hW, b0, b1, hbW, hsW⟩ := boxes2 w pg.cells zeroSt.cells 121 172
 have HIP : Hid ((Tryz.prog.info? 121).map (·.size) = some pg.cells.length) := by rw [Hid, page_len pg h4]; kernel_rfl
 have HRG : Hid (W.rangeAt w.heap.size 0 pg.cells) := Box.range [] pg.cells [] (by simpa using b0)
 have hws : w.heap.size + 1 < W.heap.size := by omega
 have hW' : Hid ((w.alloc (.cells pg.cells.toArray 121)).alloc (.cells #[.int .i64 0, .int .i64 0, .bool false, .int .i64 0, .slice none 0 0, .slice none 0 0, .bool false, .int .i64 0, .slice none 0 0, .slice none 0 0, .bool false, .int .i64 0, .slice none 0 0, .slice none 0 0, .bool false, .int .i64 0, .slice none 0 0, .slice none 0 0, .bool false, .bool false] 172) = W) := hW.out
 have htop := hp.own.top
 have hBlt := hp.box.lt
 clear hsW hW b0
 go_enter Tryz.func133, Tryz.ntmps133
 go_upto_region 1 with fail
 rw [hW'.out]
 clear hW'
 go_wp2_with (first | (guard_target = wpList _ _ _ (Oper.mk (some 12) _ _ _ _ _ :: _) _ _; refine wpList_load_mid rfl 121 (.tmp 5) rfl w.heap.size 0 rfl pg.cells _ HRG.out Tryz.underlying121 rfl HIP.out ?_) | fail)
 refine (l3Copy_own pg h4 W (hr.below hbW) hl).mono ?_
 rintro e w2 ⟨ts, rfl, hts, ho2, hb2⟩
 obtain ⟨x0, x1, x2, x3, rfl⟩ := four_slots (ts := ts) (by have := congrArg List.length hts.out; simpa [h4] using this)
 obtain ⟨q, hq⟩ : ∃ q : SeatA, Hid ((⟨no, pg.lsn, x0, x1, x2, x3, false, true⟩ : SeatA) = q) := ⟨_, rfl⟩
 have HQV : Hid (q.v = ⟨no, pg.lsn, pg.ss.map (·.v), false, true⟩) := by rw [Hid, ← hq.out, ← hts.out]; rfl
 have oq2 : q.own w2 W.heap.size w2.heap.size := by rw [← hq.out]; exact ho2
 have hs2 := hb2.size
 obtain ⟨W3, hW3, b3, hb3, hs3⟩ := boxes1 w2 zeroSt.cells 172
 obtain ⟨W4, hW4, hw4, hs4, HT4, _, b4⟩ := seat_out q _ rfl b3
 have HO4 := seat_one q
 have HI : Hid ((Tryz.prog.info? 172).map (·.size) = some q.cells.length) := seat_info q
 have N34 : Below w2.heap.size w2 W4 := hb3.trans (hw4.below (Nat.le_refl _) (by omega))
 have hW3' : Hid (w2.alloc (.cells #[.int .i64 0, .int .i64 0, .bool false, .int .i64 0, .slice none 0 0, .slice none 0 0, .bool false, .int .i64 0, .slice none 0 0, .slice none 0 0, .bool false, .int .i64 0, .slice none 0 0, .slice none 0 0, .bool false, .int .i64 0, .slice none 0 0, .slice none 0 0, .bool false, .bool false] 172) = W3) := hW3.out
 have hW4' : Hid (W3.setCells w2.heap.size 0 q.cells.toArray.toList = W4) := hW4.out
 have N2 : Below w.heap.size w w2 := hbW.trans (hb2.mono hbW.size)
 have N4 : Below w.heap.size w W4 := N2.trans (N34.mono N2.size)
 have b6 : Box W4 (w.heap.size + 1) zeroSt.cells 172 := (b1.below hb2 b1.lt).below N34 (by omega)
 have oq4 := oq2.below N34
 have p4 := hp.below N4
 have hz4 := b4.lt
 clear hW3 hW4 hs3 hs4 hw4 hb3 b3 ho2 hts b1 oq2 hp
 go_upto_region 2 with (first | (guard_target = wpList _ _ _ (Oper.mk (some 14) _ _ _ _ _ :: _) _ _; refine build_seat (.tmp 11) (.tmp 13) no pg.lsn x0 x1 x2 x3 rfl rfl ?_; rw [hq.out]) | (guard_target = wpList _ _ _ (Oper.mk none (Op.store _ (Operand.tmp 8) _) _ _ _ _ :: _) _ _; refine wpList_store_mid rfl 172 (.tmp 8) (.tmp 14) rfl w2.heap.size 0 q.cells.toArray rfl rfl (by rw [hW3'.out]; exact HT4.out) HI.out HO4 ?_; rw [hW3'.out, hW4'.out]) | fail)
 clear hq hW3' hW4' HT4
 have y0 := p4.box.cell o _ p4.c0
 by_cases hlt : ss.length < 3
 ·have hltb : (ss.length : Int) < 3 := by omega
  go_upto_region 3 with fail
  clear y0
  have d4 : Box W4.drew B vs t := p4.box.drewN 1
  have e4 : Box W4.drew w2.heap.size q.cells 172 := b4.drewN 1
  have y0 := d4.cell o _ p4.c0
  have r4 : W4.drew.rangeAt w2.heap.size 0 q.cells := Box.range [] q.cells [] (by simpa using e4)
  refine wp_region_held_drew (S := fun w' => w'.rangeAt w2.heap.size 0 q.cells ∧ True) (by kernel_rfl) ?_ (fun hHeld => ?_)
  ·exact ⟨r4, trivial⟩
  refine tk 0 (v := .pointer (some ⟨B, o, none⟩)) rfl (Or.inl ⟨by rfl, ?_⟩) hHeld ?_
  ·intro w' hSw
   go_simp <;> rfl
  try simp only [Act.put, zA, zB, zD, zE, zF]
  refine tk 1 (v := .pointer (some ⟨B, o, none⟩)) rfl (Or.inl ⟨by rfl, ?_⟩) hHeld ?_
  ·intro w' hSw
   go_simp <;> rfl
  try simp only [Act.put, zA, zB, zC, zD, zE, zF]
  refine tk 2 (v := .pointer (some ⟨B, o, none⟩)) rfl (Or.inl ⟨by rfl, ?_⟩) hHeld ?_
  ·intro w' hSw
   go_simp <;> rfl
  try simp only [Act.put, zA, zB, zC, zD, zE, zF]
  refine tk 3 (v := .pointer (some ⟨B, o, none⟩)) rfl (Or.inl ⟨by rfl, ?_⟩) hHeld ?_
  ·intro w' hSw
   go_simp <;> rfl
  try simp only [Act.put, zA, zB, zC, zD, zE, zF]
  refine tk 5 rfl (yieldsIf_load_mid (by rfl) _ _ rfl _ _ rfl q.cells _ (fun _ h => h.1) Tryz.underlying172 rfl HI.out) hHeld ?_
  try simp only [Act.put, zA, zB, zC, zD, zE, zF]
  refine wpAnyH_ready (rs := [4, 6]) (by kernel_rfl) (by simp) ?_
  refine AllReadyH.cons rfl (fun K hK => ?_) (AllReadyH.cons rfl (fun K hK => ?_) AllReadyH.nil)
  ·go_simp
   refine hK.out _ _ (hHeld) (fun hHeld => ?_)
   clear hK K
   try simp only [Act.put, zA, zB, zC, zD, zE, zF]
   refine wpAnyH_ready (rs := [6]) (by kernel_rfl) (by simp) ?_
   refine AllReadyH.cons rfl (fun K hK => ?_) AllReadyH.nil
   go_simp
   simp only [cellsSt_len, lit_seat, not_true_eq_false, Nat.lt_irrefl, or_self, if_false]
   go_simp
   obtain ⟨V5, hV5, b5', hb5, hs5⟩ := boxes1 W4 q.cells 172
   rw [hV5.out]
   obtain ⟨W5, hW5⟩ : ∃ W5, Hid (V5.drew = W5) := ⟨_, rfl⟩
   rw [hW5.out]
   have b5 : Box W5 W4.heap.size q.cells 172 := by rw [← hW5.out]; exact b5'.drewN 1
   have ND : Below W4.heap.size W4 W5 := by rw [← hW5.out]; exact hb5.drew
   have p5 := p4.below ND
   have oq5 := oq4.below ND
   have b65 := b6.below ND b6.lt
   have b45 := b4.below ND b4.lt
   have r5 : W5.rangeAt W4.heap.size 0 q.cells := Box.range [] q.cells [] (by simpa using b5)
   have r45 : W5.rangeAt w2.heap.size 0 q.cells := Box.range [] q.cells [] (by simpa using b45)
   have N5 : Below w.heap.size w W5 := N4.trans (ND.mono N4.size)
   have hs45 := ND.size
   clear hs5 hb5 hW5 hV5 b5 b5' b45
   refine hK.out _ _ (⟨r45, trivial⟩) (fun hHeld => ?_)
   clear hK K
   try simp only [Act.put, zA, zB, zC, zD, zE, zF]
   refine wpAnyH_ready (rs := [7]) (by kernel_rfl) (by simp) ?_
   refine AllReadyH.cons rfl (fun K hK => ?_) AllReadyH.nil
   refine step_append_seat rfl (.tmp 25) (.tmp 27) rfl lo hi a c ss rfl p5.own W4.heap.size 0 1 q rfl r5 W.heap.size w2.heap.size oq5 (by omega) (by omega) (by omega) hlo ?_
   intro a9 c9 w9 o9 g9 f9
   obtain ⟨ys, hys⟩ : ∃ ys, Hid (ss ++ [q] = ys) := ⟨_, rfl⟩
   have HOB : Hid (∀ k ∈ blocksSts a9 c9 (ss ++ [q]), k ∈ blocksSts a c ss ∨ W.heap.size ≤ k) := fun k hk => by
    simp only [blocksSts, List.mem_append, Option.mem_toList, List.flatMap_append, List.flatMap_cons, List.flatMap_nil, List.append_nil] at hk ⊢
    rcases hk with hk | hk | hk
    ·rcases f9 k hk with h | h
     ·exact .inl (.inl h)
     ·exact .inr (by have := ND.size; omega)
    ·exact .inl (.inr hk)
    ·exact .inr (by have := (oq5.blocks_lt k hk).1; omega)
   rw [hys.out] at o9 HOB ⊢
   have t9 : Touch (blocksSts a c ss) W5 w9 := Touch.of_grown g9 (fun k hk => List.mem_append.2 (.inl (Option.mem_toList.2 hk)))
   have hltb : ∀ k ∈ blocksSts a c ss, k < w.heap.size := fun k hk => by have := (p5.own.blocks_lt k hk).2; omega
   have k9 := p5.box.touch t9 p5.off
   have b69 := b65.touch t9 (fun hk => by have := hltb _ hk; omega)
   have hs9 := t9.size
   have hw2n : w2.heap.size ∉ blocksSts a c ss := fun hk => by have := hltb _ hk; omega
   have r49 : w9.rangeAt w2.heap.size 0 q.cells := rangeAt_block r45 (t9.block _ (by omega) hw2n)
   have T9 : Touch (B :: blocksSts a c ss) w w9 := (Touch.of_below N5).trans (t9.mono (fun k hk => List.mem_cons_of_mem _ hk))
   refine hK.out _ _ (⟨r49, trivial⟩) (fun hHeld => ?_)
   clear hK K g9 f9
   try simp only [Act.put, zA, zB, zC, zD, zE, zF]
   refine tk 8 (v := .pointer (some ⟨B, o, none⟩)) rfl (Or.inl ⟨by rfl, ?_⟩) hHeld ?_
   ·intro w' hSw
    go_simp <;> rfl
   try simp only [Act.put, zA, zB, zC, zD, zE, zF]
   refine tk 9 (v := .pointer (some ⟨B, o, none⟩)) rfl (Or.inl ⟨by rfl, ?_⟩) hHeld ?_
   ·intro w' hSw
    go_simp <;> rfl
   try simp only [Act.put, zA, zB, zC, zD, zE, zF]
   have m0 := k9.cell o _ p4.c0
   have mf0 := k9.frozen o
   obtain ⟨WF, hWF, kF, hwF, hsF⟩ := box_set k9 o (.slice a9 ys.length c9)
   have hsFa := Nat.le_of_eq hsF
   have hsFb := Nat.le_of_eq hsF.symm
   clear hsF
   have tF : Touch [B] w9 WF := ⟨hwF.os, hwF.tape, hwF.output, hwF.size, fun j hj hn => hwF.block j hj (fun hh => hn (by simp; omega))⟩
   have hBw : B < w.heap.size := by have := p4.box.lt; exact hBlt
   have hBy : B ∉ blocksSts a9 c9 ys := fun hk => (HOB.out B hk).elim p4.off (fun h => by omega)
   have oF := o9.touch tF (fun k hk hk' => hBy (by rw [← List.mem_singleton.1 hk']; exact hk))
   have b6F := b69.touch tF (by simp; omega)
   have r4F : WF.rangeAt w2.heap.size 0 q.cells := rangeAt_block r49 (tF.block _ (by omega) (by simp; omega))
   have TF : Touch (B :: blocksSts a c ss) w WF := T9.trans (tF.mono (by simp))
   refine wpAnyH_ready (rs := [10]) (by kernel_rfl) (by simp) ?_
   refine AllReadyH.cons rfl (fun K hK => ?_) AllReadyH.nil
   go_simp
   rw [hWF.out]
   refine hK.out _ _ (⟨r4F, trivial⟩) (fun hHeld => ?_)
   clear hK K
   try simp only [Act.put, zA, zB, zC, zD, zE, zF]
   refine wpAnyH_done (by kernel_rfl) ?_ _
   clear m0 mf0 hWF
   obtain ⟨WG, hWG, hwG, hsG, HTG, HLG, bG⟩ := seat_out zeroSt _ rfl b6F
   have hsGa := Nat.le_of_eq hsG
   have hsGb := Nat.le_of_eq hsG.symm
   clear hsG
   have hWG' : Hid (WF.setCells (w.heap.size + 1) 0 zeroSt.cells.toArray.toList = WG) := hWG.out
   have tG : Touch [w.heap.size + 1] WF WG := ⟨hwG.os, hwG.tape, hwG.output, hwG.size, fun j hj hn => hwG.block j hj (fun hh => hn (by simp; omega))⟩
   have hn1 : w.heap.size + 1 ∉ blocksSts a9 c9 ys := fun hk => (HOB.out _ hk).elim (fun h => by have := hltb _ h; omega) (fun h => by omega)
   have kG := kF.touch tG (by simp; omega)
   have oG := (oF.touch tG (fun k hk hk' => hn1 (by rw [← List.mem_singleton.1 hk']; exact hk))).widen (Nat.le_refl _) (show w9.heap.size ≤ WG.heap.size by omega) (Nat.le_refl _)
   have TG : Touch (B :: blocksSts a c ss) w WG := ⟨tG.os.trans TF.os, tG.tape.trans TF.tape, tG.output.trans TF.output, Nat.le_trans TF.size tG.size, fun j hj hn => (tG.block j (by have := TF.size; omega) (by simp; omega)).trans (TF.block j hj hn)⟩
   have HEND : Hid (bringV (ss.map SeatA.v) h ⟨no, pg.lsn, pg.ss.map (·.v), false, true⟩ = (ys.map SeatA.v, h, zeroSt.v, false)) := by
    rw [Hid, bringV, if_pos (by rw [List.length_map]; exact hlt), ← hys.out, List.map_append, ← HQV.out]
    rfl
   have HPL : Hid (Brought lo B o vs t a c ss w WG ys a9 c9 h zeroSt) := by
    refine ⟨⟨?_, ?_, ?_, oG, hBy⟩, fun k hk => (HOB.out k hk).imp id (fun h => by omega), TG, zeroSt_own _ _ _ (Nat.le_refl _), fun k hk => by simp [zeroSt_blocks] at hk⟩
    ·rw [set_set_ne p4.c1]; exact kG
    ·rw [List.getElem?_set_ne (by omega), List.getElem?_set_self (List.getElem?_eq_some_iff.1 p4.c0).1]
    ·rw [List.getElem?_set_self (by rw [List.length_set]; exact (List.getElem?_eq_some_iff.1 p4.c1).1)]
   have HTG' : WF.there (w.heap.size + 1) 0 zeroSt.cells.toArray.size := HTG.out
   have HIz : (Tryz.prog.info? 172).map (·.size) = some zeroSt.cells.toArray.size := seat_info zeroSt
   have HOz := seat_one zeroSt
   clear kG oG TG kF oF b6F TF tG tF
   obtain ⟨Zs, hZs⟩ : ∃ Zs, Hid (zeroSt = Zs) := ⟨_, rfl⟩
   rw [hZs.out] at HTG' HIz HOz hWG' HLG HPL HEND
   go_wp2_with (first | (guard_target = wpList _ _ _ (Oper.mk (some 31) _ _ _ _ _ :: _) _ _; refine build_zero_seat ?_; rw [hZs.out]) | (guard_target = wpList _ _ _ (Oper.mk none (Op.store _ (Operand.tmp 6) _) _ _ _ _ :: _) _ _; refine wpList_store_mid rfl 172 (.tmp 6) (.tmp 31) rfl (w.heap.size + 1) 0 Zs.cells.toArray rfl rfl HTG' HIz HOz ?_; rw [hWG'.out]) | fail)
   exact bodyPost_ret (v := .tuple #[.agg Zs.cells.toArray, .bool false]) (results_cell_flag Tryz.results133 rfl HLG.out rfl) rfl ⟨ys, a9, c9, h, Zs, false, rfl, HEND, HPL.out⟩
  ·go_simp
   simp only [cellsSt_len, lit_seat, not_true_eq_false, Nat.lt_irrefl, or_self, if_false]
   go_simp
   obtain ⟨V5, hV5, b5', hb5, hs5⟩ := boxes1 W4 q.cells 172
   rw [hV5.out]
   obtain ⟨W5, hW5⟩ : ∃ W5, Hid (V5.drew = W5) := ⟨_, rfl⟩
   rw [hW5.out]
   have b5 : Box W5 W4.heap.size q.cells 172 := by rw [← hW5.out]; exact b5'.drewN 1
   have ND : Below W4.heap.size W4 W5 := by rw [← hW5.out]; exact hb5.drew
   have p5 := p4.below ND
   have oq5 := oq4.below ND
   have b65 := b6.below ND b6.lt
   have b45 := b4.below ND b4.lt
   have r5 : W5.rangeAt W4.heap.size 0 q.cells := Box.range [] q.cells [] (by simpa using b5)
   have r45 : W5.rangeAt w2.heap.size 0 q.cells := Box.range [] q.cells [] (by simpa using b45)
   have N5 : Below w.heap.size w W5 := N4.trans (ND.mono N4.size)
   have hs45 := ND.size
   clear hs5 hb5 hW5 hV5 b5 b5' b45
   refine hK.out _ _ (⟨r45, trivial⟩) (fun hHeld => ?_)
   clear hK K
   try simp only [Act.put, zA, zB, zC, zD, zE, zF]
   clear y0
   have y0 := p5.box.cell o _ p4.c0
   refine wpAnyH_ready (rs := [4]) (by kernel_rfl) (by simp) ?_
   refine AllReadyH.cons rfl (fun K hK => ?_) AllReadyH.nil
   go_simp
   refine hK.out _ _ (hHeld) (fun hHeld => ?_)
   clear hK K
   try simp only [Act.put, zA, zB, zC, zD, zE, zF]
   refine wpAnyH_ready (rs := [7]) (by kernel_rfl) (by simp) ?_
   refine AllReadyH.cons rfl (fun K hK => ?_) AllReadyH.nil
   refine step_append_seat rfl (.tmp 25) (.tmp 27) rfl lo hi a c ss rfl p5.own W4.heap.size 0 1 q rfl r5 W.heap.size w2.heap.size oq5 (by omega) (by omega) (by omega) hlo ?_
   intro a9 c9 w9 o9 g9 f9
   obtain ⟨ys, hys⟩ : ∃ ys, Hid (ss ++ [q] = ys) := ⟨_, rfl⟩
   have HOB : Hid (∀ k ∈ blocksSts a9 c9 (ss ++ [q]), k ∈ blocksSts a c ss ∨ W.heap.size ≤ k) := fun k hk => by
    simp only [blocksSts, List.mem_append, Option.mem_toList, List.flatMap_append, List.flatMap_cons, List.flatMap_nil, List.append_nil] at hk ⊢
    rcases hk with hk | hk | hk
    ·rcases f9 k hk with h | h
     ·exact .inl (.inl h)
     ·exact .inr (by have := ND.size; omega)
    ·exact .inl (.inr hk)
    ·exact .inr (by have := (oq5.blocks_lt k hk).1; omega)
   rw [hys.out] at o9 HOB ⊢
   have t9 : Touch (blocksSts a c ss) W5 w9 := Touch.of_grown g9 (fun k hk => List.mem_append.2 (.inl (Option.mem_toList.2 hk)))
   have hltb : ∀ k ∈ blocksSts a c ss, k < w.heap.size := fun k hk => by have := (p5.own.blocks_lt k hk).2; omega
   have k9 := p5.box.touch t9 p5.off
   have b69 := b65.touch t9 (fun hk => by have := hltb _ hk; omega)
   have hs9 := t9.size
   have hw2n : w2.heap.size ∉ blocksSts a c ss := fun hk => by have := hltb _ hk; omega
   have r49 : w9.rangeAt w2.heap.size 0 q.cells := rangeAt_block r45 (t9.block _ (by omega) hw2n)
   have T9 : Touch (B :: blocksSts a c ss) w w9 := (Touch.of_below N5).trans (t9.mono (fun k hk => List.mem_cons_of_mem _ hk))
   refine hK.out _ _ (⟨r49, trivial⟩) (fun hHeld => ?_)
   clear hK K g9 f9
   try simp only [Act.put, zA, zB, zC, zD, zE, zF]
   refine tk 8 (v := .pointer (some ⟨B, o, none⟩)) rfl (Or.inl ⟨by rfl, ?_⟩) hHeld ?_
   ·intro w' hSw
    go_simp <;> rfl
   try simp only [Act.put, zA, zB, zC, zD, zE, zF]
   refine tk 9 (v := .pointer (some ⟨B, o, none⟩)) rfl (Or.inl ⟨by rfl, ?_⟩) hHeld ?_
   ·intro w' hSw
    go_simp <;> rfl
   try simp only [Act.put, zA, zB, zC, zD, zE, zF]
   have m0 := k9.cell o _ p4.c0
   have mf0 := k9.frozen o
   obtain ⟨WF, hWF, kF, hwF, hsF⟩ := box_set k9 o (.slice a9 ys.length c9)
   have hsFa := Nat.le_of_eq hsF
   have hsFb := Nat.le_of_eq hsF.symm
   clear hsF
   have tF : Touch [B] w9 WF := ⟨hwF.os, hwF.tape, hwF.output, hwF.size, fun j hj hn => hwF.block j hj (fun hh => hn (by simp; omega))⟩
   have hBw : B < w.heap.size := by have := p4.box.lt; exact hBlt
   have hBy : B ∉ blocksSts a9 c9 ys := fun hk => (HOB.out B hk).elim p4.off (fun h => by omega)
   have oF := o9.touch tF (fun k hk hk' => hBy (by rw [← List.mem_singleton.1 hk']; exact hk))
   have b6F := b69.touch tF (by simp; omega)
   have r4F : WF.rangeAt w2.heap.size 0 q.cells := rangeAt_block r49 (tF.block _ (by omega) (by simp; omega))
   have TF : Touch (B :: blocksSts a c ss) w WF := T9.trans (tF.mono (by simp))
   refine wpAnyH_ready (rs := [10]) (by kernel_rfl) (by simp) ?_
   refine AllReadyH.cons rfl (fun K hK => ?_) AllReadyH.nil
   go_simp
   rw [hWF.out]
   refine hK.out _ _ (⟨r4F, trivial⟩) (fun hHeld => ?_)
   clear hK K
   try simp only [Act.put, zA, zB, zC, zD, zE, zF]
   refine wpAnyH_done (by kernel_rfl) ?_ _
   clear m0 mf0 hWF
   obtain ⟨WG, hWG, hwG, hsG, HTG, HLG, bG⟩ := seat_out zeroSt _ rfl b6F
   have hsGa := Nat.le_of_eq hsG
   have hsGb := Nat.le_of_eq hsG.symm
   clear hsG
   have hWG' : Hid (WF.setCells (w.heap.size + 1) 0 zeroSt.cells.toArray.toList = WG) := hWG.out
   have tG : Touch [w.heap.size + 1] WF WG := ⟨hwG.os, hwG.tape, hwG.output, hwG.size, fun j hj hn => hwG.block j hj (fun hh => hn (by simp; omega))⟩
   have hn1 : w.heap.size + 1 ∉ blocksSts a9 c9 ys := fun hk => (HOB.out _ hk).elim (fun h => by have := hltb _ h; omega) (fun h => by omega)
   have kG := kF.touch tG (by simp; omega)
   have oG := (oF.touch tG (fun k hk hk' => hn1 (by rw [← List.mem_singleton.1 hk']; exact hk))).widen (Nat.le_refl _) (show w9.heap.size ≤ WG.heap.size by omega) (Nat.le_refl _)
   have TG : Touch (B :: blocksSts a c ss) w WG := ⟨tG.os.trans TF.os, tG.tape.trans TF.tape, tG.output.trans TF.output, Nat.le_trans TF.size tG.size, fun j hj hn => (tG.block j (by have := TF.size; omega) (by simp; omega)).trans (TF.block j hj hn)⟩
   have HEND : Hid (bringV (ss.map SeatA.v) h ⟨no, pg.lsn, pg.ss.map (·.v), false, true⟩ = (ys.map SeatA.v, h, zeroSt.v, false)) := by
    rw [Hid, bringV, if_pos (by rw [List.length_map]; exact hlt), ← hys.out, List.map_append, ← HQV.out]
    rfl
   have HPL : Hid (Brought lo B o vs t a c ss w WG ys a9 c9 h zeroSt) := by
    refine ⟨⟨?_, ?_, ?_, oG, hBy⟩, fun k hk => (HOB.out k hk).imp id (fun h => by omega), TG, zeroSt_own _ _ _ (Nat.le_refl _), fun k hk => by simp [zeroSt_blocks] at hk⟩
    ·rw [set_set_ne p4.c1]; exact kG
    ·rw [List.getElem?_set_ne (by omega), List.getElem?_set_self (List.getElem?_eq_some_iff.1 p4.c0).1]
    ·rw [List.getElem?_set_self (by rw [List.length_set]; exact (List.getElem?_eq_some_iff.1 p4.c1).1)]
   have HTG' : WF.there (w.heap.size + 1) 0 zeroSt.cells.toArray.size := HTG.out
   have HIz : (Tryz.prog.info? 172).map (·.size) = some zeroSt.cells.toArray.size := seat_info zeroSt
   have HOz := seat_one zeroSt
   clear kG oG TG kF oF b6F TF tG tF
   obtain ⟨Zs, hZs⟩ : ∃ Zs, Hid (zeroSt = Zs) := ⟨_, rfl⟩
   rw [hZs.out] at HTG' HIz HOz hWG' HLG HPL HEND
   go_wp2_with (first | (guard_target = wpList _ _ _ (Oper.mk (some 31) _ _ _ _ _ :: _) _ _; refine build_zero_seat ?_; rw [hZs.out]) | (guard_target = wpList _ _ _ (Oper.mk none (Op.store _ (Operand.tmp 6) _) _ _ _ _ :: _) _ _; refine wpList_store_mid rfl 172 (.tmp 6) (.tmp 31) rfl (w.heap.size + 1) 0 Zs.cells.toArray rfl rfl HTG' HIz HOz ?_; rw [hWG'.out]) | fail)
   exact bodyPost_ret (v := .tuple #[.agg Zs.cells.toArray, .bool false]) (results_cell_flag Tryz.results133 rfl HLG.out rfl) rfl ⟨ys, a9, c9, h, Zs, false, rfl, HEND, HPL.out⟩
 ·have h33 : ss.length = 3 := by omega
  have C := l6Victim_any lo hi B o vs t a c ss h W4 p4 h33 hh
  have hge : ¬ (ss.length : Int) < 3 := by omega
  clear h33
  go_wp2_with fail
  refine C.mono ?_
  clear C y0
  rintro e w5 ⟨us, k, hand', rfl, hvic, hul, p5, hbl, t5⟩
  have HN4 : Hid (∀ j, W4.heap.size ≤ j → j ∉ blocksSts a c us) := fun j hj hk => by have := (p5.own.blocks_lt j hk).2; have := N4.size; omega
  have hltb : ∀ j ∈ blocksSts a c us, j < w.heap.size := fun j hk => by have := (p5.own.blocks_lt j hk).2; omega
  have hk3 : k < 3 := by have h := (victim_hand 4 (ss.map SeatA.v) h hh).2; rw [hvic.out] at h; exact h
  obtain ⟨g, rfl⟩ : ∃ g, a = some ⟨g, 0, none⟩ := by
   rcases p5.own.row.2 with ⟨_, h0⟩ | ⟨g, cap', cur, hv, _⟩
   ·omega
   ·simp only [Value.slice.injEq] at hv; exact ⟨g, hv.1⟩
  have hmem : g ∈ blocksSts (some ⟨g, 0, none⟩) c us := by simp [blocksSts, Value.ownBlock]
  have hgB : B ≠ g := fun e => p5.off (e ▸ hmem)
  have hgw := hltb g hmem
  have r5 := (row_seat p5.own.row rfl k (by omega)).1
  have b65 := b6.touch t5 (by rw [← hbl.out]; exact not_part (by omega) (fun hk => by have := hltb _ hk; omega))
  have b45 := b4.touch t5 (by rw [← hbl.out]; exact not_part (by omega) (fun hk => by have := hltb _ hk; have := N2.size; omega))
  have oq5 := oq4.touch t5 (fun j hj hk => by have hj1 := (oq4.blocks_lt j hj).1; rcases List.mem_cons.1 hk with rfl | hk; omega; rw [← hbl.out] at hk; have := hltb _ hk; omega)
  have oold := p5.own.each (us.getD k zeroSt) (seatD_mem us k (by omega))
  have HOV : Hid (us.map SeatA.v = (victimV 4 (ss.map SeatA.v) h).1 ∧ hand' = (victimV 4 (ss.map SeatA.v) h).2.1 ∧ k = (victimV 4 (ss.map SeatA.v) h).2.2) := by rw [Hid, hvic.out]; exact ⟨rfl, rfl, rfl⟩
  obtain ⟨old, hold⟩ : ∃ old, Hid (us.getD k zeroSt = old) := ⟨_, rfl⟩
  rw [hold.out] at r5 oold
  have T5 : Touch (B :: blocksSts (some ⟨g, 0, none⟩) c ss) w w5 := (Touch.of_below N4).trans t5
  have hs5 := t5.size
  have z5 := p5.box.cell o _ p5.c0
  obtain ⟨W6, hW6, b10, hb6, hs6⟩ := boxes1 w5 zeroSt.cells 172
  obtain ⟨W7, hW7, hw7, hs7, HT7, _, b7⟩ := seat_out old _ rfl b10
  have hW6' : Hid (w5.alloc (.cells #[.int .i64 0, .int .i64 0, .bool false, .int .i64 0, .slice none 0 0, .slice none 0 0, .bool false, .int .i64 0, .slice none 0 0, .slice none 0 0, .bool false, .int .i64 0, .slice none 0 0, .slice none 0 0, .bool false, .int .i64 0, .slice none 0 0, .slice none 0 0, .bool false, .bool false] 172) = W6) := hW6.out
  have hW7' : Hid (W6.setCells w5.heap.size 0 old.cells.toArray.toList = W7) := hW7.out
  have N57 : Below w5.heap.size w5 W7 := hb6.trans (hw7.below (Nat.le_refl _) (by omega))
  have HO7 := seat_one old
  have HI7 : Hid ((Tryz.prog.info? 172).map (·.size) = some old.cells.length) := seat_info old
  have p7 := p5.below N57
  have b67 := b65.below N57 b65.lt
  have b47 := b45.below N57 b45.lt
  have oq7 := oq5.below N57
  have oold7 := oold.below N57
  have T7 := T5.trans (Touch.of_below N57)
  have hs57 := N57.size
  have hlt7 := b7.lt
  have hkb : (k : Int) < (us.length : Int) := by omega
  have hk0 : (0 : Int) ≤ (k : Int) := by omega
  have hul1 : us.length ≤ 3 := by omega
  have hul2 : 3 ≤ us.length := by omega
  clear hW6 hW7 hs6 hs7 hw7 hb6 b10 hul p4 p5 b6 b4 oq4 b65 b45 oq5 oold T5 t5 N57 hvic
  go_upto_region 7 with (first | (guard_target = wpList _ _ _ (Oper.mk (some 40) _ _ _ _ _ :: _) _ _; refine wpList_load_mid rfl 172 (.tmp 39) rfl g (k * 20) rfl old.cells _ r5 Tryz.underlying172 rfl HI7.out ?_) | (guard_target = wpList _ _ _ (Oper.mk none (Op.store _ (Operand.tmp 10) _) _ _ _ _ :: _) _ _; refine wpList_store_mid rfl 172 (.tmp 10) (.tmp 40) rfl w5.heap.size 0 old.cells.toArray rfl rfl (by rw [hW6'.out]; exact HT7.out) HI7.out HO7 ?_; rw [hW6'.out, hW7'.out]) | fail)
  simp only [Act.put]
  clear r5 z5 hW6' hW7' HT7 HO7
  have ND : Below W7.heap.size W7 W7.drew := (Below.refl _ _).drew
  have p8 := p7.below ND
  have b68 := b67.below ND b67.lt
  have b48 := b47.below ND b47.lt
  have b78 := b7.below ND b7.lt
  have oq8 := oq7.below ND
  have oold8 := oold7.below ND
  have T8 := T7.trans (Touch.of_below ND)
  have hs78 := ND.size
  clear p7 b67 b47 b7 oq7 oold7 T7
  have hkl : (us.take k).length = k := by rw [List.length_take]; omega
  obtain ⟨WF, hWF, oF, tF, hsF⟩ := OwnSts.fill (A := us.take k) (z := us.getD k zeroSt) (B := us.drop (k + 1)) (by rw [← seatD_split us k (by omega)]; exact p8.own) q oq8 (by omega) hlo (by omega)
  rw [hkl] at hWF
  rw [← seat_set us k q (by omega)] at oF
  have hsFa := Nat.le_of_eq hsF
  have hsFb := Nat.le_of_eq hsF.symm
  clear hsF hkl
  have hgn : g < w.heap.size := hgw
  have HWF : Hid (W7.drew.setCells g (k * 20) q.cells.toArray.toList = WF) := hWF.out
  have HTH : Hid (W7.drew.there g (k * 20) q.cells.toArray.size) := (row_seat p8.own.row rfl k (by omega)).2
  have S8 : W7.drew.cell? ⟨B, o, none⟩ = some (.slice (some ⟨g, 0, none⟩) us.length c) := p8.box.cell o _ p8.c0
  have R8 : W7.drew.rangeAt w2.heap.size 0 q.cells := Box.range [] q.cells [] (by simpa using b48)
  have bBF := p8.box.touch tF (by simpa using hgB)
  have SF : WF.cell? ⟨B, o, none⟩ = some (.slice (some ⟨g, 0, none⟩) us.length c) := bBF.cell o _ p8.c0
  have b4F := b48.touch tF (by simp; have := N2.size; omega)
  have RF : WF.rangeAt w2.heap.size 0 q.cells := Box.range [] q.cells [] (by simpa using b4F)
  have b6F := b68.touch tF (by simp; omega)
  have b7F := b78.touch tF (by simp; omega)
  have TF : Touch (B :: blocksSts (some ⟨g, 0, none⟩) c ss) w WF := T8.trans (tF.mono (fun j hj => List.mem_cons_of_mem _ (by rw [← hbl.out, List.mem_singleton.1 hj]; exact hmem)))
  have hng : g ∉ old.blocks := fun hk => rowSt_apart p8.own.row oold8 g rfl hk
  have HOB : Hid (∀ j ∈ blocksSts (some ⟨g, 0, none⟩) c (us.set k q), j ∈ blocksSts (some ⟨g, 0, none⟩) c ss ∨ W.heap.size ≤ j) := fun j hj => by
   simp only [blocksSts, List.mem_append, Option.mem_toList, List.length_set] at hj
   rcases hj with hj | hj
   ·exact .inl (by rw [← hbl.out]; exact List.mem_append.2 (.inl (Option.mem_toList.2 hj)))
   ·obtain ⟨r, hr, hj2⟩ := List.mem_flatMap.1 hj
    rcases List.mem_or_eq_of_mem_set hr with hr | rfl
    ·exact .inl (by rw [← hbl.out]; exact List.mem_append.2 (.inr (List.mem_flatMap.2 ⟨r, hr, hj2⟩)))
    ·exact .inr (oq8.blocks_lt j hj2).1
  refine wp_region_held_drew (S := fun w' => w'.cell? ⟨B, o, none⟩ = some (.slice (some ⟨g, 0, none⟩) us.length c) ∧ w'.rangeAt w2.heap.size 0 q.cells) (by kernel_rfl) ?_ (fun hHeld => ?_)
  ·exact ⟨S8, R8⟩
  refine tk 0 (v := .pointer (some ⟨B, o, none⟩)) rfl (Or.inl ⟨by rfl, ?_⟩) hHeld ?_
  ·intro w' hSw
   go_simp <;> rfl
  try simp only [Act.put, zA, zB, zD, zE, zF]
  refine tk 1 (v := .pointer (some ⟨B, o, none⟩)) rfl (Or.inl ⟨by rfl, ?_⟩) hHeld ?_
  ·intro w' hSw
   go_simp <;> rfl
  try simp only [Act.put, zA, zB, zC, zD, zE, zF]
  refine tk 2 (v := .pointer (some ⟨B, o, none⟩)) rfl (Or.inl ⟨by rfl, ?_⟩) hHeld ?_
  ·intro w' hSw
   go_simp <;> rfl
  try simp only [Act.put, zA, zB, zC, zD, zE, zF]
  refine tk 3 (v := .slice (some ⟨g, 0, none⟩) us.length c) rfl (Or.inl ⟨by rfl, ?_⟩) hHeld ?_
  ·intro w' hSw
   have hx := hSw.1
   go_simp <;> rfl
  try simp only [Act.put, zA, zB, zC, zD, zE, zF]
  refine tk 4 (v := .int .i64 k) rfl (Or.inl ⟨by rfl, ?_⟩) hHeld ?_
  ·intro w' hSw
   go_simp <;> rfl
  try simp only [Act.put, zA, zB, zC, zD, zE, zF]
  refine tk 5 rfl (yieldsIf_load_mid (by rfl) _ _ rfl _ _ rfl q.cells _ (fun _ h => h.2) Tryz.underlying172 rfl HI.out) hHeld ?_
  try simp only [Act.put, zA, zB, zC, zD, zE, zF]
  refine tk 6 (v := .pointer (some ⟨g, k * 20, none⟩)) rfl (Or.inl ⟨by rfl, ?_⟩) hHeld ?_
  ·intro w' hSw
   go_simp <;> rfl
  try simp only [Act.put, zA, zB, zC, zD, zE, zF]
  refine wpAnyH_ready (rs := [7]) (by kernel_rfl) (by simp) ?_
  refine AllReadyH.cons rfl (fun K hK => ?_) AllReadyH.nil
  rw [if_pos (by rfl)]
  refine wp_store_mid 172 (.tmp 47) (.tmp 46) rfl g (k * 20) q.cells.toArray rfl rfl HTH.out HI.out (seat_one q) ?_
  rw [HWF.out]
  refine hK.out _ _ (⟨SF, RF⟩) (fun hHeld => ?_)
  clear hK K
  try simp only [Act.put, zA, zB, zC]
  refine wpAnyH_done (by kernel_rfl) ?_ _
  clear HWF HTH S8 R8 SF RF hHeld
  obtain ⟨WG, hWG, hwG, hsG, HTG, HLG, bG⟩ := seat_out old _ rfl b6F
  have hsGa := Nat.le_of_eq hsG
  have hsGb := Nat.le_of_eq hsG.symm
  clear hsG
  have hWG' : Hid (WF.setCells (w.heap.size + 1) 0 old.cells.toArray.toList = WG) := hWG.out
  have tG : Touch [w.heap.size + 1] WF WG := ⟨hwG.os, hwG.tape, hwG.output, hwG.size, fun j hj hn => hwG.block j hj (fun hh => hn (by simp; omega))⟩
  have hBy : B ∉ blocksSts (some ⟨g, 0, none⟩) c (us.set k q) := fun hk => (HOB.out B hk).elim (fun h => p8.off (by rw [hbl.out]; exact h)) (fun h => by omega)
  have hn1 : w.heap.size + 1 ∉ blocksSts (some ⟨g, 0, none⟩) c (us.set k q) := fun hk => (HOB.out _ hk).elim (fun h => by rw [← hbl.out] at h; have := hltb _ h; omega) (fun h => by omega)
  have kG := bBF.touch tG (by simp; omega)
  have oG := (oF.touch tG (fun j hk hk' => hn1 (by rw [← List.mem_singleton.1 hk']; exact hk))).widen (Nat.le_refl _) (show max hi w2.heap.size ≤ WG.heap.size by omega) (Nat.le_refl _)
  have TG : Touch (B :: blocksSts (some ⟨g, 0, none⟩) c ss) w WG := ⟨tG.os.trans TF.os, tG.tape.trans TF.tape, tG.output.trans TF.output, Nat.le_trans TF.size tG.size, fun j hj hn => (tG.block j (by have := TF.size; omega) (by simp; omega)).trans (TF.block j hj hn)⟩
  have hnold : ∀ j ∈ old.blocks, j ∉ [w.heap.size + 1] := fun j hj hk => by have h1 := (oold8.blocks_lt j hj).2; have h2 := List.mem_singleton.1 hk; omega
  have oG2 := ((oold8.touch tF (fun j hj hk => hng (by rw [← List.mem_singleton.1 hk]; exact hj))).touch tG hnold).widen (Nat.le_refl lo) (show hi ≤ WG.heap.size by omega) (Nat.le_refl _)
  have hoB : ∀ j ∈ old.blocks, j ∈ blocksSts (some ⟨g, 0, none⟩) c ss := fun j hj => by rw [← hbl.out]; exact List.mem_append.2 (.inr (List.mem_flatMap.2 ⟨old, by rw [← hold.out]; exact seatD_mem us k (by omega), hj⟩))
  have HEND : Hid (bringV (ss.map SeatA.v) h ⟨no, pg.lsn, pg.ss.map (·.v), false, true⟩ = ((us.set k q).map SeatA.v, hand', old.v, true)) := by
   obtain ⟨e1, e2, e3⟩ := HOV.out
   rw [Hid, bringV, if_neg (by rw [List.length_map]; exact hlt), ← e1, ← e2, ← e3, seatV_at, hold.out, List.map_set, HQV.out]
  have HPL : Hid (Brought lo B o vs t (some ⟨g, 0, none⟩) c ss w WG (us.set k q) (some ⟨g, 0, none⟩) c hand' old) := by
   refine ⟨⟨?_, ?_, ?_, oG, hBy⟩, fun j hk => (HOB.out j hk).imp id (fun h => by omega), TG, oG2, hoB⟩
   ·have e : vs.set o (.slice (some ⟨g, 0, none⟩) (us.set k q).length c) = vs := by
     have hc := p8.c0
     rw [List.getElem?_set_ne (by omega)] at hc
     obtain ⟨_, h2⟩ := List.getElem?_eq_some_iff.1 hc
     rw [List.length_set, ← h2, List.set_getElem_self]
    rw [e]; exact kG
   ·have hc := p8.c0
    rw [List.getElem?_set_ne (by omega)] at hc ⊢
    rw [List.getElem?_set_self (List.getElem?_eq_some_iff.1 hc).1]
   ·have hc := (List.getElem?_eq_some_iff.1 p8.c1).1
    rw [List.length_set] at hc
    rw [List.getElem?_set_self (by rw [List.length_set]; exact hc)]
  have HTG' : WF.there (w.heap.size + 1) 0 old.cells.toArray.size := HTG.out
  have HOz := seat_one old
  have rL : WF.rangeAt w5.heap.size 0 old.cells := Box.range [] old.cells [] (by simpa using b7F)
  clear kG oG TG bBF oF b6F b4F b7F TF tG tF T8 p8 oq8 oold8 b68 b48 b78
  go_wp2_with (first | (guard_target = wpList _ _ _ (Oper.mk (some 48) _ _ _ _ _ :: _) _ _; refine wpList_load_mid rfl 172 (.tmp 10) rfl w5.heap.size 0 rfl old.cells _ rL Tryz.underlying172 rfl HI7.out ?_) | (guard_target = wpList _ _ _ (Oper.mk none (Op.store _ (Operand.tmp 6) _) _ _ _ _ :: _) _ _; refine wpList_store_mid rfl 172 (.tmp 6) (.tmp 48) rfl (w.heap.size + 1) 0 old.cells.toArray rfl rfl HTG' HI7.out HOz ?_; rw [hWG'.out]) | fail)
  exact bodyPost_ret (v := .tuple #[.agg old.cells.toArray, .bool true]) (results_cell_flag Tryz.results133 rfl HLG.out rfl) rfl ⟨us.set k q, some ⟨g, 0, none⟩, c, hand', old, true, rfl, HEND, HPL.out⟩
end Go.Proofs.YtoboickdkednkaaGreatDoor