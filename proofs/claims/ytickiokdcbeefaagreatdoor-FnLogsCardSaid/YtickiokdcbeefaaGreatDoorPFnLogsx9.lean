/- Several texts in one, in their order. -/
import Derived.Test.YtickiokdcbeefaaGreatDoorPFnLogsx8
import Derived.Test.YtickiokdcbeefaaGreatDoorPFnLogsx4
import Derived.Deep.RegionLaw
import Derived.Deep.DrawnRows
import Derived.Test.YtickiokdcbeefaaGreatDoorPFnLogsx1
set_option maxHeartbeats 8000000
set_option maxRecDepth 100000
namespace Go.Proofs.YtickiokdcbeefaaGreatDoor
open Go.RowKit
attribute [local go_sem ↓] Go.wp_at_zero Go.wp_at_succ
theorem four_slots {ts : List SlotA} (h : ts.length = 4) : ∃ a b c d, ts = [a, b, c, d] := by
 match ts, h with
 | [a, b, c, d], _ => exact ⟨a, b, c, d, rfl⟩
def bringV (ss : List SeatV) (h : Nat) (new : SeatV) : List SeatV × Nat × SeatV × Bool :=
 if ss.length < 3 then (ss ++ [new], h, zeroStV, false) else ((victimV 4 ss h).1.set (victimV 4 ss h).2.2 new, (victimV 4 ss h).2.1, (victimV 4 ss h).1.getD (victimV 4 ss h).2.2 zeroStV, true)
structure Brought (lo B o : Nat) (vs : List Value) (t : TypeId) (a : Option Addr) (c : Nat) (ss : List SeatA) (w w' : World) (ts : List SeatA) (a' : Option Addr) (c' hand' : Nat) (old : SeatA) : Prop where
 pool : PoolAt w' lo w'.heap.size B o ((vs.set o (.slice a' ts.length c')).set (o + 1) (.int .i64 hand')) t a' c' ts hand'
 fresh : ∀ k ∈ blocksSts a' c' ts, k ∈ blocksSts a c ss ∨ w.heap.size ≤ k
 touch : Touch (B :: blocksSts a c ss) w w'
 went : old.own w' lo w'.heap.size
 wentB : ∀ k ∈ old.blocks, k ∈ blocksSts a c ss
def BringAns (lo B o : Nat) (vs : List Value) (t : TypeId) (a : Option Addr) (c : Nat) (ss : List SeatA) (h : Nat) (new : SeatV) (w : World) (r : Ending) (w' : World) : Prop :=
 ∃ (ts : List SeatA) (a' : Option Addr) (c' hand' : Nat) (old : SeatA) (went : Bool), r = .returned (.tuple #[.agg old.cells.toArray, .bool went]) ∧ Hid (bringV (ss.map SeatA.v) h new = (ts.map SeatA.v, hand', old.v, went)) ∧ Brought lo B o vs t a c ss w w' ts a' c' hand' old
theorem PoolAt.below {w w' : World} {lo hi B o : Nat} {vs : List Value} {t : TypeId} {a : Option Addr} {c : Nat} {ss : List SeatA} {hand : Int} (h : PoolAt w lo hi B o vs t a c ss hand) (hb : Below w.heap.size w w') : PoolAt w' lo hi B o vs t a c ss hand :=
 ⟨h.box.below hb h.box.lt, h.c0, h.c1, h.own.below hb, h.off⟩
theorem zeroS_own (w : World) (lo hi : Nat) (h : hi ≤ w.heap.size) : zeroS.own w lo hi := ⟨ownI_nil w lo hi h, ownI_nil w lo hi h, fun k h1 _ => by cases h1⟩
theorem zeroSt_blocks : zeroSt.blocks = [] := rfl
theorem zeroSt_own (w : World) (lo hi : Nat) (h : hi ≤ w.heap.size) : zeroSt.own w lo hi := ⟨fun s hs => by
 simp only [SeatA.ss, zeroSt, List.mem_cons, List.not_mem_nil, or_false] at hs
 have : s = zeroS := by rcases hs with h | h | h | h <;> exact h
 subst this
 exact zeroS_own w lo hi h, by show ([] : List Nat).Nodup; simp⟩
theorem set_set_ne {vs : List Value} {o : Nat} {x y : Value} (h : vs[o + 1]? = some y) : (vs.set o x).set (o + 1) y = vs.set o x := by
 have h1 : (vs.set o x)[o + 1]? = some y := by rw [List.getElem?_set_ne (by omega)]; exact h
 obtain ⟨_, h2⟩ := List.getElem?_eq_some_iff.1 h1
 rw [← h2, List.set_getElem_self]
theorem l6Bring_any (lo hi B o : Nat) (vs : List Value) (t : TypeId) (a : Option Addr) (c : Nat) (ss : List SeatA) (h : Nat) (no : Int) (pg : PageA) (w : World) (hp : PoolAt w lo hi B o vs t a c ss h) (hlo : lo ≤ hi) (h3 : ss.length ≤ 3) (hh : h < 3) (h4 : pg.ss.length = 4) (hr : ReadsS w pg.ss) (hl : Fit pg.ss) :
  Calls Tryz.prog 134 #[.pointer (some ⟨B, o, none⟩), .int .i64 no, .agg pg.cells.toArray] w fun r w' => BringAns lo B o vs t a c ss h ⟨no, pg.lsn, pg.ss.map (·.v), false, true⟩ w r w' := by
 obtain ⟨W, hW, b0, b1, hbW, hsW⟩ := boxes2 w pg.cells zeroSt.cells 98 176
 have HIP : Hid ((Tryz.prog.info? 98).map (·.size) = some pg.cells.length) := by rw [Hid, page_len pg h4]; kernel_rfl
 have HRG : Hid (W.rangeAt w.heap.size 0 pg.cells) := Box.range [] pg.cells [] (by simpa using b0)
 have hws : w.heap.size + 1 < W.heap.size := by omega
 have hW' : Hid ((w.alloc (.cells pg.cells.toArray 98)).alloc (.cells #[.int .i64 0, .int .i64 0, .bool false, .int .i64 0, .slice none 0 0, .slice none 0 0, .bool false, .int .i64 0, .slice none 0 0, .slice none 0 0, .bool false, .int .i64 0, .slice none 0 0, .slice none 0 0, .bool false, .int .i64 0, .slice none 0 0, .slice none 0 0, .bool false, .bool false] 176) = W) := hW.out
 have htop := hp.own.top
 have hBlt := hp.box.lt
 clear hsW hW b0
 go_enter Tryz.func134, Tryz.ntmps134
 go_upto_region 1 with fail
 rw [hW'.out]
 clear hW'
 go_wp2_with (first | (guard_target = wpList _ _ _ (Oper.mk (some 12) _ _ _ _ _ :: _) _ _; refine wpList_load_mid rfl 98 (.tmp 5) rfl w.heap.size 0 rfl pg.cells _ HRG.out Tryz.underlying98 rfl HIP.out ?_) | fail)
 refine (l3Copy_own pg h4 W (hr.below hbW) hl).mono ?_
 rintro e w2 ⟨ts, rfl, hts, ho2, hb2⟩
 obtain ⟨x0, x1, x2, x3, rfl⟩ := four_slots (ts := ts) (by have := congrArg List.length hts.out; simpa [h4] using this)
 obtain ⟨q, hq⟩ : ∃ q : SeatA, Hid ((⟨no, pg.lsn, x0, x1, x2, x3, false, true⟩ : SeatA) = q) := ⟨_, rfl⟩
 have HQV : Hid (q.v = ⟨no, pg.lsn, pg.ss.map (·.v), false, true⟩) := by rw [Hid, ← hq.out, ← hts.out]; rfl
 have oq2 : q.own w2 W.heap.size w2.heap.size := by rw [← hq.out]; exact ho2
 have hs2 := hb2.size
 obtain ⟨W3, hW3, b3, hb3, hs3⟩ := boxes1 w2 zeroSt.cells 176
 obtain ⟨W4, hW4, hw4, hs4, HT4, _, b4⟩ := seat_out q _ rfl b3
 have HO4 := seat_one q
 have HI : Hid ((Tryz.prog.info? 176).map (·.size) = some q.cells.length) := seat_info q
 have N34 : Below w2.heap.size w2 W4 := hb3.trans (hw4.below (Nat.le_refl _) (by omega))
 have hW3' : Hid (w2.alloc (.cells #[.int .i64 0, .int .i64 0, .bool false, .int .i64 0, .slice none 0 0, .slice none 0 0, .bool false, .int .i64 0, .slice none 0 0, .slice none 0 0, .bool false, .int .i64 0, .slice none 0 0, .slice none 0 0, .bool false, .int .i64 0, .slice none 0 0, .slice none 0 0, .bool false, .bool false] 176) = W3) := hW3.out
 have hW4' : Hid (W3.setCells w2.heap.size 0 q.cells.toArray.toList = W4) := hW4.out
 have N2 : Below w.heap.size w w2 := hbW.trans (hb2.mono hbW.size)
 have N4 : Below w.heap.size w W4 := N2.trans (N34.mono N2.size)
 have b6 : Box W4 (w.heap.size + 1) zeroSt.cells 176 := (b1.below hb2 b1.lt).below N34 (by omega)
 have oq4 := oq2.below N34
 have p4 := hp.below N4
 have hz4 := b4.lt
 clear hW3 hW4 hs3 hs4 hw4 hb3 b3 ho2 hts b1 oq2 hp
 go_upto_region 2 with (first | (guard_target = wpList _ _ _ (Oper.mk (some 14) _ _ _ _ _ :: _) _ _; refine build_seat (.tmp 11) (.tmp 13) no pg.lsn x0 x1 x2 x3 rfl rfl ?_; rw [hq.out]) | (guard_target = wpList _ _ _ (Oper.mk none (Op.store _ (Operand.tmp 8) _) _ _ _ _ :: _) _ _; refine wpList_store_mid rfl 176 (.tmp 8) (.tmp 14) rfl w2.heap.size 0 q.cells.toArray rfl rfl (by rw [hW3'.out]; exact HT4.out) HI.out HO4 ?_; rw [hW3'.out, hW4'.out]) | fail)
 clear hq hW3' hW4' HT4
 have y0 := p4.box.cell o _ p4.c0
 by_cases hlt : ss.length < 3
 ·have hltb : (ss.length : Int) < 3 := by omega
  go_upto_region 3 with fail
  clear y0
  have d4 : Box W4.drew B vs t := p4.box.drewN 1
  have e4 : Box W4.drew w2.heap.size q.cells 176 := b4.drewN 1
  have y0 := d4.cell o _ p4.c0
  have r4 : W4.drew.rangeAt w2.heap.size 0 q.cells := Box.range [] q.cells [] (by simpa using e4)
  refine wp_region_held_drew (S := fun w' => w'.rangeAt w2.heap.size 0 q.cells ∧ True) (by kernel_rfl) ?_ (fun hHeld => ?_)
  ·exact ⟨r4, trivial⟩
  refine tk 0 (v := .pointer (some ⟨B, o, none⟩)) rfl (Or.inl ⟨by rfl, ?_⟩) hHeld ?_
  ·intro w' hSw
   go_simp <;> rfl
  try simp only [Act.put, zA, zB, zD, zE, zF]
  refine tk 1 (v := .pointer (some ⟨B, o, none⟩)) rfl (Or.inl ⟨by rfl, ?_⟩) hHeld ?_
  ·intro w' hSw
   go_simp <;> rfl
  try simp only [Act.put, zA, zB, zC, zD, zE, zF]
  refine tk 2 (v := .pointer (some ⟨B, o, none⟩)) rfl (Or.inl ⟨by rfl, ?_⟩) hHeld ?_
  ·intro w' hSw
   go_simp <;> rfl
  try simp only [Act.put, zA, zB, zC, zD, zE, zF]
  refine tk 3 (v := .pointer (some ⟨B, o, none⟩)) rfl (Or.inl ⟨by rfl, ?_⟩) hHeld ?_
  ·intro w' hSw
   go_simp <;> rfl
  try simp only [Act.put, zA, zB, zC, zD, zE, zF]
  refine tk 5 rfl (yieldsIf_load_mid (by rfl) _ _ rfl _ _ rfl q.cells _ (fun _ h => h.1) Tryz.underlying176 rfl HI.out) hHeld ?_
  try simp only [Act.put, zA, zB, zC, zD, zE, zF]
  refine wpAnyH_ready (rs := [4, 6]) (by kernel_rfl) (by simp) ?_
  refine AllReadyH.cons rfl (fun K hK => ?_) (AllReadyH.cons rfl (fun K hK => ?_) AllReadyH.nil)
  ·go_simp
   refine hK.out _ _ (hHeld) (fun hHeld => ?_)
   clear hK K
   try simp only [Act.put, zA, zB, zC, zD, zE, zF]
   refine wpAnyH_ready (rs := [6]) (by kernel_rfl) (by simp) ?_
   refine AllReadyH.cons rfl (fun K hK => ?_) AllReadyH.nil
   go_simp
   simp only [cellsSt_len, lit_seat, not_true_eq_false, Nat.lt_irrefl, or_self, if_false]
   go_simp
   obtain ⟨V5, hV5, b5', hb5, hs5⟩ := boxes1 W4 q.cells 176
   rw [hV5.out]
   obtain ⟨W5, hW5⟩ : ∃ W5, Hid (V5.drew = W5) := ⟨_, rfl⟩
   rw [hW5.out]
   have b5 : Box W5 W4.heap.size q.cells 176 := by rw [← hW5.out]; exact b5'.drewN 1
   have ND : Below W4.heap.size W4 W5 := by rw [← hW5.out]; exact hb5.drew
   have p5 := p4.below ND
   have oq5 := oq4.below ND
   have b65 := b6.below ND b6.lt
   have b45 := b4.below ND b4.lt
   have r5 : W5.rangeAt W4.heap.size 0 q.cells := Box.range [] q.cells [] (by simpa using b5)
   have r45 : W5.rangeAt w2.heap.size 0 q.cells := Box.range [] q.cells [] (by simpa using b45)
   have N5 : Below w.heap.size w W5 := N4.trans (ND.mono N4.size)
   have hs45 := ND.size
   clear hs5 hb5 hW5 hV5 b5 b5' b45
   refine hK.out _ _ (⟨r45, trivial⟩) (fun hHeld => ?_)
   clear hK K
   try simp only [Act.put, zA, zB, zC, zD, zE, zF]
   refine wpAnyH_ready (rs := [7]) (by kernel_rfl) (by simp) ?_
   refine AllReadyH.cons rfl (fun K hK => ?_) AllReadyH.nil
   refine step_append_seat rfl (.tmp 25) (.tmp 27) rfl lo hi a c ss rfl p5.own W4.heap.size 0 1 q rfl r5 W.heap.size w2.heap.size oq5 (by omega) (by omega) (by omega) hlo ?_
   intro a9 c9 w9 o9 g9 f9
   obtain ⟨ys, hys⟩ : ∃ ys, Hid (ss ++ [q] = ys) := ⟨_, rfl⟩
   have HOB : Hid (∀ k ∈ blocksSts a9 c9 (ss ++ [q]), k ∈ blocksSts a c ss ∨ W.heap.size ≤ k) := fun k hk => by
    simp only [blocksSts, List.mem_append, Option.mem_toList, List.flatMap_append, List.flatMap_cons, List.flatMap_nil, List.append_nil] at hk ⊢
    rcases hk with hk | hk | hk
    ·rcases f9 k hk with h | h
     ·exact .inl (.inl h)
     ·exact .inr (by have := ND.size; omega)
    ·exact .inl (.inr hk)
    ·exact .inr (by have := (oq5.blocks_lt k hk).1; omega)
   rw [hys.out] at o9 HOB ⊢
   have t9 : Touch (blocksSts a c ss) W5 w9 := Touch.of_grown g9 (fun k hk => List.mem_append.2 (.inl (Option.mem_toList.2 hk)))
   have hltb : ∀ k ∈ blocksSts a c ss, k < w.heap.size := fun k hk => by have := (p5.own.blocks_lt k hk).2; omega
   have k9 := p5.box.touch t9 p5.off
   have b69 := b65.touch t9 (fun hk => by have := hltb _ hk; omega)
   have hs9 := t9.size
   have hw2n : w2.heap.size ∉ blocksSts a c ss := fun hk => by have := hltb _ hk; omega
   have r49 : w9.rangeAt w2.heap.size 0 q.cells := rangeAt_block r45 (t9.block _ (by omega) hw2n)
   have T9 : Touch (B :: blocksSts a c ss) w w9 := (Touch.of_below N5).trans (t9.mono (fun k hk => List.mem_cons_of_mem _ hk))
   refine hK.out _ _ (⟨r49, trivial⟩) (fun hHeld => ?_)
   clear hK K g9 f9
   try simp only [Act.put, zA, zB, zC, zD, zE, zF]
   refine tk 8 (v := .pointer (some ⟨B, o, none⟩)) rfl (Or.inl ⟨by rfl, ?_⟩) hHeld ?_
   ·intro w' hSw
    go_simp <;> rfl
   try simp only [Act.put, zA, zB, zC, zD, zE, zF]
   refine tk 9 (v := .pointer (some ⟨B, o, none⟩)) rfl (Or.inl ⟨by rfl, ?_⟩) hHeld ?_
   ·intro w' hSw
    go_simp <;> rfl
   try simp only [Act.put, zA, zB, zC, zD, zE, zF]
   have m0 := k9.cell o _ p4.c0
   have mf0 := k9.frozen o
   obtain ⟨WF, hWF, kF, hwF, hsF⟩ := box_set k9 o (.slice a9 ys.length c9)
   have hsFa := Nat.le_of_eq hsF
   have hsFb := Nat.le_of_eq hsF.symm
   clear hsF
   have tF : Touch [B] w9 WF := ⟨hwF.os, hwF.tape, hwF.output, hwF.size, fun j hj hn => hwF.block j hj (fun hh => hn (by simp; omega))⟩
   have hBw : B < w.heap.size := by have := p4.box.lt; exact hBlt
   have hBy : B ∉ blocksSts a9 c9 ys := fun hk => (HOB.out B hk).elim p4.off (fun h => by omega)
   have oF := o9.touch tF (fun k hk hk' => hBy (by rw [← List.mem_singleton.1 hk']; exact hk))
   have b6F := b69.touch tF (by simp; omega)
   have r4F : WF.rangeAt w2.heap.size 0 q.cells := rangeAt_block r49 (tF.block _ (by omega) (by simp; omega))
   have TF : Touch (B :: blocksSts a c ss) w WF := T9.trans (tF.mono (by simp))
   refine wpAnyH_ready (rs := [10]) (by kernel_rfl) (by simp) ?_
   refine AllReadyH.cons rfl (fun K hK => ?_) AllReadyH.nil
   go_simp
   rw [hWF.out]
   refine hK.out _ _ (⟨r4F, trivial⟩) (fun hHeld => ?_)
   clear hK K
   try simp only [Act.put, zA, zB, zC, zD, zE, zF]
   refine wpAnyH_done (by kernel_rfl) ?_ _
   clear m0 mf0 hWF
   obtain ⟨WG, hWG, hwG, hsG, HTG, HLG, bG⟩ := seat_out zeroSt _ rfl b6F
   have hsGa := Nat.le_of_eq hsG
   have hsGb := Nat.le_of_eq hsG.symm
   clear hsG
   have hWG' : Hid (WF.setCells (w.heap.size + 1) 0 zeroSt.cells.toArray.toList = WG) := hWG.out
   have tG : Touch [w.heap.size + 1] WF WG := ⟨hwG.os, hwG.tape, hwG.output, hwG.size, fun j hj hn => hwG.block j hj (fun hh => hn (by simp; omega))⟩
   have hn1 : w.heap.size + 1 ∉ blocksSts a9 c9 ys := fun hk => (HOB.out _ hk).elim (fun h => by have := hltb _ h; omega) (fun h => by omega)
   have kG := kF.touch tG (by simp; omega)
   have oG := (oF.touch tG (fun k hk hk' => hn1 (by rw [← List.mem_singleton.1 hk']; exact hk))).widen (Nat.le_refl _) (show w9.heap.size ≤ WG.heap.size by omega) (Nat.le_refl _)
   have TG : Touch (B :: blocksSts a c ss) w WG := ⟨tG.os.trans TF.os, tG.tape.trans TF.tape, tG.output.trans TF.output, Nat.le_trans TF.size tG.size, fun j hj hn => (tG.block j (by have := TF.size; omega) (by simp; omega)).trans (TF.block j hj hn)⟩
   have HEND : Hid (bringV (ss.map SeatA.v) h ⟨no, pg.lsn, pg.ss.map (·.v), false, true⟩ = (ys.map SeatA.v, h, zeroSt.v, false)) := by
    rw [Hid, bringV, if_pos (by rw [List.length_map]; exact hlt), ← hys.out, List.map_append, ← HQV.out]
    rfl
   have HPL : Hid (Brought lo B o vs t a c ss w WG ys a9 c9 h zeroSt) := by
    refine ⟨⟨?_, ?_, ?_, oG, hBy⟩, fun k hk => (HOB.out k hk).imp id (fun h => by omega), TG, zeroSt_own _ _ _ (Nat.le_refl _), fun k hk => by simp [zeroSt_blocks] at hk⟩
    ·rw [set_set_ne p4.c1]; exact kG
    ·rw [List.getElem?_set_ne (by omega), List.getElem?_set_self (List.getElem?_eq_some_iff.1 p4.c0).1]
    ·rw [List.getElem?_set_self (by rw [List.length_set]; exact (List.getElem?_eq_some_iff.1 p4.c1).1)]
   have HTG' : WF.there (w.heap.size + 1) 0 zeroSt.cells.toArray.size := HTG.out
   have HIz : (Tryz.prog.info? 176).map (·.size) = some zeroSt.cells.toArray.size := seat_info zeroSt
   have HOz := seat_one zeroSt
   clear kG oG TG kF oF b6F TF tG tF
   obtain ⟨Zs, hZs⟩ : ∃ Zs, Hid (zeroSt = Zs) := ⟨_, rfl⟩
   rw [hZs.out] at HTG' HIz HOz hWG' HLG HPL HEND
   go_wp2_with (first | (guard_target = wpList _ _ _ (Oper.mk (some 31) _ _ _ _ _ :: _) _ _; refine build_zero_seat ?_; rw [hZs.out]) | (guard_target = wpList _ _ _ (Oper.mk none (Op.store _ (Operand.tmp 6) _) _ _ _ _ :: _) _ _; refine wpList_store_mid rfl 176 (.tmp 6) (.tmp 31) rfl (w.heap.size + 1) 0 Zs.cells.toArray rfl rfl HTG' HIz HOz ?_; rw [hWG'.out]) | fail)
   exact bodyPost_ret (v := .tuple #[.agg Zs.cells.toArray, .bool false]) (results_cell_flag Tryz.results134 rfl HLG.out rfl) rfl ⟨ys, a9, c9, h, Zs, false, rfl, HEND, HPL.out⟩
  ·go_simp
   simp only [cellsSt_len, lit_seat, not_true_eq_false, Nat.lt_irrefl, or_self, if_false]
   go_simp
   obtain ⟨V5, hV5, b5', hb5, hs5⟩ := boxes1 W4 q.cells 176
   rw [hV5.out]
   obtain ⟨W5, hW5⟩ : ∃ W5, Hid (V5.drew = W5) := ⟨_, rfl⟩
   rw [hW5.out]
   have b5 : Box W5 W4.heap.size q.cells 176 := by rw [← hW5.out]; exact b5'.drewN 1
   have ND : Below W4.heap.size W4 W5 := by rw [← hW5.out]; exact hb5.drew
   have p5 := p4.below ND
   have oq5 := oq4.below ND
   have b65 := b6.below ND b6.lt
   have b45 := b4.below ND b4.lt
   have r5 : W5.rangeAt W4.heap.size 0 q.cells := Box.range [] q.cells [] (by simpa using b5)
   have r45 : W5.rangeAt w2.heap.size 0 q.cells := Box.range [] q.cells [] (by simpa using b45)
   have N5 : Below w.heap.size w W5 := N4.trans (ND.mono N4.size)
   have hs45 := ND.size
   clear hs5 hb5 hW5 hV5 b5 b5' b45
   refine hK.out _ _ (⟨r45, trivial⟩) (fun hHeld => ?_)
   clear hK K
   try simp only [Act.put, zA, zB, zC, zD, zE, zF]
   clear y0
   have y0 := p5.box.cell o _ p4.c0
   refine wpAnyH_ready (rs := [4]) (by kernel_rfl) (by simp) ?_
   refine AllReadyH.cons rfl (fun K hK => ?_) AllReadyH.nil
   go_simp
   refine hK.out _ _ (hHeld) (fun hHeld => ?_)
   clear hK K
   try simp only [Act.put, zA, zB, zC, zD, zE, zF]
   refine wpAnyH_ready (rs := [7]) (by kernel_rfl) (by simp) ?_
   refine AllReadyH.cons rfl (fun K hK => ?_) AllReadyH.nil
   refine step_append_seat rfl (.tmp 25) (.tmp 27) rfl lo hi a c ss rfl p5.own W4.heap.size 0 1 q rfl r5 W.heap.size w2.heap.size oq5 (by omega) (by omega) (by omega) hlo ?_
   intro a9 c9 w9 o9 g9 f9
   obtain ⟨ys, hys⟩ : ∃ ys, Hid (ss ++ [q] = ys) := ⟨_, rfl⟩
   have HOB : Hid (∀ k ∈ blocksSts a9 c9 (ss ++ [q]), k ∈ blocksSts a c ss ∨ W.heap.size ≤ k) := fun k hk => by
    simp only [blocksSts, List.mem_append, Option.mem_toList, List.flatMap_append, List.flatMap_cons, List.flatMap_nil, List.append_nil] at hk ⊢
    rcases hk with hk | hk | hk
    ·rcases f9 k hk with h | h
     ·exact .inl (.inl h)
     ·exact .inr (by have := ND.size; omega)
    ·exact .inl (.inr hk)
    ·exact .inr (by have := (oq5.blocks_lt k hk).1; omega)
   rw [hys.out] at o9 HOB ⊢
   have t9 : Touch (blocksSts a c ss) W5 w9 := Touch.of_grown g9 (fun k hk => List.mem_append.2 (.inl (Option.mem_toList.2 hk)))
   have hltb : ∀ k ∈ blocksSts a c ss, k < w.heap.size := fun k hk => by have := (p5.own.blocks_lt k hk).2; omega
   have k9 := p5.box.touch t9 p5.off
   have b69 := b65.touch t9 (fun hk => by have := hltb _ hk; omega)
   have hs9 := t9.size
   have hw2n : w2.heap.size ∉ blocksSts a c ss := fun hk => by have := hltb _ hk; omega
   have r49 : w9.rangeAt w2.heap.size 0 q.cells := rangeAt_block r45 (t9.block _ (by omega) hw2n)
   have T9 : Touch (B :: blocksSts a c ss) w w9 := (Touch.of_below N5).trans (t9.mono (fun k hk => List.mem_cons_of_mem _ hk))
   refine hK.out _ _ (⟨r49, trivial⟩) (fun hHeld => ?_)
   clear hK K g9 f9
   try simp only [Act.put, zA, zB, zC, zD, zE, zF]
   refine tk 8 (v := .pointer (some ⟨B, o, none⟩)) rfl (Or.inl ⟨by rfl, ?_⟩) hHeld ?_
   ·intro w' hSw
    go_simp <;> rfl
   try simp only [Act.put, zA, zB, zC, zD, zE, zF]
   refine tk 9 (v := .pointer (some ⟨B, o, none⟩)) rfl (Or.inl ⟨by rfl, ?_⟩) hHeld ?_
   ·intro w' hSw
    go_simp <;> rfl
   try simp only [Act.put, zA, zB, zC, zD, zE, zF]
   have m0 := k9.cell o _ p4.c0
   have mf0 := k9.frozen o
   obtain ⟨WF, hWF, kF, hwF, hsF⟩ := box_set k9 o (.slice a9 ys.length c9)
   have hsFa := Nat.le_of_eq hsF
   have hsFb := Nat.le_of_eq hsF.symm
   clear hsF
   have tF : Touch [B] w9 WF := ⟨hwF.os, hwF.tape, hwF.output, hwF.size, fun j hj hn => hwF.block j hj (fun hh => hn (by simp; omega))⟩
   have hBw : B < w.heap.size := by have := p4.box.lt; exact hBlt
   have hBy : B ∉ blocksSts a9 c9 ys := fun hk => (HOB.out B hk).elim p4.off (fun h => by omega)
   have oF := o9.touch tF (fun k hk hk' => hBy (by rw [← List.mem_singleton.1 hk']; exact hk))
   have b6F := b69.touch tF (by simp; omega)
   have r4F : WF.rangeAt w2.heap.size 0 q.cells := rangeAt_block r49 (tF.block _ (by omega) (by simp; omega))
   have TF : Touch (B :: blocksSts a c ss) w WF := T9.trans (tF.mono (by simp))
   refine wpAnyH_ready (rs := [10]) (by kernel_rfl) (by simp) ?_
   refine AllReadyH.cons rfl (fun K hK => ?_) AllReadyH.nil
   go_simp
   rw [hWF.out]
   refine hK.out _ _ (⟨r4F, trivial⟩) (fun hHeld => ?_)
   clear hK K
   try simp only [Act.put, zA, zB, zC, zD, zE, zF]
   refine wpAnyH_done (by kernel_rfl) ?_ _
   clear m0 mf0 hWF
   obtain ⟨WG, hWG, hwG, hsG, HTG, HLG, bG⟩ := seat_out zeroSt _ rfl b6F
   have hsGa := Nat.le_of_eq hsG
   have hsGb := Nat.le_of_eq hsG.symm
   clear hsG
   have hWG' : Hid (WF.setCells (w.heap.size + 1) 0 zeroSt.cells.toArray.toList = WG) := hWG.out
   have tG : Touch [w.heap.size + 1] WF WG := ⟨hwG.os, hwG.tape, hwG.output, hwG.size, fun j hj hn => hwG.block j hj (fun hh => hn (by simp; omega))⟩
   have hn1 : w.heap.size + 1 ∉ blocksSts a9 c9 ys := fun hk => (HOB.out _ hk).elim (fun h => by have := hltb _ h; omega) (fun h => by omega)
   have kG := kF.touch tG (by simp; omega)
   have oG := (oF.touch tG (fun k hk hk' => hn1 (by rw [← List.mem_singleton.1 hk']; exact hk))).widen (Nat.le_refl _) (show w9.heap.size ≤ WG.heap.size by omega) (Nat.le_refl _)
   have TG : Touch (B :: blocksSts a c ss) w WG := ⟨tG.os.trans TF.os, tG.tape.trans TF.tape, tG.output.trans TF.output, Nat.le_trans TF.size tG.size, fun j hj hn => (tG.block j (by have := TF.size; omega) (by simp; omega)).trans (TF.block j hj hn)⟩
   have HEND : Hid (bringV (ss.map SeatA.v) h ⟨no, pg.lsn, pg.ss.map (·.v), false, true⟩ = (ys.map SeatA.v, h, zeroSt.v, false)) := by
    rw [Hid, bringV, if_pos (by rw [List.length_map]; exact hlt), ← hys.out, List.map_append, ← HQV.out]
    rfl
   have HPL : Hid (Brought lo B o vs t a c ss w WG ys a9 c9 h zeroSt) := by
    refine ⟨⟨?_, ?_, ?_, oG, hBy⟩, fun k hk => (HOB.out k hk).imp id (fun h => by omega), TG, zeroSt_own _ _ _ (Nat.le_refl _), fun k hk => by simp [zeroSt_blocks] at hk⟩
    ·rw [set_set_ne p4.c1]; exact kG
    ·rw [List.getElem?_set_ne (by omega), List.getElem?_set_self (List.getElem?_eq_some_iff.1 p4.c0).1]
    ·rw [List.getElem?_set_self (by rw [List.length_set]; exact (List.getElem?_eq_some_iff.1 p4.c1).1)]
   have HTG' : WF.there (w.heap.size + 1) 0 zeroSt.cells.toArray.size := HTG.out
   have HIz : (Tryz.prog.info? 176).map (·.size) = some zeroSt.cells.toArray.size := seat_info zeroSt
   have HOz := seat_one zeroSt
   clear kG oG TG kF oF b6F TF tG tF
   obtain ⟨Zs, hZs⟩ : ∃ Zs, Hid (zeroSt = Zs) := ⟨_, rfl⟩
   rw [hZs.out] at HTG' HIz HOz hWG' HLG HPL HEND
   go_wp2_with (first | (guard_target = wpList _ _ _ (Oper.mk (some 31) _ _ _ _ _ :: _) _ _; refine build_zero_seat ?_; rw [hZs.out]) | (guard_target = wpList _ _ _ (Oper.mk none (Op.store _ (Operand.tmp 6) _) _ _ _ _ :: _) _ _; refine wpList_store_mid rfl 176 (.tmp 6) (.tmp 31) rfl (w.heap.size + 1) 0 Zs.cells.toArray rfl rfl HTG' HIz HOz ?_; rw [hWG'.out]) | fail)
   exact bodyPost_ret (v := .tuple #[.agg Zs.cells.toArray, .bool false]) (results_cell_flag Tryz.results134 rfl HLG.out rfl) rfl ⟨ys, a9, c9, h, Zs, false, rfl, HEND, HPL.out⟩
 ·have h33 : ss.length = 3 := by omega
  have C := l6Victim_any lo hi B o vs t a c ss h W4 p4 h33 hh
  have hge : ¬ (ss.length : Int) < 3 := by omega
  clear h33
  go_wp2_with fail
  refine C.mono ?_
  clear C y0
  rintro e w5 ⟨us, k, hand', rfl, hvic, hul, p5, hbl, t5⟩
  have HN4 : Hid (∀ j, W4.heap.size ≤ j → j ∉ blocksSts a c us) := fun j hj hk => by have := (p5.own.blocks_lt j hk).2; have := N4.size; omega
  have hltb : ∀ j ∈ blocksSts a c us, j < w.heap.size := fun j hk => by have := (p5.own.blocks_lt j hk).2; omega
  have hk3 : k < 3 := by have h := (victim_hand 4 (ss.map SeatA.v) h hh).2; rw [hvic.out] at h; exact h
  obtain ⟨g, rfl⟩ : ∃ g, a = some ⟨g, 0, none⟩ := by
   rcases p5.own.row.2 with ⟨_, h0⟩ | ⟨g, cap', cur, hv, _⟩
   ·omega
   ·simp only [Value.slice.injEq] at hv; exact ⟨g, hv.1⟩
  have hmem : g ∈ blocksSts (some ⟨g, 0, none⟩) c us := by simp [blocksSts, Value.ownBlock]
  have hgB : B ≠ g := fun e => p5.off (e ▸ hmem)
  have hgw := hltb g hmem
  have r5 := (row_seat p5.own.row rfl k (by omega)).1
  have b65 := b6.touch t5 (by rw [← hbl.out]; exact not_part (by omega) (fun hk => by have := hltb _ hk; omega))
  have b45 := b4.touch t5 (by rw [← hbl.out]; exact not_part (by omega) (fun hk => by have := hltb _ hk; have := N2.size; omega))
  have oq5 := oq4.touch t5 (fun j hj hk => by have hj1 := (oq4.blocks_lt j hj).1; rcases List.mem_cons.1 hk with rfl | hk; omega; rw [← hbl.out] at hk; have := hltb _ hk; omega)
  have oold := p5.own.each (us.getD k zeroSt) (seatD_mem us k (by omega))
  have HOV : Hid (us.map SeatA.v = (victimV 4 (ss.map SeatA.v) h).1 ∧ hand' = (victimV 4 (ss.map SeatA.v) h).2.1 ∧ k = (victimV 4 (ss.map SeatA.v) h).2.2) := by rw [Hid, hvic.out]; exact ⟨rfl, rfl, rfl⟩
  obtain ⟨old, hold⟩ : ∃ old, Hid (us.getD k zeroSt = old) := ⟨_, rfl⟩
  rw [hold.out] at r5 oold
  have T5 : Touch (B :: blocksSts (some ⟨g, 0, none⟩) c ss) w w5 := (Touch.of_below N4).trans t5
  have hs5 := t5.size
  have z5 := p5.box.cell o _ p5.c0
  obtain ⟨W6, hW6, b10, hb6, hs6⟩ := boxes1 w5 zeroSt.cells 176
  obtain ⟨W7, hW7, hw7, hs7, HT7, _, b7⟩ := seat_out old _ rfl b10
  have hW6' : Hid (w5.alloc (.cells #[.int .i64 0, .int .i64 0, .bool false, .int .i64 0, .slice none 0 0, .slice none 0 0, .bool false, .int .i64 0, .slice none 0 0, .slice none 0 0, .bool false, .int .i64 0, .slice none 0 0, .slice none 0 0, .bool false, .int .i64 0, .slice none 0 0, .slice none 0 0, .bool false, .bool false] 176) = W6) := hW6.out
  have hW7' : Hid (W6.setCells w5.heap.size 0 old.cells.toArray.toList = W7) := hW7.out
  have N57 : Below w5.heap.size w5 W7 := hb6.trans (hw7.below (Nat.le_refl _) (by omega))
  have HO7 := seat_one old
  have HI7 : Hid ((Tryz.prog.info? 176).map (·.size) = some old.cells.length) := seat_info old
  have p7 := p5.below N57
  have b67 := b65.below N57 b65.lt
  have b47 := b45.below N57 b45.lt
  have oq7 := oq5.below N57
  have oold7 := oold.below N57
  have T7 := T5.trans (Touch.of_below N57)
  have hs57 := N57.size
  have hlt7 := b7.lt
  have hkb : (k : Int) < (us.length : Int) := by omega
  have hk0 : (0 : Int) ≤ (k : Int) := by omega
  have hul1 : us.length ≤ 3 := by omega
  have hul2 : 3 ≤ us.length := by omega
  clear hW6 hW7 hs6 hs7 hw7 hb6 b10 hul p4 p5 b6 b4 oq4 b65 b45 oq5 oold T5 t5 N57 hvic
  go_upto_region 7 with (first | (guard_target = wpList _ _ _ (Oper.mk (some 40) _ _ _ _ _ :: _) _ _; refine wpList_load_mid rfl 176 (.tmp 39) rfl g (k * 20) rfl old.cells _ r5 Tryz.underlying176 rfl HI7.out ?_) | (guard_target = wpList _ _ _ (Oper.mk none (Op.store _ (Operand.tmp 10) _) _ _ _ _ :: _) _ _; refine wpList_store_mid rfl 176 (.tmp 10) (.tmp 40) rfl w5.heap.size 0 old.cells.toArray rfl rfl (by rw [hW6'.out]; exact HT7.out) HI7.out HO7 ?_; rw [hW6'.out, hW7'.out]) | fail)
  simp only [Act.put]
  clear r5 z5 hW6' hW7' HT7 HO7
  have ND : Below W7.heap.size W7 W7.drew := (Below.refl _ _).drew
  have p8 := p7.below ND
  have b68 := b67.below ND b67.lt
  have b48 := b47.below ND b47.lt
  have b78 := b7.below ND b7.lt
  have oq8 := oq7.below ND
  have oold8 := oold7.below ND
  have T8 := T7.trans (Touch.of_below ND)
  have hs78 := ND.size
  clear p7 b67 b47 b7 oq7 oold7 T7
  have hkl : (us.take k).length = k := by rw [List.length_take]; omega
  obtain ⟨WF, hWF, oF, tF, hsF⟩ := OwnSts.fill (A := us.take k) (z := us.getD k zeroSt) (B := us.drop (k + 1)) (by rw [← seatD_split us k (by omega)]; exact p8.own) q oq8 (by omega) hlo (by omega)
  rw [hkl] at hWF
  rw [← seat_set us k q (by omega)] at oF
  have hsFa := Nat.le_of_eq hsF
  have hsFb := Nat.le_of_eq hsF.symm
  clear hsF hkl
  have hgn : g < w.heap.size := hgw
  have HWF : Hid (W7.drew.setCells g (k * 20) q.cells.toArray.toList = WF) := hWF.out
  have HTH : Hid (W7.drew.there g (k * 20) q.cells.toArray.size) := (row_seat p8.own.row rfl k (by omega)).2
  have S8 : W7.drew.cell? ⟨B, o, none⟩ = some (.slice (some ⟨g, 0, none⟩) us.length c) := p8.box.cell o _ p8.c0
  have R8 : W7.drew.rangeAt w2.heap.size 0 q.cells := Box.range [] q.cells [] (by simpa using b48)
  have bBF := p8.box.touch tF (by simpa using hgB)
  have SF : WF.cell? ⟨B, o, none⟩ = some (.slice (some ⟨g, 0, none⟩) us.length c) := bBF.cell o _ p8.c0
  have b4F := b48.touch tF (by simp; have := N2.size; omega)
  have RF : WF.rangeAt w2.heap.size 0 q.cells := Box.range [] q.cells [] (by simpa using b4F)
  have b6F := b68.touch tF (by simp; omega)
  have b7F := b78.touch tF (by simp; omega)
  have TF : Touch (B :: blocksSts (some ⟨g, 0, none⟩) c ss) w WF := T8.trans (tF.mono (fun j hj => List.mem_cons_of_mem _ (by rw [← hbl.out, List.mem_singleton.1 hj]; exact hmem)))
  have hng : g ∉ old.blocks := fun hk => rowSt_apart p8.own.row oold8 g rfl hk
  have HOB : Hid (∀ j ∈ blocksSts (some ⟨g, 0, none⟩) c (us.set k q), j ∈ blocksSts (some ⟨g, 0, none⟩) c ss ∨ W.heap.size ≤ j) := fun j hj => by
   simp only [blocksSts, List.mem_append, Option.mem_toList, List.length_set] at hj
   rcases hj with hj | hj
   ·exact .inl (by rw [← hbl.out]; exact List.mem_append.2 (.inl (Option.mem_toList.2 hj)))
   ·obtain ⟨r, hr, hj2⟩ := List.mem_flatMap.1 hj
    rcases List.mem_or_eq_of_mem_set hr with hr | rfl
    ·exact .inl (by rw [← hbl.out]; exact List.mem_append.2 (.inr (List.mem_flatMap.2 ⟨r, hr, hj2⟩)))
    ·exact .inr (oq8.blocks_lt j hj2).1
  refine wp_region_held_drew (S := fun w' => w'.cell? ⟨B, o, none⟩ = some (.slice (some ⟨g, 0, none⟩) us.length c) ∧ w'.rangeAt w2.heap.size 0 q.cells) (by kernel_rfl) ?_ (fun hHeld => ?_)
  ·exact ⟨S8, R8⟩
  refine tk 0 (v := .pointer (some ⟨B, o, none⟩)) rfl (Or.inl ⟨by rfl, ?_⟩) hHeld ?_
  ·intro w' hSw
   go_simp <;> rfl
  try simp only [Act.put, zA, zB, zD, zE, zF]
  refine tk 1 (v := .pointer (some ⟨B, o, none⟩)) rfl (Or.inl ⟨by rfl, ?_⟩) hHeld ?_
  ·intro w' hSw
   go_simp <;> rfl
  try simp only [Act.put, zA, zB, zC, zD, zE, zF]
  refine tk 2 (v := .pointer (some ⟨B, o, none⟩)) rfl (Or.inl ⟨by rfl, ?_⟩) hHeld ?_
  ·intro w' hSw
   go_simp <;> rfl
  try simp only [Act.put, zA, zB, zC, zD, zE, zF]
  refine tk 3 (v := .slice (some ⟨g, 0, none⟩) us.length c) rfl (Or.inl ⟨by rfl, ?_⟩) hHeld ?_
  ·intro w' hSw
   have hx := hSw.1
   go_simp <;> rfl
  try simp only [Act.put, zA, zB, zC, zD, zE, zF]
  refine tk 4 (v := .int .i64 k) rfl (Or.inl ⟨by rfl, ?_⟩) hHeld ?_
  ·intro w' hSw
   go_simp <;> rfl
  try simp only [Act.put, zA, zB, zC, zD, zE, zF]
  refine tk 5 rfl (yieldsIf_load_mid (by rfl) _ _ rfl _ _ rfl q.cells _ (fun _ h => h.2) Tryz.underlying176 rfl HI.out) hHeld ?_
  try simp only [Act.put, zA, zB, zC, zD, zE, zF]
  refine tk 6 (v := .pointer (some ⟨g, k * 20, none⟩)) rfl (Or.inl ⟨by rfl, ?_⟩) hHeld ?_
  ·intro w' hSw
   go_simp <;> rfl
  try simp only [Act.put, zA, zB, zC, zD, zE, zF]
  refine wpAnyH_ready (rs := [7]) (by kernel_rfl) (by simp) ?_
  refine AllReadyH.cons rfl (fun K hK => ?_) AllReadyH.nil
  rw [if_pos (by rfl)]
  refine wp_store_mid 176 (.tmp 47) (.tmp 46) rfl g (k * 20) q.cells.toArray rfl rfl HTH.out HI.out (seat_one q) ?_
  rw [HWF.out]
  refine hK.out _ _ (⟨SF, RF⟩) (fun hHeld => ?_)
  clear hK K
  try simp only [Act.put, zA, zB, zC]
  refine wpAnyH_done (by kernel_rfl) ?_ _
  clear HWF HTH S8 R8 SF RF hHeld
  obtain ⟨WG, hWG, hwG, hsG, HTG, HLG, bG⟩ := seat_out old _ rfl b6F
  have hsGa := Nat.le_of_eq hsG
  have hsGb := Nat.le_of_eq hsG.symm
  clear hsG
  have hWG' : Hid (WF.setCells (w.heap.size + 1) 0 old.cells.toArray.toList = WG) := hWG.out
  have tG : Touch [w.heap.size + 1] WF WG := ⟨hwG.os, hwG.tape, hwG.output, hwG.size, fun j hj hn => hwG.block j hj (fun hh => hn (by simp; omega))⟩
  have hBy : B ∉ blocksSts (some ⟨g, 0, none⟩) c (us.set k q) := fun hk => (HOB.out B hk).elim (fun h => p8.off (by rw [hbl.out]; exact h)) (fun h => by omega)
  have hn1 : w.heap.size + 1 ∉ blocksSts (some ⟨g, 0, none⟩) c (us.set k q) := fun hk => (HOB.out _ hk).elim (fun h => by rw [← hbl.out] at h; have := hltb _ h; omega) (fun h => by omega)
  have kG := bBF.touch tG (by simp; omega)
  have oG := (oF.touch tG (fun j hk hk' => hn1 (by rw [← List.mem_singleton.1 hk']; exact hk))).widen (Nat.le_refl _) (show max hi w2.heap.size ≤ WG.heap.size by omega) (Nat.le_refl _)
  have TG : Touch (B :: blocksSts (some ⟨g, 0, none⟩) c ss) w WG := ⟨tG.os.trans TF.os, tG.tape.trans TF.tape, tG.output.trans TF.output, Nat.le_trans TF.size tG.size, fun j hj hn => (tG.block j (by have := TF.size; omega) (by simp; omega)).trans (TF.block j hj hn)⟩
  have hnold : ∀ j ∈ old.blocks, j ∉ [w.heap.size + 1] := fun j hj hk => by have h1 := (oold8.blocks_lt j hj).2; have h2 := List.mem_singleton.1 hk; omega
  have oG2 := ((oold8.touch tF (fun j hj hk => hng (by rw [← List.mem_singleton.1 hk]; exact hj))).touch tG hnold).widen (Nat.le_refl lo) (show hi ≤ WG.heap.size by omega) (Nat.le_refl _)
  have hoB : ∀ j ∈ old.blocks, j ∈ blocksSts (some ⟨g, 0, none⟩) c ss := fun j hj => by rw [← hbl.out]; exact List.mem_append.2 (.inr (List.mem_flatMap.2 ⟨old, by rw [← hold.out]; exact seatD_mem us k (by omega), hj⟩))
  have HEND : Hid (bringV (ss.map SeatA.v) h ⟨no, pg.lsn, pg.ss.map (·.v), false, true⟩ = ((us.set k q).map SeatA.v, hand', old.v, true)) := by
   obtain ⟨e1, e2, e3⟩ := HOV.out
   rw [Hid, bringV, if_neg (by rw [List.length_map]; exact hlt), ← e1, ← e2, ← e3, seatV_at, hold.out, List.map_set, HQV.out]
  have HPL : Hid (Brought lo B o vs t (some ⟨g, 0, none⟩) c ss w WG (us.set k q) (some ⟨g, 0, none⟩) c hand' old) := by
   refine ⟨⟨?_, ?_, ?_, oG, hBy⟩, fun j hk => (HOB.out j hk).imp id (fun h => by omega), TG, oG2, hoB⟩
   ·have e : vs.set o (.slice (some ⟨g, 0, none⟩) (us.set k q).length c) = vs := by
     have hc := p8.c0
     rw [List.getElem?_set_ne (by omega)] at hc
     obtain ⟨_, h2⟩ := List.getElem?_eq_some_iff.1 hc
     rw [List.length_set, ← h2, List.set_getElem_self]
    rw [e]; exact kG
   ·have hc := p8.c0
    rw [List.getElem?_set_ne (by omega)] at hc ⊢
    rw [List.getElem?_set_self (List.getElem?_eq_some_iff.1 hc).1]
   ·have hc := (List.getElem?_eq_some_iff.1 p8.c1).1
    rw [List.length_set] at hc
    rw [List.getElem?_set_self (by rw [List.length_set]; exact hc)]
  have HTG' : WF.there (w.heap.size + 1) 0 old.cells.toArray.size := HTG.out
  have HOz := seat_one old
  have rL : WF.rangeAt w5.heap.size 0 old.cells := Box.range [] old.cells [] (by simpa using b7F)
  clear kG oG TG bBF oF b6F b4F b7F TF tG tF T8 p8 oq8 oold8 b68 b48 b78
  go_wp2_with (first | (guard_target = wpList _ _ _ (Oper.mk (some 48) _ _ _ _ _ :: _) _ _; refine wpList_load_mid rfl 176 (.tmp 10) rfl w5.heap.size 0 rfl old.cells _ rL Tryz.underlying176 rfl HI7.out ?_) | (guard_target = wpList _ _ _ (Oper.mk none (Op.store _ (Operand.tmp 6) _) _ _ _ _ :: _) _ _; refine wpList_store_mid rfl 176 (.tmp 6) (.tmp 48) rfl (w.heap.size + 1) 0 old.cells.toArray rfl rfl HTG' HI7.out HOz ?_; rw [hWG'.out]) | fail)
  exact bodyPost_ret (v := .tuple #[.agg old.cells.toArray, .bool true]) (results_cell_flag Tryz.results134 rfl HLG.out rfl) rfl ⟨us.set k q, some ⟨g, 0, none⟩, c, hand', old, true, rfl, HEND, HPL.out⟩
end Go.Proofs.YtickiokdcbeefaaGreatDoor
namespace Go.Proofs.YtickiokdcbeefaaGreatDoor
open Go.RowKit
attribute [local go_sem ↓] Go.wp_at_zero Go.wp_at_succ
def writeV (e : EngV) (s : SeatV) : EngV := { e with log := ⟨e.log.recs, max e.log.sure (min s.lsn e.log.recs.length)⟩, disk := e.disk.set s.no.toNat (s.lsn, s.ss) }
theorem EngA.cells_set {e : EngA} (h : e.shape) (j : Nat) (v : Value) : e.cells.set (136 + j) v = cellsPs e.disk ++ e.tail.set j v := by
 rw [EngA.cells, List.set_append_right _ _ (by rw [EngA.disk_len h]; omega), EngA.disk_len h, show 136 + j - 136 = j by omega]
theorem EngAt.tailSet {w : World} {E : Nat} {e e' : EngA} (h : EngAt w E e) (j : Nat) (v : Value) (hd : e'.disk = e.disk) (ht : e'.tail = e.tail.set j v) :
  ∃ W, Hid (w.setCell ⟨E, 136 + j, none⟩ v = W) ∧ Box W E e'.cells TE ∧ Touch [E] w W ∧ W.heap.size = w.heap.size := by
 obtain ⟨W, hW, b, hw, hs⟩ := box_set h.box (136 + j) v
 rw [EngA.cells_set h.shape] at b
 refine ⟨W, hW, by rw [EngA.cells, hd, ht]; exact b, ⟨hw.os, hw.tape, hw.output, hw.size, fun k hk hn => hw.block k hk (fun hh => hn (by simp; omega))⟩, hs⟩
theorem OwnS.splice {w : World} {lo hi l u : Nat} {A X B Y : List SlotA} (h : OwnS w lo hi (A ++ (X ++ B))) (hy : OwnS w l u Y) (hl : hi ≤ l) (hlo : lo ≤ hi) (htop : max hi u ≤ w.heap.size) : OwnS w lo (max hi u) (A ++ (Y ++ B)) := by
 have hap := h.apart
 have hb := h.blocks_lt
 have hyb := hy.blocks_lt
 refine ⟨fun x hx => ?_, ?_⟩
 ·simp only [List.mem_append] at hx
  rcases hx with hx | hx | hx
  ·exact (h.each x (by simp [hx])).widen (Nat.le_refl _) (by omega) htop
  ·exact (hy.each x hx).widen (by omega) (by omega) htop
  ·exact (h.each x (by simp [hx])).widen (Nat.le_refl _) (by omega) htop
 ·simp only [List.flatMap_append] at hap hb ⊢
  refine nodup_part (n := hi) hap hy.apart (fun k hk => .inr (by have := (hyb k hk).1; omega)) (fun k hk => (hb k (by simp only [List.mem_append]; exact .inl hk)).2) (fun k hk => (hb k (by simp only [List.mem_append]; exact .inr (.inr hk))).2)
theorem disk_split (ps : List PageA) (k : Nat) (hk : k < ps.length) (q : PageA) : ps.set k q = ps.take k ++ q :: ps.drop (k + 1) := by rw [List.set_eq_take_append_cons_drop, if_pos hk]
theorem disk_split' (ps : List PageA) (k : Nat) (hk : k < ps.length) : ps = ps.take k ++ ps[k] :: ps.drop (k + 1) := by
 conv => lhs; rw [← List.take_append_drop k ps, List.drop_eq_getElem_cons hk]
def LogA.upTo (l : LogA) (n : Int) : LogA := { l with sure := max l.sure (min n l.recs.length) }
def LogV.upTo (l : LogV) (n : Int) : LogV := { l with sure := max l.sure (min n l.recs.length) }
theorem LogA.upTo_v (l : LogA) (n : Int) : (l.upTo n).v = l.v.upTo n := by simp [LogA.upTo, LogA.v, LogV.upTo]
theorem l5ForceEng_any (E : Nat) (e : EngA) (n : Int) (w : World) (h : EngAt w E e) :
  Calls Tryz.prog 128 #[.pointer (some ⟨E, 138, none⟩), .int .i64 n] w fun r w' => (∃ v, r = .returned v) ∧ EngStep E e w (e.withLog (e.log.upTo n)) w' ∧ Touch [E] w w' := by
 have c0 : w.cell? ⟨E, 138, none⟩ = some (.slice e.log.a e.log.recs.length e.log.c) := EngA.cell_at h.shape h.box 2 _ rfl
 have c1 : w.cell? ⟨E, 138 + 1, none⟩ = some (.int .i64 e.log.sure) := EngA.cell_at h.shape h.box 3 _ rfl
 refine (l5ForceAt_any E 138 e.log.a e.log.c e.log.recs.length e.log.sure n w c0 c1 (h.box.frozen _)).mono ?_
 rintro r w' ⟨hv, hw⟩
 refine ⟨hv, ?_⟩
 rcases hw with ⟨rfl, hm⟩ | rfl
 ·have e0 : e.withLog (e.log.upTo n) = e := by
   simp only [EngA.withLog, LogA.upTo, hm]
  rw [e0]
  exact ⟨EngStep.refl h, Touch.refl _ _⟩
 ·obtain ⟨W, hW, b, ht, hs⟩ := h.tailSet (e' := e.withLog (e.log.upTo n)) 3 (.int .i64 (max e.log.sure (min n e.log.recs.length))) rfl rfl
  have hW' : w.setCell ⟨E, 138 + 1, none⟩ (.int .i64 (max e.log.sure (min n e.log.recs.length))) = W := hW.out
  rw [hW']
  refine ⟨h.logs (e.log.upTo n) b ?_ (ht.mono (by simp)) (fun k hk => .inl hk), ht⟩
  exact (h.own.log.touch ht (fun k hk hk' => h.off (by rw [← List.mem_singleton.1 hk']; exact EngA.mem_log hk))).widen (Nat.le_refl _) ht.size (Nat.le_refl _)
theorem EngAt.diskSet {w : World} {E : Nat} {e : EngA} (h : EngAt w E e) (n : Nat) (h8 : n < 8) (q : PageA) (hq : q.ss.length = 4) {l u : Nat} (oq : OwnS w l u q.ss) (w0 : World) (hl : w0.heap.size ≤ l) (hlt : ∀ k ∈ e.blocks, k < w0.heap.size) (hE : E < w0.heap.size) (hw0 : w0.heap.size ≤ w.heap.size) (hu : u ≤ w.heap.size) :
  ∃ W, Hid (w.setCells E (n * 17) q.cells = W) ∧ Hid (w.there E (n * 17) q.cells.toArray.size) ∧ EngAt W E (e.withDisk (e.disk.set n q)) ∧ Touch [E] w W ∧ W.heap.size = w.heap.size ∧ (∀ k ∈ (e.withDisk (e.disk.set n q)).blocks, k ∈ e.blocks ∨ l ≤ k) := by
 have hk : n < e.disk.length := by rw [h.shape.eight]; exact h8
 have ho4 : e.disk[n].ss.length = 4 := h.shape.four _ (List.getElem_mem hk)
 have e1 : e.cells = cellsPs (e.disk.take n) ++ (e.disk[n].cells ++ (cellsPs (e.disk.drop (n + 1)) ++ e.tail)) := by rw [EngA.cells, cellsPs_split e.disk n hk]; simp
 have b := h.box
 rw [e1] at b
 obtain ⟨W, hW, b', hw, hs⟩ := range_fill _ _ q.cells _ b (by rw [page_len _ hq, page_len _ ho4])
 have hpl : (cellsPs (e.disk.take n)).length = n * 17 := by rw [cellsPs_len _ (fun p hp => h.shape.four p (List.mem_of_mem_take hp)), List.length_take, Nat.min_eq_left (Nat.le_of_lt hk)]
 rw [hpl] at hW
 have e2 : (e.withDisk (e.disk.set n q)).cells = cellsPs (e.disk.take n) ++ (q.cells ++ (cellsPs (e.disk.drop (n + 1)) ++ e.tail)) := by
  have e3 : (e.withDisk (e.disk.set n q)).cells = cellsPs (e.disk.set n q) ++ e.tail := rfl
  rw [e3, disk_split _ _ hk]
  simp [cellsPs]
 rw [← e2] at b'
 have ht : Touch [E] w W := ⟨hw.os, hw.tape, hw.output, hw.size, fun k hk hn => hw.block k hk (fun hh => hn (by simp; omega))⟩
 have hb8 : (e.disk.set n q).length = 8 := by rw [List.length_set, h.shape.eight]
 have hb4 : ∀ p ∈ e.disk.set n q, p.ss.length = 4 := fun p hp => (List.mem_or_eq_of_mem_set hp).elim (h.shape.four p) (fun e => by rw [e]; exact hq)
 have d1 : e.disk.flatMap (·.ss) = (e.disk.take n).flatMap (·.ss) ++ (e.disk[n].ss ++ (e.disk.drop (n + 1)).flatMap (·.ss)) := by
  have e4 := congrArg (List.flatMap (fun x : PageA => x.ss)) (disk_split' e.disk n hk)
  rw [List.flatMap_append, List.flatMap_cons] at e4
  exact e4
 have d2 : (e.disk.set n q).flatMap (·.ss) = (e.disk.take n).flatMap (·.ss) ++ (q.ss ++ (e.disk.drop (n + 1)).flatMap (·.ss)) := by rw [disk_split _ _ hk]; simp
 have hod : OwnS w 0 w0.heap.size (e.disk.flatMap (·.ss)) := ⟨fun x hx => by
  have hx1 := h.own.disk.each x hx
  have hxb : ∀ k ∈ x.blocks, k < w0.heap.size := fun k hk => hlt k (EngA.mem_disk (List.mem_flatMap.2 ⟨x, hx, hk⟩))
  exact ⟨⟨hx1.ints.1, hw0, fun k hk => hxb k (List.mem_append.2 (.inl (Option.mem_toList.2 hk)))⟩, ⟨hx1.refs.1, hw0, fun k hk => hxb k (List.mem_append.2 (.inr (Option.mem_toList.2 hk)))⟩, hx1.apart⟩, h.own.disk.apart⟩
 have hos : OwnS w 0 (max w0.heap.size u) ((e.disk.set n q).flatMap (·.ss)) := by
  rw [d2]
  rw [d1] at hod
  exact hod.splice oq hl (Nat.zero_le _) (by omega)
 have hfr : ∀ k ∈ ((e.disk.set n q).flatMap (·.ss)).flatMap SlotA.blocks, k ∈ e.diskBl ∨ l ≤ k := fun k hk => by
  rw [d2] at hk
  unfold EngA.diskBl
  rw [d1]
  simp only [List.flatMap_append, List.mem_append] at hk ⊢
  rcases hk with hk | hk | hk
  ·exact .inl (.inl hk)
  ·exact .inr (oq.blocks_lt k hk).1
  ·exact .inl (.inr (.inr hk))
 have hosW : OwnS W 0 W.heap.size ((e.disk.set n q).flatMap (·.ss)) := (hos.touch ht (fun k hk hk' => by
  have hkE := List.mem_singleton.1 hk'
  subst hkE
  rcases hfr k hk with h1 | h1
  ·exact h.off (EngA.mem_disk h1)
  ·omega)).widen (Nat.le_refl _) (by omega) (Nat.le_refl _)
 have ap := h.apart
 have hEb : ∀ k ∈ e.blocks, k ∉ [E] := fun k hk hk' => h.off (by rw [← List.mem_singleton.1 hk']; exact hk)
 refine ⟨W, hW, ?_, ⟨b', ⟨hb8, hb4⟩, ⟨hosW, ?_, ?_, ?_, ?_, ?_⟩, ?_⟩, ht, hs, ?_⟩
 ·exact h.box.there (n * 17) _ (by rw [List.size_toArray, page_len _ hq, EngA.cells_len h.shape]; omega)
 ·exact (h.own.pool.touch ht (fun k hk => hEb k (EngA.mem_pool hk))).widen (Nat.le_refl _) ht.size (Nat.le_refl _)
 ·exact (h.own.log.touch ht (fun k hk => hEb k (EngA.mem_log hk))).widen (Nat.le_refl _) ht.size (Nat.le_refl _)
 ·exact (h.own.txs.touch ht (fun k hk => hEb k (EngA.mem_txs (Option.mem_toList.2 hk)))).widen (Nat.le_refl _) ht.size (Nat.le_refl _)
 ·exact (h.own.holds.touch ht (fun k hk => hEb k (EngA.mem_holds (Option.mem_toList.2 hk)))).widen (Nat.le_refl _) ht.size (Nat.le_refl _)
 ·exact nodup_part (A := []) (P := e.diskBl) (n := l) (by rw [List.nil_append]; exact h.own.apart) hos.apart hfr (by simp) (fun k hk => Nat.lt_of_lt_of_le (hlt k (by simp only [EngA.blocks, EngA.withDisk, List.mem_append] at hk ⊢; exact .inr hk)) hl)
 ·intro hk
  have hoff := h.off
  simp only [EngA.blocks, EngA.withDisk, List.mem_append] at hk hoff
  rcases hk with hk | hk
  ·rcases hfr E hk with h1 | h1
   ·exact hoff (.inl h1)
   ·omega
  ·exact hoff (.inr hk)
 ·intro k hk
  simp only [EngA.blocks, EngA.withDisk, List.mem_append] at hk ⊢
  rcases hk with hk | hk
  ·exact (hfr k hk).imp .inl id
  ·exact .inl (.inr hk)
theorem l7Write_any (E : Nat) (e : EngA) (s : SeatA) (w : World) (h : EngAt w E e) (n : Nat) (hn : s.no = (n : Int)) (h8 : n < 8) (hr : ∀ u, Touch [E] w u → s.reads u) (hl : Fit s.ss) :
  Calls Tryz.prog 133 #[.pointer (some ⟨E, 0, none⟩), .agg s.cells.toArray] w fun r w' => (∃ v, r = .returned v) ∧ ∃ e', Hid (e'.v = writeV e.v s.v) ∧ Hid (e'.log.recs = e.log.recs) ∧ EngStep E e w e' w' := by
 obtain ⟨W, hW, b0, hbW, hsW⟩ := boxes1 w s.cells 176
 have a1 := h.below hbW
 have hoff : Off E e w.heap.size := h.new (Nat.le_refl _)
 have hws : w.heap.size < W.heap.size := by omega
 have HRS : Hid (∀ u, Box u w.heap.size s.cells 176 → u.rangeAt w.heap.size 0 s.cells ∧ u.rangeAt w.heap.size 1 s.page.cells) := fun u bu => ⟨Box.range [] s.cells [] (by simpa using bu), by
  have e1 : s.cells = [.int .i64 s.no] ++ (s.page.cells ++ [.bool s.dirty, .bool s.hot]) := by rw [SeatA.cells_page]; rfl
  rw [e1] at bu
  exact Box.range _ _ _ bu⟩
 have HI : Hid ((Tryz.prog.info? 98).map (·.size) = some s.page.cells.length) := by rw [Hid, page_len s.page rfl]; kernel_rfl
 clear hsW
 go_enter Tryz.func133, Tryz.ntmps133
 go_upto_region 1 with fail
 rw [hW.out]
 clear hW
 have ND : Below W.heap.size W W.drew := (Below.refl _ _).drew
 have a2 := a1.below ND
 have b2 := b0.below ND b0.lt
 refine wp_region_held_drew (S := fun w' => w'.rangeAt w.heap.size 0 s.cells ∧ w'.rangeAt w.heap.size 1 s.page.cells) (by kernel_rfl) ?_ (fun hHeld => ?_)
 ·exact HRS.out _ b2
 refine tk 0 (v := .pointer (some ⟨E, 0, none⟩)) rfl (Or.inl ⟨by rfl, ?_⟩) hHeld ?_
 ·intro w' hSw
  go_simp <;> rfl
 try simp only [Act.put, zA, zB, zD, zE, zF]
 refine tk 1 (v := .pointer (some ⟨E, 0, none⟩)) rfl (Or.inl ⟨by rfl, ?_⟩) hHeld ?_
 ·intro w' hSw
  go_simp <;> rfl
 try simp only [Act.put, zA, zB, zC, zD, zE, zF]
 refine tk 2 (v := .pointer (some ⟨E, 138, none⟩)) rfl (Or.inl ⟨by rfl, ?_⟩) hHeld ?_
 ·intro w' hSw
  go_simp <;> rfl
 try simp only [Act.put, zA, zB, zC, zD, zE, zF]
 refine tk 3 (v := .pointer (some ⟨w.heap.size, 1, none⟩)) rfl (Or.inl ⟨by rfl, ?_⟩) hHeld ?_
 ·intro w' hSw
  go_simp <;> rfl
 try simp only [Act.put, zA, zB, zC, zD, zE, zF]
 refine tk 4 (v := .pointer (some ⟨w.heap.size, 1, none⟩)) rfl (Or.inl ⟨by rfl, ?_⟩) hHeld ?_
 ·intro w' hSw
  go_simp <;> rfl
 try simp only [Act.put, zA, zB, zC, zD, zE, zF]
 refine tk 5 (v := .int .i64 s.lsn) rfl (Or.inl ⟨by rfl, ?_⟩) hHeld ?_
 ·intro w' hSw
  have hx : w'.cell? ⟨w.heap.size, 1, none⟩ = some (.int .i64 s.lsn) := hSw.1 1 _ rfl
  go_simp <;> rfl
 try simp only [Act.put, zA, zB, zC, zD, zE, zF]
 refine wpAnyH_ready (rs := [6]) (by kernel_rfl) (by simp) ?_
 refine AllReadyH.cons rfl (fun K hK => ?_) AllReadyH.nil
 go_simp
 refine (l5ForceEng_any E e s.lsn W.drew a2).mono ?_
 rintro r w3 ⟨⟨v3, rfl⟩, s3, t3⟩
 have b3 := s3.boxes b2 hoff
 have N0 : Below w.heap.size w W.drew := hbW.trans (ND.mono hbW.size)
 have S3 : EngStep E e w (e.withLog (e.log.upTo s.lsn)) w3 := EngStep.after N0 s3
 have r3 : s.reads w3 := hr _ ((Touch.of_below N0).trans t3)
 have hs3 := S3.size
 have hs3' := s3.size
 have hE : E < w.heap.size := h.box.lt
 have hb3 : w.heap.size < w3.heap.size := b3.lt
 refine hK.out _ _ (HRS.out _ b3) (fun hHeld => ?_)
 clear hK K
 try simp only [Act.put, zA, zB, zC, zD, zE, zF]
 refine wpAnyH_done (by kernel_rfl) ?_ _
 clear hHeld s3 a1 a2 b2 b0 t3 hr
 have ND3 : Below w3.heap.size w3 w3.drew := (Below.refl _ _).drew
 have a4 := S3.at'.below ND3
 have b4 := b3.below ND3 b3.lt
 go_upto_region 2 with fail
 refine wp_region_held_drew (S := fun w' => w'.rangeAt w.heap.size 0 s.cells ∧ w'.rangeAt w.heap.size 1 s.page.cells) (by kernel_rfl) ?_ (fun hHeld => ?_)
 ·exact HRS.out _ b4
 refine tk 0 (v := .pointer (some ⟨E, 0, none⟩)) rfl (Or.inl ⟨by rfl, ?_⟩) hHeld ?_
 ·intro w' hSw
  go_simp <;> rfl
 try simp only [Act.put, zA, zB, zD, zE, zF]
 refine tk 1 (v := .pointer (some ⟨w.heap.size, 0, none⟩)) rfl (Or.inl ⟨by rfl, ?_⟩) hHeld ?_
 ·intro w' hSw
  go_simp <;> rfl
 try simp only [Act.put, zA, zB, zC, zD, zE, zF]
 refine tk 2 (v := .int .i64 s.no) rfl (Or.inl ⟨by rfl, ?_⟩) hHeld ?_
 ·intro w' hSw
  have hx : w'.cell? ⟨w.heap.size, 0, none⟩ = some (.int .i64 s.no) := hSw.1 0 _ rfl
  go_simp <;> rfl
 try simp only [Act.put, zA, zB, zC, zD, zE, zF]
 refine tk 3 (v := .pointer (some ⟨w.heap.size, 1, none⟩)) rfl (Or.inl ⟨by rfl, ?_⟩) hHeld ?_
 ·intro w' hSw
  go_simp <;> rfl
 try simp only [Act.put, zA, zB, zC, zD, zE, zF]
 refine tk 4 rfl (yieldsIf_load_mid (by rfl) _ _ rfl _ _ rfl s.page.cells _ (fun _ h => h.2) Tryz.underlying98 rfl HI.out) hHeld ?_
 try simp only [Act.put, zA, zB, zC, zD, zE, zF]
 refine tk 6 (v := .pointer (some ⟨E, 0, none⟩)) rfl (Or.inl ⟨by rfl, ?_⟩) hHeld ?_
 ·intro w' hSw
  go_simp <;> rfl
 try simp only [Act.put, zA, zB, zC, zD, zE, zF]
 refine tk 7 (v := .pointer (some ⟨E, 0, none⟩)) rfl (Or.inl ⟨by rfl, ?_⟩) hHeld ?_
 ·intro w' hSw
  go_simp <;> rfl
 try simp only [Act.put, zA, zB, zC, zD, zE, zF]
 refine wpAnyH_ready (rs := [5]) (by kernel_rfl) (by simp) ?_
 refine AllReadyH.cons rfl (fun K hK => ?_) AllReadyH.nil
 go_simp
 refine (l3Copy_own s.page rfl w3.drew (r3.below ND3) hl).mono ?_
 rintro r w5 ⟨ts, rfl, hts, ho5, hb5⟩
 have N35 : Below w3.heap.size w3 w5 := ND3.trans hb5
 have a5 := S3.at'.below N35
 have b5 := b3.below N35 b3.lt
 have S5 := S3.below N35
 have h4 : ts.length = 4 := by have := congrArg List.length hts.out; simpa [SeatA.page, SeatA.ss] using this
 have hs5 := N35.size
 refine hK.out _ _ (HRS.out _ b5) (fun hHeld => ?_)
 clear hK K
 try simp only [Act.put, zA, zB, zC, zD, zE, zF]
 obtain ⟨WF, hWF, HTH, aF, tF, hsF, fF⟩ := a5.diskSet n h8 ⟨s.lsn, ts⟩ h4 ho5 w3.drew (Nat.le_refl _) (fun k hk => a4.lt k hk) a4.box.lt hb5.size (Nat.le_refl _)
 have HWF : Hid (w5.setCells E (n * 17) (PageA.cells ⟨s.lsn, ts⟩).toArray.toList = WF) := hWF.out
 have bF := b5.touch tF (by simp; omega)
 have HI5 : Hid ((Tryz.prog.info? 98).map (·.size) = some (PageA.cells ⟨s.lsn, ts⟩).toArray.size) := by rw [Hid, List.size_toArray, page_len _ h4]; kernel_rfl
 have HS : Hid (∃ e', Hid (e'.v = writeV e.v s.v) ∧ Hid (e'.log.recs = e.log.recs) ∧ EngStep E e w e' WF) := by
  refine ⟨_, ?_, ?_, aF, ?_, ?_⟩
  ·rw [Hid]
   simp only [EngA.v, EngA.withDisk, EngA.withLog, writeV, LogA.upTo, LogA.v, List.map_set, SeatA.v, hn, Int.toNat_natCast, hts.out, SeatA.page, List.length_map]
  ·rfl
  ·exact S5.touch.trans (tF.mono (by simp))
  ·intro k hk
   rcases fF k hk with h1 | h1
   ·exact S5.fresh k h1
   ·exact .inr (by have : w3.drew.heap.size = w3.heap.size := rfl; omega)
 clear hWF aF tF hsF fF
 have hn8 : (n : Int) < 8 := by omega
 have hn0 : (0 : Int) ≤ (n : Int) := by omega
 refine tk 8 (v := .pointer (some ⟨E, n * 17, none⟩)) rfl (Or.inl ⟨by rfl, ?_⟩) hHeld ?_
 ·intro w' hSw
  go_simp <;> rfl
 try simp only [Act.put, zA, zB, zC, zD, zE, zF]
 refine wpAnyH_ready (rs := [9]) (by kernel_rfl) (by simp) ?_
 refine AllReadyH.cons rfl (fun K hK => ?_) AllReadyH.nil
 rw [if_pos (by rfl)]
 refine wp_store_mid 98 (.tmp 19) (.tmp 16) rfl E (n * 17) (PageA.cells ⟨s.lsn, ts⟩).toArray rfl rfl HTH.out HI5.out (all_oneCell_toArray (oneP _)) ?_
 rw [HWF.out]
 refine hK.out _ _ (HRS.out _ bF) (fun hHeld => ?_)
 clear hK K
 try simp only [Act.put, zA, zB, zC]
 refine wpAnyH_done (by kernel_rfl) ?_ _
 go_wp2
 go_end0
 exact ⟨⟨_, rfl⟩, HS.out⟩
end Go.Proofs.YtickiokdcbeefaaGreatDoor
namespace Go.Proofs.YtickiokdcbeefaaGreatDoor
open Go.RowKit
attribute [local go_sem ↓] Go.wp_at_zero Go.wp_at_succ
def FitV (ss : List SlotV) : Prop := ∀ s ∈ ss, s.o.ints.length ≤ 1099511627776 ∧ s.o.refs.length ≤ 1099511627776
def hotV (s : SeatV) : SeatV := { s with hot := true }
def fetchV (e : EngV) (n : Nat) : EngV × Int :=
 if 0 ≤ seatedOf e.seats n then ({ e with seats := e.seats.set (seatedOf e.seats n).toNat (hotV (e.seats.getD (seatedOf e.seats n).toNat zeroStV)) }, seatedOf e.seats n)
 else
  let b := bringV e.seats e.hand.toNat ⟨n, (e.disk.getD n (0, [])).1, (e.disk.getD n (0, [])).2, false, true⟩
  let e1 : EngV := { e with seats := b.1, hand := b.2.1 }
  let e2 := if b.2.2.2 = true ∧ b.2.2.1.dirty = true then writeV e1 b.2.2.1 else e1
  (e2, seatedOf e2.seats n)
structure EngV.poolOk (e : EngV) : Prop where
 len : e.seats.length ≤ 3
 hand : ∃ h : Nat, e.hand = h ∧ h < 3
 nos : ∀ s ∈ e.seats, ∃ n : Nat, s.no = n ∧ n < 8
 fitS : ∀ s ∈ e.seats, FitV s.ss
 eight : e.disk.length = 8
 fitD : ∀ p ∈ e.disk, FitV p.2
theorem fit_of {ss : List SlotA} (h : FitV (ss.map (·.v))) : Fit ss := fun s hs => h s.v (List.mem_map_of_mem hs)
theorem seatFrom_lt (no : Int) (ss : List SeatV) (k : Nat) : seatFrom no ss k = -1 ∨ ∃ j, seatFrom no ss k = (k + j : Nat) ∧ j < ss.length ∧ (ss.getD j zeroStV).no = no := by
 induction ss generalizing k with
 | nil => exact .inl rfl
 | cons s r ih =>
  rw [seatFrom]
  by_cases h : s.no = no
  ·rw [if_pos h]; exact .inr ⟨0, rfl, by simp, by simpa using h⟩
  ·rw [if_neg h]
   rcases ih (k + 1) with h1 | ⟨j, h1, h2, h3⟩
   ·exact .inl h1
   ·exact .inr ⟨j + 1, by rw [h1]; congr 1; omega, by simp; omega, by simpa using h3⟩
theorem seated_cases (ss : List SeatV) (no : Int) : seatedOf ss no = -1 ∨ ∃ j : Nat, seatedOf ss no = j ∧ j < ss.length ∧ (ss.getD j zeroStV).no = no := by
 rcases seatFrom_lt no ss 0 with h | ⟨j, h1, h2, h3⟩
 ·exact .inl h
 ·exact .inr ⟨j, by rw [seatedOf, h1]; simp, h2, h3⟩
theorem EngA.cells_tail {e : EngA} (h : e.shape) (j : Nat) : e.cells[136 + j]? = e.tail[j]? := by
 rw [EngA.cells, List.getElem?_append_right (by rw [EngA.disk_len h]; omega), EngA.disk_len h, show 136 + j - 136 = j by omega]
theorem EngAt.poolAt {w : World} {E : Nat} {e : EngA} (h : EngAt w E e) : PoolAt w 0 w.heap.size E 136 e.cells TE e.aS e.cS e.seats e.hand :=
 ⟨h.box, EngA.cells_tail h.shape 0, EngA.cells_tail h.shape 1, h.own.pool, fun hk => h.off (EngA.mem_pool hk)⟩
theorem EngA.cells_pool {e : EngA} (h : e.shape) (ss : List SeatA) (a : Option Addr) (c : Nat) (hand : Int) : (e.cells.set 136 (.slice a ss.length c)).set 137 (.int .i64 hand) = (e.withPool ss a c hand).cells := by
 have h1 : e.cells.set 136 (.slice a ss.length c) = cellsPs e.disk ++ e.tail.set 0 (.slice a ss.length c) := EngA.cells_set h 0 _
 rw [h1, List.set_append_right _ _ (by rw [EngA.disk_len h]; omega), EngA.disk_len h]
 rfl
theorem Brought.step {w w' : World} {E : Nat} {e : EngA} {ts : List SeatA} {a' : Option Addr} {c' hand' : Nat} {old : SeatA} (h : EngAt w E e) (b : Brought 0 E 136 e.cells TE e.aS e.cS e.seats w w' ts a' c' hand' old) : EngStep E e w (e.withPool ts a' c' hand') w' := by
 refine h.pool ts a' c' hand' ?_ b.pool.own b.touch b.fresh
 have := b.pool.box
 rw [EngA.cells_pool h.shape] at this
 exact this
theorem EngAt.seatSet {w : World} {E : Nat} {e : EngA} (h : EngAt w E e) (k : Nat) (hk : k < e.seats.length) (z' : SeatA) (i : Nat) (v : Value) (hi : i < 20) (hc : z'.cells = (e.seats.getD k zeroSt).cells.set i v) (hss : z'.ss = (e.seats.getD k zeroSt).ss) :
  ∃ g W, e.aS = some ⟨g, 0, none⟩ ∧ g ≠ E ∧ Hid (w.setCell ⟨g, k * 20 + i, none⟩ v = W) ∧ (∀ j, w.frozen? ⟨g, j, none⟩ = false) ∧ w.rangeAt g (k * 20) (e.seats.getD k zeroSt).cells ∧ EngStep E e w (e.withPool (e.seats.set k z') e.aS e.cS e.hand) W ∧ Touch [g] w W ∧ W.heap.size = w.heap.size := by
 obtain ⟨g, hg⟩ : ∃ g, e.aS = some ⟨g, 0, none⟩ := by
  rcases h.own.pool.row.2 with ⟨_, h0⟩ | ⟨g, cap', cur, hv, _⟩
  ·omega
  ·simp only [Value.slice.injEq] at hv; exact ⟨g, hv.1⟩
 have hmem : g ∈ blocksSts e.aS e.cS e.seats := by rw [hg]; simp [blocksSts, Value.ownBlock]
 have hgE : g ≠ E := fun e1 => h.off (by rw [← e1]; exact EngA.mem_pool hmem)
 have ho := h.own.pool
 rw [hg] at ho
 have hr := row_seat ho.row rfl k hk
 have hf : ∀ j, w.frozen? ⟨g, j, none⟩ = false := fun j => ho.row.frozenAt j
 rw [seatD_split e.seats k hk] at ho
 obtain ⟨o2, t2⟩ := OwnSts.cellSet (z' := z') ho i v hi hc hss
 have hkl : (e.seats.take k).length = k := by rw [List.length_take]; omega
 rw [hkl, ← seat_set e.seats k z' hk] at o2
 rw [hkl] at t2
 have hsz : (w.setCell ⟨g, k * 20 + i, none⟩ v).heap.size = w.heap.size := by simp
 have hbl : blocksSts (some ⟨g, 0, none⟩) e.cS (e.seats.set k z') = blocksSts (some ⟨g, 0, none⟩) e.cS e.seats := by
  refine blocksSts_len (n := e.seats.length) (by simp) rfl ?_
  rw [seat_set _ _ _ hk]
  conv => rhs; rw [seatD_split e.seats k hk]
  simp only [List.flatMap_append, List.flatMap_cons, SeatA.blocks, hss]
 refine ⟨g, _, hg, hgE, rfl, hf, hr.1, ?_, t2, hsz⟩
 refine h.pool _ _ _ _ ?_ ?_ (t2.mono (fun j hj => List.mem_cons_of_mem _ (by rw [List.mem_singleton.1 hj]; exact hmem))) (fun j hj => .inl ?_)
 ·have e1 : (e.withPool (e.seats.set k z') e.aS e.cS e.hand).cells = e.cells := by
   simp only [EngA.cells, EngA.tail, EngA.withPool, List.length_set]
  rw [e1]
  exact h.box.touch t2 (by simpa using fun e1 => hgE e1.symm)
 ·rw [hg]
  exact o2.widen (Nat.le_refl _) (Nat.le_of_eq hsz.symm) (Nat.le_refl _)
 ·rw [hg] at hj ⊢
  rw [hbl] at hj
  exact hj
theorem EngStep.put {E X : Nat} {e e' : EngA} {w w' w'' : World} (s : EngStep E e w e' w') (hw : Within X (X + 1) w' w'') (ho : Off E e' X) (hX : w.heap.size ≤ X) : EngStep E e w e' w'' :=
 ⟨s.at'.within hw (fun h => ho.1 (by omega)) (fun k hk h => ho.2 (by have : k = X := (by omega); rw [← this]; exact hk)),
  ⟨hw.os.trans s.touch.os, hw.tape.trans s.touch.tape, hw.output.trans s.touch.output, Nat.le_trans s.size hw.size, fun k hk hn => (hw.block k (Nat.lt_of_lt_of_le hk s.size) (by omega)).trans (s.touch.block k hk hn)⟩, s.fresh⟩
theorem victim_mem (m : Nat) (ss : List SeatV) (h : Nat) : ∀ s ∈ (victimV m ss h).1, ∃ s0 ∈ ss, s.no = s0.no ∧ s.ss = s0.ss ∧ s.lsn = s0.lsn ∧ s.dirty = s0.dirty := by
 induction m generalizing ss h with
 | zero => exact fun s hs => ⟨s, hs, rfl, rfl, rfl, rfl⟩
 | succ m ih =>
  intro s hs
  rw [victimV] at hs
  split at hs
  ·next hh =>
   obtain ⟨s0, h0, e1, e2, e3, e4⟩ := ih _ _ s hs
   rcases List.mem_or_eq_of_mem_set h0 with h1 | h1
   ·exact ⟨s0, h1, e1, e2, e3, e4⟩
   ·by_cases hlt : h < ss.length
    ·refine ⟨ss.getD h zeroStV, ?_, by rw [e1, h1]; rfl, by rw [e2, h1]; rfl, by rw [e3, h1]; rfl, by rw [e4, h1]; rfl⟩
     simp only [List.getD, List.getElem?_eq_getElem hlt, Option.getD_some]
     exact List.getElem_mem hlt
    ·exfalso
     have hge : ss.length ≤ h := by omega
     simp only [List.getD, List.getElem?_eq_none hge, Option.getD_none] at hh
     cases hh
  ·exact ⟨s, hs, rfl, rfl, rfl, rfl⟩
theorem bring_len (ss : List SeatV) (h : Nat) (new : SeatV) (hl : ss.length ≤ 3) : (bringV ss h new).1.length ≤ 3 := by
 unfold bringV
 split
 ·simp; omega
 ·simp only [List.length_set, victim_len]; exact hl
theorem bring_old (ss : List SeatV) (h : Nat) (new : SeatV) (hw : (bringV ss h new).2.2.2 = true) (hh : h < 3) : ∃ s0 ∈ ss, (bringV ss h new).2.2.1.no = s0.no ∧ (bringV ss h new).2.2.1.ss = s0.ss := by
 unfold bringV at hw ⊢
 split at hw
 ·cases hw
 ·next hl =>
  rw [if_neg hl]
  have hk := (victim_hand 4 ss h hh).2
  have hlen := victim_len 4 ss h
  have hlt : (victimV 4 ss h).2.2 < (victimV 4 ss h).1.length := by omega
  obtain ⟨s0, h0, e1, e2, _, _⟩ := victim_mem 4 ss h ((victimV 4 ss h).1.getD (victimV 4 ss h).2.2 zeroStV) (by
   simp only [List.getD, List.getElem?_eq_getElem hlt, Option.getD_some]
   exact List.getElem_mem hlt)
  exact ⟨s0, h0, e1, e2⟩
theorem l7Fetch_any (E : Nat) (e : EngA) (n : Nat) (w : World) (h : EngAt w E e) (hp : e.v.poolOk) (h8 : n < 8) :
  Calls Tryz.prog 113 #[.pointer (some ⟨E, 0, none⟩), .int .i64 n] w fun r w' => ∃ (e' : EngA) (k : Int), r = .returned (.int .i64 k) ∧ Hid (fetchV e.v n = (e'.v, k)) ∧ Hid (e'.log.recs = e.log.recs) ∧ EngStep E e w e' w' := by
 have HIQ : Hid ((Tryz.prog.info? 102).map (·.size) = some [Value.slice e.aS e.seats.length e.cS, .int .i64 e.hand].length) := by rw [Hid]; kernel_rfl
 have HRQ : Hid (∀ u (e1 : EngA), EngAt u E e1 → u.rangeAt E 136 [.slice e1.aS e1.seats.length e1.cS, .int .i64 e1.hand]) := fun u e1 hu j v hv => by
  match j, hv with
  | 0, hv => cases hv; exact EngA.cell_at hu.shape hu.box 0 _ rfl
  | 1, hv => cases hv; exact EngA.cell_at hu.shape hu.box 1 _ rfl
 have C1 := specSeated_any e.aS e.cS e.seats e.hand n w h.own.pool.reads (by have := hp.len; simp only [EngA.v, List.length_map] at this; omega)
 go_enter Tryz.func113, Tryz.ntmps113
 go_wp2_with (first | (guard_target = wpList _ _ _ (Oper.mk (some 11) _ _ _ _ _ :: _) _ _; refine wpList_load_mid rfl 102 (.tmp 10) rfl E 136 rfl _ _ (HRQ.out w e h) Tryz.underlying102 rfl HIQ.out ?_) | fail)
 refine C1.mono ?_
 clear C1
 rintro r w1 ⟨rfl, hb1⟩
 have a1 := h.below hb1
 rcases seated_cases (e.seats.map SeatA.v) n with hs | ⟨k, hs, hk, hno⟩
 ·have hneg : ¬ (0 : Int) ≤ seatedOf (e.seats.map SeatA.v) n := by rw [hs]; omega
  obtain ⟨hd, hhd, hhb⟩ := hp.hand
  have hhd' : e.hand = (hd : Int) := hhd
  have hlen : e.seats.length ≤ 3 := by have := hp.len; simpa [EngA.v] using this
  have hdk : n < e.disk.length := by rw [h.shape.eight]; exact h8
  obtain ⟨pg, hpg⟩ : ∃ pg : PageA, Hid (e.disk[n] = pg) := ⟨e.disk[n], rfl⟩
  have HPG : Hid (e.v.disk.getD n (0, []) = (pg.lsn, pg.ss.map (·.v))) := by
   rw [Hid, ← hpg.out]
   simp [EngA.v, List.getD, hdk]
  have h4 : pg.ss.length = 4 := by rw [← hpg.out]; exact h.shape.four _ (List.getElem_mem hdk)
  have HSS : Hid (∀ u (e1 : EngA), EngAt u E e1 → e1.disk = e.disk → u.rangeAt E (n * 17) pg.cells) := fun u e1 hu hd1 => by
   have h1 := EngA.page_at hu.shape hu.box n (by rw [hd1]; exact hdk)
   simp only [hd1, hpg.out] at h1
   exact h1
  have hfit : Fit pg.ss := fit_of (by
   have := hp.fitD (e.v.disk.getD n (0, [])) (by
    simp only [List.getD, EngA.v, List.getElem?_map, List.getElem?_eq_getElem hdk, Option.map_some, Option.getD_some]
    exact List.mem_map_of_mem (List.getElem_mem hdk))
   rw [HPG.out] at this
   exact this)
  have HRD : Hid (∀ u, EngAt u E e → ReadsS u pg.ss) := fun u hu s hs => hu.own.disk.reads s (List.mem_flatMap.2 ⟨e.disk[n], List.getElem_mem hdk, by rw [hpg.out]; exact hs⟩)
  have HI : Hid ((Tryz.prog.info? 98).map (·.size) = some pg.cells.length) := by rw [Hid, page_len pg h4]; kernel_rfl
  have HNEG : Hid (seatedOf (e.seats.map SeatA.v) n = -1) := hs
  have ND : Below w1.heap.size w1 w1.drew := (Below.refl _ _).drew
  have hn8 : (n : Int) < 8 := by omega
  have hn0 : (0 : Int) ≤ (n : Int) := by omega
  rw [hs]
  clear hs hpg hdk
  go_upto_region 5 with fail
  refine wp_region_held_drew (S := fun w' => w'.rangeAt E (n * 17) pg.cells ∧ True) (by kernel_rfl) ?_ (fun hHeld => ?_)
  ·exact ⟨HSS.out _ e (a1.below ND) rfl, trivial⟩
  refine tk 0 (v := .pointer (some ⟨E, 0, none⟩)) rfl (Or.inl ⟨by rfl, ?_⟩) hHeld ?_
  ·intro w' hSw
   go_simp <;> rfl
  try simp only [Act.put, zA, zB, zD, zE, zF]
  refine tk 1 (v := .pointer (some ⟨E, 0, none⟩)) rfl (Or.inl ⟨by rfl, ?_⟩) hHeld ?_
  ·intro w' hSw
   go_simp <;> rfl
  try simp only [Act.put, zA, zB, zC, zD, zE, zF]
  refine tk 2 (v := .pointer (some ⟨E, 136, none⟩)) rfl (Or.inl ⟨by rfl, ?_⟩) hHeld ?_
  ·intro w' hSw
   go_simp <;> rfl
  try simp only [Act.put, zA, zB, zC, zD, zE, zF]
  refine tk 3 (v := .int .i64 n) rfl (Or.inl ⟨by rfl, ?_⟩) hHeld ?_
  ·intro w' hSw
   go_simp <;> rfl
  try simp only [Act.put, zA, zB, zC, zD, zE, zF]
  refine tk 4 (v := .pointer (some ⟨E, 0, none⟩)) rfl (Or.inl ⟨by rfl, ?_⟩) hHeld ?_
  ·intro w' hSw
   go_simp <;> rfl
  try simp only [Act.put, zA, zB, zC, zD, zE, zF]
  refine tk 5 (v := .int .i64 n) rfl (Or.inl ⟨by rfl, ?_⟩) hHeld ?_
  ·intro w' hSw
   go_simp <;> rfl
  try simp only [Act.put, zA, zB, zC, zD, zE, zF]
  refine tk 6 (v := .pointer (some ⟨E, 0, none⟩)) rfl (Or.inl ⟨by rfl, ?_⟩) hHeld ?_
  ·intro w' hSw
   go_simp <;> rfl
  try simp only [Act.put, zA, zB, zC, zD, zE, zF]
  refine tk 7 (v := .pointer (some ⟨E, 0, none⟩)) rfl (Or.inl ⟨by rfl, ?_⟩) hHeld ?_
  ·intro w' hSw
   go_simp <;> rfl
  try simp only [Act.put, zA, zB, zC, zD, zE, zF]
  refine tk 8 (v := .pointer (some ⟨E, n * 17, none⟩)) rfl (Or.inl ⟨by rfl, ?_⟩) hHeld ?_
  ·intro w' hSw
   go_simp <;> rfl
  try simp only [Act.put, zA, zB, zC, zD, zE, zF]
  refine tk 9 rfl (yieldsIf_load_mid (by rfl) _ _ rfl _ _ rfl pg.cells _ (fun _ h => h.1) Tryz.underlying98 rfl HI.out) hHeld ?_
  try simp only [Act.put, zA, zB, zC, zD, zE, zF]
  refine wpAnyH_ready (rs := [10, 14]) (by kernel_rfl) (by simp) ?_
  refine AllReadyH.cons rfl (fun K hK => ?_) (AllReadyH.cons rfl (fun K hK => ?_) AllReadyH.nil)
  ·have aP := a1.below ND
   have pP := aP.poolAt
   rw [hhd'] at pP
   have C5 := l6Bring_any 0 w1.drew.heap.size E 136 e.cells TE e.aS e.cS e.seats hd n pg w1.drew pP (Nat.zero_le _) hlen hhb h4 (HRD.out _ aP) hfit
   clear pP
   go_simp
   refine C5.mono ?_
   clear C5
   rintro r w5 ⟨ts, a', c', hand', old, went, rfl, hbv, br⟩
   have s5 := br.step aP
   have HOE : Hid (∀ j ∈ old.blocks, j ≠ E ∧ j < w1.heap.size) := fun j hj => ⟨fun e1 => h.off (EngA.mem_pool (by rw [← e1]; exact br.wentB j hj)), a1.lt j (EngA.mem_pool (br.wentB j hj))⟩
   have oo5 := br.went
   have q5 := HSS.out _ _ s5.at' rfl
   have hs5 := s5.size
   refine hK.out _ _ (⟨q5, trivial⟩) (fun hHeld => ?_)
   clear hK K
   try simp only [Act.put, zA, zB, zC, zD, zE, zF]
   refine tk 11 (v := .tuple #[.agg old.cells.toArray, .bool went]) rfl (Or.inl ⟨by rfl, ?_⟩) hHeld ?_
   ·intro w' hSw
    go_simp <;> rfl
   try simp only [Act.put, zA, zB, zC, zD, zE, zF]
   refine tk 12 (v := .agg old.cells.toArray) rfl (Or.inl ⟨by rfl, ?_⟩) hHeld ?_
   ·intro w' hSw
    go_simp <;> rfl
   try simp only [Act.put, zA, zB, zC, zD, zE, zF]
   refine tk 13 (v := .bool went) rfl (Or.inl ⟨by rfl, ?_⟩) hHeld ?_
   ·intro w' hSw
    go_simp <;> rfl
   try simp only [Act.put, zA, zB, zC, zD, zE, zF]
   obtain ⟨W6, hW6, b6, hb6, hs6⟩ := boxes1 w5 zeroSt.cells 176
   have hW6' : Hid (w5.alloc (.cells #[.int .i64 0, .int .i64 0, .bool false, .int .i64 0, .slice none 0 0, .slice none 0 0, .bool false, .int .i64 0, .slice none 0 0, .slice none 0 0, .bool false, .int .i64 0, .slice none 0 0, .slice none 0 0, .bool false, .int .i64 0, .slice none 0 0, .slice none 0 0, .bool false, .bool false] 176) = W6) := hW6.out
   refine wpAnyH_ready (rs := [14]) (by kernel_rfl) (by simp) ?_
   refine AllReadyH.cons rfl (fun K hK => ?_) AllReadyH.nil
   go_simp
   rw [hW6'.out]
   have s6 := s5.below hb6
   have hoX := s5.at'.new (Nat.le_refl w5.heap.size)
   obtain ⟨W8, hW8, hw8, hs8, HT8, _, bo⟩ := seat_out old _ rfl b6
   have S8 : EngStep E e w (e.withPool ts a' c' hand') W8 := EngStep.after (hb1.trans (ND.mono hb1.size)) (EngStep.put s6 hw8 hoX hs5)
   have oo8 : old.own W8 0 w5.heap.size := (oo5.below hb6).within hw8 (.inl (Nat.le_refl _))
   have HRX : Hid (W8.rangeAt w5.heap.size 0 old.cells) := Box.range [] old.cells [] (by simpa using bo)
   have hW8' : Hid (W6.setCells w5.heap.size 0 old.cells.toArray.toList = W8) := hW8.out
   refine hK.out _ _ (⟨HSS.out _ _ s6.at' rfl, trivial⟩) (fun hHeld => ?_)
   clear hK K
   try simp only [Act.put, zA, zB, zC, zD, zE, zF]
   refine wpAnyH_ready (rs := [15]) (by kernel_rfl) (by simp) ?_
   refine AllReadyH.cons rfl (fun K hK => ?_) AllReadyH.nil
   rw [if_pos (by rfl)]
   refine wp_store_mid 176 (.tmp 6) (.tmp 37) rfl w5.heap.size 0 old.cells.toArray rfl rfl HT8.out (seat_info old) (seat_one old) ?_
   rw [hW8'.out]
   refine hK.out _ _ (⟨HSS.out _ _ S8.at' rfl, trivial⟩) (fun hHeld => ?_)
   clear hK K
   try simp only [Act.put, zA, zB, zC]
   refine tk 16 (v := .bool went) rfl (Or.inl ⟨by rfl, ?_⟩) hHeld ?_
   ·intro w' hSw
    go_simp <;> rfl
   try simp only [Act.put, zA, zB, zC, zD, zE, zF]
   refine wpAnyH_done (by kernel_rfl) ?_ _
   clear hW8' hW8 hw8 hs8 HT8 s6 b6 hb6 hs6 hW6 hW6' s5 q5 br aP oo5 ND
   generalize w5.heap.size = X at *
   have r8 := HRX.out
   have d8 := bo.cell 18 _ (show old.cells[18]? = some (.bool old.dirty) from rfl)
   have HFV : Hid (fetchV e.v n = ((if went = true ∧ old.v.dirty = true then writeV (e.withPool ts a' c' hand').v old.v else (e.withPool ts a' c' hand').v), seatedOf (if went = true ∧ old.v.dirty = true then writeV (e.withPool ts a' c' hand').v old.v else (e.withPool ts a' c' hand').v).seats n)) := by
    rw [Hid, fetchV, if_neg (by rw [show e.v.seats = e.seats.map SeatA.v from rfl, HNEG.out]; omega)]
    have e1 : e.v.seats = e.seats.map SeatA.v := rfl
    have e2 : e.v.hand.toNat = hd := by rw [hhd]; rfl
    have e3 : e.v.disk.getD n (0, []) = (pg.lsn, pg.ss.map (·.v)) := HPG.out
    simp only [e1, e2, e3, hbv.out]
    rfl
   have HSE : Hid (∀ u (e1 : EngA), EngAt u E e1 → e1.seats.length ≤ 3 → Calls Tryz.prog 132 #[.agg #[.slice e1.aS e1.seats.length e1.cS, .int .i64 e1.hand], .int .i64 n] u fun r w' => r = .returned (.int .i64 (seatedOf (e1.seats.map SeatA.v) n)) ∧ Below u.heap.size u w') := fun u e1 hu hl1 => specSeated_any e1.aS e1.cS e1.seats e1.hand n u hu.own.pool.reads (by omega)
   have HTL : Hid (ts.length ≤ 3) := by
    have h1 := bring_len (e.seats.map SeatA.v) hd ⟨n, pg.lsn, pg.ss.map (·.v), false, true⟩ (by rw [List.length_map]; exact hlen)
    rw [hbv.out] at h1
    rw [Hid]
    simpa using h1
   have HOK : Hid (went = true → ∃ m : Nat, old.no = m ∧ m < 8 ∧ Fit old.ss) := fun hwt => by
    have h1 := bring_old (e.seats.map SeatA.v) hd ⟨n, pg.lsn, pg.ss.map (·.v), false, true⟩ (by rw [hbv.out]; exact hwt) hhb
    rw [hbv.out] at h1
    obtain ⟨s0, hs0, e1, e2⟩ := h1
    obtain ⟨m, hm, hm8⟩ := hp.nos s0 hs0
    exact ⟨m, by rw [← hm, ← e1]; rfl, hm8, fit_of (by have := hp.fitS s0 hs0; rw [← e2] at this; exact this)⟩
   have HOR : Hid (∀ u, Touch [E] W8 u → old.reads u) := fun u hu => (oo8.touch hu (fun j hj hk => (HOE.out j hj).1 (List.mem_singleton.1 hk))).reads
   have HIQ8 : Hid ((Tryz.prog.info? 102).map (·.size) = some [Value.slice a' ts.length c', .int .i64 (hand' : Int)].length) := by rw [Hid]; kernel_rfl
   have HRQ8 : Hid (∀ u (e1 : EngA), EngAt u E e1 → u.rangeAt E 136 [.slice e1.aS e1.seats.length e1.cS, .int .i64 e1.hand]) := HRQ
   clear HRX hHeld bo
   by_cases hw : went = true
   ·subst hw
    by_cases hdi : old.dirty = true
    ·rw [hdi] at d8
     obtain ⟨m, hm, hm8, hfit⟩ := HOK.out rfl
     have C7 := l7Write_any E (e.withPool ts a' c' hand') old W8 S8.at' m hm hm8 HOR.out hfit
     clear HOK HOR hm
     go_wp2_with (first | (guard_target = wpList _ _ _ (Oper.mk (some 45) _ _ _ _ _ :: _) _ _; refine wpList_load_mid rfl 176 (.tmp 6) rfl X 0 rfl old.cells _ r8 Tryz.underlying176 rfl (seat_info old) ?_) | fail)
     refine C7.mono ?_
     clear C7 d8 r8
     rintro r w9 ⟨⟨v9, rfl⟩, e9, he9, hl9, s9⟩
     have S9 := S8.trans s9
     have hq : e9.seats.length ≤ 3 := by
      have h1 := congrArg (fun x : EngV => x.seats.length) he9.out
      simp only [EngA.v, writeV, EngA.withPool, List.length_map] at h1
      have := HTL.out
      omega
     have C9 := HSE.out w9 e9 s9.at' hq
     have HI9 : Hid ((Tryz.prog.info? 102).map (·.size) = some [Value.slice e9.aS e9.seats.length e9.cS, .int .i64 e9.hand].length) := by rw [Hid]; kernel_rfl
     have r9 := HRQ8.out w9 e9 s9.at'
     have HEV : Hid (fetchV e.v n = (e9.v, seatedOf (e9.seats.map SeatA.v) n)) := by
      rw [Hid, HFV.out, if_pos (by first | exact ⟨rfl, hdi⟩ | exact ⟨trivial, hdi⟩), ← he9.out]
      rfl
     clear HFV HSE HTL s9 S8 oo8 hdi
     go_wp2_with (first | (guard_target = wpList _ _ _ (Oper.mk (some 50) _ _ _ _ _ :: _) _ _; refine wpList_load_mid rfl 102 (.tmp 49) rfl E 136 rfl _ _ r9 Tryz.underlying102 rfl HI9.out ?_) | fail)
     refine C9.mono ?_
     rintro r w10 ⟨rfl, hb10⟩
     go_wp2
     go_ret
     exact ⟨e9, _, rfl, HEV, hl9, S9.below hb10⟩
    ·have hdf : old.dirty = false := by simpa using hdi
     rw [hdf] at d8
     have C9 := HSE.out W8 _ S8.at' HTL.out
     have r9 := HRQ8.out W8 _ S8.at'
     have HEV : Hid (fetchV e.v n = ((e.withPool ts a' c' hand').v, seatedOf (ts.map SeatA.v) n)) := by
      rw [Hid, HFV.out, if_neg (fun hh => hdi hh.2)]
      rfl
     clear HFV HSE HTL oo8 hdi hdf HOK HOR r8
     go_wp2_with (first | (guard_target = wpList _ _ _ (Oper.mk (some 50) _ _ _ _ _ :: _) _ _; refine wpList_load_mid rfl 102 (.tmp 49) rfl E 136 rfl _ _ r9 Tryz.underlying102 rfl HIQ8.out ?_) | fail)
     refine C9.mono ?_
     rintro r w10 ⟨rfl, hb10⟩
     go_wp2
     go_ret
     exact ⟨_, _, rfl, HEV, rfl, S8.below hb10⟩
   ·have hwf : went = false := by simpa using hw
    subst hwf
    have C9 := HSE.out W8 _ S8.at' HTL.out
    have r9 := HRQ8.out W8 _ S8.at'
    have HEV : Hid (fetchV e.v n = ((e.withPool ts a' c' hand').v, seatedOf (ts.map SeatA.v) n)) := by
     rw [Hid, HFV.out, if_neg (fun hh => by cases hh.1)]
     rfl
    clear HFV HSE HTL oo8 HOK HOR r8 d8
    go_wp2_with (first | (guard_target = wpList _ _ _ (Oper.mk (some 50) _ _ _ _ _ :: _) _ _; refine wpList_load_mid rfl 102 (.tmp 49) rfl E 136 rfl _ _ r9 Tryz.underlying102 rfl HIQ8.out ?_) | fail)
    refine C9.mono ?_
    rintro r w10 ⟨rfl, hb10⟩
    go_wp2
    go_ret
    exact ⟨_, _, rfl, HEV, rfl, S8.below hb10⟩
  ·obtain ⟨V6, hV6, b6', hb6', hs6⟩ := boxes1 w1 zeroSt.cells 176
   have hV6' : Hid (w1.alloc (.cells #[.int .i64 0, .int .i64 0, .bool false, .int .i64 0, .slice none 0 0, .slice none 0 0, .bool false, .int .i64 0, .slice none 0 0, .slice none 0 0, .bool false, .int .i64 0, .slice none 0 0, .slice none 0 0, .bool false, .int .i64 0, .slice none 0 0, .slice none 0 0, .bool false, .bool false] 176) = V6) := hV6.out
   obtain ⟨W6, hW6⟩ : ∃ W6, Hid (V6.drew = W6) := ⟨_, rfl⟩
   go_simp
   rw [hV6'.out, hW6.out]
   have b6 : Box W6 w1.heap.size zeroSt.cells 176 := by rw [← hW6.out]; exact b6'.drewN 1
   have N6 : Below w1.heap.size w1 W6 := by rw [← hW6.out]; exact hb6'.drew
   have aP := a1.below N6
   have hoX0 := a1.new (Nat.le_refl w1.heap.size)
   refine hK.out _ _ (⟨HSS.out _ _ aP rfl, trivial⟩) (fun hHeld => ?_)
   clear hK K hV6 hV6' hW6 b6' hb6' hs6
   try simp only [Act.put, zA, zB, zC, zD, zE, zF]
   have pP := aP.poolAt
   rw [hhd'] at pP
   have C5 := l6Bring_any 0 W6.heap.size E 136 e.cells TE e.aS e.cS e.seats hd n pg W6 pP (Nat.zero_le _) hlen hhb h4 (HRD.out _ aP) hfit
   clear pP
   refine wpAnyH_ready (rs := [10]) (by kernel_rfl) (by simp) ?_
   refine AllReadyH.cons rfl (fun K hK => ?_) AllReadyH.nil
   go_simp
   refine C5.mono ?_
   clear C5
   rintro r w5 ⟨ts, a', c', hand', old, went, rfl, hbv, br⟩
   have s5 := br.step aP
   have HOE : Hid (∀ j ∈ old.blocks, j ≠ E ∧ j < w1.heap.size) := fun j hj => ⟨fun e1 => h.off (EngA.mem_pool (by rw [← e1]; exact br.wentB j hj)), a1.lt j (EngA.mem_pool (br.wentB j hj))⟩
   have oo5 := br.went
   have q5 := HSS.out _ _ s5.at' rfl
   have hs5 := s5.size
   have b65 := s5.boxes b6 hoX0
   have hoX := s5.off b6.lt hoX0
   refine hK.out _ _ (⟨q5, trivial⟩) (fun hHeld => ?_)
   clear hK K
   try simp only [Act.put, zA, zB, zC, zD, zE, zF]
   refine tk 11 (v := .tuple #[.agg old.cells.toArray, .bool went]) rfl (Or.inl ⟨by rfl, ?_⟩) hHeld ?_
   ·intro w' hSw
    go_simp <;> rfl
   try simp only [Act.put, zA, zB, zC, zD, zE, zF]
   refine tk 12 (v := .agg old.cells.toArray) rfl (Or.inl ⟨by rfl, ?_⟩) hHeld ?_
   ·intro w' hSw
    go_simp <;> rfl
   try simp only [Act.put, zA, zB, zC, zD, zE, zF]
   refine tk 13 (v := .bool went) rfl (Or.inl ⟨by rfl, ?_⟩) hHeld ?_
   ·intro w' hSw
    go_simp <;> rfl
   try simp only [Act.put, zA, zB, zC, zD, zE, zF]
   obtain ⟨W8, hW8, hw8, hs8, HT8, _, bo⟩ := seat_out old _ rfl b65
   have s51 : EngStep E e w1 (e.withPool ts a' c' hand') w5 := EngStep.after N6 s5
   have S8 : EngStep E e w (e.withPool ts a' c' hand') W8 := EngStep.after hb1 (EngStep.put s51 hw8 hoX (Nat.le_refl _))
   have tX : Touch [w1.heap.size] w5 W8 := ⟨hw8.os, hw8.tape, hw8.output, hw8.size, fun j hj hn => hw8.block j hj (fun hh => hn (by simp; omega))⟩
   have oo8 : old.own W8 0 w5.heap.size := oo5.touch tX (fun j hj hk => by have := (HOE.out j hj).2; have := List.mem_singleton.1 hk; omega)
   have HRX : Hid (W8.rangeAt w1.heap.size 0 old.cells) := Box.range [] old.cells [] (by simpa using bo)
   have hW8' : Hid (w5.setCells w1.heap.size 0 old.cells.toArray.toList = W8) := hW8.out
   refine wpAnyH_ready (rs := [15]) (by kernel_rfl) (by simp) ?_
   refine AllReadyH.cons rfl (fun K hK => ?_) AllReadyH.nil
   rw [if_pos (by rfl)]
   refine wp_store_mid 176 (.tmp 6) (.tmp 37) rfl w1.heap.size 0 old.cells.toArray rfl rfl HT8.out (seat_info old) (seat_one old) ?_
   rw [hW8'.out]
   refine hK.out _ _ (⟨HSS.out _ _ S8.at' rfl, trivial⟩) (fun hHeld => ?_)
   clear hK K
   try simp only [Act.put, zA, zB, zC]
   refine tk 16 (v := .bool went) rfl (Or.inl ⟨by rfl, ?_⟩) hHeld ?_
   ·intro w' hSw
    go_simp <;> rfl
   try simp only [Act.put, zA, zB, zC, zD, zE, zF]
   refine wpAnyH_done (by kernel_rfl) ?_ _
   clear hW8' hW8 hw8 hs8 HT8 b6 b65 s5 s51 q5 br aP oo5 ND tX hoX hoX0 N6
   generalize w1.heap.size = X at *
   have r8 := HRX.out
   have d8 := bo.cell 18 _ (show old.cells[18]? = some (.bool old.dirty) from rfl)
   have HFV : Hid (fetchV e.v n = ((if went = true ∧ old.v.dirty = true then writeV (e.withPool ts a' c' hand').v old.v else (e.withPool ts a' c' hand').v), seatedOf (if went = true ∧ old.v.dirty = true then writeV (e.withPool ts a' c' hand').v old.v else (e.withPool ts a' c' hand').v).seats n)) := by
    rw [Hid, fetchV, if_neg (by rw [show e.v.seats = e.seats.map SeatA.v from rfl, HNEG.out]; omega)]
    have e1 : e.v.seats = e.seats.map SeatA.v := rfl
    have e2 : e.v.hand.toNat = hd := by rw [hhd]; rfl
    have e3 : e.v.disk.getD n (0, []) = (pg.lsn, pg.ss.map (·.v)) := HPG.out
    simp only [e1, e2, e3, hbv.out]
    rfl
   have HSE : Hid (∀ u (e1 : EngA), EngAt u E e1 → e1.seats.length ≤ 3 → Calls Tryz.prog 132 #[.agg #[.slice e1.aS e1.seats.length e1.cS, .int .i64 e1.hand], .int .i64 n] u fun r w' => r = .returned (.int .i64 (seatedOf (e1.seats.map SeatA.v) n)) ∧ Below u.heap.size u w') := fun u e1 hu hl1 => specSeated_any e1.aS e1.cS e1.seats e1.hand n u hu.own.pool.reads (by omega)
   have HTL : Hid (ts.length ≤ 3) := by
    have h1 := bring_len (e.seats.map SeatA.v) hd ⟨n, pg.lsn, pg.ss.map (·.v), false, true⟩ (by rw [List.length_map]; exact hlen)
    rw [hbv.out] at h1
    rw [Hid]
    simpa using h1
   have HOK : Hid (went = true → ∃ m : Nat, old.no = m ∧ m < 8 ∧ Fit old.ss) := fun hwt => by
    have h1 := bring_old (e.seats.map SeatA.v) hd ⟨n, pg.lsn, pg.ss.map (·.v), false, true⟩ (by rw [hbv.out]; exact hwt) hhb
    rw [hbv.out] at h1
    obtain ⟨s0, hs0, e1, e2⟩ := h1
    obtain ⟨m, hm, hm8⟩ := hp.nos s0 hs0
    exact ⟨m, by rw [← hm, ← e1]; rfl, hm8, fit_of (by have := hp.fitS s0 hs0; rw [← e2] at this; exact this)⟩
   have HOR : Hid (∀ u, Touch [E] W8 u → old.reads u) := fun u hu => (oo8.touch hu (fun j hj hk => (HOE.out j hj).1 (List.mem_singleton.1 hk))).reads
   have HIQ8 : Hid ((Tryz.prog.info? 102).map (·.size) = some [Value.slice a' ts.length c', .int .i64 (hand' : Int)].length) := by rw [Hid]; kernel_rfl
   have HRQ8 : Hid (∀ u (e1 : EngA), EngAt u E e1 → u.rangeAt E 136 [.slice e1.aS e1.seats.length e1.cS, .int .i64 e1.hand]) := HRQ
   clear HRX hHeld bo
   by_cases hw : went = true
   ·subst hw
    by_cases hdi : old.dirty = true
    ·rw [hdi] at d8
     obtain ⟨m, hm, hm8, hfit⟩ := HOK.out rfl
     have C7 := l7Write_any E (e.withPool ts a' c' hand') old W8 S8.at' m hm hm8 HOR.out hfit
     clear HOK HOR hm
     go_wp2_with (first | (guard_target = wpList _ _ _ (Oper.mk (some 45) _ _ _ _ _ :: _) _ _; refine wpList_load_mid rfl 176 (.tmp 6) rfl X 0 rfl old.cells _ r8 Tryz.underlying176 rfl (seat_info old) ?_) | fail)
     refine C7.mono ?_
     clear C7 d8 r8
     rintro r w9 ⟨⟨v9, rfl⟩, e9, he9, hl9, s9⟩
     have S9 := S8.trans s9
     have hq : e9.seats.length ≤ 3 := by
      have h1 := congrArg (fun x : EngV => x.seats.length) he9.out
      simp only [EngA.v, writeV, EngA.withPool, List.length_map] at h1
      have := HTL.out
      omega
     have C9 := HSE.out w9 e9 s9.at' hq
     have HI9 : Hid ((Tryz.prog.info? 102).map (·.size) = some [Value.slice e9.aS e9.seats.length e9.cS, .int .i64 e9.hand].length) := by rw [Hid]; kernel_rfl
     have r9 := HRQ8.out w9 e9 s9.at'
     have HEV : Hid (fetchV e.v n = (e9.v, seatedOf (e9.seats.map SeatA.v) n)) := by
      rw [Hid, HFV.out, if_pos (by first | exact ⟨rfl, hdi⟩ | exact ⟨trivial, hdi⟩), ← he9.out]
      rfl
     clear HFV HSE HTL s9 S8 oo8 hdi
     go_wp2_with (first | (guard_target = wpList _ _ _ (Oper.mk (some 50) _ _ _ _ _ :: _) _ _; refine wpList_load_mid rfl 102 (.tmp 49) rfl E 136 rfl _ _ r9 Tryz.underlying102 rfl HI9.out ?_) | fail)
     refine C9.mono ?_
     rintro r w10 ⟨rfl, hb10⟩
     go_wp2
     go_ret
     exact ⟨e9, _, rfl, HEV, hl9, S9.below hb10⟩
    ·have hdf : old.dirty = false := by simpa using hdi
     rw [hdf] at d8
     have C9 := HSE.out W8 _ S8.at' HTL.out
     have r9 := HRQ8.out W8 _ S8.at'
     have HEV : Hid (fetchV e.v n = ((e.withPool ts a' c' hand').v, seatedOf (ts.map SeatA.v) n)) := by
      rw [Hid, HFV.out, if_neg (fun hh => hdi hh.2)]
      rfl
     clear HFV HSE HTL oo8 hdi hdf HOK HOR r8
     go_wp2_with (first | (guard_target = wpList _ _ _ (Oper.mk (some 50) _ _ _ _ _ :: _) _ _; refine wpList_load_mid rfl 102 (.tmp 49) rfl E 136 rfl _ _ r9 Tryz.underlying102 rfl HIQ8.out ?_) | fail)
     refine C9.mono ?_
     rintro r w10 ⟨rfl, hb10⟩
     go_wp2
     go_ret
     exact ⟨_, _, rfl, HEV, rfl, S8.below hb10⟩
   ·have hwf : went = false := by simpa using hw
    subst hwf
    have C9 := HSE.out W8 _ S8.at' HTL.out
    have r9 := HRQ8.out W8 _ S8.at'
    have HEV : Hid (fetchV e.v n = ((e.withPool ts a' c' hand').v, seatedOf (ts.map SeatA.v) n)) := by
     rw [Hid, HFV.out, if_neg (fun hh => by cases hh.1)]
     rfl
    clear HFV HSE HTL oo8 HOK HOR r8 d8
    go_wp2_with (first | (guard_target = wpList _ _ _ (Oper.mk (some 50) _ _ _ _ _ :: _) _ _; refine wpList_load_mid rfl 102 (.tmp 49) rfl E 136 rfl _ _ r9 Tryz.underlying102 rfl HIQ8.out ?_) | fail)
    refine C9.mono ?_
    rintro r w10 ⟨rfl, hb10⟩
    go_wp2
    go_ret
    exact ⟨_, _, rfl, HEV, rfl, S8.below hb10⟩
 ·have HF : Hid (fetchV e.v n = ({ e.v with seats := (e.seats.map SeatA.v).set k (hotV (e.seats.getD k zeroSt).v) }, (k : Int))) := by
   have e1 : e.v.seats = e.seats.map SeatA.v := rfl
   rw [Hid, fetchV, e1, hs, if_pos (by omega), Int.toNat_natCast, seatV_at]
  rw [List.length_map] at hk
  obtain ⟨g, W, hg, hgE, hW, hf, hr, st, tW, hsW⟩ := a1.seatSet k hk { (e.seats.getD k zeroSt) with hot := true } 19 (.bool true) (by omega) rfl rfl
  have x0 : w1.cell? ⟨E, 136, none⟩ = some (.slice (some ⟨g, 0, none⟩) e.seats.length e.cS) := by rw [← hg]; exact EngA.cell_at a1.shape a1.box 0 _ rfl
  have x1 := hr 19 _ rfl
  have f1 := hf (k * 20 + 19)
  have hkk : (k : Int) < (e.seats.length : Int) := by omega
  have hk0 : (0 : Int) ≤ (k : Int) := by omega
  have HS : Hid (∃ (e' : EngA) (k' : Int), Ending.returned (.int .i64 (k : Int)) = .returned (.int .i64 k') ∧ Hid (fetchV e.v n = (e'.v, k')) ∧ Hid (e'.log.recs = e.log.recs) ∧ EngStep E e w e' W) := by
   refine ⟨_, k, rfl, ?_, ?_, EngStep.after hb1 st⟩
   rotate_left
   ·rfl
   rw [Hid, HF.out]
   simp only [EngA.v, EngA.withPool, List.map_set]
   rfl
  have hs' : seatedOf (e.seats.map SeatA.v) n = (k : Int) := hs
  clear hs hg hr hf tW hsW st HF
  rw [hs']
  clear hs' hno
  go_wp2_with fail
  rw [hW.out]
  go_ret
  exact HS.out
end Go.Proofs.YtickiokdcbeefaaGreatDoor
namespace Go.Proofs.YtickiokdcbeefaaGreatDoor
open Go.RowKit
theorem run_append_recD {w : World} (ty : TypeId) (lo hi : Nat) (a : Option Addr) (c : Nat) (rs : List RecA) (hown : OwnRs w lo hi a c rs)
  (b off : Nat) (sc : Nat) (q : RecA) (hr : w.rangeAt b off q.cells) (l u : Nat) (hq : q.own w l u) (hl : lo ≤ l) (hd : ∀ k ∈ q.blocks, k ∉ blocksRs a c rs) (hu : u ≤ w.heap.size)
  (hb : rs.length + 1 ≤ 68719476736) (hlo : lo ≤ hi) :
  ∃ a' c' w', (Builtin.append_ #[24, 24] ty #[.slice a rs.length c, .slice (some ⟨b, off, none⟩) 1 sc]).run Tryz.prog w = .ok (.slice a' (rs ++ [q]).length c') w' ∧ OwnRs w' lo w'.heap.size a' c' (rs ++ [q]) ∧ w.grownBy w' (Value.slice a rs.length c).ownBlock ∧
   (∀ k, (Value.slice a' (rs ++ [q]).length c').ownBlock = some k → (Value.slice a rs.length c).ownBlock = some k ∨ k = w.heap.size) := by
 obtain ⟨i0, hi0, hz0, hz1, hz2⟩ := info_parts Tryz.infoRec
 have htop := hown.top
 obtain ⟨v', w', hrun, h1, h2, _, h5⟩ := run_append_own_at (P := Tryz.prog) w lo 24 ty 42 i0 (.agg zeroR.cells.toArray) 15 200 Tryz.underlying24 hi0 hz0 hz1 hz2 rfl (by decide) _ _ _ hown.row ⟨b, off, none⟩ 1 sc q.cells (by rfl) (by
  intro j v hj
  rw [Addr_add]
  exact hr j v hj) (oneR q) (by simp only [maxLen]; omega) (by omega) (by omega)
 have e : cellsRs rs ++ q.cells = cellsRs (rs ++ [q]) := by rw [cellsRs_app, cellsRs_cons]; simp [cellsRs]
 have e2 : rs.length + 1 = (rs ++ [q]).length := by simp
 rw [e, e2] at h1
 have sh : ∃ a' c', v' = .slice a' (rs ++ [q]).length c' := by
  rcases h1.2 with ⟨rfl, h0⟩ | ⟨g, cap, cur, rfl, _⟩
  ·simp at h0
  ·exact ⟨_, _, rfl⟩
 obtain ⟨a', c', rfl⟩ := sh
 have hsz := h2.size
 have ht : Touch (Value.slice a rs.length c).ownBlock.toList w w' := Touch.of_grown h2 (fun k hk => Option.mem_toList.2 hk)
 have hrow := h1.lt
 have hold : ∀ r ∈ rs, r.own w' lo w'.heap.size := fun r hr => ((hown.each r hr).touch ht (fun k hk hk' => (List.nodup_append.1 hown.apart).2.2 k hk' k (List.mem_flatMap.2 ⟨r, hr, hk⟩) rfl)).widen (Nat.le_refl _) (by omega) (Nat.le_refl _)
 have hnew : q.own w' lo w'.heap.size := (hq.touch ht (fun k hk hk' => hd k hk (List.mem_append.2 (.inl hk')))).widen (by omega) (by omega) (Nat.le_refl _)
 refine ⟨a', c', w', hrun, ⟨h1, Nat.le_refl _, fun k hk => (hrow k hk).2, fun r hr => ?_, ?_⟩, h2, fun k hk => h5.elim (fun h5 => .inl (by rw [← h5]; exact hk)) (fun h5 => by rw [h5] at hk; exact .inr (Option.some.inj hk).symm)⟩
 ·rcases List.mem_append.1 hr with hr | hr
  ·exact hold r hr
  ·obtain rfl := List.mem_singleton.1 hr
   exact hnew
 ·rw [List.flatMap_append, List.nodup_append, List.nodup_append]
  have hap := (List.nodup_append.1 hown.apart).2.1
  refine ⟨by cases (Value.slice a' (rs ++ [q]).length c').ownBlock <;> simp, ⟨hap, by simpa using hq.apart, fun x hx y hy e => ?_⟩, fun x hx y hy e => ?_⟩
  ·simp only [List.flatMap_cons, List.flatMap_nil, List.append_nil] at hy
   subst e
   exact hd x hy (List.mem_append.2 (.inr hx))
  ·have hx' := Option.mem_toList.1 hx
   subst e
   rcases List.mem_append.1 hy with hy | hy
   ·obtain ⟨r, hr, hy⟩ := List.mem_flatMap.1 hy
    exact row_apart h1 (hold r hr) x hx' hy
   ·simp only [List.flatMap_cons, List.flatMap_nil, List.append_nil] at hy
    exact row_apart h1 hnew x hx' hy
theorem step_append_recD {w : World} {ops : Array Oper} {o : Oper} {act : Act} {K : Act → World → Prop} {Q : Exit → Act → World → Prop} {E : Prop} (hgd : o.guard = none) (s x : Operand)
  (ho : o.op = .call { callee := .builtin .append, args := #[s, x], argTypes := #[24, 24] })
  (lo hi : Nat) (a : Option Addr) (c : Nat) (rs : List RecA) (hs : act.eval s = .slice a rs.length c) (hown : OwnRs w lo hi a c rs)
  (b off : Nat) (sc : Nat) (q : RecA) (hx : act.eval x = .slice (some ⟨b, off, none⟩) 1 sc) (hr : w.rangeAt b off q.cells) (l u : Nat) (hq : q.own w l u) (hl : lo ≤ l) (hd : ∀ k ∈ q.blocks, k ∉ blocksRs a c rs) (hu : u ≤ w.heap.size)
  (hb : rs.length + 1 ≤ 68719476736) (hlo : lo ≤ hi)
  (h : ∀ a' c' w', OwnRs w' lo w'.heap.size a' c' (rs ++ [q]) → w.grownBy w' (Value.slice a rs.length c).ownBlock → (∀ k, (Value.slice a' (rs ++ [q]).length c').ownBlock = some k → (Value.slice a rs.length c).ownBlock = some k ∨ k = w.heap.size) → K (act.put o.dst (.slice a' (rs ++ [q]).length c')) w') :
  if Region.wanted o (yielded ops act.tmps) = true then Oper.wp Tryz.prog o act w K Q else E := by
 have hw : Region.wanted o (yielded ops act.tmps) = true := by simp [Region.wanted, hgd]
 rw [if_pos hw]
 obtain ⟨a', c', w', hrun, h2, h3, h4⟩ := run_append_recD (w := w) o.type lo hi a c rs hown b off sc q hr l u hq hl hd hu hb hlo
 unfold Oper.wp
 simp [execOp, ho, resolve, invoke, builtin, hs, hx, hrun, Result.andThen]
 have := h a' c' w' h2 h3 h4
 rw [List.length_append, List.length_singleton] at this
 exact this
end Go.Proofs.YtickiokdcbeefaaGreatDoor