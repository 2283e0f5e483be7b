/- Several texts in one, in their order. -/
import Derived.Test.YtickiokdcbeefabDoorPVictimx21
import Derived.Test.YtickiokdcbeefabDoorPVictimx14
import Derived.Test.YtickiokdcbeefabDoorPVictimx13
import Derived.Deep.RegionLaw
import Derived.Deep.DrawnRows
import Derived.Test.YtickiokdcbeefabDoorPVictimx17
import Derived.Test.YtickiokdcbeefabDoorPVictimx10
import Derived.Test.YtickiokdcbeefabDoorPVictimx11
import Derived.Test.YtickiokdcbeefabDoorPVictimx5
import Derived.Test.YtickiokdcbeefabDoorPVictimx15
/- A page brought into a pool: the walk of spec.l6Bring. -/
namespace Go.Proofs.YtickiokdcbeefabDoor
open Go.RowKit
attribute [local go_sem ↓] Go.wp_at_zero Go.wp_at_succ

theorem four_slots {ts : List SlotA} (h : ts.length = 4) : ∃ a b c d, ts = [a, b, c, d] := by
  match ts, h with
  | [a, b, c, d], _ => exact ⟨a, b, c, d, rfl⟩
def newSt (no lsn : Int) (a b c d : SlotA) : SeatA := ⟨no, lsn, a, b, c, d, false, true⟩

def bringV (ss : List SeatV) (h : Nat) (new : SeatV) : List SeatV × Nat × SeatV × Bool :=
  if ss.length < 3 then (ss ++ [new], h, zeroStV, false) else ((victimV 4 ss h).1.set (victimV 4 ss h).2.2 new, (victimV 4 ss h).2.1, (victimV 4 ss h).1.getD (victimV 4 ss h).2.2 zeroStV, true)
/-- Behind Bring: the pool ts, and who went. -/
structure Brought (lo B o : Nat) (vs : List Value) (t : TypeId) (a : Option Addr) (c : Nat) (ss : List SeatA) (w w' : World) (ts : List SeatA) (a' : Option Addr) (c' hand' : Nat) (old : SeatA) : Prop where
  pool : PoolAt w' lo w'.heap.size B o ((vs.set o (.slice a' ts.length c')).set (o + 1) (.int .i64 hand')) t a' c' ts hand'
  fresh : ∀ k ∈ blocksSts a' c' ts, k ∈ blocksSts a c ss ∨ w.heap.size ≤ k
  touch : Touch (B :: blocksSts a c ss) w w'
  went : old.own w' lo w'.heap.size
  wentB : ∀ k ∈ old.blocks, k ∈ blocksSts a c ss
def BringAns (lo B o : Nat) (vs : List Value) (t : TypeId) (a : Option Addr) (c : Nat) (ss : List SeatA) (h : Nat) (new : SeatV) (w : World) (r : Ending) (w' : World) : Prop :=
  ∃ (ts : List SeatA) (a' : Option Addr) (c' hand' : Nat) (old : SeatA) (went : Bool), r = .returned (.tuple #[.agg old.cells.toArray, .bool went]) ∧ Hid (bringV (ss.map SeatA.v) h new = (ts.map SeatA.v, hand', old.v, went)) ∧ Brought lo B o vs t a c ss w w' ts a' c' hand' old
theorem PoolAt.below {w w' : World} {lo hi B o : Nat} {vs : List Value} {t : TypeId} {a : Option Addr} {c : Nat} {ss : List SeatA} {hand : Int} (h : PoolAt w lo hi B o vs t a c ss hand) (hb : Below w.heap.size w w') : PoolAt w' lo hi B o vs t a c ss hand :=
  ⟨h.box.below hb h.box.lt, h.c0, h.c1, h.own.below hb, h.off⟩
theorem zeroS_own (w : World) (lo hi : Nat) (h : hi ≤ w.heap.size) : zeroS.own w lo hi := ⟨ownI_nil w lo hi h, ownI_nil w lo hi h, fun k h1 _ => by cases h1⟩
theorem zeroSt_blocks : zeroSt.blocks = [] := rfl
theorem zeroSt_own (w : World) (lo hi : Nat) (h : hi ≤ w.heap.size) : zeroSt.own w lo hi := ⟨fun s hs => by
  simp only [SeatA.ss, zeroSt, List.mem_cons, List.not_mem_nil, or_false] at hs
  have : s = zeroS := by rcases hs with h | h | h | h <;> exact h
  subst this
  exact zeroS_own w lo hi h, by show ([] : List Nat).Nodup; simp⟩
theorem set_set_ne {vs : List Value} {o : Nat} {x y : Value} (h : vs[o + 1]? = some y) : (vs.set o x).set (o + 1) y = vs.set o x := by
  have h1 : (vs.set o x)[o + 1]? = some y := by rw [List.getElem?_set_ne (by omega)]; exact h
  obtain ⟨_, h2⟩ := List.getElem?_eq_some_iff.1 h1
  rw [← h2, List.set_getElem_self]

set_option maxHeartbeats 4000000 in
set_option maxRecDepth 100000 in
theorem l6Bring_any (lo hi B o : Nat) (vs : List Value) (t : TypeId) (a : Option Addr) (c : Nat) (ss : List SeatA) (h : Nat) (no : Int) (pg : PageA) (w : World) (hp : PoolAt w lo hi B o vs t a c ss h) (hlo : lo ≤ hi) (h3 : ss.length ≤ 3) (hh : h < 3) (h4 : pg.ss.length = 4) (hr : ReadsS w pg.ss) (hl : Fit pg.ss) :
    Calls Tryd.prog 39 #[.pointer (some ⟨B, o, none⟩), .int .i64 no, .agg pg.cells.toArray] w fun r w' => BringAns lo B o vs t a c ss h ⟨no, pg.lsn, pg.ss.map (·.v), false, true⟩ w r w' := by
  obtain ⟨W, hW, b0, b1, hbW, hsW⟩ := boxes2 w pg.cells zeroSt.cells 49 51
  have HIP : Hid ((Tryd.prog.info? 49).map (·.size) = some pg.cells.length) := by rw [Hid, page_len pg h4]; kernel_rfl
  have HRG : Hid (W.rangeAt w.heap.size 0 pg.cells) := Box.range [] pg.cells [] (by simpa using b0)
  have hws : w.heap.size + 1 < W.heap.size := by omega
  have hW' : Hid ((w.alloc (.cells pg.cells.toArray 49)).alloc (.cells #[.int .i64 0, .int .i64 0, .bool false, .int .i64 0, .slice none 0 0, .slice none 0 0, .bool false, .int .i64 0, .slice none 0 0, .slice none 0 0, .bool false, .int .i64 0, .slice none 0 0, .slice none 0 0, .bool false, .int .i64 0, .slice none 0 0, .slice none 0 0, .bool false, .bool false] 51) = W) := hW.out
  have htop := hp.own.top
  have hBlt := hp.box.lt
  clear hsW hW b0
  go_enter Tryd.func39, Tryd.ntmps39
  go_upto_region 1 with fail
  rw [hW'.out]
  clear hW'
  go_wp2_with (first | (guard_target = wpList _ _ _ (Oper.mk (some 12) _ _ _ _ _ :: _) _ _; refine wpList_load_mid rfl 49 (.tmp 5) rfl w.heap.size 0 rfl pg.cells _ HRG.out Tryd.underlying49 rfl HIP.out ?_) | fail)
  refine (l3Copy_own pg h4 W (hr.below hbW) hl).mono ?_
  rintro e w2 ⟨ts, rfl, hts, ho2, hb2⟩
  obtain ⟨x0, x1, x2, x3, rfl⟩ := four_slots (ts := ts) (by have := congrArg List.length hts.out; simpa [h4] using this)
  obtain ⟨q, hq⟩ : ∃ q : SeatA, Hid ((⟨no, pg.lsn, x0, x1, x2, x3, false, true⟩ : SeatA) = q) := ⟨_, rfl⟩
  have HQV : Hid (q.v = ⟨no, pg.lsn, pg.ss.map (·.v), false, true⟩) := by rw [Hid, ← hq.out, ← hts.out]; rfl
  have oq2 : q.own w2 W.heap.size w2.heap.size := by rw [← hq.out]; exact ho2
  have hs2 := hb2.size
  obtain ⟨W3, hW3, b3, hb3, hs3⟩ := boxes1 w2 zeroSt.cells 51
  obtain ⟨W4, hW4, hw4, hs4, HT4, _, b4⟩ := seat_out q _ rfl b3
  have HO4 := seat_one q
  have HI : Hid ((Tryd.prog.info? 51).map (·.size) = some q.cells.length) := seat_info q
  have N34 : Below w2.heap.size w2 W4 := hb3.trans (hw4.below (Nat.le_refl _) (by omega))
  have hW3' : Hid (w2.alloc (.cells #[.int .i64 0, .int .i64 0, .bool false, .int .i64 0, .slice none 0 0, .slice none 0 0, .bool false, .int .i64 0, .slice none 0 0, .slice none 0 0, .bool false, .int .i64 0, .slice none 0 0, .slice none 0 0, .bool false, .int .i64 0, .slice none 0 0, .slice none 0 0, .bool false, .bool false] 51) = W3) := hW3.out
  have hW4' : Hid (W3.setCells w2.heap.size 0 q.cells.toArray.toList = W4) := hW4.out
  have N2 : Below w.heap.size w w2 := hbW.trans (hb2.mono hbW.size)
  have N4 : Below w.heap.size w W4 := N2.trans (N34.mono N2.size)
  have b6 : Box W4 (w.heap.size + 1) zeroSt.cells 51 := (b1.below hb2 b1.lt).below N34 (by omega)
  have oq4 := oq2.below N34
  have p4 := hp.below N4
  have hz4 := b4.lt
  clear hW3 hW4 hs3 hs4 hw4 hb3 b3 ho2 hts b1 oq2 hp
  go_upto_region 2 with (first | (guard_target = wpList _ _ _ (Oper.mk (some 14) _ _ _ _ _ :: _) _ _; refine build_seat (.tmp 11) (.tmp 13) no pg.lsn x0 x1 x2 x3 rfl rfl ?_; rw [hq.out]) | (guard_target = wpList _ _ _ (Oper.mk none (Op.store _ (Operand.tmp 8) _) _ _ _ _ :: _) _ _; refine wpList_store_mid rfl 51 (.tmp 8) (.tmp 14) rfl w2.heap.size 0 q.cells.toArray rfl rfl (by rw [hW3'.out]; exact HT4.out) HI.out HO4 ?_; rw [hW3'.out, hW4'.out]) | fail)
  clear hq hW3' hW4' HT4
  have y0 := p4.box.cell o _ p4.c0
  by_cases hlt : ss.length < 3
  · have hltb : (ss.length : Int) < 3 := by omega
    go_upto_region 3 with fail
    clear y0
    have d4 : Box W4.drew B vs t := p4.box.drewN 1
    have e4 : Box W4.drew w2.heap.size q.cells 51 := b4.drewN 1
    have y0 := d4.cell o _ p4.c0
    have r4 : W4.drew.rangeAt w2.heap.size 0 q.cells := Box.range [] q.cells [] (by simpa using e4)
    refine wp_region_held_drew (S := fun w' => w'.rangeAt w2.heap.size 0 q.cells ∧ True) (by kernel_rfl) ?_ (fun hHeld => ?_)
    · exact ⟨r4, trivial⟩
    refine wpAnyH_take (i := 0) (v := .pointer (some ⟨B, o, none⟩)) rfl (by kernel_rfl) (by kernel_rfl) (by kernel_rfl) (fun _ _ _ h => h) (Or.inl ⟨by rfl, ?_⟩) hHeld ?_
    · intro w' hSw
      go_simp <;> rfl
    try simp only [Act.put, List.getElem_toArray, List.getElem_cons_zero, List.setIfInBounds_toArray, List.set_cons_zero, List.set_cons_succ]
    refine wpAnyH_take (i := 1) (v := .pointer (some ⟨B, o, none⟩)) rfl (by kernel_rfl) (by kernel_rfl) (by kernel_rfl) (fun _ _ _ h => h) (Or.inl ⟨by rfl, ?_⟩) hHeld ?_
    · intro w' hSw
      go_simp <;> rfl
    try simp only [Act.put, List.getElem_toArray, List.getElem_cons_zero, List.getElem_cons_succ, List.setIfInBounds_toArray, List.set_cons_zero, List.set_cons_succ]
    refine wpAnyH_take (i := 2) (v := .pointer (some ⟨B, o, none⟩)) rfl (by kernel_rfl) (by kernel_rfl) (by kernel_rfl) (fun _ _ _ h => h) (Or.inl ⟨by rfl, ?_⟩) hHeld ?_
    · intro w' hSw
      go_simp <;> rfl
    try simp only [Act.put, List.getElem_toArray, List.getElem_cons_zero, List.getElem_cons_succ, List.setIfInBounds_toArray, List.set_cons_zero, List.set_cons_succ]
    refine wpAnyH_take (i := 3) (v := .pointer (some ⟨B, o, none⟩)) rfl (by kernel_rfl) (by kernel_rfl) (by kernel_rfl) (fun _ _ _ h => h) (Or.inl ⟨by rfl, ?_⟩) hHeld ?_
    · intro w' hSw
      go_simp <;> rfl
    try simp only [Act.put, List.getElem_toArray, List.getElem_cons_zero, List.getElem_cons_succ, List.setIfInBounds_toArray, List.set_cons_zero, List.set_cons_succ]
    refine wpAnyH_take (i := 5) rfl (by kernel_rfl) (by kernel_rfl) (by kernel_rfl) (fun _ _ _ h => h) (yieldsIf_load_mid (by rfl) _ _ rfl _ _ rfl q.cells _ (fun _ h => h.1) Tryd.underlying51 rfl HI.out) hHeld ?_
    try simp only [Act.put, List.getElem_toArray, List.getElem_cons_zero, List.getElem_cons_succ, List.setIfInBounds_toArray, List.set_cons_zero, List.set_cons_succ]
    refine wpAnyH_ready (rs := [4, 6]) (by kernel_rfl) (by simp) ?_
    refine AllReadyH.cons rfl (fun K hK => ?_) (AllReadyH.cons rfl (fun K hK => ?_) AllReadyH.nil)
    · go_simp
      refine hK.out _ _ (hHeld) (fun hHeld => ?_)
      clear hK K
      try simp only [Act.put, List.getElem_toArray, List.getElem_cons_zero, List.getElem_cons_succ, List.setIfInBounds_toArray, List.set_cons_zero, List.set_cons_succ]
      refine wpAnyH_ready (rs := [6]) (by kernel_rfl) (by simp) ?_
      refine AllReadyH.cons rfl (fun K hK => ?_) AllReadyH.nil
      go_simp
      simp only [cellsSt_len, lit_seat, not_true_eq_false, Nat.lt_irrefl, or_self, if_false]
      go_simp
      obtain ⟨V5, hV5, b5', hb5, hs5⟩ := boxes1 W4 q.cells 51
      rw [hV5.out]
      obtain ⟨W5, hW5⟩ : ∃ W5, Hid (V5.drew = W5) := ⟨_, rfl⟩
      rw [hW5.out]
      have b5 : Box W5 W4.heap.size q.cells 51 := by rw [← hW5.out]; exact b5'.drewN 1
      have ND : Below W4.heap.size W4 W5 := by rw [← hW5.out]; exact hb5.drew
      have p5 := p4.below ND
      have oq5 := oq4.below ND
      have b65 := b6.below ND b6.lt
      have b45 := b4.below ND b4.lt
      have r5 : W5.rangeAt W4.heap.size 0 q.cells := Box.range [] q.cells [] (by simpa using b5)
      have r45 : W5.rangeAt w2.heap.size 0 q.cells := Box.range [] q.cells [] (by simpa using b45)
      have N5 : Below w.heap.size w W5 := N4.trans (ND.mono N4.size)
      have hs45 := ND.size
      clear hs5 hb5 hW5 hV5 b5 b5' b45
      refine hK.out _ _ (⟨r45, trivial⟩) (fun hHeld => ?_)
      clear hK K
      try simp only [Act.put, List.getElem_toArray, List.getElem_cons_zero, List.getElem_cons_succ, List.setIfInBounds_toArray, List.set_cons_zero, List.set_cons_succ]
      refine wpAnyH_ready (rs := [7]) (by kernel_rfl) (by simp) ?_
      refine AllReadyH.cons rfl (fun K hK => ?_) AllReadyH.nil
      refine step_append_seat rfl (.tmp 25) (.tmp 27) rfl lo hi a c ss rfl p5.own W4.heap.size 0 1 q rfl r5 W.heap.size w2.heap.size oq5 (by omega) (by omega) (by omega) hlo ?_
      intro a9 c9 w9 o9 g9 f9
      obtain ⟨ys, hys⟩ : ∃ ys, Hid (ss ++ [q] = ys) := ⟨_, rfl⟩
      have HOB : Hid (∀ k ∈ blocksSts a9 c9 (ss ++ [q]), k ∈ blocksSts a c ss ∨ W.heap.size ≤ k) := fun k hk => by
        simp only [blocksSts, List.mem_append, Option.mem_toList, List.flatMap_append, List.flatMap_cons, List.flatMap_nil, List.append_nil] at hk ⊢
        rcases hk with hk | hk | hk
        · rcases f9 k hk with h | h
          · exact .inl (.inl h)
          · exact .inr (by have := ND.size; omega)
        · exact .inl (.inr hk)
        · exact .inr (by have := (oq5.blocks_lt k hk).1; omega)
      rw [hys.out] at o9 HOB ⊢
      have t9 : Touch (blocksSts a c ss) W5 w9 := Touch.of_grown g9 (fun k hk => List.mem_append.2 (.inl (Option.mem_toList.2 hk)))
      have hltb : ∀ k ∈ blocksSts a c ss, k < w.heap.size := fun k hk => by have := (p5.own.blocks_lt k hk).2; omega
      have k9 := p5.box.touch t9 p5.off
      have b69 := b65.touch t9 (fun hk => by have := hltb _ hk; omega)
      have hs9 := t9.size
      have hw2n : w2.heap.size ∉ blocksSts a c ss := fun hk => by have := hltb _ hk; omega
      have r49 : w9.rangeAt w2.heap.size 0 q.cells := rangeAt_block r45 (t9.block _ (by omega) hw2n)
      have T9 : Touch (B :: blocksSts a c ss) w w9 := (Touch.of_below N5).trans (t9.mono (fun k hk => List.mem_cons_of_mem _ hk))
      refine hK.out _ _ (⟨r49, trivial⟩) (fun hHeld => ?_)
      clear hK K g9 f9
      try simp only [Act.put, List.getElem_toArray, List.getElem_cons_zero, List.getElem_cons_succ, List.setIfInBounds_toArray, List.set_cons_zero, List.set_cons_succ]
      refine wpAnyH_take (i := 8) (v := .pointer (some ⟨B, o, none⟩)) rfl (by kernel_rfl) (by kernel_rfl) (by kernel_rfl) (fun _ _ _ h => h) (Or.inl ⟨by rfl, ?_⟩) hHeld ?_
      · intro w' hSw
        go_simp <;> rfl
      try simp only [Act.put, List.getElem_toArray, List.getElem_cons_zero, List.getElem_cons_succ, List.setIfInBounds_toArray, List.set_cons_zero, List.set_cons_succ]
      refine wpAnyH_take (i := 9) (v := .pointer (some ⟨B, o, none⟩)) rfl (by kernel_rfl) (by kernel_rfl) (by kernel_rfl) (fun _ _ _ h => h) (Or.inl ⟨by rfl, ?_⟩) hHeld ?_
      · intro w' hSw
        go_simp <;> rfl
      try simp only [Act.put, List.getElem_toArray, List.getElem_cons_zero, List.getElem_cons_succ, List.setIfInBounds_toArray, List.set_cons_zero, List.set_cons_succ]
      have m0 := k9.cell o _ p4.c0
      have mf0 := k9.frozen o
      obtain ⟨WF, hWF, kF, hwF, hsF⟩ := box_set k9 o (.slice a9 ys.length c9)
      have hsFa := Nat.le_of_eq hsF
      have hsFb := Nat.le_of_eq hsF.symm
      clear hsF
      have tF : Touch [B] w9 WF := ⟨hwF.os, hwF.tape, hwF.output, hwF.size, fun j hj hn => hwF.block j hj (fun hh => hn (by simp; omega))⟩
      have hBw : B < w.heap.size := by have := p4.box.lt; exact hBlt
      have hBy : B ∉ blocksSts a9 c9 ys := fun hk => (HOB.out B hk).elim p4.off (fun h => by omega)
      have oF := o9.touch tF (fun k hk hk' => hBy (by rw [← List.mem_singleton.1 hk']; exact hk))
      have b6F := b69.touch tF (by simp; omega)
      have r4F : WF.rangeAt w2.heap.size 0 q.cells := rangeAt_block r49 (tF.block _ (by omega) (by simp; omega))
      have TF : Touch (B :: blocksSts a c ss) w WF := T9.trans (tF.mono (by simp))
      refine wpAnyH_ready (rs := [10]) (by kernel_rfl) (by simp) ?_
      refine AllReadyH.cons rfl (fun K hK => ?_) AllReadyH.nil
      go_simp
      rw [hWF.out]
      refine hK.out _ _ (⟨r4F, trivial⟩) (fun hHeld => ?_)
      clear hK K
      try simp only [Act.put, List.getElem_toArray, List.getElem_cons_zero, List.getElem_cons_succ, List.setIfInBounds_toArray, List.set_cons_zero, List.set_cons_succ]
      refine wpAnyH_done (by kernel_rfl) ?_ _
      clear m0 mf0 hWF
      obtain ⟨WG, hWG, hwG, hsG, HTG, HLG, bG⟩ := seat_out zeroSt _ rfl b6F
      have hsGa := Nat.le_of_eq hsG
      have hsGb := Nat.le_of_eq hsG.symm
      clear hsG
      have hWG' : Hid (WF.setCells (w.heap.size + 1) 0 zeroSt.cells.toArray.toList = WG) := hWG.out
      have tG : Touch [w.heap.size + 1] WF WG := ⟨hwG.os, hwG.tape, hwG.output, hwG.size, fun j hj hn => hwG.block j hj (fun hh => hn (by simp; omega))⟩
      have hn1 : w.heap.size + 1 ∉ blocksSts a9 c9 ys := fun hk => (HOB.out _ hk).elim (fun h => by have := hltb _ h; omega) (fun h => by omega)
      have kG := kF.touch tG (by simp; omega)
      have oG := (oF.touch tG (fun k hk hk' => hn1 (by rw [← List.mem_singleton.1 hk']; exact hk))).widen (Nat.le_refl _) (show w9.heap.size ≤ WG.heap.size by omega) (Nat.le_refl _)
      have TG : Touch (B :: blocksSts a c ss) w WG := ⟨tG.os.trans TF.os, tG.tape.trans TF.tape, tG.output.trans TF.output, Nat.le_trans TF.size tG.size, fun j hj hn => (tG.block j (by have := TF.size; omega) (by simp; omega)).trans (TF.block j hj hn)⟩
      have HEND : Hid (bringV (ss.map SeatA.v) h ⟨no, pg.lsn, pg.ss.map (·.v), false, true⟩ = (ys.map SeatA.v, h, zeroSt.v, false)) := by
        rw [Hid, bringV, if_pos (by rw [List.length_map]; exact hlt), ← hys.out, List.map_append, ← HQV.out]
        rfl
      have HPL : Hid (Brought lo B o vs t a c ss w WG ys a9 c9 h zeroSt) := by
        refine ⟨⟨?_, ?_, ?_, oG, hBy⟩, fun k hk => (HOB.out k hk).imp id (fun h => by omega), TG, zeroSt_own _ _ _ (Nat.le_refl _), fun k hk => by simp [zeroSt_blocks] at hk⟩
        · rw [set_set_ne p4.c1]; exact kG
        · rw [List.getElem?_set_ne (by omega), List.getElem?_set_self (List.getElem?_eq_some_iff.1 p4.c0).1]
        · rw [List.getElem?_set_self (by rw [List.length_set]; exact (List.getElem?_eq_some_iff.1 p4.c1).1)]
      have HTG' : WF.there (w.heap.size + 1) 0 zeroSt.cells.toArray.size := HTG.out
      have HIz : (Tryd.prog.info? 51).map (·.size) = some zeroSt.cells.toArray.size := seat_info zeroSt
      have HOz := seat_one zeroSt
      clear kG oG TG kF oF b6F TF tG tF
      obtain ⟨Zs, hZs⟩ : ∃ Zs, Hid (zeroSt = Zs) := ⟨_, rfl⟩
      rw [hZs.out] at HTG' HIz HOz hWG' HLG HPL HEND
      go_wp2_with (first | (guard_target = wpList _ _ _ (Oper.mk (some 31) _ _ _ _ _ :: _) _ _; refine build_zero_seat ?_; rw [hZs.out]) | (guard_target = wpList _ _ _ (Oper.mk none (Op.store _ (Operand.tmp 6) _) _ _ _ _ :: _) _ _; refine wpList_store_mid rfl 51 (.tmp 6) (.tmp 31) rfl (w.heap.size + 1) 0 Zs.cells.toArray rfl rfl HTG' HIz HOz ?_; rw [hWG'.out]) | fail)
      exact bodyPost_ret (v := .tuple #[.agg Zs.cells.toArray, .bool false]) (results_cell_flag Tryd.results39 rfl HLG.out rfl) rfl ⟨ys, a9, c9, h, Zs, false, rfl, HEND, HPL.out⟩
    · go_simp
      simp only [cellsSt_len, lit_seat, not_true_eq_false, Nat.lt_irrefl, or_self, if_false]
      go_simp
      obtain ⟨V5, hV5, b5', hb5, hs5⟩ := boxes1 W4 q.cells 51
      rw [hV5.out]
      obtain ⟨W5, hW5⟩ : ∃ W5, Hid (V5.drew = W5) := ⟨_, rfl⟩
      rw [hW5.out]
      have b5 : Box W5 W4.heap.size q.cells 51 := by rw [← hW5.out]; exact b5'.drewN 1
      have ND : Below W4.heap.size W4 W5 := by rw [← hW5.out]; exact hb5.drew
      have p5 := p4.below ND
      have oq5 := oq4.below ND
      have b65 := b6.below ND b6.lt
      have b45 := b4.below ND b4.lt
      have r5 : W5.rangeAt W4.heap.size 0 q.cells := Box.range [] q.cells [] (by simpa using b5)
      have r45 : W5.rangeAt w2.heap.size 0 q.cells := Box.range [] q.cells [] (by simpa using b45)
      have N5 : Below w.heap.size w W5 := N4.trans (ND.mono N4.size)
      have hs45 := ND.size
      clear hs5 hb5 hW5 hV5 b5 b5' b45
      refine hK.out _ _ (⟨r45, trivial⟩) (fun hHeld => ?_)
      clear hK K
      try simp only [Act.put, List.getElem_toArray, List.getElem_cons_zero, List.getElem_cons_succ, List.setIfInBounds_toArray, List.set_cons_zero, List.set_cons_succ]
      clear y0
      have y0 := p5.box.cell o _ p4.c0
      refine wpAnyH_ready (rs := [4]) (by kernel_rfl) (by simp) ?_
      refine AllReadyH.cons rfl (fun K hK => ?_) AllReadyH.nil
      go_simp
      refine hK.out _ _ (hHeld) (fun hHeld => ?_)
      clear hK K
      try simp only [Act.put, List.getElem_toArray, List.getElem_cons_zero, List.getElem_cons_succ, List.setIfInBounds_toArray, List.set_cons_zero, List.set_cons_succ]
      refine wpAnyH_ready (rs := [7]) (by kernel_rfl) (by simp) ?_
      refine AllReadyH.cons rfl (fun K hK => ?_) AllReadyH.nil
      refine step_append_seat rfl (.tmp 25) (.tmp 27) rfl lo hi a c ss rfl p5.own W4.heap.size 0 1 q rfl r5 W.heap.size w2.heap.size oq5 (by omega) (by omega) (by omega) hlo ?_
      intro a9 c9 w9 o9 g9 f9
      obtain ⟨ys, hys⟩ : ∃ ys, Hid (ss ++ [q] = ys) := ⟨_, rfl⟩
      have HOB : Hid (∀ k ∈ blocksSts a9 c9 (ss ++ [q]), k ∈ blocksSts a c ss ∨ W.heap.size ≤ k) := fun k hk => by
        simp only [blocksSts, List.mem_append, Option.mem_toList, List.flatMap_append, List.flatMap_cons, List.flatMap_nil, List.append_nil] at hk ⊢
        rcases hk with hk | hk | hk
        · rcases f9 k hk with h | h
          · exact .inl (.inl h)
          · exact .inr (by have := ND.size; omega)
        · exact .inl (.inr hk)
        · exact .inr (by have := (oq5.blocks_lt k hk).1; omega)
      rw [hys.out] at o9 HOB ⊢
      have t9 : Touch (blocksSts a c ss) W5 w9 := Touch.of_grown g9 (fun k hk => List.mem_append.2 (.inl (Option.mem_toList.2 hk)))
      have hltb : ∀ k ∈ blocksSts a c ss, k < w.heap.size := fun k hk => by have := (p5.own.blocks_lt k hk).2; omega
      have k9 := p5.box.touch t9 p5.off
      have b69 := b65.touch t9 (fun hk => by have := hltb _ hk; omega)
      have hs9 := t9.size
      have hw2n : w2.heap.size ∉ blocksSts a c ss := fun hk => by have := hltb _ hk; omega
      have r49 : w9.rangeAt w2.heap.size 0 q.cells := rangeAt_block r45 (t9.block _ (by omega) hw2n)
      have T9 : Touch (B :: blocksSts a c ss) w w9 := (Touch.of_below N5).trans (t9.mono (fun k hk => List.mem_cons_of_mem _ hk))
      refine hK.out _ _ (⟨r49, trivial⟩) (fun hHeld => ?_)
      clear hK K g9 f9
      try simp only [Act.put, List.getElem_toArray, List.getElem_cons_zero, List.getElem_cons_succ, List.setIfInBounds_toArray, List.set_cons_zero, List.set_cons_succ]
      refine wpAnyH_take (i := 8) (v := .pointer (some ⟨B, o, none⟩)) rfl (by kernel_rfl) (by kernel_rfl) (by kernel_rfl) (fun _ _ _ h => h) (Or.inl ⟨by rfl, ?_⟩) hHeld ?_
      · intro w' hSw
        go_simp <;> rfl
      try simp only [Act.put, List.getElem_toArray, List.getElem_cons_zero, List.getElem_cons_succ, List.setIfInBounds_toArray, List.set_cons_zero, List.set_cons_succ]
      refine wpAnyH_take (i := 9) (v := .pointer (some ⟨B, o, none⟩)) rfl (by kernel_rfl) (by kernel_rfl) (by kernel_rfl) (fun _ _ _ h => h) (Or.inl ⟨by rfl, ?_⟩) hHeld ?_
      · intro w' hSw
        go_simp <;> rfl
      try simp only [Act.put, List.getElem_toArray, List.getElem_cons_zero, List.getElem_cons_succ, List.setIfInBounds_toArray, List.set_cons_zero, List.set_cons_succ]
      have m0 := k9.cell o _ p4.c0
      have mf0 := k9.frozen o
      obtain ⟨WF, hWF, kF, hwF, hsF⟩ := box_set k9 o (.slice a9 ys.length c9)
      have hsFa := Nat.le_of_eq hsF
      have hsFb := Nat.le_of_eq hsF.symm
      clear hsF
      have tF : Touch [B] w9 WF := ⟨hwF.os, hwF.tape, hwF.output, hwF.size, fun j hj hn => hwF.block j hj (fun hh => hn (by simp; omega))⟩
      have hBw : B < w.heap.size := by have := p4.box.lt; exact hBlt
      have hBy : B ∉ blocksSts a9 c9 ys := fun hk => (HOB.out B hk).elim p4.off (fun h => by omega)
      have oF := o9.touch tF (fun k hk hk' => hBy (by rw [← List.mem_singleton.1 hk']; exact hk))
      have b6F := b69.touch tF (by simp; omega)
      have r4F : WF.rangeAt w2.heap.size 0 q.cells := rangeAt_block r49 (tF.block _ (by omega) (by simp; omega))
      have TF : Touch (B :: blocksSts a c ss) w WF := T9.trans (tF.mono (by simp))
      refine wpAnyH_ready (rs := [10]) (by kernel_rfl) (by simp) ?_
      refine AllReadyH.cons rfl (fun K hK => ?_) AllReadyH.nil
      go_simp
      rw [hWF.out]
      refine hK.out _ _ (⟨r4F, trivial⟩) (fun hHeld => ?_)
      clear hK K
      try simp only [Act.put, List.getElem_toArray, List.getElem_cons_zero, List.getElem_cons_succ, List.setIfInBounds_toArray, List.set_cons_zero, List.set_cons_succ]
      refine wpAnyH_done (by kernel_rfl) ?_ _
      clear m0 mf0 hWF
      obtain ⟨WG, hWG, hwG, hsG, HTG, HLG, bG⟩ := seat_out zeroSt _ rfl b6F
      have hsGa := Nat.le_of_eq hsG
      have hsGb := Nat.le_of_eq hsG.symm
      clear hsG
      have hWG' : Hid (WF.setCells (w.heap.size + 1) 0 zeroSt.cells.toArray.toList = WG) := hWG.out
      have tG : Touch [w.heap.size + 1] WF WG := ⟨hwG.os, hwG.tape, hwG.output, hwG.size, fun j hj hn => hwG.block j hj (fun hh => hn (by simp; omega))⟩
      have hn1 : w.heap.size + 1 ∉ blocksSts a9 c9 ys := fun hk => (HOB.out _ hk).elim (fun h => by have := hltb _ h; omega) (fun h => by omega)
      have kG := kF.touch tG (by simp; omega)
      have oG := (oF.touch tG (fun k hk hk' => hn1 (by rw [← List.mem_singleton.1 hk']; exact hk))).widen (Nat.le_refl _) (show w9.heap.size ≤ WG.heap.size by omega) (Nat.le_refl _)
      have TG : Touch (B :: blocksSts a c ss) w WG := ⟨tG.os.trans TF.os, tG.tape.trans TF.tape, tG.output.trans TF.output, Nat.le_trans TF.size tG.size, fun j hj hn => (tG.block j (by have := TF.size; omega) (by simp; omega)).trans (TF.block j hj hn)⟩
      have HEND : Hid (bringV (ss.map SeatA.v) h ⟨no, pg.lsn, pg.ss.map (·.v), false, true⟩ = (ys.map SeatA.v, h, zeroSt.v, false)) := by
        rw [Hid, bringV, if_pos (by rw [List.length_map]; exact hlt), ← hys.out, List.map_append, ← HQV.out]
        rfl
      have HPL : Hid (Brought lo B o vs t a c ss w WG ys a9 c9 h zeroSt) := by
        refine ⟨⟨?_, ?_, ?_, oG, hBy⟩, fun k hk => (HOB.out k hk).imp id (fun h => by omega), TG, zeroSt_own _ _ _ (Nat.le_refl _), fun k hk => by simp [zeroSt_blocks] at hk⟩
        · rw [set_set_ne p4.c1]; exact kG
        · rw [List.getElem?_set_ne (by omega), List.getElem?_set_self (List.getElem?_eq_some_iff.1 p4.c0).1]
        · rw [List.getElem?_set_self (by rw [List.length_set]; exact (List.getElem?_eq_some_iff.1 p4.c1).1)]
      have HTG' : WF.there (w.heap.size + 1) 0 zeroSt.cells.toArray.size := HTG.out
      have HIz : (Tryd.prog.info? 51).map (·.size) = some zeroSt.cells.toArray.size := seat_info zeroSt
      have HOz := seat_one zeroSt
      clear kG oG TG kF oF b6F TF tG tF
      obtain ⟨Zs, hZs⟩ : ∃ Zs, Hid (zeroSt = Zs) := ⟨_, rfl⟩
      rw [hZs.out] at HTG' HIz HOz hWG' HLG HPL HEND
      go_wp2_with (first | (guard_target = wpList _ _ _ (Oper.mk (some 31) _ _ _ _ _ :: _) _ _; refine build_zero_seat ?_; rw [hZs.out]) | (guard_target = wpList _ _ _ (Oper.mk none (Op.store _ (Operand.tmp 6) _) _ _ _ _ :: _) _ _; refine wpList_store_mid rfl 51 (.tmp 6) (.tmp 31) rfl (w.heap.size + 1) 0 Zs.cells.toArray rfl rfl HTG' HIz HOz ?_; rw [hWG'.out]) | fail)
      exact bodyPost_ret (v := .tuple #[.agg Zs.cells.toArray, .bool false]) (results_cell_flag Tryd.results39 rfl HLG.out rfl) rfl ⟨ys, a9, c9, h, Zs, false, rfl, HEND, HPL.out⟩
  · have h33 : ss.length = 3 := by omega
    have C := l6Victim_any lo hi B o vs t a c ss h W4 p4 h33 hh
    have hge : ¬ (ss.length : Int) < 3 := by omega
    clear h33
    go_wp2_with fail
    refine C.mono ?_
    clear C y0
    rintro e w5 ⟨us, k, hand', rfl, hvic, hul, p5, hbl, t5⟩
    have HN4 : Hid (∀ j, W4.heap.size ≤ j → j ∉ blocksSts a c us) := fun j hj hk => by have := (p5.own.blocks_lt j hk).2; have := N4.size; omega
    have hltb : ∀ j ∈ blocksSts a c us, j < w.heap.size := fun j hk => by have := (p5.own.blocks_lt j hk).2; omega
    have hk3 : k < 3 := by have h := (victim_hand 4 (ss.map SeatA.v) h hh).2; rw [hvic.out] at h; exact h
    obtain ⟨g, rfl⟩ : ∃ g, a = some ⟨g, 0, none⟩ := by
      rcases p5.own.row.2 with ⟨_, h0⟩ | ⟨g, cap', cur, hv, _⟩
      · omega
      · simp only [Value.slice.injEq] at hv; exact ⟨g, hv.1⟩
    have hmem : g ∈ blocksSts (some ⟨g, 0, none⟩) c us := by simp [blocksSts, Value.ownBlock]
    have hgB : B ≠ g := fun e => p5.off (e ▸ hmem)
    have hgw := hltb g hmem
    have r5 := (row_seat p5.own.row rfl k (by omega)).1
    have b65 := b6.touch t5 (by rw [← hbl.out]; exact not_part (by omega) (fun hk => by have := hltb _ hk; omega))
    have b45 := b4.touch t5 (by rw [← hbl.out]; exact not_part (by omega) (fun hk => by have := hltb _ hk; have := N2.size; omega))
    have oq5 := oq4.touch t5 (fun j hj hk => by have hj1 := (oq4.blocks_lt j hj).1; rcases List.mem_cons.1 hk with rfl | hk; omega; rw [← hbl.out] at hk; have := hltb _ hk; omega)
    have oold := p5.own.each (us.getD k zeroSt) (seatD_mem us k (by omega))
    have HOV : Hid (us.map SeatA.v = (victimV 4 (ss.map SeatA.v) h).1 ∧ hand' = (victimV 4 (ss.map SeatA.v) h).2.1 ∧ k = (victimV 4 (ss.map SeatA.v) h).2.2) := by rw [Hid, hvic.out]; exact ⟨rfl, rfl, rfl⟩
    obtain ⟨old, hold⟩ : ∃ old, Hid (us.getD k zeroSt = old) := ⟨_, rfl⟩
    rw [hold.out] at r5 oold
    have T5 : Touch (B :: blocksSts (some ⟨g, 0, none⟩) c ss) w w5 := (Touch.of_below N4).trans t5
    have hs5 := t5.size
    have z5 := p5.box.cell o _ p5.c0
    obtain ⟨W6, hW6, b10, hb6, hs6⟩ := boxes1 w5 zeroSt.cells 51
    obtain ⟨W7, hW7, hw7, hs7, HT7, _, b7⟩ := seat_out old _ rfl b10
    have hW6' : Hid (w5.alloc (.cells #[.int .i64 0, .int .i64 0, .bool false, .int .i64 0, .slice none 0 0, .slice none 0 0, .bool false, .int .i64 0, .slice none 0 0, .slice none 0 0, .bool false, .int .i64 0, .slice none 0 0, .slice none 0 0, .bool false, .int .i64 0, .slice none 0 0, .slice none 0 0, .bool false, .bool false] 51) = W6) := hW6.out
    have hW7' : Hid (W6.setCells w5.heap.size 0 old.cells.toArray.toList = W7) := hW7.out
    have N57 : Below w5.heap.size w5 W7 := hb6.trans (hw7.below (Nat.le_refl _) (by omega))
    have HO7 := seat_one old
    have HI7 : Hid ((Tryd.prog.info? 51).map (·.size) = some old.cells.length) := seat_info old
    have p7 := p5.below N57
    have b67 := b65.below N57 b65.lt
    have b47 := b45.below N57 b45.lt
    have oq7 := oq5.below N57
    have oold7 := oold.below N57
    have T7 := T5.trans (Touch.of_below N57)
    have hs57 := N57.size
    have hlt7 := b7.lt
    have hkb : (k : Int) < (us.length : Int) := by omega
    have hk0 : (0 : Int) ≤ (k : Int) := by omega
    have hul1 : us.length ≤ 3 := by omega
    have hul2 : 3 ≤ us.length := by omega
    clear hW6 hW7 hs6 hs7 hw7 hb6 b10 hul p4 p5 b6 b4 oq4 b65 b45 oq5 oold T5 t5 N57 hvic
    go_upto_region 7 with (first | (guard_target = wpList _ _ _ (Oper.mk (some 40) _ _ _ _ _ :: _) _ _; refine wpList_load_mid rfl 51 (.tmp 39) rfl g (k * 20) rfl old.cells _ r5 Tryd.underlying51 rfl HI7.out ?_) | (guard_target = wpList _ _ _ (Oper.mk none (Op.store _ (Operand.tmp 10) _) _ _ _ _ :: _) _ _; refine wpList_store_mid rfl 51 (.tmp 10) (.tmp 40) rfl w5.heap.size 0 old.cells.toArray rfl rfl (by rw [hW6'.out]; exact HT7.out) HI7.out HO7 ?_; rw [hW6'.out, hW7'.out]) | fail)
    simp only [Act.put]
    clear r5 z5 hW6' hW7' HT7 HO7
    have ND : Below W7.heap.size W7 W7.drew := (Below.refl _ _).drew
    have p8 := p7.below ND
    have b68 := b67.below ND b67.lt
    have b48 := b47.below ND b47.lt
    have b78 := b7.below ND b7.lt
    have oq8 := oq7.below ND
    have oold8 := oold7.below ND
    have T8 := T7.trans (Touch.of_below ND)
    have hs78 := ND.size
    clear p7 b67 b47 b7 oq7 oold7 T7
    have hkl : (us.take k).length = k := by rw [List.length_take]; omega
    obtain ⟨WF, hWF, oF, tF, hsF⟩ := OwnSts.fill (A := us.take k) (z := us.getD k zeroSt) (B := us.drop (k + 1)) (by rw [← seatD_split us k (by omega)]; exact p8.own) q oq8 (by omega) hlo (by omega)
    rw [hkl] at hWF
    rw [← seat_set us k q (by omega)] at oF
    have hsFa := Nat.le_of_eq hsF
    have hsFb := Nat.le_of_eq hsF.symm
    clear hsF hkl
    have hgn : g < w.heap.size := hgw
    have HWF : Hid (W7.drew.setCells g (k * 20) q.cells.toArray.toList = WF) := hWF.out
    have HTH : Hid (W7.drew.there g (k * 20) q.cells.toArray.size) := (row_seat p8.own.row rfl k (by omega)).2
    have S8 : W7.drew.cell? ⟨B, o, none⟩ = some (.slice (some ⟨g, 0, none⟩) us.length c) := p8.box.cell o _ p8.c0
    have R8 : W7.drew.rangeAt w2.heap.size 0 q.cells := Box.range [] q.cells [] (by simpa using b48)
    have bBF := p8.box.touch tF (by simpa using hgB)
    have SF : WF.cell? ⟨B, o, none⟩ = some (.slice (some ⟨g, 0, none⟩) us.length c) := bBF.cell o _ p8.c0
    have b4F := b48.touch tF (by simp; have := N2.size; omega)
    have RF : WF.rangeAt w2.heap.size 0 q.cells := Box.range [] q.cells [] (by simpa using b4F)
    have b6F := b68.touch tF (by simp; omega)
    have b7F := b78.touch tF (by simp; omega)
    have TF : Touch (B :: blocksSts (some ⟨g, 0, none⟩) c ss) w WF := T8.trans (tF.mono (fun j hj => List.mem_cons_of_mem _ (by rw [← hbl.out, List.mem_singleton.1 hj]; exact hmem)))
    have hng : g ∉ old.blocks := fun hk => rowSt_apart p8.own.row oold8 g rfl hk
    have HOB : Hid (∀ j ∈ blocksSts (some ⟨g, 0, none⟩) c (us.set k q), j ∈ blocksSts (some ⟨g, 0, none⟩) c ss ∨ W.heap.size ≤ j) := fun j hj => by
      simp only [blocksSts, List.mem_append, Option.mem_toList, List.length_set] at hj
      rcases hj with hj | hj
      · exact .inl (by rw [← hbl.out]; exact List.mem_append.2 (.inl (Option.mem_toList.2 hj)))
      · obtain ⟨r, hr, hj2⟩ := List.mem_flatMap.1 hj
        rcases List.mem_or_eq_of_mem_set hr with hr | rfl
        · exact .inl (by rw [← hbl.out]; exact List.mem_append.2 (.inr (List.mem_flatMap.2 ⟨r, hr, hj2⟩)))
        · exact .inr (oq8.blocks_lt j hj2).1
    refine wp_region_held_drew (S := fun w' => w'.cell? ⟨B, o, none⟩ = some (.slice (some ⟨g, 0, none⟩) us.length c) ∧ w'.rangeAt w2.heap.size 0 q.cells) (by kernel_rfl) ?_ (fun hHeld => ?_)
    · exact ⟨S8, R8⟩
    refine wpAnyH_take (i := 0) (v := .pointer (some ⟨B, o, none⟩)) rfl (by kernel_rfl) (by kernel_rfl) (by kernel_rfl) (fun _ _ _ h => h) (Or.inl ⟨by rfl, ?_⟩) hHeld ?_
    · intro w' hSw
      go_simp <;> rfl
    try simp only [Act.put, List.getElem_toArray, List.getElem_cons_zero, List.setIfInBounds_toArray, List.set_cons_zero, List.set_cons_succ]
    refine wpAnyH_take (i := 1) (v := .pointer (some ⟨B, o, none⟩)) rfl (by kernel_rfl) (by kernel_rfl) (by kernel_rfl) (fun _ _ _ h => h) (Or.inl ⟨by rfl, ?_⟩) hHeld ?_
    · intro w' hSw
      go_simp <;> rfl
    try simp only [Act.put, List.getElem_toArray, List.getElem_cons_zero, List.getElem_cons_succ, List.setIfInBounds_toArray, List.set_cons_zero, List.set_cons_succ]
    refine wpAnyH_take (i := 2) (v := .pointer (some ⟨B, o, none⟩)) rfl (by kernel_rfl) (by kernel_rfl) (by kernel_rfl) (fun _ _ _ h => h) (Or.inl ⟨by rfl, ?_⟩) hHeld ?_
    · intro w' hSw
      go_simp <;> rfl
    try simp only [Act.put, List.getElem_toArray, List.getElem_cons_zero, List.getElem_cons_succ, List.setIfInBounds_toArray, List.set_cons_zero, List.set_cons_succ]
    refine wpAnyH_take (i := 3) (v := .slice (some ⟨g, 0, none⟩) us.length c) rfl (by kernel_rfl) (by kernel_rfl) (by kernel_rfl) (fun _ _ _ h => h) (Or.inl ⟨by rfl, ?_⟩) hHeld ?_
    · intro w' hSw
      have hx := hSw.1
      go_simp <;> rfl
    try simp only [Act.put, List.getElem_toArray, List.getElem_cons_zero, List.getElem_cons_succ, List.setIfInBounds_toArray, List.set_cons_zero, List.set_cons_succ]
    refine wpAnyH_take (i := 4) (v := .int .i64 k) rfl (by kernel_rfl) (by kernel_rfl) (by kernel_rfl) (fun _ _ _ h => h) (Or.inl ⟨by rfl, ?_⟩) hHeld ?_
    · intro w' hSw
      go_simp <;> rfl
    try simp only [Act.put, List.getElem_toArray, List.getElem_cons_zero, List.getElem_cons_succ, List.setIfInBounds_toArray, List.set_cons_zero, List.set_cons_succ]
    refine wpAnyH_take (i := 5) rfl (by kernel_rfl) (by kernel_rfl) (by kernel_rfl) (fun _ _ _ h => h) (yieldsIf_load_mid (by rfl) _ _ rfl _ _ rfl q.cells _ (fun _ h => h.2) Tryd.underlying51 rfl HI.out) hHeld ?_
    try simp only [Act.put, List.getElem_toArray, List.getElem_cons_zero, List.getElem_cons_succ, List.setIfInBounds_toArray, List.set_cons_zero, List.set_cons_succ]
    refine wpAnyH_take (i := 6) (v := .pointer (some ⟨g, k * 20, none⟩)) rfl (by kernel_rfl) (by kernel_rfl) (by kernel_rfl) (fun _ _ _ h => h) (Or.inl ⟨by rfl, ?_⟩) hHeld ?_
    · intro w' hSw
      go_simp <;> rfl
    try simp only [Act.put, List.getElem_toArray, List.getElem_cons_zero, List.getElem_cons_succ, List.setIfInBounds_toArray, List.set_cons_zero, List.set_cons_succ]
    refine wpAnyH_ready (rs := [7]) (by kernel_rfl) (by simp) ?_
    refine AllReadyH.cons rfl (fun K hK => ?_) AllReadyH.nil
    rw [if_pos (by rfl)]
    refine wp_store_mid 51 (.tmp 47) (.tmp 46) rfl g (k * 20) q.cells.toArray rfl rfl HTH.out HI.out (seat_one q) ?_
    rw [HWF.out]
    refine hK.out _ _ (⟨SF, RF⟩) (fun hHeld => ?_)
    clear hK K
    try simp only [Act.put, List.getElem_toArray, List.getElem_cons_zero, List.getElem_cons_succ]
    refine wpAnyH_done (by kernel_rfl) ?_ _
    clear HWF HTH S8 R8 SF RF hHeld
    obtain ⟨WG, hWG, hwG, hsG, HTG, HLG, bG⟩ := seat_out old _ rfl b6F
    have hsGa := Nat.le_of_eq hsG
    have hsGb := Nat.le_of_eq hsG.symm
    clear hsG
    have hWG' : Hid (WF.setCells (w.heap.size + 1) 0 old.cells.toArray.toList = WG) := hWG.out
    have tG : Touch [w.heap.size + 1] WF WG := ⟨hwG.os, hwG.tape, hwG.output, hwG.size, fun j hj hn => hwG.block j hj (fun hh => hn (by simp; omega))⟩
    have hBy : B ∉ blocksSts (some ⟨g, 0, none⟩) c (us.set k q) := fun hk => (HOB.out B hk).elim (fun h => p8.off (by rw [hbl.out]; exact h)) (fun h => by omega)
    have hn1 : w.heap.size + 1 ∉ blocksSts (some ⟨g, 0, none⟩) c (us.set k q) := fun hk => (HOB.out _ hk).elim (fun h => by rw [← hbl.out] at h; have := hltb _ h; omega) (fun h => by omega)
    have kG := bBF.touch tG (by simp; omega)
    have oG := (oF.touch tG (fun j hk hk' => hn1 (by rw [← List.mem_singleton.1 hk']; exact hk))).widen (Nat.le_refl _) (show max hi w2.heap.size ≤ WG.heap.size by omega) (Nat.le_refl _)
    have TG : Touch (B :: blocksSts (some ⟨g, 0, none⟩) c ss) w WG := ⟨tG.os.trans TF.os, tG.tape.trans TF.tape, tG.output.trans TF.output, Nat.le_trans TF.size tG.size, fun j hj hn => (tG.block j (by have := TF.size; omega) (by simp; omega)).trans (TF.block j hj hn)⟩
    have hnold : ∀ j ∈ old.blocks, j ∉ [w.heap.size + 1] := fun j hj hk => by have h1 := (oold8.blocks_lt j hj).2; have h2 := List.mem_singleton.1 hk; omega
    have oG2 := ((oold8.touch tF (fun j hj hk => hng (by rw [← List.mem_singleton.1 hk]; exact hj))).touch tG hnold).widen (Nat.le_refl lo) (show hi ≤ WG.heap.size by omega) (Nat.le_refl _)
    have hoB : ∀ j ∈ old.blocks, j ∈ blocksSts (some ⟨g, 0, none⟩) c ss := fun j hj => by rw [← hbl.out]; exact List.mem_append.2 (.inr (List.mem_flatMap.2 ⟨old, by rw [← hold.out]; exact seatD_mem us k (by omega), hj⟩))
    have HEND : Hid (bringV (ss.map SeatA.v) h ⟨no, pg.lsn, pg.ss.map (·.v), false, true⟩ = ((us.set k q).map SeatA.v, hand', old.v, true)) := by
      obtain ⟨e1, e2, e3⟩ := HOV.out
      rw [Hid, bringV, if_neg (by rw [List.length_map]; exact hlt), ← e1, ← e2, ← e3, seatV_at, hold.out, List.map_set, HQV.out]
    have HPL : Hid (Brought lo B o vs t (some ⟨g, 0, none⟩) c ss w WG (us.set k q) (some ⟨g, 0, none⟩) c hand' old) := by
      refine ⟨⟨?_, ?_, ?_, oG, hBy⟩, fun j hk => (HOB.out j hk).imp id (fun h => by omega), TG, oG2, hoB⟩
      · have e : vs.set o (.slice (some ⟨g, 0, none⟩) (us.set k q).length c) = vs := by
          have hc := p8.c0
          rw [List.getElem?_set_ne (by omega)] at hc
          obtain ⟨_, h2⟩ := List.getElem?_eq_some_iff.1 hc
          rw [List.length_set, ← h2, List.set_getElem_self]
        rw [e]; exact kG
      · have hc := p8.c0
        rw [List.getElem?_set_ne (by omega)] at hc ⊢
        rw [List.getElem?_set_self (List.getElem?_eq_some_iff.1 hc).1]
      · have hc := (List.getElem?_eq_some_iff.1 p8.c1).1
        rw [List.length_set] at hc
        rw [List.getElem?_set_self (by rw [List.length_set]; exact hc)]
    have HTG' : WF.there (w.heap.size + 1) 0 old.cells.toArray.size := HTG.out
    have HOz := seat_one old
    have rL : WF.rangeAt w5.heap.size 0 old.cells := Box.range [] old.cells [] (by simpa using b7F)
    clear kG oG TG bBF oF b6F b4F b7F TF tG tF T8 p8 oq8 oold8 b68 b48 b78
    go_wp2_with (first | (guard_target = wpList _ _ _ (Oper.mk (some 48) _ _ _ _ _ :: _) _ _; refine wpList_load_mid rfl 51 (.tmp 10) rfl w5.heap.size 0 rfl old.cells _ rL Tryd.underlying51 rfl HI7.out ?_) | (guard_target = wpList _ _ _ (Oper.mk none (Op.store _ (Operand.tmp 6) _) _ _ _ _ :: _) _ _; refine wpList_store_mid rfl 51 (.tmp 6) (.tmp 48) rfl (w.heap.size + 1) 0 old.cells.toArray rfl rfl HTG' HI7.out HOz ?_; rw [hWG'.out]) | fail)
    exact bodyPost_ret (v := .tuple #[.agg old.cells.toArray, .bool true]) (results_cell_flag Tryd.results39 rfl HLG.out rfl) rfl ⟨us.set k q, some ⟨g, 0, none⟩, c, hand', old, true, rfl, HEND, HPL.out⟩
end Go.Proofs.YtickiokdcbeefabDoor

/- What a pool must be, and what its functions make of it. -/
namespace Go.Proofs.YtickiokdcbeefabDoor
open Go.RowKit

theorem seatFrom_at (ss : List SeatV) : ∀ (no : Int) (b k : Nat), k < ss.length → (ss.getD k zeroStV).no = no → (∀ j, j < k → (ss.getD j zeroStV).no ≠ no) → seatFrom no ss b = ((b + k : Nat) : Int) := by
  induction ss with
  | nil => intro no b k h; simp at h
  | cons s r ih =>
    intro no b k hk he hn
    rw [seatFrom]
    cases k with
    | zero => simp only [List.getD_cons_zero] at he; rw [if_pos he]; simp
    | succ k =>
      have h0 := hn 0 (by omega)
      simp only [List.getD_cons_zero] at h0
      simp only [List.getD_cons_succ] at he
      rw [if_neg h0, ih no (b + 1) k (by simpa using hk) he (fun j hj => by have := hn (j + 1) (by omega); simpa using this)]
      omega
theorem seatFrom_none (ss : List SeatV) : ∀ (no : Int) (b : Nat), (∀ j, j < ss.length → (ss.getD j zeroStV).no ≠ no) → seatFrom no ss b = -1 := by
  induction ss with
  | nil => intro no b _; rfl
  | cons s r ih =>
    intro no b hn
    have h0 := hn 0 (by simp)
    simp only [List.getD_cons_zero] at h0
    rw [seatFrom, if_neg h0, ih no (b + 1) (fun j hj => by have := hn (j + 1) (by simpa using hj); simpa using this)]
theorem seated_at {ss : List SeatV} {no : Int} {k : Nat} (hk : k < ss.length) (he : (ss.getD k zeroStV).no = no) (hn : ∀ j, j < k → (ss.getD j zeroStV).no ≠ no) : seatedOf ss no = k := by
  have := seatFrom_at ss no 0 k hk he hn
  simpa [seatedOf] using this
theorem seated_none {ss : List SeatV} {no : Int} (hn : ∀ j, j < ss.length → (ss.getD j zeroStV).no ≠ no) : seatedOf ss no = -1 := seatFrom_none ss no 0 hn
/-- Where the first of this No is, or that there is none. -/
theorem seated_cases (ss : List SeatV) (no : Int) : (∃ k : Nat, k < ss.length ∧ (ss.getD k zeroStV).no = no ∧ (∀ j, j < k → (ss.getD j zeroStV).no ≠ no) ∧ seatedOf ss no = k) ∨ ((∀ j, j < ss.length → (ss.getD j zeroStV).no ≠ no) ∧ seatedOf ss no = -1) := by
  by_cases h : ∃ k, k < ss.length ∧ (ss.getD k zeroStV).no = no
  · have hm : ∃ k, (k < ss.length ∧ (ss.getD k zeroStV).no = no) ∧ ∀ j, j < k → ¬ (j < ss.length ∧ (ss.getD j zeroStV).no = no) := by
      obtain ⟨k, hk⟩ := h
      induction k using Nat.strongRecOn with
      | _ k ih =>
        by_cases h2 : ∃ j, j < k ∧ (j < ss.length ∧ (ss.getD j zeroStV).no = no)
        · obtain ⟨j, hj, hp⟩ := h2
          exact ih j hj hp
        · exact ⟨k, hk, fun j hj hp => h2 ⟨j, hj, hp⟩⟩
    obtain ⟨k, ⟨h1, h2⟩, h3⟩ := hm
    have h4 : ∀ j, j < k → (ss.getD j zeroStV).no ≠ no := fun j hj e => h3 j hj ⟨by omega, e⟩
    exact .inl ⟨k, h1, h2, h4, seated_at h1 h2 h4⟩
  · have h2 : ∀ j, j < ss.length → (ss.getD j zeroStV).no ≠ no := fun j hj e => h ⟨j, hj, e⟩
    exact .inr ⟨h2, seated_none h2⟩

def seatB (s : SeatV) : Bool := inB s.no 0 7 && okP s.lsn s.ss
/-- One seat is right, and no other of its No stands ahead of it. -/
def freshAt (ss : List SeatV) (i : Nat) : Bool := seatB (ss.getD i zeroStV) && decide (seatedOf ss (ss.getD i zeroStV).no = i)
def okPool (p : PoolV) : Bool := decide (p.seats.length ≤ 3) && (inB p.hand 0 2 && (List.range p.seats.length).all (freshAt p.seats))
theorem okPool_long {p : PoolV} (h : ¬ p.seats.length ≤ 3) : okPool p = false := by simp [okPool, h]
theorem okPool_hand {p : PoolV} (h : inB p.hand 0 2 = false) : okPool p = false := by simp [okPool, h]
theorem okPool_no {p : PoolV} (k : Nat) (hk : k < p.seats.length) (h : freshAt p.seats k = false) : okPool p = false := by
  have : (List.range p.seats.length).all (freshAt p.seats) = false := by
    rw [List.all_eq_false]
    exact ⟨k, List.mem_range.2 hk, by simp [h]⟩
  simp [okPool, this]
theorem okPool_yes {p : PoolV} (h1 : p.seats.length ≤ 3) (h2 : inB p.hand 0 2 = true) (h : ∀ k, k < p.seats.length → freshAt p.seats k = true) : okPool p = true := by
  have : (List.range p.seats.length).all (freshAt p.seats) = true := by
    rw [List.all_eq_true]
    exact fun k hk => h k (List.mem_range.1 hk)
  simp [okPool, this, h1, h2]
theorem okPool_iff {p : PoolV} (h : okPool p = true) : p.seats.length ≤ 3 ∧ inB p.hand 0 2 = true ∧ ∀ k, k < p.seats.length → freshAt p.seats k = true := by
  simp only [okPool, Bool.and_eq_true, decide_eq_true_eq, List.all_eq_true] at h
  exact ⟨h.1, h.2.1, fun k hk => h.2.2 k (List.mem_range.2 hk)⟩
theorem fresh_bad {ss : List SeatV} {i : Nat} (h : seatB (ss.getD i zeroStV) = false) : freshAt ss i = false := by simp only [freshAt, h, Bool.false_and]
theorem fresh_dup {ss : List SeatV} {i k : Nat} (hk : k < i) (hi : i < ss.length) (he : (ss.getD k zeroStV).no = (ss.getD i zeroStV).no) : freshAt ss i = false := by
  have : seatedOf ss (ss.getD i zeroStV).no ≠ (i : Int) := by
    rcases seated_cases ss (ss.getD i zeroStV).no with ⟨j, h1, h2, h3, h4⟩ | ⟨h1, _⟩
    · rw [h4]
      intro e
      have : j = i := by omega
      subst this
      exact h3 k hk he
    · exact absurd rfl (h1 i hi)
  rw [freshAt, decide_eq_false this, Bool.and_false]
theorem fresh_yes {ss : List SeatV} {i : Nat} (hi : i < ss.length) (hb : seatB (ss.getD i zeroStV) = true) (h : ∀ k, k < i → (ss.getD k zeroStV).no ≠ (ss.getD i zeroStV).no) : freshAt ss i = true := by
  have := seated_at hi rfl h
  rw [freshAt, hb, decide_eq_true this]
  rfl

/-- The k-th seat becomes another. -/
def setSeatV (p : PoolV) (k : Nat) (f : SeatV → SeatV) : PoolV := ⟨p.seats.set k (f (p.seats.getD k zeroStV)), p.hand⟩
def usedV (s : SeatV) : SeatV := { s with hot := true }
def cleanV (s : SeatV) : SeatV := { s with dirty := false }
def usedOf (p : PoolV) (no : Int) : PoolV := if 0 ≤ seatedOf p.seats no then setSeatV p (seatedOf p.seats no).toNat usedV else p
def cleanOf (p : PoolV) (no : Int) : PoolV := if 0 ≤ seatedOf p.seats no then setSeatV p (seatedOf p.seats no).toNat cleanV else p
def mayChange (p : PoolV) (no lsn : Int) (ss : List SlotV) : Bool := okPool p && (decide (0 ≤ seatedOf p.seats no) && (okP lsn ss && decide ((p.seats.getD (seatedOf p.seats no).toNat zeroStV).lsn ≤ lsn)))
def changeOf6 (p : PoolV) (no lsn : Int) (ss : List SlotV) : PoolV × Bool :=
  if mayChange p no lsn ss = true then (setSeatV p (seatedOf p.seats no).toNat (fun _ => ⟨no, lsn, ss, true, true⟩), true) else (p, false)
def victimOf (p : PoolV) : PoolV × Int :=
  if okPool p = true ∧ p.seats.length = 3 then (⟨(victimV 4 p.seats p.hand.toNat).1, (victimV 4 p.seats p.hand.toNat).2.1⟩, (victimV 4 p.seats p.hand.toNat).2.2) else (p, -1)
def mayBring (p : PoolV) (no lsn : Int) (ss : List SlotV) : Bool := okPool p && (inB no 0 7 && (okP lsn ss && decide (seatedOf p.seats no < 0)))
def bringOf (p : PoolV) (no lsn : Int) (ss : List SlotV) : PoolV × SeatV × Bool :=
  if mayBring p no lsn ss = true then (⟨(bringV p.seats p.hand.toNat ⟨no, lsn, ss, false, true⟩).1, (bringV p.seats p.hand.toNat ⟨no, lsn, ss, false, true⟩).2.1⟩, (bringV p.seats p.hand.toNat ⟨no, lsn, ss, false, true⟩).2.2.1, (bringV p.seats p.hand.toNat ⟨no, lsn, ss, false, true⟩).2.2.2) else (p, zeroStV, false)
end Go.Proofs.YtickiokdcbeefabDoor

/- What the laws of pages share. -/
namespace Go.Proofs.YtickiokdcbeefabDoor
open Go.RowKit

theorem map_len4 {ss ts : List SlotA} (h : ts.map (·.v) = ss.map (·.v)) (h4 : ss.length = 4) : ts.length = 4 := by
  have := congrArg List.length h
  simp only [List.length_map] at this
  omega
theorem small_of {ss ts : List SlotA} (h : ts.map (·.v) = ss.map (·.v)) (hl : ∀ s ∈ ss, s.v.o.ints.length ≤ 1048576 ∧ s.v.o.refs.length ≤ 1048576) : ∀ s ∈ ts, s.v.o.ints.length ≤ 1048576 ∧ s.v.o.refs.length ≤ 1048576 := by
  intro t ht
  have : t.v ∈ ss.map (·.v) := by rw [← h]; exact List.mem_map.2 ⟨t, ht, rfl⟩
  obtain ⟨s, hs, e⟩ := List.mem_map.1 this
  rw [← e]
  exact hl s hs
theorem wide_of {ss : List SlotA} (hl : ∀ s ∈ ss, s.v.o.ints.length ≤ 1048576 ∧ s.v.o.refs.length ≤ 1048576) : ∀ s ∈ ss, s.v.o.ints.length ≤ 1099511627776 ∧ s.v.o.refs.length ≤ 1099511627776 := fun s hs => by have := hl s hs; omega

end Go.Proofs.YtickiokdcbeefabDoor
