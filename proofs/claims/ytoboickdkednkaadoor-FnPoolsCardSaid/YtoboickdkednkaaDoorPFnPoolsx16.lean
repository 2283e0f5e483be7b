/- Several texts in one, in their order. -/
import Derived.Test.YtoboickdkednkaaDoorPFnPoolsx15
import Derived.Test.YtoboickdkednkaaDoorPFnPoolsx12
import Derived.Test.YtoboickdkednkaaDoorPFnPoolsx6
import Derived.Test.YtoboickdkednkaaDoorPFnPoolsx10
import Derived.Deep.RegionLaw
import Derived.Deep.DrawnRows
import Derived.Test.YtoboickdkednkaaDoorPFnPoolsx11
import Derived.Deep.MidRow
/- The walks of spec.DrawChange and spec.DrawBring. -/
namespace Go.Proofs.YtoboickdkednkaaDoor
open Go.RowKit
attribute [local go_sem ↓] Go.wp_at_zero Go.wp_at_succ

/-- What a draw of a pool, a number and a page answers. -/
def PoolPageDrawn (w : World) (e : Ending) (w' : World) : Prop := ∃ (p : PoolA) (no : Int) (r : PageA), e = .returned (.tuple #[.agg p.cells.toArray, .int .i64 no, .agg r.cells.toArray]) ∧ p.seats.length ≤ 4 ∧ p.short 7 ∧ r.ss.length = 4 ∧ (∀ s ∈ r.ss, s.v.o.ints.length ≤ 7 ∧ s.v.o.refs.length ≤ 7) ∧ p.reads w' ∧ ReadsS w' r.ss ∧ Below w.heap.size w w'
theorem results_ctc {P : Program} {fn : Func} {s t u : Nat} {ty tz : TypeId} {tmps : Array Value} {w : World} {v x y : Value} {ad ae : Addr} (hf : fn.results = #[.cell s ty, .tmp t, .cell u tz]) (ht : tmps[s]?.getD undef = .pointer (some ad)) (hx : tmps[t]?.getD undef = x) (hu : tmps[u]?.getD undef = .pointer (some ae)) (hl : (loadVar ty ad).run P w = .ok v w) (hm : (loadVar tz ae).run P w = .ok y w) : (results fn tmps).run P w = .ok (.tuple #[v, x, y]) w := by
  unfold results
  rw [hf]
  simp [ht, hx, hu, asAddr, hl, hm]

set_option maxHeartbeats 4000000 in
set_option maxRecDepth 100000 in
theorem drawBring_any (a : Option Addr) (c : Nat) (zs : List Int) (w : World) (hr : Reads w a zs) (hl : zs.length ≤ 70368744177664) :
    Calls Tryd.prog 6 #[.slice a zs.length c] w fun r w' => PoolPageDrawn w r w' := by
  obtain ⟨W, hW, bR, bG, hbW, hsW⟩ := boxes2 w [.slice none 0 0, .int .i64 0] [.int .i64 0, .bool false, .int .i64 0, .slice none 0 0, .slice none 0 0, .bool false, .int .i64 0, .slice none 0 0, .slice none 0 0, .bool false, .int .i64 0, .slice none 0 0, .slice none 0 0, .bool false, .int .i64 0, .slice none 0 0, .slice none 0 0] 26 34
  have hws : w.heap.size + 1 < W.heap.size := bG.lt
  have C1 := l1New_any a c zs W (hr.below hbW) hl
  clear hsW
  go_enter Tryd.func6, Tryd.ntmps6
  go_wp2_with fail
  rw [hW.out]
  refine C1.mono ?_
  clear C1 hW
  rintro r w1 ⟨rfl, hc, hb1⟩
  have s1 := hb1.size
  have lc := hc.lt
  replace bR := bR.below hb1 bR.lt
  replace bG := bG.below hb1 bG.lt
  have N : Below w.heap.size w w1 := hbW.trans (hb1.mono hbW.size)
  clear hb1 hbW
  go_wp2_with fail
  refine (l6DrawAny_any W.heap.size zs w1 hc hl).mono ?_
  clear hc
  rintro e w2 ⟨p, rfl, ⟨hp4, hps⟩, op, hc, hw2⟩
  have s2 := hw2.size
  replace bR := bR.within hw2 (by omega)
  replace bG := bG.within hw2 (by omega)
  replace N := N.trans (hw2.below (by omega) (by omega))
  clear hw2
  obtain ⟨W3, hW3, bi, hbi, hsi⟩ := boxes1 w2 [.int .i64 0, .int .i64 3, .int .i64 5, .int .i64 6, .int .i64 7, .int .i64 8, .int .i64 (-1)] 3
  have hrl : ReadsI W3 (some ⟨w2.heap.size, 0, none⟩) [0, 3, 5, 6, 7, 8, -1] := fun _ => ⟨w2.heap.size, 0, rfl, fun i hi => by
    match i, hi with
    | 0, _ => exact bi.cell 0 _ rfl
    | 1, _ => exact bi.cell 1 _ rfl
    | 2, _ => exact bi.cell 2 _ rfl
    | 3, _ => exact bi.cell 3 _ rfl
    | 4, _ => exact bi.cell 4 _ rfl
    | 5, _ => exact bi.cell 5 _ rfl
    | 6, _ => exact bi.cell 6 _ rfl⟩
  have s3 := hbi.size
  replace bR := bR.below hbi bR.lt
  replace bG := bG.below hbi bG.lt
  replace op := op.below hbi
  replace hc := hc.below hbi
  replace N := N.trans (hbi.mono N.size)
  clear hbi bi hsi
  go_wp2_with fail
  rw [hW3.out]
  clear hW3
  refine (l1Int_any W.heap.size zs (some ⟨w2.heap.size, 0, none⟩) 7 [0, 3, 5, 6, 7, 8, -1] W3 hc hl hrl (fun b off e => by cases e; omega) (by simp) (by simp)).mono ?_
  clear hc
  rintro e w4 ⟨j, hj, rfl, hc, hg⟩
  generalize ([0, 3, 5, 6, 7, 8, -1] : List Int).getD j 0 = no at *
  have hw := within_cur hg
  have s4 := hw.size
  replace bR := bR.within hw (by omega)
  replace bG := bG.within hw (by omega)
  replace op := op.within hw (.inr (by omega))
  replace N := N.trans (hw.below (by omega) (by omega))
  clear hw hg hrl hj
  go_wp2_with fail
  refine (l3PageAny_any W.heap.size zs w4 hc hl).mono ?_
  clear hc
  rintro e w5 ⟨n, ts, rfl, ht4, hts, og, hc, hw⟩
  have s5 := hw.size
  replace bR := bR.within hw (by omega)
  replace bG := bG.within hw (by omega)
  replace op := op.within hw (.inr (by omega))
  replace N := N.trans (hw.below (by omega) (by omega))
  clear hw hc
  obtain ⟨P, hP⟩ : ∃ P : PageA, Hid ((⟨n, ts⟩ : PageA) = P) := ⟨_, rfl⟩
  have hP4 : P.ss.length = 4 := by rw [← hP.out]; exact ht4
  have hPs : Hid (∀ s ∈ P.ss, s.v.o.ints.length ≤ 7 ∧ s.v.o.refs.length ≤ 7) := by rw [Hid, ← hP.out]; exact hts
  have oP : OwnS w5 w4.heap.size w5.heap.size P.ss := by rw [← hP.out]; exact og
  have HIP : Hid ((Tryd.prog.info? 34).map (·.size) = some P.cells.length) := by rw [Hid, page_len P hP4]; kernel_rfl
  have HOP : Hid (_) := all_oneCell_toArray (oneP P)
  rw [hP.out]
  clear hP og ht4 hts
  obtain ⟨d3, hd3, hw3, hs3, HT3, _, bR3⟩ := pool_out p _ rfl bR
  obtain ⟨d4, hd4, hw4, hs4, HT4, HL4, bG4⟩ := page_out (C := w.heap.size + 1) (T := 34) P hP4 _ rfl (bG.within hw3 (by omega)) Tryd.underlying34 rfl (by kernel_rfl)
  have bR4 := bR3.within hw4 (by omega)
  have HLR := pool_load p bR4
  have HFF : Hid (p.reads d4 ∧ ReadsS d4 P.ss ∧ Below w.heap.size w d4) := ⟨((op.within hw3 (.inr (by omega))).within hw4 (.inr (by omega))).reads, ((oP.within hw3 (.inr (by omega))).within hw4 (.inr (by omega))).reads, (N.trans (hw3.below (by omega) (by omega))).trans (hw4.below (by omega) (by omega))⟩
  clear bR bG op oP N hw3 hs3 hw4 hs4 bR3 bG4 bR4
  go_wp2_with (first | (guard_target = wpList _ _ _ (Oper.mk none (Op.store _ (Operand.tmp 2) _) _ _ _ _ :: _) _ _; refine wpList_store_mid rfl 26 (.tmp 2) (.tmp 9) rfl w.heap.size 0 p.cells.toArray rfl rfl HT3.out (by rw [List.size_toArray]; exact pool_info _) (pool_one _) ?_) | (guard_target = wpList _ _ _ (Oper.mk none (Op.store _ (Operand.tmp 4) _) _ _ _ _ :: _) _ _; refine wpList_store_mid rfl 34 (.tmp 4) (.tmp 14) rfl (w.heap.size + 1) 0 P.cells.toArray rfl rfl (by rw [hd3.out]; exact HT4.out) (by rw [List.size_toArray]; exact HIP.out) HOP.out ?_) | fail)
  rw [hd3.out, hd4.out]
  exact bodyPost_ret (v := .tuple #[.agg p.cells.toArray, .int .i64 no, .agg P.cells.toArray]) (results_ctc Tryd.results6 rfl rfl rfl HLR HL4.out) rfl ⟨p, no, P, rfl, hp4, hps, hP4, hPs.out, HFF.out.1, HFF.out.2.1, HFF.out.2.2⟩
end Go.Proofs.YtoboickdkednkaaDoor

/- A page brought into a pool: the walk of spec.l6Bring. -/
namespace Go.Proofs.YtoboickdkednkaaDoor
open Go.RowKit
attribute [local go_sem ↓] Go.wp_at_zero Go.wp_at_succ

theorem four_slots {ts : List SlotA} (h : ts.length = 4) : ∃ a b c d, ts = [a, b, c, d] := by
  match ts, h with
  | [a, b, c, d], _ => exact ⟨a, b, c, d, rfl⟩
def bringV (ss : List SeatV) (h : Nat) (new : SeatV) : List SeatV × Nat × SeatV × Bool :=
  if ss.length < 3 then (ss ++ [new], h, zeroStV, false) else ((victimV 4 ss h).1.set (victimV 4 ss h).2.2 new, (victimV 4 ss h).2.1, (victimV 4 ss h).1.getD (victimV 4 ss h).2.2 zeroStV, true)
/-- Behind Bring: the pool ts, and who went. -/
structure Brought (lo B o : Nat) (vs : List Value) (t : TypeId) (a : Option Addr) (c : Nat) (ss : List SeatA) (w w' : World) (ts : List SeatA) (a' : Option Addr) (c' hand' : Nat) (old : SeatA) : Prop where
  pool : PoolAt w' lo w'.heap.size B o ((vs.set o (.slice a' ts.length c')).set (o + 1) (.int .i64 hand')) t a' c' ts hand'
  fresh : ∀ k ∈ blocksSts a' c' ts, k ∈ blocksSts a c ss ∨ w.heap.size ≤ k
  touch : Touch (B :: blocksSts a c ss) w w'
  went : old.own w' lo w'.heap.size
  wentB : ∀ k ∈ old.blocks, k ∈ blocksSts a c ss
def BringAns (lo B o : Nat) (vs : List Value) (t : TypeId) (a : Option Addr) (c : Nat) (ss : List SeatA) (h : Nat) (new : SeatV) (w : World) (r : Ending) (w' : World) : Prop :=
  ∃ (ts : List SeatA) (a' : Option Addr) (c' hand' : Nat) (old : SeatA) (went : Bool), r = .returned (.tuple #[.agg old.cells.toArray, .bool went]) ∧ Hid (bringV (ss.map SeatA.v) h new = (ts.map SeatA.v, hand', old.v, went)) ∧ Brought lo B o vs t a c ss w w' ts a' c' hand' old
theorem PoolAt.below {w w' : World} {lo hi B o : Nat} {vs : List Value} {t : TypeId} {a : Option Addr} {c : Nat} {ss : List SeatA} {hand : Int} (h : PoolAt w lo hi B o vs t a c ss hand) (hb : Below w.heap.size w w') : PoolAt w' lo hi B o vs t a c ss hand :=
  ⟨h.box.below hb h.box.lt, h.c0, h.c1, h.own.below hb, h.off⟩
theorem zeroS_own (w : World) (lo hi : Nat) (h : hi ≤ w.heap.size) : zeroS.own w lo hi := ⟨ownI_nil w lo hi h, ownI_nil w lo hi h, fun k h1 _ => by cases h1⟩
theorem zeroSt_blocks : zeroSt.blocks = [] := rfl
theorem zeroSt_own (w : World) (lo hi : Nat) (h : hi ≤ w.heap.size) : zeroSt.own w lo hi := ⟨fun s hs => by
  simp only [SeatA.ss, zeroSt, List.mem_cons, List.not_mem_nil, or_false] at hs
  have : s = zeroS := by rcases hs with h | h | h | h <;> exact h
  subst this
  exact zeroS_own w lo hi h, by show ([] : List Nat).Nodup; simp⟩
theorem set_set_ne {vs : List Value} {o : Nat} {x y : Value} (h : vs[o + 1]? = some y) : (vs.set o x).set (o + 1) y = vs.set o x := by
  have h1 : (vs.set o x)[o + 1]? = some y := by rw [List.getElem?_set_ne (by omega)]; exact h
  obtain ⟨_, h2⟩ := List.getElem?_eq_some_iff.1 h1
  rw [← h2, List.set_getElem_self]

set_option maxHeartbeats 4000000 in
set_option maxRecDepth 100000 in
theorem l6Bring_any (lo hi B o : Nat) (vs : List Value) (t : TypeId) (a : Option Addr) (c : Nat) (ss : List SeatA) (h : Nat) (no : Int) (pg : PageA) (w : World) (hp : PoolAt w lo hi B o vs t a c ss h) (hlo : lo ≤ hi) (h3 : ss.length ≤ 3) (hh : h < 3) (h4 : pg.ss.length = 4) (hr : ReadsS w pg.ss) (hl : Fit pg.ss) :
    Calls Tryd.prog 31 #[.pointer (some ⟨B, o, none⟩), .int .i64 no, .agg pg.cells.toArray] w fun r w' => BringAns lo B o vs t a c ss h ⟨no, pg.lsn, pg.ss.map (·.v), false, true⟩ w r w' := by
  obtain ⟨W, hW, b0, b1, hbW, hsW⟩ := boxes2 w pg.cells zeroSt.cells 34 38
  have HIP : Hid ((Tryd.prog.info? 34).map (·.size) = some pg.cells.length) := by rw [Hid, page_len pg h4]; kernel_rfl
  have HRG : Hid (W.rangeAt w.heap.size 0 pg.cells) := Box.range [] pg.cells [] (by simpa using b0)
  have hws : w.heap.size + 1 < W.heap.size := by omega
  have hW' : Hid ((w.alloc (.cells pg.cells.toArray 34)).alloc (.cells #[.int .i64 0, .int .i64 0, .bool false, .int .i64 0, .slice none 0 0, .slice none 0 0, .bool false, .int .i64 0, .slice none 0 0, .slice none 0 0, .bool false, .int .i64 0, .slice none 0 0, .slice none 0 0, .bool false, .int .i64 0, .slice none 0 0, .slice none 0 0, .bool false, .bool false] 38) = W) := hW.out
  have htop := hp.own.top
  have hBlt := hp.box.lt
  clear hsW hW b0
  go_enter Tryd.func31, Tryd.ntmps31
  go_upto_region 1 with fail
  rw [hW'.out]
  clear hW'
  go_wp2_with (first | (guard_target = wpList _ _ _ (Oper.mk (some 12) _ _ _ _ _ :: _) _ _; refine wpList_load_mid rfl 34 (.tmp 5) rfl w.heap.size 0 rfl pg.cells _ HRG.out Tryd.underlying34 rfl HIP.out ?_) | fail)
  refine (l3Copy_own pg h4 W (hr.below hbW) hl).mono ?_
  rintro e w2 ⟨ts, rfl, hts, ho2, hb2⟩
  obtain ⟨x0, x1, x2, x3, rfl⟩ := four_slots (ts := ts) (by have := congrArg List.length hts.out; simpa [h4] using this)
  obtain ⟨q, hq⟩ : ∃ q : SeatA, Hid ((⟨no, pg.lsn, x0, x1, x2, x3, false, true⟩ : SeatA) = q) := ⟨_, rfl⟩
  have HQV : Hid (q.v = ⟨no, pg.lsn, pg.ss.map (·.v), false, true⟩) := by rw [Hid, ← hq.out, ← hts.out]; rfl
  have oq2 : q.own w2 W.heap.size w2.heap.size := by rw [← hq.out]; exact ho2
  have hs2 := hb2.size
  obtain ⟨W3, hW3, b3, hb3, hs3⟩ := boxes1 w2 zeroSt.cells 38
  obtain ⟨W4, hW4, hw4, hs4, HT4, _, b4⟩ := seat_out q _ rfl b3
  have HO4 := seat_one q
  have HI : Hid ((Tryd.prog.info? 38).map (·.size) = some q.cells.length) := seat_info q
  have N34 : Below w2.heap.size w2 W4 := hb3.trans (hw4.below (Nat.le_refl _) (by omega))
  have hW3' : Hid (w2.alloc (.cells #[.int .i64 0, .int .i64 0, .bool false, .int .i64 0, .slice none 0 0, .slice none 0 0, .bool false, .int .i64 0, .slice none 0 0, .slice none 0 0, .bool false, .int .i64 0, .slice none 0 0, .slice none 0 0, .bool false, .int .i64 0, .slice none 0 0, .slice none 0 0, .bool false, .bool false] 38) = W3) := hW3.out
  have hW4' : Hid (W3.setCells w2.heap.size 0 q.cells.toArray.toList = W4) := hW4.out
  have N2 : Below w.heap.size w w2 := hbW.trans (hb2.mono hbW.size)
  have N4 : Below w.heap.size w W4 := N2.trans (N34.mono N2.size)
  have b6 : Box W4 (w.heap.size + 1) zeroSt.cells 38 := (b1.below hb2 b1.lt).below N34 (by omega)
  have oq4 := oq2.below N34
  have p4 := hp.below N4
  have hz4 := b4.lt
  clear hW3 hW4 hs3 hs4 hw4 hb3 b3 ho2 hts b1 oq2 hp
  go_upto_region 2 with (first | (guard_target = wpList _ _ _ (Oper.mk (some 14) _ _ _ _ _ :: _) _ _; refine build_seat (.tmp 11) (.tmp 13) no pg.lsn x0 x1 x2 x3 rfl rfl ?_; rw [hq.out]) | (guard_target = wpList _ _ _ (Oper.mk none (Op.store _ (Operand.tmp 8) _) _ _ _ _ :: _) _ _; refine wpList_store_mid rfl 38 (.tmp 8) (.tmp 14) rfl w2.heap.size 0 q.cells.toArray rfl rfl (by rw [hW3'.out]; exact HT4.out) HI.out HO4 ?_; rw [hW3'.out, hW4'.out]) | fail)
  clear hq hW3' hW4' HT4
  have y0 := p4.box.cell o _ p4.c0
  by_cases hlt : ss.length < 3
  · have hltb : (ss.length : Int) < 3 := by omega
    go_upto_region 3 with fail
    clear y0
    have d4 : Box W4.drew B vs t := p4.box.drewN 1
    have e4 : Box W4.drew w2.heap.size q.cells 38 := b4.drewN 1
    have y0 := d4.cell o _ p4.c0
    have r4 : W4.drew.rangeAt w2.heap.size 0 q.cells := Box.range [] q.cells [] (by simpa using e4)
    refine wp_region_held_drew (S := fun w' => w'.rangeAt w2.heap.size 0 q.cells ∧ True) (by kernel_rfl) ?_ (fun hHeld => ?_)
    · exact ⟨r4, trivial⟩
    refine wpAnyH_take (i := 0) (v := .pointer (some ⟨B, o, none⟩)) rfl (by kernel_rfl) (by kernel_rfl) (by kernel_rfl) (fun _ _ _ h => h) (Or.inl ⟨by rfl, ?_⟩) hHeld ?_
    · intro w' hSw
      go_simp <;> rfl
    try simp only [Act.put, List.getElem_toArray, List.getElem_cons_zero, List.setIfInBounds_toArray, List.set_cons_zero, List.set_cons_succ]
    refine wpAnyH_take (i := 1) (v := .pointer (some ⟨B, o, none⟩)) rfl (by kernel_rfl) (by kernel_rfl) (by kernel_rfl) (fun _ _ _ h => h) (Or.inl ⟨by rfl, ?_⟩) hHeld ?_
    · intro w' hSw
      go_simp <;> rfl
    try simp only [Act.put, List.getElem_toArray, List.getElem_cons_zero, List.getElem_cons_succ, List.setIfInBounds_toArray, List.set_cons_zero, List.set_cons_succ]
    refine wpAnyH_take (i := 2) (v := .pointer (some ⟨B, o, none⟩)) rfl (by kernel_rfl) (by kernel_rfl) (by kernel_rfl) (fun _ _ _ h => h) (Or.inl ⟨by rfl, ?_⟩) hHeld ?_
    · intro w' hSw
      go_simp <;> rfl
    try simp only [Act.put, List.getElem_toArray, List.getElem_cons_zero, List.getElem_cons_succ, List.setIfInBounds_toArray, List.set_cons_zero, List.set_cons_succ]
    refine wpAnyH_take (i := 3) (v := .pointer (some ⟨B, o, none⟩)) rfl (by kernel_rfl) (by kernel_rfl) (by kernel_rfl) (fun _ _ _ h => h) (Or.inl ⟨by rfl, ?_⟩) hHeld ?_
    · intro w' hSw
      go_simp <;> rfl
    try simp only [Act.put, List.getElem_toArray, List.getElem_cons_zero, List.getElem_cons_succ, List.setIfInBounds_toArray, List.set_cons_zero, List.set_cons_succ]
    refine wpAnyH_take (i := 5) rfl (by kernel_rfl) (by kernel_rfl) (by kernel_rfl) (fun _ _ _ h => h) (yieldsIf_load_mid (by rfl) _ _ rfl _ _ rfl q.cells _ (fun _ h => h.1) Tryd.underlying38 rfl HI.out) hHeld ?_
    try simp only [Act.put, List.getElem_toArray, List.getElem_cons_zero, List.getElem_cons_succ, List.setIfInBounds_toArray, List.set_cons_zero, List.set_cons_succ]
    refine wpAnyH_ready (rs := [4, 6]) (by kernel_rfl) (by simp) ?_
    refine AllReadyH.cons rfl (fun K hK => ?_) (AllReadyH.cons rfl (fun K hK => ?_) AllReadyH.nil)
    · go_simp
      refine hK.out _ _ (hHeld) (fun hHeld => ?_)
      clear hK K
      try simp only [Act.put, List.getElem_toArray, List.getElem_cons_zero, List.getElem_cons_succ, List.setIfInBounds_toArray, List.set_cons_zero, List.set_cons_succ]
      refine wpAnyH_ready (rs := [6]) (by kernel_rfl) (by simp) ?_
      refine AllReadyH.cons rfl (fun K hK => ?_) AllReadyH.nil
      go_simp
      simp only [cellsSt_len, lit_seat, not_true_eq_false, Nat.lt_irrefl, or_self, if_false]
      go_simp
      obtain ⟨V5, hV5, b5', hb5, hs5⟩ := boxes1 W4 q.cells 38
      rw [hV5.out]
      obtain ⟨W5, hW5⟩ : ∃ W5, Hid (V5.drew = W5) := ⟨_, rfl⟩
      rw [hW5.out]
      have b5 : Box W5 W4.heap.size q.cells 38 := by rw [← hW5.out]; exact b5'.drewN 1
      have ND : Below W4.heap.size W4 W5 := by rw [← hW5.out]; exact hb5.drew
      have p5 := p4.below ND
      have oq5 := oq4.below ND
      have b65 := b6.below ND b6.lt
      have b45 := b4.below ND b4.lt
      have r5 : W5.rangeAt W4.heap.size 0 q.cells := Box.range [] q.cells [] (by simpa using b5)
      have r45 : W5.rangeAt w2.heap.size 0 q.cells := Box.range [] q.cells [] (by simpa using b45)
      have N5 : Below w.heap.size w W5 := N4.trans (ND.mono N4.size)
      have hs45 := ND.size
      clear hs5 hb5 hW5 hV5 b5 b5' b45
      refine hK.out _ _ (⟨r45, trivial⟩) (fun hHeld => ?_)
      clear hK K
      try simp only [Act.put, List.getElem_toArray, List.getElem_cons_zero, List.getElem_cons_succ, List.setIfInBounds_toArray, List.set_cons_zero, List.set_cons_succ]
      refine wpAnyH_ready (rs := [7]) (by kernel_rfl) (by simp) ?_
      refine AllReadyH.cons rfl (fun K hK => ?_) AllReadyH.nil
      refine step_append_seat rfl (.tmp 25) (.tmp 27) rfl lo hi a c ss rfl p5.own W4.heap.size 0 1 q rfl r5 W.heap.size w2.heap.size oq5 (by omega) (by omega) (by omega) hlo ?_
      intro a9 c9 w9 o9 g9 f9
      obtain ⟨ys, hys⟩ : ∃ ys, Hid (ss ++ [q] = ys) := ⟨_, rfl⟩
      have HOB : Hid (∀ k ∈ blocksSts a9 c9 (ss ++ [q]), k ∈ blocksSts a c ss ∨ W.heap.size ≤ k) := fun k hk => by
        simp only [blocksSts, List.mem_append, Option.mem_toList, List.flatMap_append, List.flatMap_cons, List.flatMap_nil, List.append_nil] at hk ⊢
        rcases hk with hk | hk | hk
        · rcases f9 k hk with h | h
          · exact .inl (.inl h)
          · exact .inr (by have := ND.size; omega)
        · exact .inl (.inr hk)
        · exact .inr (by have := (oq5.blocks_lt k hk).1; omega)
      rw [hys.out] at o9 HOB ⊢
      have t9 : Touch (blocksSts a c ss) W5 w9 := Touch.of_grown g9 (fun k hk => List.mem_append.2 (.inl (Option.mem_toList.2 hk)))
      have hltb : ∀ k ∈ blocksSts a c ss, k < w.heap.size := fun k hk => by have := (p5.own.blocks_lt k hk).2; omega
      have k9 := p5.box.touch t9 p5.off
      have b69 := b65.touch t9 (fun hk => by have := hltb _ hk; omega)
      have hs9 := t9.size
      have hw2n : w2.heap.size ∉ blocksSts a c ss := fun hk => by have := hltb _ hk; omega
      have r49 : w9.rangeAt w2.heap.size 0 q.cells := rangeAt_block r45 (t9.block _ (by omega) hw2n)
      have T9 : Touch (B :: blocksSts a c ss) w w9 := (Touch.of_below N5).trans (t9.mono (fun k hk => List.mem_cons_of_mem _ hk))
      refine hK.out _ _ (⟨r49, trivial⟩) (fun hHeld => ?_)
      clear hK K g9 f9
      try simp only [Act.put, List.getElem_toArray, List.getElem_cons_zero, List.getElem_cons_succ, List.setIfInBounds_toArray, List.set_cons_zero, List.set_cons_succ]
      refine wpAnyH_take (i := 8) (v := .pointer (some ⟨B, o, none⟩)) rfl (by kernel_rfl) (by kernel_rfl) (by kernel_rfl) (fun _ _ _ h => h) (Or.inl ⟨by rfl, ?_⟩) hHeld ?_
      · intro w' hSw
        go_simp <;> rfl
      try simp only [Act.put, List.getElem_toArray, List.getElem_cons_zero, List.getElem_cons_succ, List.setIfInBounds_toArray, List.set_cons_zero, List.set_cons_succ]
      refine wpAnyH_take (i := 9) (v := .pointer (some ⟨B, o, none⟩)) rfl (by kernel_rfl) (by kernel_rfl) (by kernel_rfl) (fun _ _ _ h => h) (Or.inl ⟨by rfl, ?_⟩) hHeld ?_
      · intro w' hSw
        go_simp <;> rfl
      try simp only [Act.put, List.getElem_toArray, List.getElem_cons_zero, List.getElem_cons_succ, List.setIfInBounds_toArray, List.set_cons_zero, List.set_cons_succ]
      have m0 := k9.cell o _ p4.c0
      have mf0 := k9.frozen o
      obtain ⟨WF, hWF, kF, hwF, hsF⟩ := box_set k9 o (.slice a9 ys.length c9)
      have hsFa := Nat.le_of_eq hsF
      have hsFb := Nat.le_of_eq hsF.symm
      clear hsF
      have tF : Touch [B] w9 WF := ⟨hwF.os, hwF.tape, hwF.output, hwF.size, fun j hj hn => hwF.block j hj (fun hh => hn (by simp; omega))⟩
      have hBw : B < w.heap.size := by have := p4.box.lt; exact hBlt
      have hBy : B ∉ blocksSts a9 c9 ys := fun hk => (HOB.out B hk).elim p4.off (fun h => by omega)
      have oF := o9.touch tF (fun k hk hk' => hBy (by rw [← List.mem_singleton.1 hk']; exact hk))
      have b6F := b69.touch tF (by simp; omega)
      have r4F : WF.rangeAt w2.heap.size 0 q.cells := rangeAt_block r49 (tF.block _ (by omega) (by simp; omega))
      have TF : Touch (B :: blocksSts a c ss) w WF := T9.trans (tF.mono (by simp))
      refine wpAnyH_ready (rs := [10]) (by kernel_rfl) (by simp) ?_
      refine AllReadyH.cons rfl (fun K hK => ?_) AllReadyH.nil
      go_simp
      rw [hWF.out]
      refine hK.out _ _ (⟨r4F, trivial⟩) (fun hHeld => ?_)
      clear hK K
      try simp only [Act.put, List.getElem_toArray, List.getElem_cons_zero, List.getElem_cons_succ, List.setIfInBounds_toArray, List.set_cons_zero, List.set_cons_succ]
      refine wpAnyH_done (by kernel_rfl) ?_ _
      clear m0 mf0 hWF
      obtain ⟨WG, hWG, hwG, hsG, HTG, HLG, bG⟩ := seat_out zeroSt _ rfl b6F
      have hsGa := Nat.le_of_eq hsG
      have hsGb := Nat.le_of_eq hsG.symm
      clear hsG
      have hWG' : Hid (WF.setCells (w.heap.size + 1) 0 zeroSt.cells.toArray.toList = WG) := hWG.out
      have tG : Touch [w.heap.size + 1] WF WG := ⟨hwG.os, hwG.tape, hwG.output, hwG.size, fun j hj hn => hwG.block j hj (fun hh => hn (by simp; omega))⟩
      have hn1 : w.heap.size + 1 ∉ blocksSts a9 c9 ys := fun hk => (HOB.out _ hk).elim (fun h => by have := hltb _ h; omega) (fun h => by omega)
      have kG := kF.touch tG (by simp; omega)
      have oG := (oF.touch tG (fun k hk hk' => hn1 (by rw [← List.mem_singleton.1 hk']; exact hk))).widen (Nat.le_refl _) (show w9.heap.size ≤ WG.heap.size by omega) (Nat.le_refl _)
      have TG : Touch (B :: blocksSts a c ss) w WG := ⟨tG.os.trans TF.os, tG.tape.trans TF.tape, tG.output.trans TF.output, Nat.le_trans TF.size tG.size, fun j hj hn => (tG.block j (by have := TF.size; omega) (by simp; omega)).trans (TF.block j hj hn)⟩
      have HEND : Hid (bringV (ss.map SeatA.v) h ⟨no, pg.lsn, pg.ss.map (·.v), false, true⟩ = (ys.map SeatA.v, h, zeroSt.v, false)) := by
        rw [Hid, bringV, if_pos (by rw [List.length_map]; exact hlt), ← hys.out, List.map_append, ← HQV.out]
        rfl
      have HPL : Hid (Brought lo B o vs t a c ss w WG ys a9 c9 h zeroSt) := by
        refine ⟨⟨?_, ?_, ?_, oG, hBy⟩, fun k hk => (HOB.out k hk).imp id (fun h => by omega), TG, zeroSt_own _ _ _ (Nat.le_refl _), fun k hk => by simp [zeroSt_blocks] at hk⟩
        · rw [set_set_ne p4.c1]; exact kG
        · rw [List.getElem?_set_ne (by omega), List.getElem?_set_self (List.getElem?_eq_some_iff.1 p4.c0).1]
        · rw [List.getElem?_set_self (by rw [List.length_set]; exact (List.getElem?_eq_some_iff.1 p4.c1).1)]
      have HTG' : WF.there (w.heap.size + 1) 0 zeroSt.cells.toArray.size := HTG.out
      have HIz : (Tryd.prog.info? 38).map (·.size) = some zeroSt.cells.toArray.size := seat_info zeroSt
      have HOz := seat_one zeroSt
      clear kG oG TG kF oF b6F TF tG tF
      obtain ⟨Zs, hZs⟩ : ∃ Zs, Hid (zeroSt = Zs) := ⟨_, rfl⟩
      rw [hZs.out] at HTG' HIz HOz hWG' HLG HPL HEND
      go_wp2_with (first | (guard_target = wpList _ _ _ (Oper.mk (some 31) _ _ _ _ _ :: _) _ _; refine build_zero_seat ?_; rw [hZs.out]) | (guard_target = wpList _ _ _ (Oper.mk none (Op.store _ (Operand.tmp 6) _) _ _ _ _ :: _) _ _; refine wpList_store_mid rfl 38 (.tmp 6) (.tmp 31) rfl (w.heap.size + 1) 0 Zs.cells.toArray rfl rfl HTG' HIz HOz ?_; rw [hWG'.out]) | fail)
      exact bodyPost_ret (v := .tuple #[.agg Zs.cells.toArray, .bool false]) (results_cell_flag Tryd.results31 rfl HLG.out rfl) rfl ⟨ys, a9, c9, h, Zs, false, rfl, HEND, HPL.out⟩
    · go_simp
      simp only [cellsSt_len, lit_seat, not_true_eq_false, Nat.lt_irrefl, or_self, if_false]
      go_simp
      obtain ⟨V5, hV5, b5', hb5, hs5⟩ := boxes1 W4 q.cells 38
      rw [hV5.out]
      obtain ⟨W5, hW5⟩ : ∃ W5, Hid (V5.drew = W5) := ⟨_, rfl⟩
      rw [hW5.out]
      have b5 : Box W5 W4.heap.size q.cells 38 := by rw [← hW5.out]; exact b5'.drewN 1
      have ND : Below W4.heap.size W4 W5 := by rw [← hW5.out]; exact hb5.drew
      have p5 := p4.below ND
      have oq5 := oq4.below ND
      have b65 := b6.below ND b6.lt
      have b45 := b4.below ND b4.lt
      have r5 : W5.rangeAt W4.heap.size 0 q.cells := Box.range [] q.cells [] (by simpa using b5)
      have r45 : W5.rangeAt w2.heap.size 0 q.cells := Box.range [] q.cells [] (by simpa using b45)
      have N5 : Below w.heap.size w W5 := N4.trans (ND.mono N4.size)
      have hs45 := ND.size
      clear hs5 hb5 hW5 hV5 b5 b5' b45
      refine hK.out _ _ (⟨r45, trivial⟩) (fun hHeld => ?_)
      clear hK K
      try simp only [Act.put, List.getElem_toArray, List.getElem_cons_zero, List.getElem_cons_succ, List.setIfInBounds_toArray, List.set_cons_zero, List.set_cons_succ]
      clear y0
      have y0 := p5.box.cell o _ p4.c0
      refine wpAnyH_ready (rs := [4]) (by kernel_rfl) (by simp) ?_
      refine AllReadyH.cons rfl (fun K hK => ?_) AllReadyH.nil
      go_simp
      refine hK.out _ _ (hHeld) (fun hHeld => ?_)
      clear hK K
      try simp only [Act.put, List.getElem_toArray, List.getElem_cons_zero, List.getElem_cons_succ, List.setIfInBounds_toArray, List.set_cons_zero, List.set_cons_succ]
      refine wpAnyH_ready (rs := [7]) (by kernel_rfl) (by simp) ?_
      refine AllReadyH.cons rfl (fun K hK => ?_) AllReadyH.nil
      refine step_append_seat rfl (.tmp 25) (.tmp 27) rfl lo hi a c ss rfl p5.own W4.heap.size 0 1 q rfl r5 W.heap.size w2.heap.size oq5 (by omega) (by omega) (by omega) hlo ?_
      intro a9 c9 w9 o9 g9 f9
      obtain ⟨ys, hys⟩ : ∃ ys, Hid (ss ++ [q] = ys) := ⟨_, rfl⟩
      have HOB : Hid (∀ k ∈ blocksSts a9 c9 (ss ++ [q]), k ∈ blocksSts a c ss ∨ W.heap.size ≤ k) := fun k hk => by
        simp only [blocksSts, List.mem_append, Option.mem_toList, List.flatMap_append, List.flatMap_cons, List.flatMap_nil, List.append_nil] at hk ⊢
        rcases hk with hk | hk | hk
        · rcases f9 k hk with h | h
          · exact .inl (.inl h)
          · exact .inr (by have := ND.size; omega)
        · exact .inl (.inr hk)
        · exact .inr (by have := (oq5.blocks_lt k hk).1; omega)
      rw [hys.out] at o9 HOB ⊢
      have t9 : Touch (blocksSts a c ss) W5 w9 := Touch.of_grown g9 (fun k hk => List.mem_append.2 (.inl (Option.mem_toList.2 hk)))
      have hltb : ∀ k ∈ blocksSts a c ss, k < w.heap.size := fun k hk => by have := (p5.own.blocks_lt k hk).2; omega
      have k9 := p5.box.touch t9 p5.off
      have b69 := b65.touch t9 (fun hk => by have := hltb _ hk; omega)
      have hs9 := t9.size
      have hw2n : w2.heap.size ∉ blocksSts a c ss := fun hk => by have := hltb _ hk; omega
      have r49 : w9.rangeAt w2.heap.size 0 q.cells := rangeAt_block r45 (t9.block _ (by omega) hw2n)
      have T9 : Touch (B :: blocksSts a c ss) w w9 := (Touch.of_below N5).trans (t9.mono (fun k hk => List.mem_cons_of_mem _ hk))
      refine hK.out _ _ (⟨r49, trivial⟩) (fun hHeld => ?_)
      clear hK K g9 f9
      try simp only [Act.put, List.getElem_toArray, List.getElem_cons_zero, List.getElem_cons_succ, List.setIfInBounds_toArray, List.set_cons_zero, List.set_cons_succ]
      refine wpAnyH_take (i := 8) (v := .pointer (some ⟨B, o, none⟩)) rfl (by kernel_rfl) (by kernel_rfl) (by kernel_rfl) (fun _ _ _ h => h) (Or.inl ⟨by rfl, ?_⟩) hHeld ?_
      · intro w' hSw
        go_simp <;> rfl
      try simp only [Act.put, List.getElem_toArray, List.getElem_cons_zero, List.getElem_cons_succ, List.setIfInBounds_toArray, List.set_cons_zero, List.set_cons_succ]
      refine wpAnyH_take (i := 9) (v := .pointer (some ⟨B, o, none⟩)) rfl (by kernel_rfl) (by kernel_rfl) (by kernel_rfl) (fun _ _ _ h => h) (Or.inl ⟨by rfl, ?_⟩) hHeld ?_
      · intro w' hSw
        go_simp <;> rfl
      try simp only [Act.put, List.getElem_toArray, List.getElem_cons_zero, List.getElem_cons_succ, List.setIfInBounds_toArray, List.set_cons_zero, List.set_cons_succ]
      have m0 := k9.cell o _ p4.c0
      have mf0 := k9.frozen o
      obtain ⟨WF, hWF, kF, hwF, hsF⟩ := box_set k9 o (.slice a9 ys.length c9)
      have hsFa := Nat.le_of_eq hsF
      have hsFb := Nat.le_of_eq hsF.symm
      clear hsF
      have tF : Touch [B] w9 WF := ⟨hwF.os, hwF.tape, hwF.output, hwF.size, fun j hj hn => hwF.block j hj (fun hh => hn (by simp; omega))⟩
      have hBw : B < w.heap.size := by have := p4.box.lt; exact hBlt
      have hBy : B ∉ blocksSts a9 c9 ys := fun hk => (HOB.out B hk).elim p4.off (fun h => by omega)
      have oF := o9.touch tF (fun k hk hk' => hBy (by rw [← List.mem_singleton.1 hk']; exact hk))
      have b6F := b69.touch tF (by simp; omega)
      have r4F : WF.rangeAt w2.heap.size 0 q.cells := rangeAt_block r49 (tF.block _ (by omega) (by simp; omega))
      have TF : Touch (B :: blocksSts a c ss) w WF := T9.trans (tF.mono (by simp))
      refine wpAnyH_ready (rs := [10]) (by kernel_rfl) (by simp) ?_
      refine AllReadyH.cons rfl (fun K hK => ?_) AllReadyH.nil
      go_simp
      rw [hWF.out]
      refine hK.out _ _ (⟨r4F, trivial⟩) (fun hHeld => ?_)
      clear hK K
      try simp only [Act.put, List.getElem_toArray, List.getElem_cons_zero, List.getElem_cons_succ, List.setIfInBounds_toArray, List.set_cons_zero, List.set_cons_succ]
      refine wpAnyH_done (by kernel_rfl) ?_ _
      clear m0 mf0 hWF
      obtain ⟨WG, hWG, hwG, hsG, HTG, HLG, bG⟩ := seat_out zeroSt _ rfl b6F
      have hsGa := Nat.le_of_eq hsG
      have hsGb := Nat.le_of_eq hsG.symm
      clear hsG
      have hWG' : Hid (WF.setCells (w.heap.size + 1) 0 zeroSt.cells.toArray.toList = WG) := hWG.out
      have tG : Touch [w.heap.size + 1] WF WG := ⟨hwG.os, hwG.tape, hwG.output, hwG.size, fun j hj hn => hwG.block j hj (fun hh => hn (by simp; omega))⟩
      have hn1 : w.heap.size + 1 ∉ blocksSts a9 c9 ys := fun hk => (HOB.out _ hk).elim (fun h => by have := hltb _ h; omega) (fun h => by omega)
      have kG := kF.touch tG (by simp; omega)
      have oG := (oF.touch tG (fun k hk hk' => hn1 (by rw [← List.mem_singleton.1 hk']; exact hk))).widen (Nat.le_refl _) (show w9.heap.size ≤ WG.heap.size by omega) (Nat.le_refl _)
      have TG : Touch (B :: blocksSts a c ss) w WG := ⟨tG.os.trans TF.os, tG.tape.trans TF.tape, tG.output.trans TF.output, Nat.le_trans TF.size tG.size, fun j hj hn => (tG.block j (by have := TF.size; omega) (by simp; omega)).trans (TF.block j hj hn)⟩
      have HEND : Hid (bringV (ss.map SeatA.v) h ⟨no, pg.lsn, pg.ss.map (·.v), false, true⟩ = (ys.map SeatA.v, h, zeroSt.v, false)) := by
        rw [Hid, bringV, if_pos (by rw [List.length_map]; exact hlt), ← hys.out, List.map_append, ← HQV.out]
        rfl
      have HPL : Hid (Brought lo B o vs t a c ss w WG ys a9 c9 h zeroSt) := by
        refine ⟨⟨?_, ?_, ?_, oG, hBy⟩, fun k hk => (HOB.out k hk).imp id (fun h => by omega), TG, zeroSt_own _ _ _ (Nat.le_refl _), fun k hk => by simp [zeroSt_blocks] at hk⟩
        · rw [set_set_ne p4.c1]; exact kG
        · rw [List.getElem?_set_ne (by omega), List.getElem?_set_self (List.getElem?_eq_some_iff.1 p4.c0).1]
        · rw [List.getElem?_set_self (by rw [List.length_set]; exact (List.getElem?_eq_some_iff.1 p4.c1).1)]
      have HTG' : WF.there (w.heap.size + 1) 0 zeroSt.cells.toArray.size := HTG.out
      have HIz : (Tryd.prog.info? 38).map (·.size) = some zeroSt.cells.toArray.size := seat_info zeroSt
      have HOz := seat_one zeroSt
      clear kG oG TG kF oF b6F TF tG tF
      obtain ⟨Zs, hZs⟩ : ∃ Zs, Hid (zeroSt = Zs) := ⟨_, rfl⟩
      rw [hZs.out] at HTG' HIz HOz hWG' HLG HPL HEND
      go_wp2_with (first | (guard_target = wpList _ _ _ (Oper.mk (some 31) _ _ _ _ _ :: _) _ _; refine build_zero_seat ?_; rw [hZs.out]) | (guard_target = wpList _ _ _ (Oper.mk none (Op.store _ (Operand.tmp 6) _) _ _ _ _ :: _) _ _; refine wpList_store_mid rfl 38 (.tmp 6) (.tmp 31) rfl (w.heap.size + 1) 0 Zs.cells.toArray rfl rfl HTG' HIz HOz ?_; rw [hWG'.out]) | fail)
      exact bodyPost_ret (v := .tuple #[.agg Zs.cells.toArray, .bool false]) (results_cell_flag Tryd.results31 rfl HLG.out rfl) rfl ⟨ys, a9, c9, h, Zs, false, rfl, HEND, HPL.out⟩
  · have h33 : ss.length = 3 := by omega
    have C := l6Victim_any lo hi B o vs t a c ss h W4 p4 h33 hh
    have hge : ¬ (ss.length : Int) < 3 := by omega
    clear h33
    go_wp2_with fail
    refine C.mono ?_
    clear C y0
    rintro e w5 ⟨us, k, hand', rfl, hvic, hul, p5, hbl, t5⟩
    have HN4 : Hid (∀ j, W4.heap.size ≤ j → j ∉ blocksSts a c us) := fun j hj hk => by have := (p5.own.blocks_lt j hk).2; have := N4.size; omega
    have hltb : ∀ j ∈ blocksSts a c us, j < w.heap.size := fun j hk => by have := (p5.own.blocks_lt j hk).2; omega
    have hk3 : k < 3 := by have h := (victim_hand 4 (ss.map SeatA.v) h hh).2; rw [hvic.out] at h; exact h
    obtain ⟨g, rfl⟩ : ∃ g, a = some ⟨g, 0, none⟩ := by
      rcases p5.own.row.2 with ⟨_, h0⟩ | ⟨g, cap', cur, hv, _⟩
      · omega
      · simp only [Value.slice.injEq] at hv; exact ⟨g, hv.1⟩
    have hmem : g ∈ blocksSts (some ⟨g, 0, none⟩) c us := by simp [blocksSts, Value.ownBlock]
    have hgB : B ≠ g := fun e => p5.off (e ▸ hmem)
    have hgw := hltb g hmem
    have r5 := (row_seat p5.own.row rfl k (by omega)).1
    have b65 := b6.touch t5 (by rw [← hbl.out]; exact not_part (by omega) (fun hk => by have := hltb _ hk; omega))
    have b45 := b4.touch t5 (by rw [← hbl.out]; exact not_part (by omega) (fun hk => by have := hltb _ hk; have := N2.size; omega))
    have oq5 := oq4.touch t5 (fun j hj hk => by have hj1 := (oq4.blocks_lt j hj).1; rcases List.mem_cons.1 hk with rfl | hk; omega; rw [← hbl.out] at hk; have := hltb _ hk; omega)
    have oold := p5.own.each (us.getD k zeroSt) (seatD_mem us k (by omega))
    have HOV : Hid (us.map SeatA.v = (victimV 4 (ss.map SeatA.v) h).1 ∧ hand' = (victimV 4 (ss.map SeatA.v) h).2.1 ∧ k = (victimV 4 (ss.map SeatA.v) h).2.2) := by rw [Hid, hvic.out]; exact ⟨rfl, rfl, rfl⟩
    obtain ⟨old, hold⟩ : ∃ old, Hid (us.getD k zeroSt = old) := ⟨_, rfl⟩
    rw [hold.out] at r5 oold
    have T5 : Touch (B :: blocksSts (some ⟨g, 0, none⟩) c ss) w w5 := (Touch.of_below N4).trans t5
    have hs5 := t5.size
    have z5 := p5.box.cell o _ p5.c0
    obtain ⟨W6, hW6, b10, hb6, hs6⟩ := boxes1 w5 zeroSt.cells 38
    obtain ⟨W7, hW7, hw7, hs7, HT7, _, b7⟩ := seat_out old _ rfl b10
    have hW6' : Hid (w5.alloc (.cells #[.int .i64 0, .int .i64 0, .bool false, .int .i64 0, .slice none 0 0, .slice none 0 0, .bool false, .int .i64 0, .slice none 0 0, .slice none 0 0, .bool false, .int .i64 0, .slice none 0 0, .slice none 0 0, .bool false, .int .i64 0, .slice none 0 0, .slice none 0 0, .bool false, .bool false] 38) = W6) := hW6.out
    have hW7' : Hid (W6.setCells w5.heap.size 0 old.cells.toArray.toList = W7) := hW7.out
    have N57 : Below w5.heap.size w5 W7 := hb6.trans (hw7.below (Nat.le_refl _) (by omega))
    have HO7 := seat_one old
    have HI7 : Hid ((Tryd.prog.info? 38).map (·.size) = some old.cells.length) := seat_info old
    have p7 := p5.below N57
    have b67 := b65.below N57 b65.lt
    have b47 := b45.below N57 b45.lt
    have oq7 := oq5.below N57
    have oold7 := oold.below N57
    have T7 := T5.trans (Touch.of_below N57)
    have hs57 := N57.size
    have hlt7 := b7.lt
    have hkb : (k : Int) < (us.length : Int) := by omega
    have hk0 : (0 : Int) ≤ (k : Int) := by omega
    have hul1 : us.length ≤ 3 := by omega
    have hul2 : 3 ≤ us.length := by omega
    clear hW6 hW7 hs6 hs7 hw7 hb6 b10 hul p4 p5 b6 b4 oq4 b65 b45 oq5 oold T5 t5 N57 hvic
    go_upto_region 7 with (first | (guard_target = wpList _ _ _ (Oper.mk (some 40) _ _ _ _ _ :: _) _ _; refine wpList_load_mid rfl 38 (.tmp 39) rfl g (k * 20) rfl old.cells _ r5 Tryd.underlying38 rfl HI7.out ?_) | (guard_target = wpList _ _ _ (Oper.mk none (Op.store _ (Operand.tmp 10) _) _ _ _ _ :: _) _ _; refine wpList_store_mid rfl 38 (.tmp 10) (.tmp 40) rfl w5.heap.size 0 old.cells.toArray rfl rfl (by rw [hW6'.out]; exact HT7.out) HI7.out HO7 ?_; rw [hW6'.out, hW7'.out]) | fail)
    simp only [Act.put]
    clear r5 z5 hW6' hW7' HT7 HO7
    have ND : Below W7.heap.size W7 W7.drew := (Below.refl _ _).drew
    have p8 := p7.below ND
    have b68 := b67.below ND b67.lt
    have b48 := b47.below ND b47.lt
    have b78 := b7.below ND b7.lt
    have oq8 := oq7.below ND
    have oold8 := oold7.below ND
    have T8 := T7.trans (Touch.of_below ND)
    have hs78 := ND.size
    clear p7 b67 b47 b7 oq7 oold7 T7
    have hkl : (us.take k).length = k := by rw [List.length_take]; omega
    obtain ⟨WF, hWF, oF, tF, hsF⟩ := OwnSts.fill (A := us.take k) (z := us.getD k zeroSt) (B := us.drop (k + 1)) (by rw [← seatD_split us k (by omega)]; exact p8.own) q oq8 (by omega) hlo (by omega)
    rw [hkl] at hWF
    rw [← seat_set us k q (by omega)] at oF
    have hsFa := Nat.le_of_eq hsF
    have hsFb := Nat.le_of_eq hsF.symm
    clear hsF hkl
    have hgn : g < w.heap.size := hgw
    have HWF : Hid (W7.drew.setCells g (k * 20) q.cells.toArray.toList = WF) := hWF.out
    have HTH : Hid (W7.drew.there g (k * 20) q.cells.toArray.size) := (row_seat p8.own.row rfl k (by omega)).2
    have S8 : W7.drew.cell? ⟨B, o, none⟩ = some (.slice (some ⟨g, 0, none⟩) us.length c) := p8.box.cell o _ p8.c0
    have R8 : W7.drew.rangeAt w2.heap.size 0 q.cells := Box.range [] q.cells [] (by simpa using b48)
    have bBF := p8.box.touch tF (by simpa using hgB)
    have SF : WF.cell? ⟨B, o, none⟩ = some (.slice (some ⟨g, 0, none⟩) us.length c) := bBF.cell o _ p8.c0
    have b4F := b48.touch tF (by simp; have := N2.size; omega)
    have RF : WF.rangeAt w2.heap.size 0 q.cells := Box.range [] q.cells [] (by simpa using b4F)
    have b6F := b68.touch tF (by simp; omega)
    have b7F := b78.touch tF (by simp; omega)
    have TF : Touch (B :: blocksSts (some ⟨g, 0, none⟩) c ss) w WF := T8.trans (tF.mono (fun j hj => List.mem_cons_of_mem _ (by rw [← hbl.out, List.mem_singleton.1 hj]; exact hmem)))
    have hng : g ∉ old.blocks := fun hk => rowSt_apart p8.own.row oold8 g rfl hk
    have HOB : Hid (∀ j ∈ blocksSts (some ⟨g, 0, none⟩) c (us.set k q), j ∈ blocksSts (some ⟨g, 0, none⟩) c ss ∨ W.heap.size ≤ j) := fun j hj => by
      simp only [blocksSts, List.mem_append, Option.mem_toList, List.length_set] at hj
      rcases hj with hj | hj
      · exact .inl (by rw [← hbl.out]; exact List.mem_append.2 (.inl (Option.mem_toList.2 hj)))
      · obtain ⟨r, hr, hj2⟩ := List.mem_flatMap.1 hj
        rcases List.mem_or_eq_of_mem_set hr with hr | rfl
        · exact .inl (by rw [← hbl.out]; exact List.mem_append.2 (.inr (List.mem_flatMap.2 ⟨r, hr, hj2⟩)))
        · exact .inr (oq8.blocks_lt j hj2).1
    refine wp_region_held_drew (S := fun w' => w'.cell? ⟨B, o, none⟩ = some (.slice (some ⟨g, 0, none⟩) us.length c) ∧ w'.rangeAt w2.heap.size 0 q.cells) (by kernel_rfl) ?_ (fun hHeld => ?_)
    · exact ⟨S8, R8⟩
    refine wpAnyH_take (i := 0) (v := .pointer (some ⟨B, o, none⟩)) rfl (by kernel_rfl) (by kernel_rfl) (by kernel_rfl) (fun _ _ _ h => h) (Or.inl ⟨by rfl, ?_⟩) hHeld ?_
    · intro w' hSw
      go_simp <;> rfl
    try simp only [Act.put, List.getElem_toArray, List.getElem_cons_zero, List.setIfInBounds_toArray, List.set_cons_zero, List.set_cons_succ]
    refine wpAnyH_take (i := 1) (v := .pointer (some ⟨B, o, none⟩)) rfl (by kernel_rfl) (by kernel_rfl) (by kernel_rfl) (fun _ _ _ h => h) (Or.inl ⟨by rfl, ?_⟩) hHeld ?_
    · intro w' hSw
      go_simp <;> rfl
    try simp only [Act.put, List.getElem_toArray, List.getElem_cons_zero, List.getElem_cons_succ, List.setIfInBounds_toArray, List.set_cons_zero, List.set_cons_succ]
    refine wpAnyH_take (i := 2) (v := .pointer (some ⟨B, o, none⟩)) rfl (by kernel_rfl) (by kernel_rfl) (by kernel_rfl) (fun _ _ _ h => h) (Or.inl ⟨by rfl, ?_⟩) hHeld ?_
    · intro w' hSw
      go_simp <;> rfl
    try simp only [Act.put, List.getElem_toArray, List.getElem_cons_zero, List.getElem_cons_succ, List.setIfInBounds_toArray, List.set_cons_zero, List.set_cons_succ]
    refine wpAnyH_take (i := 3) (v := .slice (some ⟨g, 0, none⟩) us.length c) rfl (by kernel_rfl) (by kernel_rfl) (by kernel_rfl) (fun _ _ _ h => h) (Or.inl ⟨by rfl, ?_⟩) hHeld ?_
    · intro w' hSw
      have hx := hSw.1
      go_simp <;> rfl
    try simp only [Act.put, List.getElem_toArray, List.getElem_cons_zero, List.getElem_cons_succ, List.setIfInBounds_toArray, List.set_cons_zero, List.set_cons_succ]
    refine wpAnyH_take (i := 4) (v := .int .i64 k) rfl (by kernel_rfl) (by kernel_rfl) (by kernel_rfl) (fun _ _ _ h => h) (Or.inl ⟨by rfl, ?_⟩) hHeld ?_
    · intro w' hSw
      go_simp <;> rfl
    try simp only [Act.put, List.getElem_toArray, List.getElem_cons_zero, List.getElem_cons_succ, List.setIfInBounds_toArray, List.set_cons_zero, List.set_cons_succ]
    refine wpAnyH_take (i := 5) rfl (by kernel_rfl) (by kernel_rfl) (by kernel_rfl) (fun _ _ _ h => h) (yieldsIf_load_mid (by rfl) _ _ rfl _ _ rfl q.cells _ (fun _ h => h.2) Tryd.underlying38 rfl HI.out) hHeld ?_
    try simp only [Act.put, List.getElem_toArray, List.getElem_cons_zero, List.getElem_cons_succ, List.setIfInBounds_toArray, List.set_cons_zero, List.set_cons_succ]
    refine wpAnyH_take (i := 6) (v := .pointer (some ⟨g, k * 20, none⟩)) rfl (by kernel_rfl) (by kernel_rfl) (by kernel_rfl) (fun _ _ _ h => h) (Or.inl ⟨by rfl, ?_⟩) hHeld ?_
    · intro w' hSw
      go_simp <;> rfl
    try simp only [Act.put, List.getElem_toArray, List.getElem_cons_zero, List.getElem_cons_succ, List.setIfInBounds_toArray, List.set_cons_zero, List.set_cons_succ]
    refine wpAnyH_ready (rs := [7]) (by kernel_rfl) (by simp) ?_
    refine AllReadyH.cons rfl (fun K hK => ?_) AllReadyH.nil
    rw [if_pos (by rfl)]
    refine wp_store_mid 38 (.tmp 47) (.tmp 46) rfl g (k * 20) q.cells.toArray rfl rfl HTH.out HI.out (seat_one q) ?_
    rw [HWF.out]
    refine hK.out _ _ (⟨SF, RF⟩) (fun hHeld => ?_)
    clear hK K
    try simp only [Act.put, List.getElem_toArray, List.getElem_cons_zero, List.getElem_cons_succ]
    refine wpAnyH_done (by kernel_rfl) ?_ _
    clear HWF HTH S8 R8 SF RF hHeld
    obtain ⟨WG, hWG, hwG, hsG, HTG, HLG, bG⟩ := seat_out old _ rfl b6F
    have hsGa := Nat.le_of_eq hsG
    have hsGb := Nat.le_of_eq hsG.symm
    clear hsG
    have hWG' : Hid (WF.setCells (w.heap.size + 1) 0 old.cells.toArray.toList = WG) := hWG.out
    have tG : Touch [w.heap.size + 1] WF WG := ⟨hwG.os, hwG.tape, hwG.output, hwG.size, fun j hj hn => hwG.block j hj (fun hh => hn (by simp; omega))⟩
    have hBy : B ∉ blocksSts (some ⟨g, 0, none⟩) c (us.set k q) := fun hk => (HOB.out B hk).elim (fun h => p8.off (by rw [hbl.out]; exact h)) (fun h => by omega)
    have hn1 : w.heap.size + 1 ∉ blocksSts (some ⟨g, 0, none⟩) c (us.set k q) := fun hk => (HOB.out _ hk).elim (fun h => by rw [← hbl.out] at h; have := hltb _ h; omega) (fun h => by omega)
    have kG := bBF.touch tG (by simp; omega)
    have oG := (oF.touch tG (fun j hk hk' => hn1 (by rw [← List.mem_singleton.1 hk']; exact hk))).widen (Nat.le_refl _) (show max hi w2.heap.size ≤ WG.heap.size by omega) (Nat.le_refl _)
    have TG : Touch (B :: blocksSts (some ⟨g, 0, none⟩) c ss) w WG := ⟨tG.os.trans TF.os, tG.tape.trans TF.tape, tG.output.trans TF.output, Nat.le_trans TF.size tG.size, fun j hj hn => (tG.block j (by have := TF.size; omega) (by simp; omega)).trans (TF.block j hj hn)⟩
    have hnold : ∀ j ∈ old.blocks, j ∉ [w.heap.size + 1] := fun j hj hk => by have h1 := (oold8.blocks_lt j hj).2; have h2 := List.mem_singleton.1 hk; omega
    have oG2 := ((oold8.touch tF (fun j hj hk => hng (by rw [← List.mem_singleton.1 hk]; exact hj))).touch tG hnold).widen (Nat.le_refl lo) (show hi ≤ WG.heap.size by omega) (Nat.le_refl _)
    have hoB : ∀ j ∈ old.blocks, j ∈ blocksSts (some ⟨g, 0, none⟩) c ss := fun j hj => by rw [← hbl.out]; exact List.mem_append.2 (.inr (List.mem_flatMap.2 ⟨old, by rw [← hold.out]; exact seatD_mem us k (by omega), hj⟩))
    have HEND : Hid (bringV (ss.map SeatA.v) h ⟨no, pg.lsn, pg.ss.map (·.v), false, true⟩ = ((us.set k q).map SeatA.v, hand', old.v, true)) := by
      obtain ⟨e1, e2, e3⟩ := HOV.out
      rw [Hid, bringV, if_neg (by rw [List.length_map]; exact hlt), ← e1, ← e2, ← e3, seatV_at, hold.out, List.map_set, HQV.out]
    have HPL : Hid (Brought lo B o vs t (some ⟨g, 0, none⟩) c ss w WG (us.set k q) (some ⟨g, 0, none⟩) c hand' old) := by
      refine ⟨⟨?_, ?_, ?_, oG, hBy⟩, fun j hk => (HOB.out j hk).imp id (fun h => by omega), TG, oG2, hoB⟩
      · have e : vs.set o (.slice (some ⟨g, 0, none⟩) (us.set k q).length c) = vs := by
          have hc := p8.c0
          rw [List.getElem?_set_ne (by omega)] at hc
          obtain ⟨_, h2⟩ := List.getElem?_eq_some_iff.1 hc
          rw [List.length_set, ← h2, List.set_getElem_self]
        rw [e]; exact kG
      · have hc := p8.c0
        rw [List.getElem?_set_ne (by omega)] at hc ⊢
        rw [List.getElem?_set_self (List.getElem?_eq_some_iff.1 hc).1]
      · have hc := (List.getElem?_eq_some_iff.1 p8.c1).1
        rw [List.length_set] at hc
        rw [List.getElem?_set_self (by rw [List.length_set]; exact hc)]
    have HTG' : WF.there (w.heap.size + 1) 0 old.cells.toArray.size := HTG.out
    have HOz := seat_one old
    have rL : WF.rangeAt w5.heap.size 0 old.cells := Box.range [] old.cells [] (by simpa using b7F)
    clear kG oG TG bBF oF b6F b4F b7F TF tG tF T8 p8 oq8 oold8 b68 b48 b78
    go_wp2_with (first | (guard_target = wpList _ _ _ (Oper.mk (some 48) _ _ _ _ _ :: _) _ _; refine wpList_load_mid rfl 38 (.tmp 10) rfl w5.heap.size 0 rfl old.cells _ rL Tryd.underlying38 rfl HI7.out ?_) | (guard_target = wpList _ _ _ (Oper.mk none (Op.store _ (Operand.tmp 6) _) _ _ _ _ :: _) _ _; refine wpList_store_mid rfl 38 (.tmp 6) (.tmp 48) rfl (w.heap.size + 1) 0 old.cells.toArray rfl rfl HTG' HI7.out HOz ?_; rw [hWG'.out]) | fail)
    exact bodyPost_ret (v := .tuple #[.agg old.cells.toArray, .bool true]) (results_cell_flag Tryd.results31 rfl HLG.out rfl) rfl ⟨us.set k q, some ⟨g, 0, none⟩, c, hand', old, true, rfl, HEND, HPL.out⟩
end Go.Proofs.YtoboickdkednkaaDoor

/- What a pool must be, and what its functions make of it. -/
namespace Go.Proofs.YtoboickdkednkaaDoor
open Go.RowKit

theorem seatFrom_at (ss : List SeatV) : ∀ (no : Int) (b k : Nat), k < ss.length → (ss.getD k zeroStV).no = no → (∀ j, j < k → (ss.getD j zeroStV).no ≠ no) → seatFrom no ss b = ((b + k : Nat) : Int) := by
  induction ss with
  | nil => intro no b k h; simp at h
  | cons s r ih =>
    intro no b k hk he hn
    rw [seatFrom]
    cases k with
    | zero => simp only [List.getD_cons_zero] at he; rw [if_pos he]; simp
    | succ k =>
      have h0 := hn 0 (by omega)
      simp only [List.getD_cons_zero] at h0
      simp only [List.getD_cons_succ] at he
      rw [if_neg h0, ih no (b + 1) k (by simpa using hk) he (fun j hj => by have := hn (j + 1) (by omega); simpa using this)]
      omega
theorem seatFrom_none (ss : List SeatV) : ∀ (no : Int) (b : Nat), (∀ j, j < ss.length → (ss.getD j zeroStV).no ≠ no) → seatFrom no ss b = -1 := by
  induction ss with
  | nil => intro no b _; rfl
  | cons s r ih =>
    intro no b hn
    have h0 := hn 0 (by simp)
    simp only [List.getD_cons_zero] at h0
    rw [seatFrom, if_neg h0, ih no (b + 1) (fun j hj => by have := hn (j + 1) (by simpa using hj); simpa using this)]
theorem seated_at {ss : List SeatV} {no : Int} {k : Nat} (hk : k < ss.length) (he : (ss.getD k zeroStV).no = no) (hn : ∀ j, j < k → (ss.getD j zeroStV).no ≠ no) : seatedOf ss no = k := by
  have := seatFrom_at ss no 0 k hk he hn
  simpa [seatedOf] using this
theorem seated_none {ss : List SeatV} {no : Int} (hn : ∀ j, j < ss.length → (ss.getD j zeroStV).no ≠ no) : seatedOf ss no = -1 := seatFrom_none ss no 0 hn
/-- Where the first of this No is, or that there is none. -/
theorem seated_cases (ss : List SeatV) (no : Int) : (∃ k : Nat, k < ss.length ∧ (ss.getD k zeroStV).no = no ∧ (∀ j, j < k → (ss.getD j zeroStV).no ≠ no) ∧ seatedOf ss no = k) ∨ ((∀ j, j < ss.length → (ss.getD j zeroStV).no ≠ no) ∧ seatedOf ss no = -1) := by
  by_cases h : ∃ k, k < ss.length ∧ (ss.getD k zeroStV).no = no
  · have hm : ∃ k, (k < ss.length ∧ (ss.getD k zeroStV).no = no) ∧ ∀ j, j < k → ¬ (j < ss.length ∧ (ss.getD j zeroStV).no = no) := by
      obtain ⟨k, hk⟩ := h
      induction k using Nat.strongRecOn with
      | _ k ih =>
        by_cases h2 : ∃ j, j < k ∧ (j < ss.length ∧ (ss.getD j zeroStV).no = no)
        · obtain ⟨j, hj, hp⟩ := h2
          exact ih j hj hp
        · exact ⟨k, hk, fun j hj hp => h2 ⟨j, hj, hp⟩⟩
    obtain ⟨k, ⟨h1, h2⟩, h3⟩ := hm
    have h4 : ∀ j, j < k → (ss.getD j zeroStV).no ≠ no := fun j hj e => h3 j hj ⟨by omega, e⟩
    exact .inl ⟨k, h1, h2, h4, seated_at h1 h2 h4⟩
  · have h2 : ∀ j, j < ss.length → (ss.getD j zeroStV).no ≠ no := fun j hj e => h ⟨j, hj, e⟩
    exact .inr ⟨h2, seated_none h2⟩

def seatB (s : SeatV) : Bool := inB s.no 0 7 && okP s.lsn s.ss
/-- One seat is right, and no other of its No stands ahead of it. -/
def freshAt (ss : List SeatV) (i : Nat) : Bool := seatB (ss.getD i zeroStV) && decide (seatedOf ss (ss.getD i zeroStV).no = i)
def okPool (p : PoolV) : Bool := decide (p.seats.length ≤ 3) && (inB p.hand 0 2 && (List.range p.seats.length).all (freshAt p.seats))
theorem okPool_long {p : PoolV} (h : ¬ p.seats.length ≤ 3) : okPool p = false := by simp [okPool, h]
theorem okPool_hand {p : PoolV} (h : inB p.hand 0 2 = false) : okPool p = false := by simp [okPool, h]
theorem okPool_no {p : PoolV} (k : Nat) (hk : k < p.seats.length) (h : freshAt p.seats k = false) : okPool p = false := by
  have : (List.range p.seats.length).all (freshAt p.seats) = false := by
    rw [List.all_eq_false]
    exact ⟨k, List.mem_range.2 hk, by simp [h]⟩
  simp [okPool, this]
theorem okPool_yes {p : PoolV} (h1 : p.seats.length ≤ 3) (h2 : inB p.hand 0 2 = true) (h : ∀ k, k < p.seats.length → freshAt p.seats k = true) : okPool p = true := by
  have : (List.range p.seats.length).all (freshAt p.seats) = true := by
    rw [List.all_eq_true]
    exact fun k hk => h k (List.mem_range.1 hk)
  simp [okPool, this, h1, h2]
theorem okPool_iff {p : PoolV} (h : okPool p = true) : p.seats.length ≤ 3 ∧ inB p.hand 0 2 = true ∧ ∀ k, k < p.seats.length → freshAt p.seats k = true := by
  simp only [okPool, Bool.and_eq_true, decide_eq_true_eq, List.all_eq_true] at h
  exact ⟨h.1, h.2.1, fun k hk => h.2.2 k (List.mem_range.2 hk)⟩
theorem fresh_bad {ss : List SeatV} {i : Nat} (h : seatB (ss.getD i zeroStV) = false) : freshAt ss i = false := by simp only [freshAt, h, Bool.false_and]
theorem fresh_dup {ss : List SeatV} {i k : Nat} (hk : k < i) (hi : i < ss.length) (he : (ss.getD k zeroStV).no = (ss.getD i zeroStV).no) : freshAt ss i = false := by
  have : seatedOf ss (ss.getD i zeroStV).no ≠ (i : Int) := by
    rcases seated_cases ss (ss.getD i zeroStV).no with ⟨j, h1, h2, h3, h4⟩ | ⟨h1, _⟩
    · rw [h4]
      intro e
      have : j = i := by omega
      subst this
      exact h3 k hk he
    · exact absurd rfl (h1 i hi)
  rw [freshAt, decide_eq_false this, Bool.and_false]
theorem fresh_yes {ss : List SeatV} {i : Nat} (hi : i < ss.length) (hb : seatB (ss.getD i zeroStV) = true) (h : ∀ k, k < i → (ss.getD k zeroStV).no ≠ (ss.getD i zeroStV).no) : freshAt ss i = true := by
  have := seated_at hi rfl h
  rw [freshAt, hb, decide_eq_true this]
  rfl

def victimOf (p : PoolV) : PoolV × Int :=
  if okPool p = true ∧ p.seats.length = 3 then (⟨(victimV 4 p.seats p.hand.toNat).1, (victimV 4 p.seats p.hand.toNat).2.1⟩, (victimV 4 p.seats p.hand.toNat).2.2) else (p, -1)
def mayBring (p : PoolV) (no lsn : Int) (ss : List SlotV) : Bool := okPool p && (inB no 0 7 && (okP lsn ss && decide (seatedOf p.seats no < 0)))
def bringOf (p : PoolV) (no lsn : Int) (ss : List SlotV) : PoolV × SeatV × Bool :=
  if mayBring p no lsn ss = true then (⟨(bringV p.seats p.hand.toNat ⟨no, lsn, ss, false, true⟩).1, (bringV p.seats p.hand.toNat ⟨no, lsn, ss, false, true⟩).2.1⟩, (bringV p.seats p.hand.toNat ⟨no, lsn, ss, false, true⟩).2.2.1, (bringV p.seats p.hand.toNat ⟨no, lsn, ss, false, true⟩).2.2.2) else (p, zeroStV, false)
end Go.Proofs.YtoboickdkednkaaDoor

/- What a pool is behind a change. -/
namespace Go.Proofs.YtoboickdkednkaaDoor
open Go.RowKit

theorem getD_setV (ss : List SeatV) (k j : Nat) (x : SeatV) (hk : k < ss.length) : (ss.set k x).getD j zeroStV = if j = k then x else ss.getD j zeroStV := by
  by_cases h : j = k
  · subst h; simp [List.getD, List.getElem?_set_self hk]
  · rw [if_neg h]; simp [List.getD, List.getElem?_set_ne (Ne.symm h)]
end Go.Proofs.YtoboickdkednkaaDoor

/- The walk of impl.Seated. -/
namespace Go.Proofs.YtoboickdkednkaaDoor
open Go.RowKit

theorem specSeatedP_any (p : PoolA) (no : Int) (w : World) (hr : p.reads w) (hl : p.short 1099511627776) :
    Calls Tryd.prog 30 #[.agg p.cells.toArray, .int .i64 no] w fun r w' => r = .returned (.int .i64 (seatedOf p.v.seats no)) ∧ Below w.heap.size w w' :=
  specSeated_any p.a p.c p.seats p.hand no w hr hl.len

set_option maxHeartbeats 1000000 in
set_option maxRecDepth 100000 in
theorem implSeated_any (p : PoolA) (no : Int) (w : World) (hr : p.reads w) (hl : p.short 1099511627776) :
    Calls Tryd.prog 12 #[.agg p.cells.toArray, .int .i64 no] w fun r w' => r = .returned (.int .i64 (seatedOf p.v.seats no)) ∧ Below w.heap.size w w' := by
  obtain ⟨ls, hand, a, c⟩ := p
  have hlen := hl.len
  simp only [PoolA.cells, PoolA.reads, PoolA.v] at *
  obtain ⟨W, hW, b0, hbW, hsW⟩ := boxes1 w [.slice a ls.length c, .int .i64 hand] 26
  have HR : Hid (∀ u, Below W.heap.size W u → ReadsSts u a ls) := fun u hu => hr.below (hbW.trans (hu.mono hbW.size))
  have HF : Hid (seatFrom no ((ls.map SeatA.v).drop 0) 0 = seatedOf (ls.map SeatA.v) no) := rfl
  have HJ : Hid ((Tryd.prog.info? 38).map (·.size) = some 20) := by rw [Hid]; kernel_rfl
  generalize seatedOf (ls.map SeatA.v) no = R at *
  clear hsW hr hl
  have x0 := b0.cell 0 _ rfl
  go_enter Tryd.func12, Tryd.ntmps12
  go_upto_region 1 with fail
  rw [hW.out]
  clear hW
  go_wp2_with fail
  clear x0 b0
  go_loopw [10] (fun i wr => ∃ (k : Nat), i = .int .i64 k ∧ k ≤ ls.length ∧ Hid (seatFrom no ((ls.map SeatA.v).drop k) k = R) ∧ Below W.heap.size W wr)
    (fun i _ => ls.length - (intOf i).toNat)
  case atStart => exact ⟨0, rfl, by omega, HF, Below.refl _ _⟩
  case round =>
    obtain ⟨k, rfl, hk, hR, hbl⟩ := hrel
    have hrr := HR.out wr hbl
    have hbT : Below w.heap.size w wr := hbW.trans (hbl.mono hbW.size)
    by_cases hlt : k < ls.length
    · obtain ⟨b, off, rfl, hcell⟩ := hrr (by rintro rfl; simp at hlt)
      have HRG : Hid (wr.rangeAt b (off + k * 20) (ls.getD k zeroSt).cells) := (hcell k hlt).1
      clear hcell
      have hkk : (k : Int) < (ls.length : Int) := by omega
      have hi0 : (0 : Int) ≤ (k : Int) := by omega
      have HR2 : Hid ((if (ls.getD k zeroSt).no = no then (k : Int) else seatFrom no ((ls.map SeatA.v).drop (k + 1)) (k + 1)) = R) := by
        have h := hR.out
        rw [dropSt_at ls k hlt, seatFrom] at h
        exact h
      generalize ls.getD k zeroSt = z at *
      obtain ⟨W1, hW1, b1, hb1, hs1⟩ := boxes1 wr [.int .i64 0, .int .i64 0, .bool false, .int .i64 0, .slice none 0 0, .slice none 0 0, .bool false, .int .i64 0, .slice none 0 0, .slice none 0 0, .bool false, .int .i64 0, .slice none 0 0, .slice none 0 0, .bool false, .int .i64 0, .slice none 0 0, .slice none 0 0, .bool false, .bool false] 38
      obtain ⟨W2, hW2, hw2, hs2, HT2, _, b2⟩ := seat_out z _ rfl b1
      have hB2 : Below W.heap.size W W2 := (hbl.trans (hb1.mono hbl.size)).trans (hw2.below hbl.size (by have := hbl.size; omega))
      have hbT2 : Below w.heap.size w W2 := hbW.trans (hB2.mono hbW.size)
      have x0 : W2.cell? ⟨wr.heap.size, 0, none⟩ = some (.int .i64 z.no) := b2.cell 0 _ rfl
      have HW2 : Hid (W1.setCells wr.heap.size 0 z.cells.toArray.toList = W2) := hW2.out
      have hOz := seat_one z
      clear hs1 hs2 b1 b2 hb1 hw2 hW2 hR hbl hbT
      by_cases hq : z.no = no
      · have HR3 : Hid ((k : Int) = R) := by have h := HR2.out; rw [if_pos hq] at h; exact h
        have hqb : (z.no == no) = true := by simpa using hq
        clear hq HR2
        go_wp2_with (first | (guard_target = wpList _ _ _ (Oper.mk (some 14) _ _ _ _ _ :: _) _ _; refine wpList_load_mid rfl 38 (.tmp 13) rfl b (off + k * 20) rfl z.cells _ HRG.out Tryd.underlying38 rfl HJ.out ?_) | (guard_target = wpList _ _ _ (Oper.mk none (Op.store _ (Operand.tmp 6) _) _ _ _ _ :: _) _ _; refine wpList_store_mid rfl 38 (.tmp 6) (.tmp 14) rfl wr.heap.size 0 z.cells.toArray rfl rfl (by rw [hW1.out]; exact HT2.out) HJ.out hOz ?_; rw [hW1.out, HW2.out]) | fail)
        go_ret
        exact ⟨ret_int HR3.out, hbT2⟩
      · have HR3 : Hid (seatFrom no ((ls.map SeatA.v).drop (k + 1)) (k + 1) = R) := by have h := HR2.out; rw [if_neg hq] at h; exact h
        have hqb : (z.no == no) = false := by simpa using hq
        clear hq HR2
        go_wp2_with (first | (guard_target = wpList _ _ _ (Oper.mk (some 14) _ _ _ _ _ :: _) _ _; refine wpList_load_mid rfl 38 (.tmp 13) rfl b (off + k * 20) rfl z.cells _ HRG.out Tryd.underlying38 rfl HJ.out ?_) | (guard_target = wpList _ _ _ (Oper.mk none (Op.store _ (Operand.tmp 6) _) _ _ _ _ :: _) _ _; refine wpList_store_mid rfl 38 (.tmp 6) (.tmp 14) rfl wr.heap.size 0 z.cells.toArray rfl rfl (by rw [hW1.out]; exact HT2.out) HJ.out hOz ?_; rw [hW1.out, HW2.out]) | fail)
        go_roundw
        case rel => exact ⟨k + 1, by go_num, by omega, HR3, hB2⟩
        case measure => simp [intOf]; omega
    · have hkk : ¬ (k : Int) < (ls.length : Int) := by omega
      have HR' : Hid (-1 = R) := by
        have h := hR.out
        rw [List.drop_eq_nil_of_le (by rw [List.length_map]; omega), seatFrom] at h
        exact h
      clear hR
      go_wp2
      go_ret
      exact ⟨ret_int HR'.out, hbT⟩
end Go.Proofs.YtoboickdkednkaaDoor

/- The walks of impl.markSlots over impl.slotHas and over impl.slotOk. -/
namespace Go.Proofs.YtoboickdkednkaaDoor
open Go.RowKit

/-- A row of four marks of which the first ones are laid. -/
def mkB (bs : List Bool) : List Value := bs.map Value.bool ++ List.replicate (4 - bs.length) (.bool false)
theorem mkB_set (bs : List Bool) (b : Bool) (h : bs.length < 4) : (mkB bs).set bs.length (.bool b) = mkB (bs ++ [b]) := by
  unfold mkB
  rw [List.set_append_right _ _ (by simp)]
  have e : 4 - bs.length = (4 - (bs ++ [b]).length) + 1 := by simp; omega
  rw [e, List.replicate_succ]
  simp
theorem mkB_len (bs : List Bool) (h : bs.length ≤ 4) : (mkB bs).length = 4 := by simp [mkB]; omega
theorem mkB_some (bs : List Bool) (h : bs.length ≤ 4) (k : Nat) (hk : k < 4) : ∃ v, (mkB bs)[k]? = some v := ⟨_, List.getElem?_eq_getElem (by rw [mkB_len bs h]; exact hk)⟩
/-- The answer is a row of these four marks. -/
def FourAns (bs : List Bool) (e : Ending) : Prop := ∃ c0 c1 c2 c3 : Bool, e = .returned (.agg #[.bool c0, .bool c1, .bool c2, .bool c3]) ∧ bs = [c0, c1, c2, c3]
theorem take_snoc (ss : List SlotA) (q : SlotV → Bool) (k : Nat) (h : k < ss.length) : (ss.take (k + 1)).map (fun s => q s.v) = (ss.take k).map (fun s => q s.v) ++ [q (ss.getD k zeroS).v] := by
  rw [List.take_add_one, List.map_append]
  simp [List.getD, h]

set_option maxHeartbeats 1000000 in
set_option maxRecDepth 100000 in
theorem markSlots_ok (p : PageA) (h4 : p.ss.length = 4) (w : World) (hg : ErrT w) (hr : ReadsS w p.ss) (hl : Fit p.ss) :
    Calls Tryd.prog 40 #[.agg p.cells.toArray, .func (.func 41) #[] #[]] w fun e w' => FourAns (p.ss.map (fun s => slotB s.v)) e ∧ Below w.heap.size w w' := by
  obtain ⟨n, ss⟩ := p
  simp only [PageA.cells] at *
  obtain ⟨W, hW, b0, b1, b2, hbW, hsW⟩ := boxes3 w (.int .i64 n :: cellsS ss) [.bool false, .bool false, .bool false, .bool false] [.bool false, .bool false, .bool false, .bool false] 34 70 70
  have b2' : Box W (w.heap.size + 1 + 1) (mkB []) 70 := b2
  have hsW' : w.heap.size + 1 + 1 < W.heap.size := by omega
  have hrg0 : W.rangeAt w.heap.size 1 (cellsS ss) := Box.range [.int .i64 n] (cellsS ss) [] (by simpa using b0)
  have hi0 : (Tryd.prog.info? 32).map (·.size) = some (cellsS ss).length := by rw [cellsS_len, h4]; kernel_rfl
  have HX := run_index_slot ss h4
  have H4 : Hid (ss.length = 4) := h4
  clear b2 hsW h4
  go_enter Tryd.func40, Tryd.ntmps40
  go_wp2_with (first | (guard_target = wpList _ _ _ (Oper.mk (some 9) _ _ _ _ _ :: _) _ _; refine wpList_load_mid rfl 32 (.tmp 8) rfl w.heap.size 1 rfl (cellsS ss) _ (by rw [hW.out]; exact hrg0) Tryd.underlying32 rfl hi0 ?_) | fail)
  rw [hW.out]
  clear hW hrg0 hi0
  go_loopw [10] (fun i wr => ∃ (k : Nat) (bs : List Bool), i = .int .i64 k ∧ k ≤ 4 ∧ Hid (bs.length = k ∧ bs = (ss.take k).map (fun s => slotB s.v)) ∧ Box wr (w.heap.size + 1 + 1) (mkB bs) 70 ∧ Below (w.heap.size + 1 + 1) W wr)
    (fun i _ => 4 - (intOf i).toNat)
  case atStart => exact ⟨0, [], rfl, by omega, ⟨rfl, rfl⟩, b2', Below.refl _ _⟩
  case round =>
    obtain ⟨k, bs, rfl, hk, hbs, hbox, hbl⟩ := hrel
    clear b2'
    have b1r := b1.below hbl (by omega)
    have hsr := hbl.size
    by_cases hlt : k < 4
    · have hkl : k < ss.length := by rw [H4.out]; exact hlt
      have hx := HX k hlt
      clear HX
      have hbs4 : bs.length ≤ 4 := by have := hbs.out.1; omega
      have HV : Hid (_ = _) := take_snoc ss (fun s => slotB s) k hkl
      have hgr := hg.keep (hbW.trans (hbl.mono (by omega)))
      have hrk := (hr _ (getD_mem hkl)).below (hbW.trans (hbl.mono (by omega)))
      have hlk : Fit [ss.getD k zeroS] := fun s hs => by obtain rfl := List.mem_singleton.1 hs; exact hl _ (getD_mem hkl)
      generalize ss.getD k zeroS = s at *
      simp only [SlotA.cells] at hx
      obtain ⟨W1, hW1, bx, hbx1, hsx1⟩ := boxes1 wr [.bool s.v.has, .int .i64 s.v.o.kind, .slice s.aI s.v.o.ints.length s.cI, .slice s.aR s.v.o.refs.length s.cR] 31
      have hsz := hbox.lt
      have B1 : Below (w.heap.size + 1 + 1) W W1 := hbl.trans (hbx1.mono (by omega))
      go_wp2_with fail
      rw [hW1.out]
      clear hx
      refine (slotOk_any s W1 (hgr.keep hbx1) (hrk.below hbx1) hlk).mono ?_
      rintro e w2 ⟨rfl, hb2⟩
      have hs2 := hb2.size
      have bm2 := (hbox.below hbx1 hsz).below hb2 (by omega)
      obtain ⟨u, hu⟩ := mkB_some bs hbs4 k hlt
      have hc := bm2.cell k u hu
      have hf := bm2.frozen k
      obtain ⟨W3, hW3, b3, hw3, hs3⟩ := box_set bm2 k (.bool (slotB s.v))
      have b3' : Box W3 (w.heap.size + 1 + 1) (mkB (bs ++ [slotB s.v])) 70 := by
        have e := mkB_set bs (slotB s.v) (by have := hbs.out.1; omega)
        rw [hbs.out.1] at e
        rw [← e]; exact b3
      have HB : Hid ((bs ++ [slotB s.v]).length = k + 1 ∧ bs ++ [slotB s.v] = (ss.take (k + 1)).map (fun s => slotB s.v)) := ⟨by have := hbs.out.1; simp; omega, by rw [HV.out, ← hbs.out.2]⟩
      have B3 : Below (w.heap.size + 1 + 1) W W3 := (B1.trans (hb2.mono (by omega))).trans (hw3.below (Nat.le_refl _) (by omega))
      clear b3 bm2 hu HV
      go_wp2_with fail
      rw [hW3.out]
      go_roundw
      case rel => exact ⟨k + 1, bs ++ [slotB s.v], by go_num, by omega, HB, b3', B3⟩
      case measure => simp [intOf]; omega
    · obtain rfl : k = 4 := by omega
      have hkk : ¬ ((4 : Nat) : Int) < 4 := by omega
      have HQ : Hid (bs = ss.map (fun s => slotB s.v)) := by rw [Hid, hbs.out.2, List.take_of_length_le (by rw [H4.out]; omega)]
      obtain ⟨c0, c1, c2, c3, rfl⟩ : ∃ c0 c1 c2 c3, bs = [c0, c1, c2, c3] := by
        match bs, hbs.out.1 with
        | [c0, c1, c2, c3], _ => exact ⟨c0, c1, c2, c3, rfl⟩
      have hbx : Box wr (w.heap.size + 1 + 1) [.bool c0, .bool c1, .bool c2, .bool c3] 70 := hbox
      obtain ⟨x0, x1, x2, x3, _⟩ := hbx.four
      obtain ⟨y0, y1, y2, y3, f0, f1, f2, f3⟩ := b1r.four
      obtain ⟨WF, hWF, bF, hwF, hsF⟩ := box4_fill b1r (.bool c0) (.bool c1) (.bool c2) (.bool c3)
      have hbF : Below w.heap.size w WF := (hbW.trans (hbl.mono (by omega))).trans (hwF.below (by omega) (by omega))
      clear hbox hbs
      go_wp2
      rw [hWF.out]
      obtain ⟨q0, q1, q2, q3, _⟩ := bF.four
      exact bodyPost_ret (v := .agg #[.bool c0, .bool c1, .bool c2, .bool c3]) (by simp [results, Tryd.results40, go_sem, q0, q1, q2, q3]) rfl ⟨⟨c0, c1, c2, c3, rfl, HQ.out.symm⟩, hbF⟩
end Go.Proofs.YtoboickdkednkaaDoor
