/- Several texts in one, in their order. -/
import Derived.Test.YtnnehpimkdoeoaaPChainx8
import Derived.Deep.MidRow
import Derived.Test.YtnnehpimkdoeoaaPChainx2
/- Ranges of cells in a box: read, and written, whole. -/
namespace Go.Proofs.Ytnnehpimkdoeoaa
open Go.RowKit

theorem Box.range {w : World} {B : Nat} {t : TypeId} (pre cs post : List Value) (b : Box w B (pre ++ (cs ++ post)) t) : w.rangeAt B pre.length cs := by
  intro j v hv
  have hj : j < cs.length := (List.getElem?_eq_some_iff.1 hv).1
  refine b.cell _ v ?_
  rw [List.getElem?_append_right (by omega), List.getElem?_append_left (by omega)]
  rw [show pre.length + j - pre.length = j by omega]
  exact hv
theorem Box.there {w : World} {B : Nat} {vs : List Value} {t : TypeId} (b : Box w B vs t) (o n : Nat) (h : o + n ≤ vs.length) : w.there B o n := fun j hj =>
  ⟨by rw [b.cell (o + j) _ (List.getElem?_eq_getElem (by omega))]; rfl, b.frozen _⟩
theorem set_range (pre post : List Value) : ∀ (old cs : List Value), old.length = cs.length → ∀ (w : World) (B : Nat) (t : TypeId), Box w B (pre ++ (old ++ post)) t → Box (w.setCells B pre.length cs) B (pre ++ (cs ++ post)) t := by
  intro old
  induction old generalizing pre with
  | nil => intro cs h w B t b; obtain rfl := List.length_eq_zero_iff.1 h.symm; exact b
  | cons x r ih =>
    intro cs h w B t b
    obtain ⟨c, cr, rfl⟩ : ∃ c cr, cs = c :: cr := by
      cases cs with
      | nil => simp at h
      | cons c cr => exact ⟨c, cr, rfl⟩
    have hb := b.set pre.length c
    rw [List.set_append_right _ _ (Nat.le_refl _), Nat.sub_self] at hb
    simp only [List.cons_append, List.set_cons_zero] at hb
    have hb' : Box (w.setCell ⟨B, pre.length, none⟩ c) B ((pre ++ [c]) ++ (r ++ post)) t := by simpa using hb
    have := ih (pre ++ [c]) cr (by simpa using h) _ B t hb'
    simp only [List.length_append, List.length_singleton] at this
    rw [World.setCells]
    simpa using this
theorem range_fill {w : World} {B : Nat} {t : TypeId} (pre old cs post : List Value) (b : Box w B (pre ++ (old ++ post)) t) (h : old.length = cs.length) :
    ∃ W, Hid (w.setCells B pre.length cs = W) ∧ Box W B (pre ++ (cs ++ post)) t ∧ Within B (B + 1) w W ∧ W.heap.size = w.heap.size := by
  refine ⟨_, rfl, set_range pre post old cs h w B t b, within_setCells _ _ _ _, ?_⟩
  have h1 := (within_setCells B pre.length cs w).size
  have : ∀ (vs : List Value) (o : Nat) (w : World), (w.setCells B o vs).heap.size = w.heap.size := by
    intro vs
    induction vs with
    | nil => intro o w; rfl
    | cons v r ih => intro o w; rw [World.setCells, ih]; simp
  exact this _ _ _
theorem oneS (ss : List SlotA) : ∀ v ∈ cellsS ss, v.oneCell' = true := by
  intro v hv
  obtain ⟨s, _, hs⟩ := List.mem_flatMap.1 hv
  simp only [SlotA.cells, List.mem_cons, List.not_mem_nil, or_false] at hs
  rcases hs with rfl | rfl | rfl | rfl <;> rfl

structure PageA where
  lsn : Int
  ss : List SlotA
def PageA.cells (p : PageA) : List Value := .int .i64 p.lsn :: cellsS p.ss
theorem oneP (p : PageA) : ∀ v ∈ p.cells, v.oneCell' = true := by
  intro v hv
  rcases List.mem_cons.1 hv with rfl | h
  · rfl
  · exact oneS _ v h
theorem page_len (p : PageA) (h : p.ss.length = 4) : p.cells.length = 17 := by simp [PageA.cells, cellsS_len, h]
end Go.Proofs.Ytnnehpimkdoeoaa

/- Records: what they are, what a walk reads and owns of them; the walk of laws.toRec. -/
namespace Go.Proofs.Ytnnehpimkdoeoaa
open Go.RowKit

structure RecV where
  lsn : Int
  tx : Int
  prev : Int
  kind : Int
  oid : Int
  bf : SlotV
  af : SlotV
  next : Int
  txs : List LiveV

/-- A record, and where its lists lie. -/
structure RecA where
  lsn : Int
  tx : Int
  prev : Int
  kind : Int
  oid : Int
  bf : SlotA
  af : SlotA
  next : Int
  txs : List LiveV
  aL : Option Addr
  cL : Nat
def RecA.v (r : RecA) : RecV := ⟨r.lsn, r.tx, r.prev, r.kind, r.oid, r.bf.v, r.af.v, r.next, r.txs⟩
def RecA.cells (r : RecA) : List Value := [.int .i64 r.lsn, .int .i64 r.tx, .int .i64 r.prev, .int .i64 r.kind, .int .i64 r.oid, .bool r.bf.v.has, .int .i64 r.bf.v.o.kind, .slice r.bf.aI r.bf.v.o.ints.length r.bf.cI, .slice r.bf.aR r.bf.v.o.refs.length r.bf.cR, .bool r.af.v.has, .int .i64 r.af.v.o.kind, .slice r.af.aI r.af.v.o.ints.length r.af.cI, .slice r.af.aR r.af.v.o.refs.length r.af.cR, .int .i64 r.next, .slice r.aL r.txs.length r.cL]
structure RecA.reads (w : World) (r : RecA) : Prop where
  bf : r.bf.reads w
  af : r.af.reads w
  txs : ReadsL w r.aL r.txs
theorem RecA.reads.below {w w' : World} {r : RecA} (h : r.reads w) (hb : Below w.heap.size w w') : r.reads w' := ⟨ReadsO.below h.bf hb, ReadsO.below h.af hb, h.txs.below hb⟩
def RecA.blocks (r : RecA) : List Nat := r.bf.blocks ++ (r.af.blocks ++ (Value.slice r.aL r.txs.length r.cL).ownBlock.toList)
structure RecA.own (w : World) (lo hi : Nat) (r : RecA) : Prop where
  bf : r.bf.own w lo hi
  af : r.af.own w lo hi
  txs : OwnL w lo hi r.aL r.cL r.txs
  apart : r.blocks.Nodup
theorem RecA.own.reads {w : World} {lo hi : Nat} {r : RecA} (h : r.own w lo hi) : r.reads w := ⟨OwnO.reads h.bf, OwnO.reads h.af, h.txs.reads⟩
theorem RecA.own.below {w w' : World} {lo hi : Nat} {r : RecA} (h : r.own w lo hi) (hb : Below w.heap.size w w') : r.own w' lo hi := ⟨OwnO.below h.bf hb, OwnO.below h.af hb, h.txs.below hb, h.apart⟩
theorem RecA.own.within {w w' : World} {lo hi l u : Nat} {r : RecA} (h : r.own w lo hi) (hw : Within l u w w') (hd : hi ≤ l ∨ u ≤ lo) : r.own w' lo hi := ⟨OwnO.within h.bf hw hd, OwnO.within h.af hw hd, h.txs.within hw hd, h.apart⟩
theorem RecA.own.widen {w : World} {lo hi lo' hi' : Nat} {r : RecA} (h : r.own w lo hi) (h1 : lo' ≤ lo) (h2 : hi ≤ hi') (h3 : hi' ≤ w.heap.size) : r.own w lo' hi' := ⟨OwnO.widen h.bf h1 h2 h3, OwnO.widen h.af h1 h2 h3, h.txs.widen h1 h2 h3, h.apart⟩
/-- The lists lie one behind the other: no two share a row. -/
theorem rec_apart {w : World} {a b c d : Nat} {s t : SlotA} {aL : Option Addr} {cL : Nat} {ls : List LiveV} (hs : s.own w a b) (ht : t.own w b c) (hl : OwnL w c d aL cL ls) (hbc : b ≤ c) :
    (s.blocks ++ (t.blocks ++ (Value.slice aL ls.length cL).ownBlock.toList)).Nodup := by
  rw [List.nodup_append, List.nodup_append]
  refine ⟨SlotA.blocks_nodup hs, ⟨SlotA.blocks_nodup ht, by cases (Value.slice aL ls.length cL).ownBlock <;> simp, ?_⟩, ?_⟩
  · intro x hx y hy e
    have h1 := (SlotA.blocks_lt ht x hx)
    have h2 := (hl.lt y (Option.mem_toList.1 hy))
    omega
  · intro x hx y hy e
    have h1 := (SlotA.blocks_lt hs x hx)
    rcases List.mem_append.1 hy with h | h
    · have h2 := (SlotA.blocks_lt ht y h); omega
    · have h2 := (hl.lt y (Option.mem_toList.1 h))
      omega

theorem oneR (r : RecA) : ∀ v ∈ r.cells, v.oneCell' = true := by
  intro v hv
  simp only [RecA.cells, List.mem_cons, List.not_mem_nil, or_false] at hv
  rcases hv with rfl | rfl | rfl | rfl | rfl | rfl | rfl | rfl | rfl | rfl | rfl | rfl | rfl | rfl | rfl <;> rfl
/-- Four cells of a box, stored one behind the other. -/
theorem box_quad {w : World} {B : Nat} {l : List Value} {t : TypeId} (b : Box w B l t) (i0 i1 i2 i3 : Nat) (v0 v1 v2 v3 : Value) :
    ∃ W, Hid ((((w.setCell ⟨B, i0, none⟩ v0).setCell ⟨B, i1, none⟩ v1).setCell ⟨B, i2, none⟩ v2).setCell ⟨B, i3, none⟩ v3 = W) ∧ Box W B ((((l.set i0 v0).set i1 v1).set i2 v2).set i3 v3) t ∧ Within B (B + 1) w W ∧ W.heap.size = w.heap.size := by
  refine ⟨_, rfl, (((b.set i0 v0).set i1 v1).set i2 v2).set i3 v3, ?_, ?_⟩
  · exact (((within_set w B i0 v0 (by omega)).trans (within_set _ B i1 v1 (by omega))).trans (within_set _ B i2 v2 (by omega))).trans (within_set _ B i3 v3 (by omega))
  · simp

set_option maxHeartbeats 2000000 in
set_option maxRecDepth 100000 in
theorem toRec_own (r : RecA) (w : World) (hr : r.reads w) (hlb : r.bf.v.o.ints.length ≤ 1099511627776 ∧ r.bf.v.o.refs.length ≤ 1099511627776) (hla : r.af.v.o.ints.length ≤ 1099511627776 ∧ r.af.v.o.refs.length ≤ 1099511627776) (hlt : r.txs.length ≤ 1099511627776) :
    Calls Try.prog 19 #[.agg r.cells.toArray] w fun e w' => ∃ t : RecA, e = .returned (.agg t.cells.toArray) ∧ Hid (t.v = r.v) ∧ t.own w' w.heap.size w'.heap.size ∧ Below w.heap.size w w' := by
  obtain ⟨W, hW, b0, b1, b2, hbW, hsW⟩ := boxes3 w [.int .i64 r.lsn, .int .i64 r.tx, .int .i64 r.prev, .int .i64 r.kind, .int .i64 r.oid, .bool r.bf.v.has, .int .i64 r.bf.v.o.kind, .slice r.bf.aI r.bf.v.o.ints.length r.bf.cI, .slice r.bf.aR r.bf.v.o.refs.length r.bf.cR, .bool r.af.v.has, .int .i64 r.af.v.o.kind, .slice r.af.aI r.af.v.o.ints.length r.af.cI, .slice r.af.aR r.af.v.o.refs.length r.af.cR, .int .i64 r.next, .slice r.aL r.txs.length r.cL] [.int .i64 0, .int .i64 0, .int .i64 0, .int .i64 0, .int .i64 0, .bool false, .int .i64 0, .slice none 0 0, .slice none 0 0, .bool false, .int .i64 0, .slice none 0 0, .slice none 0 0, .int .i64 0, .slice none 0 0] [.int .i64 r.lsn, .int .i64 r.tx, .int .i64 r.prev, .int .i64 r.kind, .int .i64 r.oid, .bool false, .int .i64 0, .slice none 0 0, .slice none 0 0, .bool false, .int .i64 0, .slice none 0 0, .slice none 0 0, .int .i64 0, .slice none 0 0] 57 44 44
  have hs0 : w.heap.size + 1 + 1 < W.heap.size := by omega
  clear hsW
  have C1 := toSlot_own r.bf W (ReadsO.below hr.bf hbW) hlb.1 hlb.2
  simp only [RecA.cells]
  simp only [SlotA.cells] at C1
  go_enter Try.func19, Try.ntmps19
  go_wp2_with fail
  rw [hW.out]
  clear hW
  refine C1.mono ?_
  clear C1
  rintro e w1 ⟨t1, rfl, hv1, ho1, hb1⟩
  have b01 := b0.below hb1 b0.lt
  have b11 := b1.below hb1 b1.lt
  have b21 := b2.below hb1 b2.lt
  have hs1 := hb1.size
  clear b0 b1 b2
  have x5 := b21.cell 5 _ rfl
  have xf5 := b21.frozen 5
  have x6 := b21.cell 6 _ rfl
  have xf6 := b21.frozen 6
  have x7 := b21.cell 7 _ rfl
  have xf7 := b21.frozen 7
  have x8 := b21.cell 8 _ rfl
  have xf8 := b21.frozen 8
  obtain ⟨W2, hW2, b22, hw2, hs2⟩ := box_quad b21 5 6 7 8 (.bool t1.v.has) (.int .i64 t1.v.o.kind) (.slice t1.aI t1.v.o.ints.length t1.cI) (.slice t1.aR t1.v.o.refs.length t1.cR)
  simp only [List.set] at b22
  have b02 := b01.within hw2 (by omega)
  have b12 := b11.within hw2 (by omega)
  have y9 := b01.cell 9 _ rfl
  have y10 := b01.cell 10 _ rfl
  have y11 := b01.cell 11 _ rfl
  have y12 := b01.cell 12 _ rfl
  have hB2 : Below w.heap.size w W2 := (hbW.trans (hb1.mono (by omega))).trans (hw2.below (by omega) (by omega))
  have ho2 := OwnO.within ho1 hw2 (.inr (by omega))
  have C2 := toSlot_own r.af W2 (ReadsO.below hr.af hB2) hla.1 hla.2
  simp only [SlotA.cells] at C2
  clear b21 b01 b11 hw2 ho1
  go_wp2_with fail
  rw [hW2.out]
  refine C2.mono ?_
  clear C2 x5 x6 x7 x8 xf5 xf6 xf7 xf8 y9 y10 y11 y12 hW2
  rintro e w3 ⟨t2, rfl, hv2, ho3, hb3⟩
  have b03 := b02.below hb3 b02.lt
  have b13 := b12.below hb3 b12.lt
  have b23 := b22.below hb3 b22.lt
  have hs3 := hb3.size
  have ho23 := OwnO.below ho2 hb3
  clear b02 b12 b22 ho2
  have x9 := b23.cell 9 _ rfl
  have xf9 := b23.frozen 9
  have x10 := b23.cell 10 _ rfl
  have xf10 := b23.frozen 10
  have x11 := b23.cell 11 _ rfl
  have xf11 := b23.frozen 11
  have x12 := b23.cell 12 _ rfl
  have xf12 := b23.frozen 12
  have x13 := b23.cell 13 _ rfl
  have xf13 := b23.frozen 13
  have y13 := b03.cell 13 _ rfl
  have y14 := b03.cell 14 _ rfl
  obtain ⟨W4, hW4, b24, hw4, hs4⟩ := box_quad b23 9 10 11 12 (.bool t2.v.has) (.int .i64 t2.v.o.kind) (.slice t2.aI t2.v.o.ints.length t2.cI) (.slice t2.aR t2.v.o.refs.length t2.cR)
  simp only [List.set] at b24
  obtain ⟨W5, hW5, b25, hw5, hs5⟩ := box_set b24 13 (.int .i64 r.next)
  simp only [List.set] at b25
  have b15 := (b13.within hw4 (by omega)).within hw5 (by omega)
  have hB5 : Below w.heap.size w W5 := ((hB2.trans (hb3.mono (by omega))).trans (hw4.below (by omega) (by omega))).trans (hw5.below (by omega) (by omega))
  have hoA5 := OwnO.within (OwnO.within ho23 hw4 (.inr (by omega))) hw5 (.inr (by omega))
  have hoB5 := OwnO.within (OwnO.within ho3 hw4 (.inr (by omega))) hw5 (.inr (by omega))
  have C3 := toLiveS_any r.aL r.cL r.txs W5 (hr.txs.below hB5) hlt
  clear b23 b03 b13 hw4 hw5 b24 ho3 ho23 hb3
  go_wp2_with fail
  rw [hW4.out, hW5.out]
  refine C3.mono ?_
  clear C3 x9 x10 x11 x12 x13 xf9 xf10 xf11 xf12 xf13 y13 y14 hW4 hW5
  rintro e w6 ⟨aL, cL, rfl, ho6, hb6⟩
  have b16 := b15.below hb6 b15.lt
  have b26 := b25.below hb6 b25.lt
  have hs6 := hb6.size
  have hoA6 := OwnO.below hoA5 hb6
  have hoB6 := OwnO.below hoB5 hb6
  have HAP : Hid ((t1.blocks ++ (t2.blocks ++ (Value.slice aL r.txs.length cL).ownBlock.toList)).Nodup) := rec_apart (c := W5.heap.size) (OwnO.widen hoA6 (Nat.le_refl _) (show _ ≤ W2.heap.size by omega) (by omega)) (OwnO.widen hoB6 (Nat.le_refl _) (show _ ≤ W5.heap.size by omega) (by omega)) ho6 (by omega)
  clear b15 b25 hoA5 hoB5
  obtain ⟨W7, hW7, b27, hw7, hs7⟩ := box_set b26 14 (.slice aL r.txs.length cL)
  simp only [List.set] at b27
  have b17 := b16.within hw7 (by omega)
  let t : RecA := ⟨r.lsn, r.tx, r.prev, r.kind, r.oid, t1, t2, r.next, r.txs, aL, cL⟩
  have b27' : Box W7 (w.heap.size + 1 + 1) ([] ++ (t.cells ++ [])) 44 := by simpa [t, RecA.cells] using b27
  have htl : t.cells.length = 15 := rfl
  obtain ⟨WF, hWF, bF, hwF, hsF⟩ := range_fill [] [.int .i64 0, .int .i64 0, .int .i64 0, .int .i64 0, .int .i64 0, .bool false, .int .i64 0, .slice none 0 0, .slice none 0 0, .bool false, .int .i64 0, .slice none 0 0, .slice none 0 0, .int .i64 0, .slice none 0 0] t.cells [] (by simpa using b17) (by rw [htl]; rfl)
  have hr7 : W7.rangeAt (w.heap.size + 1 + 1) 0 t.cells := Box.range [] t.cells [] b27'
  have htF : W7.there (w.heap.size + 1) 0 t.cells.toArray.size := b17.there 0 _ (by simp [htl])
  have hrF : WF.rangeAt (w.heap.size + 1) 0 t.cells := Box.range [] t.cells [] bF
  have hi7 : (Try.prog.info? 44).map (·.size) = some t.cells.length := by rw [htl]; kernel_rfl
  have hlF := run_loadVar_mid (P := Try.prog) WF (w.heap.size + 1) 0 44 t.cells _ hrF Try.underlying44 rfl hi7
  have h1P := all_oneCell_toArray (oneR t)
  have hbF : Below w.heap.size w WF := ((hB5.trans (hb6.mono (by omega))).trans (hw7.below (by omega) (by omega))).trans (hwF.below (by omega) (by omega))
  have hoF : t.own WF w.heap.size WF.heap.size := ⟨OwnO.widen (OwnO.within (OwnO.within hoA6 hw7 (.inr (by omega))) hwF (.inr (by omega))) (by omega) (by omega) (Nat.le_refl _), OwnO.widen (OwnO.within (OwnO.within hoB6 hw7 (.inr (by omega))) hwF (.inr (by omega))) (by omega) (by omega) (Nat.le_refl _), ((ho6.within hw7 (.inr (by omega))).within hwF (.inr (by omega))).widen (by omega) (by omega) (Nat.le_refl _), HAP.out⟩
  have hvF : t.v = r.v := by simp only [t, RecA.v, hv1.out, hv2.out]
  have HF : Hid (_ ∧ _ ∧ _ ∧ _) := ⟨hlF, hbF, hoF, hvF⟩
  have HA : Hid (_ ∧ _) := ⟨hr7, htF⟩
  have HI : Hid (_ ∧ _) := ⟨hi7, h1P⟩
  have HWF : Hid (W7.setCells (w.heap.size + 1) 0 t.cells = WF) := hWF
  have x14 := b26.cell 14 _ rfl
  have f14 := b26.frozen 14
  clear hlF hbF hoF hvF hr7 htF hrF hi7 h1P hWF bF hwF hsF b27 b27' b17 hw7 hs7 b16 b26 hoA6 hoB6 ho6 hb6 hB5 htl HAP
  clear_value t
  go_wp2_with (first | (guard_target = wpList _ _ _ (Oper.mk (some 34) _ _ _ _ _ :: _) _ _; refine wpList_load_mid rfl 44 (.tmp 3) rfl (w.heap.size + 1 + 1) 0 rfl t.cells _ (by rw [hW7.out]; exact HA.out.1) Try.underlying44 rfl HI.out.1 ?_) | (guard_target = wpList _ _ _ (Oper.mk none (Op.store _ (Operand.tmp 2) _) _ _ _ _ :: _) _ _; refine wpList_store_mid rfl 44 (.tmp 2) (.tmp 34) rfl (w.heap.size + 1) 0 t.cells.toArray rfl rfl (by rw [hW7.out]; exact HA.out.2) (by rw [List.size_toArray]; exact HI.out.1) HI.out.2 ?_) | fail)
  rw [hW7.out, HWF.out]
  exact bodyPost_ret (v := .agg t.cells.toArray) (results_one Try.results19 rfl HF.out.1) rfl ⟨t, rfl, HF.out.2.2.2, HF.out.2.2.1, HF.out.2.1⟩
end Go.Proofs.Ytnnehpimkdoeoaa

/- The walks of laws.szIntS and szObj. -/
namespace Go.Proofs.Ytnnehpimkdoeoaa
open Go.RowKit

/-- What is left of a size. -/
def szOf (n : Nat) (left : Int) : Int := if left - n < 0 then -1 else left - n

set_option maxHeartbeats 400000 in
theorem szIntS_any (a : Option Addr) (c n : Nat) (left : Int) (w : World) (hn : n ≤ 9223372036854775807) (h0 : 0 ≤ left ∧ left ≤ 1048576) :
    Calls Try.prog 34 #[.slice a n c, .int .i64 left] w fun e w' => e = .returned (.int .i64 (szOf n left)) ∧ w' = w := by
  by_cases h : left - n < 0
  · have HS : Hid (szOf n left = -1) := by unfold szOf; rw [Hid, if_pos h]
    go_enter Try.func34, Try.ntmps34
    go_wp2
    go_ret
    exact ⟨ret_int HS.out.symm, rfl⟩
  · have HS : Hid (szOf n left = left - n) := by unfold szOf; rw [Hid, if_neg h]
    go_enter Try.func34, Try.ntmps34
    go_wp2
    go_ret
    exact ⟨ret_int HS.out.symm, rfl⟩

def szObjOf (o : ObjV) (left : Int) : Int := if left - o.ints.length < 0 then -1 else if left - o.ints.length - o.refs.length < 0 then -1 else left - o.ints.length - o.refs.length

set_option maxHeartbeats 400000 in
set_option maxRecDepth 100000 in
theorem szObj_any (o : ObjV) (aI : Option Addr) (cI : Nat) (aR : Option Addr) (cR : Nat) (left : Int) (w : World) (hnI : o.ints.length ≤ 9223372036854775807) (hnR : o.refs.length ≤ 9223372036854775807) (h0 : 0 ≤ left ∧ left ≤ 1048576) :
    Calls Try.prog 29 #[.agg #[.int .i64 o.kind, .slice aI o.ints.length cI, .slice aR o.refs.length cR], .int .i64 left] w fun e w' => e = .returned (.int .i64 (szObjOf o left)) ∧ Below w.heap.size w w' := by
  obtain ⟨k, ints, refs⟩ := o
  simp only at *
  obtain ⟨W, hW, b0, hbW, hsW⟩ := boxes1 w [.int .i64 k, .slice aI ints.length cI, .slice aR refs.length cR] 52
  have c2 := b0.cell 2 _ rfl
  by_cases h : left - ints.length < 0
  · have HS : Hid (szObjOf ⟨k, ints, refs⟩ left = -1) := by unfold szObjOf; rw [Hid, if_pos h]
    have HZ : Hid (szOf ints.length left = -1) := by unfold szOf; rw [Hid, if_pos h]
    go_enter Try.func29, Try.ntmps29
    go_wp2_with fail
    rw [hW.out]
    refine (szIntS_any aI cI ints.length left W hnI h0).mono ?_
    rintro e w' ⟨rfl, rfl⟩
    rw [HZ.out]
    go_wp2
    go_ret
    exact ⟨ret_int HS.out.symm, hbW⟩
  · have HZ : Hid (szOf ints.length left = left - ints.length) := by unfold szOf; rw [Hid, if_neg h]
    have hn1 : ¬ left < ints.length := by omega
    by_cases h2 : left - ints.length - refs.length < 0
    · have HS : Hid (szObjOf ⟨k, ints, refs⟩ left = -1) := by unfold szObjOf; rw [Hid, if_neg h, if_pos h2]
      have HZ2 : Hid (szOf refs.length (left - ints.length) = -1) := by unfold szOf; rw [Hid, if_pos h2]
      go_enter Try.func29, Try.ntmps29
      go_wp2_with fail
      rw [hW.out]
      refine (szIntS_any aI cI ints.length left W hnI h0).mono ?_
      rintro e w' ⟨rfl, rfl⟩
      rw [HZ.out]
      go_wp2_with fail
      refine (szIntS_any aR cR refs.length (left - ints.length) _ hnR (by omega)).mono ?_
      rintro e w' ⟨rfl, rfl⟩
      rw [HZ2.out]
      go_wp2
      go_ret
      exact ⟨ret_int HS.out.symm, hbW⟩
    · have HS : Hid (szObjOf ⟨k, ints, refs⟩ left = left - ints.length - refs.length) := by unfold szObjOf; rw [Hid, if_neg h, if_neg h2]
      have HZ2 : Hid (szOf refs.length (left - ints.length) = left - ints.length - refs.length) := by unfold szOf; rw [Hid, if_neg h2]
      go_enter Try.func29, Try.ntmps29
      go_wp2_with fail
      rw [hW.out]
      refine (szIntS_any aI cI ints.length left W hnI h0).mono ?_
      rintro e w' ⟨rfl, rfl⟩
      rw [HZ.out]
      go_wp2_with fail
      refine (szIntS_any aR cR refs.length (left - ints.length) _ hnR (by omega)).mono ?_
      rintro e w' ⟨rfl, rfl⟩
      rw [HZ2.out]
      go_wp2
      go_ret
      exact ⟨ret_int HS.out.symm, hbW⟩

end Go.Proofs.Ytnnehpimkdoeoaa
