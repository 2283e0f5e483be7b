/- Several texts in one, in their order. -/
import Derived.Test.YtjaojcgfgkppgaaDoorPiece20
import Derived.Test.YtjaojcgfgkppgaaDoorPiece4
import Derived.Test.YtjaojcgfgkppgaaDoorPiece7
/- Appending Lives that are read to a row that the call owns. -/
namespace Go.Proofs.YtjaojcgfgkppgaaDoor
open Go.RowKit

theorem lives_oneCell (zs : List LiveV) : ∀ v ∈ cellsL zs, v.oneCell' = true := by
  intro v hv
  obtain ⟨s, _, hs⟩ := List.mem_flatMap.1 hv
  simp only [LiveV.cells, List.mem_cons, List.not_mem_nil, or_false] at hs
  rcases hs with rfl | rfl | rfl <;> rfl

theorem append_lives {w : World} {ops : Array Oper} {rest : List Oper} {o : Oper} {act : Act} {Q : Exit → Act → World → Prop} (hgd : o.guard = none) (s x : Operand)
    (ho : o.op = .call { callee := .builtin .append, args := #[s, x], argTypes := #[29, 29] })
    (lo hi : Nat) (a : Option Addr) (c : Nat) (xs : List LiveV) (hs : act.eval s = .slice a xs.length c) (hown : OwnL w lo hi a c xs)
    (sa : Option Addr) (sc : Nat) (zs : List LiveV) (hx : act.eval x = .slice sa zs.length sc) (hr : ReadsL w sa zs) (hc : sa = none → sc = 0)
    (hb : xs.length + zs.length ≤ 1099511627776) (hlo : lo ≤ w.heap.size)
    (h : ∀ a' c' ys w', Hid (ys = xs ++ zs) → OwnL w' lo w'.heap.size a' c' ys → w.grownBy w' (Value.slice a xs.length c).ownBlock → wpList Tryd.prog ops Q rest (act.put o.dst (.slice a' ys.length c')) w') :
    wpList Tryd.prog ops Q (o :: rest) act w := by
  obtain ⟨i0, hi0, hz0, hz1, hz2⟩ := info_parts Tryd.infoLive
  have fin : ∀ v' w', w'.ownsRow lo 65 3 v' (xs.length + zs.length) (cellsL xs ++ cellsL zs) → w.grownBy w' (Value.slice a xs.length c).ownBlock → wpList Tryd.prog ops Q rest (act.put o.dst v') w' := by
    intro v' w' h1 h2
    rw [← cellsL_app, ← List.length_append] at h1
    have sh : ∃ a' c', v' = .slice a' (xs ++ zs).length c' := by
      rcases h1.2 with ⟨rfl, h0⟩ | ⟨g, cap, cur, rfl, _⟩
      · exact ⟨none, 0, by rw [h0]⟩
      · exact ⟨_, _, rfl⟩
    obtain ⟨a', c', rfl⟩ := sh
    exact h a' c' (xs ++ zs) w' rfl ⟨h1, Nat.le_refl _, fun k hk => (h1.lt k hk).2⟩ h2
  cases sa with
  | none =>
    have hz : zs = [] := by
      by_cases e : zs = []
      · exact e
      · obtain ⟨b, off, hh, _⟩ := hr e
        cases hh
    subst hz
    have := hc rfl
    subst this
    exact wpList_append_own_none hgd s x 29 ho lo 65 i0 3 Tryd.underlying29 hi0 _ _ _ hs hown.1 hx (fin _ w (by simpa [cellsL] using hown.1) (World.grownBy.refl _ _))
  | some ad =>
    refine wpList_append_own w hgd s x 29 ho lo 65 i0 (.agg #[.int .i64 0, .int .i64 0, .bool false]) 3 24 Tryd.underlying29 hi0 hz0 hz1 hz2 rfl (by decide) _ _ _ hs hown.1 ad zs.length sc (cellsL zs) hx (by rw [cellsL_len]) ?_ (lives_oneCell _) (by simp only [maxLen]; omega) (by omega) hlo (fun v' w' h1 h2 _ => fin v' w' h1 h2)
    intro j u hj
    have hjl : j < zs.length * 3 := by rw [← cellsL_len]; exact (List.getElem?_eq_some_iff.1 hj).1
    have hne : zs ≠ [] := by intro e; simp [e] at hjl
    obtain ⟨b, off, hh, hcell⟩ := hr hne
    cases hh
    have hat := cellsL_at zs (j / 3) (j % 3) (by omega) (Nat.mod_lt _ (by omega))
    rw [show j / 3 * 3 + j % 3 = j by omega, hj] at hat
    obtain ⟨k0, k1, k2⟩ := hcell (j / 3) (by omega)
    rw [Addr_add]
    rcases (by omega : j % 3 = 0 ∨ j % 3 = 1 ∨ j % 3 = 2) with h' | h' | h' <;> rw [h'] at hat <;> simp only [LiveV.cells, List.getElem?_cons_zero, List.getElem?_cons_succ, Option.some.injEq] at hat
    · rw [show off + j = off + j / 3 * 3 by omega, k0, hat]
    · rw [show off + j = off + j / 3 * 3 + 1 by omega, k1, hat]
    · rw [show off + j = off + j / 3 * 3 + 2 by omega, k2, hat]
theorem readsL_one (w : World) (z : LiveV) (t : TypeId) : ReadsL (w.alloc (.cells #[.int .i64 z.tx, .int .i64 z.last, .bool z.aborts] t)) (some ⟨w.heap.size, 0, none⟩) [z] := by
  intro _
  refine ⟨w.heap.size, 0, rfl, fun k hk => ?_⟩
  obtain rfl : k = 0 := by simpa using hk
  have b : Box (w.alloc (.cells #[.int .i64 z.tx, .int .i64 z.last, .bool z.aborts] t)) w.heap.size [.int .i64 z.tx, .int .i64 z.last, .bool z.aborts] t := box_new _ _ _
  exact ⟨b.cell 0 _ rfl, b.cell 1 _ rfl, b.cell 2 _ rfl⟩
end Go.Proofs.YtjaojcgfgkppgaaDoor

/- Appending what is under way as a step of a region that draws its order. -/
namespace Go.Proofs.YtjaojcgfgkppgaaDoor
open Go.RowKit

theorem run_append_lives {w : World} (ty : TypeId) (lo hi : Nat) (a : Option Addr) (c : Nat) (xs : List LiveV) (hown : OwnL w lo hi a c xs)
    (sa : Option Addr) (sc : Nat) (zs : List LiveV) (hr : ReadsL w sa zs) (hc : sa = none → sc = 0) (hb : xs.length + zs.length ≤ 1099511627776) (hlo : lo ≤ w.heap.size) :
    ∃ a' c' ys w', (Builtin.append_ #[29, 29] ty #[.slice a xs.length c, .slice sa zs.length sc]).run Tryd.prog w = .ok (.slice a' ys.length c') w' ∧ Hid (ys = xs ++ zs) ∧ OwnL w' lo w'.heap.size a' c' ys ∧ w.grownBy w' (Value.slice a xs.length c).ownBlock ∧
      (∀ k, (Value.slice a' ys.length c').ownBlock = some k → (Value.slice a xs.length c).ownBlock = some k ∨ k = w.heap.size) := by
  obtain ⟨i0, hi0, hz0, hz1, hz2⟩ := info_parts Tryd.infoLive
  cases sa with
  | none =>
    have hz : zs = [] := by
      by_cases e : zs = []
      · exact e
      · obtain ⟨b, off, hh, _⟩ := hr e
        cases hh
    subst hz
    have := hc rfl
    subst this
    refine ⟨a, c, xs, w, run_append_owned_none (P := Tryd.prog) (w := w) lo 29 ty 65 i0 3 Tryd.underlying29 hi0 _ _ _ hown.1, (by simp [Hid]), ⟨hown.1, Nat.le_refl _, fun k hk => (hown.1.lt k hk).2⟩, World.grownBy.refl _ _, fun k hk => .inl hk⟩
  | some ad =>
    obtain ⟨v', w', h1, h2, h3, _, h5⟩ := run_append_own_at (P := Tryd.prog) w lo 29 ty 65 i0 (.agg #[.int .i64 0, .int .i64 0, .bool false]) 3 24 Tryd.underlying29 hi0 hz0 hz1 hz2 rfl (by decide) _ _ _ hown.1 ad zs.length sc (cellsL zs) (by rw [cellsL_len]) (by
      intro j u hj
      have hjl : j < zs.length * 3 := by rw [← cellsL_len]; exact (List.getElem?_eq_some_iff.1 hj).1
      have hne : zs ≠ [] := by intro e; simp [e] at hjl
      obtain ⟨b, off, hh, hcell⟩ := hr hne
      cases hh
      have hat := cellsL_at zs (j / 3) (j % 3) (by omega) (Nat.mod_lt _ (by omega))
      rw [show j / 3 * 3 + j % 3 = j by omega, hj] at hat
      obtain ⟨k0, k1, k2⟩ := hcell (j / 3) (by omega)
      rw [Addr_add]
      rcases (by omega : j % 3 = 0 ∨ j % 3 = 1 ∨ j % 3 = 2) with h' | h' | h' <;> rw [h'] at hat <;> simp only [LiveV.cells, List.getElem?_cons_zero, List.getElem?_cons_succ, Option.some.injEq] at hat
      · rw [show off + j = off + j / 3 * 3 by omega, k0, hat]
      · rw [show off + j = off + j / 3 * 3 + 1 by omega, k1, hat]
      · rw [show off + j = off + j / 3 * 3 + 2 by omega, k2, hat]) (lives_oneCell _) (by simp only [maxLen]; omega) (by omega) hlo
    rw [← cellsL_app, ← List.length_append] at h2
    have sh : ∃ a' c', v' = .slice a' (xs ++ zs).length c' := by
      rcases h2.2 with ⟨rfl, h0⟩ | ⟨g, cap, cur, rfl, _⟩
      · exact ⟨none, 0, by rw [h0]⟩
      · exact ⟨_, _, rfl⟩
    obtain ⟨a', c', rfl⟩ := sh
    refine ⟨a', c', xs ++ zs, w', h1, rfl, ⟨h2, Nat.le_refl _, fun k hk => (h2.lt k hk).2⟩, h3, fun k hk => ?_⟩
    rcases h5 with h5 | h5
    · exact .inl (by rw [← h5]; exact hk)
    · rw [h5] at hk
      exact .inr (Option.some.inj hk).symm

theorem step_append_lives {w : World} {ops : Array Oper} {o : Oper} {act : Act} {K : Act → World → Prop} {Q : Exit → Act → World → Prop} {E : Prop} (hgd : o.guard = none) (s x : Operand)
    (ho : o.op = .call { callee := .builtin .append, args := #[s, x], argTypes := #[29, 29] })
    (lo hi : Nat) (a : Option Addr) (c : Nat) (xs : List LiveV) (hs : act.eval s = .slice a xs.length c) (hown : OwnL w lo hi a c xs)
    (sa : Option Addr) (sc : Nat) (zs : List LiveV) (hx : act.eval x = .slice sa zs.length sc) (hr : ReadsL w sa zs) (hc : sa = none → sc = 0)
    (hb : xs.length + zs.length ≤ 1099511627776) (hlo : lo ≤ w.heap.size)
    (h : ∀ a' c' ys w', Hid (ys = xs ++ zs) → OwnL w' lo w'.heap.size a' c' ys → w.grownBy w' (Value.slice a xs.length c).ownBlock →
      (∀ k, (Value.slice a' ys.length c').ownBlock = some k → (Value.slice a xs.length c).ownBlock = some k ∨ k = w.heap.size) → K (act.put o.dst (.slice a' ys.length c')) w') :
    if Region.wanted o (yielded ops act.tmps) = true then Oper.wp Tryd.prog o act w K Q else E := by
  have hw : Region.wanted o (yielded ops act.tmps) = true := by simp [Region.wanted, hgd]
  rw [if_pos hw]
  obtain ⟨a', c', ys, w', hrun, h1, h2, h3, h4⟩ := run_append_lives (w := w) o.type lo hi a c xs hown sa sc zs hr hc hb hlo
  unfold Oper.wp execOp
  simp only [ho, resolve, invoke, builtin, Sem.run_bind, Sem.run_pure, Result.andThen_ok, List.map_toArray, List.map_cons, List.map_nil, hs, hx, hrun]
  exact h a' c' ys w' h1 h2 h3 h4

end Go.Proofs.YtjaojcgfgkppgaaDoor

/- Records: what they are, what a walk reads and owns of them; the walk of laws.toRec. -/
namespace Go.Proofs.YtjaojcgfgkppgaaDoor
open Go.RowKit

structure RecV where
  lsn : Int
  tx : Int
  prev : Int
  kind : Int
  oid : Int
  bf : SlotV
  af : SlotV
  next : Int
  txs : List LiveV

/-- A record, and where its lists lie. -/
structure RecA where
  lsn : Int
  tx : Int
  prev : Int
  kind : Int
  oid : Int
  bf : SlotA
  af : SlotA
  next : Int
  txs : List LiveV
  aL : Option Addr
  cL : Nat
def RecA.v (r : RecA) : RecV := ⟨r.lsn, r.tx, r.prev, r.kind, r.oid, r.bf.v, r.af.v, r.next, r.txs⟩
def RecA.cells (r : RecA) : List Value := [.int .i64 r.lsn, .int .i64 r.tx, .int .i64 r.prev, .int .i64 r.kind, .int .i64 r.oid, .bool r.bf.v.has, .int .i64 r.bf.v.o.kind, .slice r.bf.aI r.bf.v.o.ints.length r.bf.cI, .slice r.bf.aR r.bf.v.o.refs.length r.bf.cR, .bool r.af.v.has, .int .i64 r.af.v.o.kind, .slice r.af.aI r.af.v.o.ints.length r.af.cI, .slice r.af.aR r.af.v.o.refs.length r.af.cR, .int .i64 r.next, .slice r.aL r.txs.length r.cL]
structure RecA.reads (w : World) (r : RecA) : Prop where
  bf : r.bf.reads w
  af : r.af.reads w
  txs : ReadsL w r.aL r.txs
theorem RecA.reads.below {w w' : World} {r : RecA} (h : r.reads w) (hb : Below w.heap.size w w') : r.reads w' := ⟨ReadsO.below h.bf hb, ReadsO.below h.af hb, h.txs.below hb⟩
def RecA.blocks (r : RecA) : List Nat := r.bf.blocks ++ (r.af.blocks ++ (Value.slice r.aL r.txs.length r.cL).ownBlock.toList)
structure RecA.own (w : World) (lo hi : Nat) (r : RecA) : Prop where
  bf : r.bf.own w lo hi
  af : r.af.own w lo hi
  txs : OwnL w lo hi r.aL r.cL r.txs
  apart : r.blocks.Nodup
theorem RecA.own.reads {w : World} {lo hi : Nat} {r : RecA} (h : r.own w lo hi) : r.reads w := ⟨OwnO.reads h.bf, OwnO.reads h.af, h.txs.reads⟩
theorem RecA.own.below {w w' : World} {lo hi : Nat} {r : RecA} (h : r.own w lo hi) (hb : Below w.heap.size w w') : r.own w' lo hi := ⟨OwnO.below h.bf hb, OwnO.below h.af hb, h.txs.below hb, h.apart⟩
theorem RecA.own.within {w w' : World} {lo hi l u : Nat} {r : RecA} (h : r.own w lo hi) (hw : Within l u w w') (hd : hi ≤ l ∨ u ≤ lo) : r.own w' lo hi := ⟨OwnO.within h.bf hw hd, OwnO.within h.af hw hd, h.txs.within hw hd, h.apart⟩
theorem RecA.own.widen {w : World} {lo hi lo' hi' : Nat} {r : RecA} (h : r.own w lo hi) (h1 : lo' ≤ lo) (h2 : hi ≤ hi') (h3 : hi' ≤ w.heap.size) : r.own w lo' hi' := ⟨OwnO.widen h.bf h1 h2 h3, OwnO.widen h.af h1 h2 h3, h.txs.widen h1 h2 h3, h.apart⟩
/-- The lists lie one behind the other: no two share a row. -/
theorem rec_apart {w : World} {a b c d : Nat} {s t : SlotA} {aL : Option Addr} {cL : Nat} {ls : List LiveV} (hs : s.own w a b) (ht : t.own w b c) (hl : OwnL w c d aL cL ls) (hbc : b ≤ c) :
    (s.blocks ++ (t.blocks ++ (Value.slice aL ls.length cL).ownBlock.toList)).Nodup := by
  rw [List.nodup_append, List.nodup_append]
  refine ⟨SlotA.blocks_nodup hs, ⟨SlotA.blocks_nodup ht, by cases (Value.slice aL ls.length cL).ownBlock <;> simp, ?_⟩, ?_⟩
  · intro x hx y hy e
    have h1 := (SlotA.blocks_lt ht x hx)
    have h2 := (hl.lt y (Option.mem_toList.1 hy))
    omega
  · intro x hx y hy e
    have h1 := (SlotA.blocks_lt hs x hx)
    rcases List.mem_append.1 hy with h | h
    · have h2 := (SlotA.blocks_lt ht y h); omega
    · have h2 := (hl.lt y (Option.mem_toList.1 h))
      omega

theorem oneR (r : RecA) : ∀ v ∈ r.cells, v.oneCell' = true := by
  intro v hv
  simp only [RecA.cells, List.mem_cons, List.not_mem_nil, or_false] at hv
  rcases hv with rfl | rfl | rfl | rfl | rfl | rfl | rfl | rfl | rfl | rfl | rfl | rfl | rfl | rfl | rfl <;> rfl
/-- Four cells of a box, stored one behind the other. -/
theorem box_quad {w : World} {B : Nat} {l : List Value} {t : TypeId} (b : Box w B l t) (i0 i1 i2 i3 : Nat) (v0 v1 v2 v3 : Value) :
    ∃ W, Hid ((((w.setCell ⟨B, i0, none⟩ v0).setCell ⟨B, i1, none⟩ v1).setCell ⟨B, i2, none⟩ v2).setCell ⟨B, i3, none⟩ v3 = W) ∧ Box W B ((((l.set i0 v0).set i1 v1).set i2 v2).set i3 v3) t ∧ Within B (B + 1) w W ∧ W.heap.size = w.heap.size := by
  refine ⟨_, rfl, (((b.set i0 v0).set i1 v1).set i2 v2).set i3 v3, ?_, ?_⟩
  · exact (((within_set w B i0 v0 (by omega)).trans (within_set _ B i1 v1 (by omega))).trans (within_set _ B i2 v2 (by omega))).trans (within_set _ B i3 v3 (by omega))
  · simp

set_option maxHeartbeats 2000000 in
set_option maxRecDepth 100000 in
theorem toRec_own (r : RecA) (w : World) (hr : r.reads w) (hlb : r.bf.v.o.ints.length ≤ 1099511627776 ∧ r.bf.v.o.refs.length ≤ 1099511627776) (hla : r.af.v.o.ints.length ≤ 1099511627776 ∧ r.af.v.o.refs.length ≤ 1099511627776) (hlt : r.txs.length ≤ 1099511627776) :
    Calls Tryd.prog 20 #[.agg r.cells.toArray] w fun e w' => ∃ t : RecA, e = .returned (.agg t.cells.toArray) ∧ Hid (t.v = r.v) ∧ t.own w' w.heap.size w'.heap.size ∧ Below w.heap.size w w' := by
  obtain ⟨W, hW, b0, b1, b2, hbW, hsW⟩ := boxes3 w [.int .i64 r.lsn, .int .i64 r.tx, .int .i64 r.prev, .int .i64 r.kind, .int .i64 r.oid, .bool r.bf.v.has, .int .i64 r.bf.v.o.kind, .slice r.bf.aI r.bf.v.o.ints.length r.bf.cI, .slice r.bf.aR r.bf.v.o.refs.length r.bf.cR, .bool r.af.v.has, .int .i64 r.af.v.o.kind, .slice r.af.aI r.af.v.o.ints.length r.af.cI, .slice r.af.aR r.af.v.o.refs.length r.af.cR, .int .i64 r.next, .slice r.aL r.txs.length r.cL] [.int .i64 0, .int .i64 0, .int .i64 0, .int .i64 0, .int .i64 0, .bool false, .int .i64 0, .slice none 0 0, .slice none 0 0, .bool false, .int .i64 0, .slice none 0 0, .slice none 0 0, .int .i64 0, .slice none 0 0] [.int .i64 r.lsn, .int .i64 r.tx, .int .i64 r.prev, .int .i64 r.kind, .int .i64 r.oid, .bool false, .int .i64 0, .slice none 0 0, .slice none 0 0, .bool false, .int .i64 0, .slice none 0 0, .slice none 0 0, .int .i64 0, .slice none 0 0] 52 31 31
  have hs0 : w.heap.size + 1 + 1 < W.heap.size := by omega
  clear hsW
  have C1 := toSlot_own r.bf W (ReadsO.below hr.bf hbW) hlb.1 hlb.2
  simp only [RecA.cells]
  simp only [SlotA.cells] at C1
  go_enter Tryd.func20, Tryd.ntmps20
  go_wp2_with fail
  rw [hW.out]
  clear hW
  refine C1.mono ?_
  clear C1
  rintro e w1 ⟨t1, rfl, hv1, ho1, hb1⟩
  have b01 := b0.below hb1 b0.lt
  have b11 := b1.below hb1 b1.lt
  have b21 := b2.below hb1 b2.lt
  have hs1 := hb1.size
  clear b0 b1 b2
  have x5 := b21.cell 5 _ rfl
  have xf5 := b21.frozen 5
  have x6 := b21.cell 6 _ rfl
  have xf6 := b21.frozen 6
  have x7 := b21.cell 7 _ rfl
  have xf7 := b21.frozen 7
  have x8 := b21.cell 8 _ rfl
  have xf8 := b21.frozen 8
  obtain ⟨W2, hW2, b22, hw2, hs2⟩ := box_quad b21 5 6 7 8 (.bool t1.v.has) (.int .i64 t1.v.o.kind) (.slice t1.aI t1.v.o.ints.length t1.cI) (.slice t1.aR t1.v.o.refs.length t1.cR)
  simp only [List.set] at b22
  have b02 := b01.within hw2 (by omega)
  have b12 := b11.within hw2 (by omega)
  have y9 := b01.cell 9 _ rfl
  have y10 := b01.cell 10 _ rfl
  have y11 := b01.cell 11 _ rfl
  have y12 := b01.cell 12 _ rfl
  have hB2 : Below w.heap.size w W2 := (hbW.trans (hb1.mono (by omega))).trans (hw2.below (by omega) (by omega))
  have ho2 := OwnO.within ho1 hw2 (.inr (by omega))
  have C2 := toSlot_own r.af W2 (ReadsO.below hr.af hB2) hla.1 hla.2
  simp only [SlotA.cells] at C2
  clear b21 b01 b11 hw2 ho1
  go_wp2_with fail
  rw [hW2.out]
  refine C2.mono ?_
  clear C2 x5 x6 x7 x8 xf5 xf6 xf7 xf8 y9 y10 y11 y12 hW2
  rintro e w3 ⟨t2, rfl, hv2, ho3, hb3⟩
  have b03 := b02.below hb3 b02.lt
  have b13 := b12.below hb3 b12.lt
  have b23 := b22.below hb3 b22.lt
  have hs3 := hb3.size
  have ho23 := OwnO.below ho2 hb3
  clear b02 b12 b22 ho2
  have x9 := b23.cell 9 _ rfl
  have xf9 := b23.frozen 9
  have x10 := b23.cell 10 _ rfl
  have xf10 := b23.frozen 10
  have x11 := b23.cell 11 _ rfl
  have xf11 := b23.frozen 11
  have x12 := b23.cell 12 _ rfl
  have xf12 := b23.frozen 12
  have x13 := b23.cell 13 _ rfl
  have xf13 := b23.frozen 13
  have y13 := b03.cell 13 _ rfl
  have y14 := b03.cell 14 _ rfl
  obtain ⟨W4, hW4, b24, hw4, hs4⟩ := box_quad b23 9 10 11 12 (.bool t2.v.has) (.int .i64 t2.v.o.kind) (.slice t2.aI t2.v.o.ints.length t2.cI) (.slice t2.aR t2.v.o.refs.length t2.cR)
  simp only [List.set] at b24
  obtain ⟨W5, hW5, b25, hw5, hs5⟩ := box_set b24 13 (.int .i64 r.next)
  simp only [List.set] at b25
  have b15 := (b13.within hw4 (by omega)).within hw5 (by omega)
  have hB5 : Below w.heap.size w W5 := ((hB2.trans (hb3.mono (by omega))).trans (hw4.below (by omega) (by omega))).trans (hw5.below (by omega) (by omega))
  have hoA5 := OwnO.within (OwnO.within ho23 hw4 (.inr (by omega))) hw5 (.inr (by omega))
  have hoB5 := OwnO.within (OwnO.within ho3 hw4 (.inr (by omega))) hw5 (.inr (by omega))
  have C3 := toLiveS_any r.aL r.cL r.txs W5 (hr.txs.below hB5) hlt
  clear b23 b03 b13 hw4 hw5 b24 ho3 ho23 hb3
  go_wp2_with fail
  rw [hW4.out, hW5.out]
  refine C3.mono ?_
  clear C3 x9 x10 x11 x12 x13 xf9 xf10 xf11 xf12 xf13 y13 y14 hW4 hW5
  rintro e w6 ⟨aL, cL, rfl, ho6, hb6⟩
  have b16 := b15.below hb6 b15.lt
  have b26 := b25.below hb6 b25.lt
  have hs6 := hb6.size
  have hoA6 := OwnO.below hoA5 hb6
  have hoB6 := OwnO.below hoB5 hb6
  have HAP : Hid ((t1.blocks ++ (t2.blocks ++ (Value.slice aL r.txs.length cL).ownBlock.toList)).Nodup) := rec_apart (c := W5.heap.size) (OwnO.widen hoA6 (Nat.le_refl _) (show _ ≤ W2.heap.size by omega) (by omega)) (OwnO.widen hoB6 (Nat.le_refl _) (show _ ≤ W5.heap.size by omega) (by omega)) ho6 (by omega)
  clear b15 b25 hoA5 hoB5
  obtain ⟨W7, hW7, b27, hw7, hs7⟩ := box_set b26 14 (.slice aL r.txs.length cL)
  simp only [List.set] at b27
  have b17 := b16.within hw7 (by omega)
  let t : RecA := ⟨r.lsn, r.tx, r.prev, r.kind, r.oid, t1, t2, r.next, r.txs, aL, cL⟩
  have b27' : Box W7 (w.heap.size + 1 + 1) ([] ++ (t.cells ++ [])) 31 := by simpa [t, RecA.cells] using b27
  have htl : t.cells.length = 15 := rfl
  obtain ⟨WF, hWF, bF, hwF, hsF⟩ := range_fill [] [.int .i64 0, .int .i64 0, .int .i64 0, .int .i64 0, .int .i64 0, .bool false, .int .i64 0, .slice none 0 0, .slice none 0 0, .bool false, .int .i64 0, .slice none 0 0, .slice none 0 0, .int .i64 0, .slice none 0 0] t.cells [] (by simpa using b17) (by rw [htl]; rfl)
  have hr7 : W7.rangeAt (w.heap.size + 1 + 1) 0 t.cells := Box.range [] t.cells [] b27'
  have htF : W7.there (w.heap.size + 1) 0 t.cells.toArray.size := b17.there 0 _ (by simp [htl])
  have hrF : WF.rangeAt (w.heap.size + 1) 0 t.cells := Box.range [] t.cells [] bF
  have hi7 : (Tryd.prog.info? 31).map (·.size) = some t.cells.length := by rw [htl]; kernel_rfl
  have hlF := run_loadVar_mid (P := Tryd.prog) WF (w.heap.size + 1) 0 31 t.cells _ hrF Tryd.underlying31 rfl hi7
  have h1P := all_oneCell_toArray (oneR t)
  have hbF : Below w.heap.size w WF := ((hB5.trans (hb6.mono (by omega))).trans (hw7.below (by omega) (by omega))).trans (hwF.below (by omega) (by omega))
  have hoF : t.own WF w.heap.size WF.heap.size := ⟨OwnO.widen (OwnO.within (OwnO.within hoA6 hw7 (.inr (by omega))) hwF (.inr (by omega))) (by omega) (by omega) (Nat.le_refl _), OwnO.widen (OwnO.within (OwnO.within hoB6 hw7 (.inr (by omega))) hwF (.inr (by omega))) (by omega) (by omega) (Nat.le_refl _), ((ho6.within hw7 (.inr (by omega))).within hwF (.inr (by omega))).widen (by omega) (by omega) (Nat.le_refl _), HAP.out⟩
  have hvF : t.v = r.v := by simp only [t, RecA.v, hv1.out, hv2.out]
  have HF : Hid (_ ∧ _ ∧ _ ∧ _) := ⟨hlF, hbF, hoF, hvF⟩
  have HA : Hid (_ ∧ _) := ⟨hr7, htF⟩
  have HI : Hid (_ ∧ _) := ⟨hi7, h1P⟩
  have HWF : Hid (W7.setCells (w.heap.size + 1) 0 t.cells = WF) := hWF
  have x14 := b26.cell 14 _ rfl
  have f14 := b26.frozen 14
  clear hlF hbF hoF hvF hr7 htF hrF hi7 h1P hWF bF hwF hsF b27 b27' b17 hw7 hs7 b16 b26 hoA6 hoB6 ho6 hb6 hB5 htl HAP
  clear_value t
  go_wp2_with (first | (guard_target = wpList _ _ _ (Oper.mk (some 34) _ _ _ _ _ :: _) _ _; refine wpList_load_mid rfl 31 (.tmp 3) rfl (w.heap.size + 1 + 1) 0 rfl t.cells _ (by rw [hW7.out]; exact HA.out.1) Tryd.underlying31 rfl HI.out.1 ?_) | (guard_target = wpList _ _ _ (Oper.mk none (Op.store _ (Operand.tmp 2) _) _ _ _ _ :: _) _ _; refine wpList_store_mid rfl 31 (.tmp 2) (.tmp 34) rfl (w.heap.size + 1) 0 t.cells.toArray rfl rfl (by rw [hW7.out]; exact HA.out.2) (by rw [List.size_toArray]; exact HI.out.1) HI.out.2 ?_) | fail)
  rw [hW7.out, HWF.out]
  exact bodyPost_ret (v := .agg t.cells.toArray) (results_one Tryd.results20 rfl HF.out.1) rfl ⟨t, rfl, HF.out.2.2.2, HF.out.2.2.1, HF.out.2.1⟩
end Go.Proofs.YtjaojcgfgkppgaaDoor
