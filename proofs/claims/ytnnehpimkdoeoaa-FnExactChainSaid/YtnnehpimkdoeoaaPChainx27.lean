/- Several texts in one, in their order. -/
import Derived.Test.YtnnehpimkdoeoaaPChainx26
import Derived.Test.YtnnehpimkdoeoaaPChainx10
import Derived.Test.YtnnehpimkdoeoaaPChainx22
/- What came in, read: a record. -/
namespace Go.Proofs.Ytnnehpimkdoeoaa
open Go.ChangeShapes Go.WideShapes Go.ChangeAt Go.RowKit

/-- A record as it came in: its lists are read, its numbers are 64-bit numbers. -/
structure InRec (w : World) (r : RecA) : Prop where
  bf : InSlot w r.bf
  af : InSlot w r.af
  txs : ReadsL w r.aL r.txs
  lT : r.txs.length ≤ maxLen
  nums : InI64 r.lsn ∧ InI64 r.tx ∧ InI64 r.prev ∧ InI64 r.kind ∧ InI64 r.oid ∧ InI64 r.next
theorem InRec.reads {w : World} {r : RecA} (h : InRec w r) : r.reads w := ⟨h.bf.reads, h.af.reads, h.txs⟩

section
variable {H : Type} {enc : TypeId × Value → H} {w : World} {base : Nat} {spare : Nat → Bool} {held : Bool}

theorem Try.cellsLv : Try.prog.cellsOf 73 = 3 := by kernel_rfl
theorem Try.cellsLvs : Try.prog.cellsOf 55 = 1 := by kernel_rfl
theorem Try.cellsRc : Try.prog.cellsOf 57 = 15 := by kernel_rfl

set_option maxRecDepth 100000 in
theorem trod_live {fuel : Nat} {cs : List Value} {x : DataW H × List MemPlace} (h : DataW.trod enc Try.prog w base spare held fuel 73 cs = some x) : ∃ t : LiveV, cs = t.cells := by
  obtain ⟨xs, n, _, _, hlen, hxl, hf⟩ := DataW.trod_struct Try.underlying73 h
  rw [Try.cellsLv] at hlen
  match cs, hlen with
  | [v0, v1, v2], _ =>
    have f0 := hf 0 _ rfl
    have f1 := hf 1 _ rfl
    have f2 := hf 2 _ rfl
    obtain ⟨y0, hx0⟩ := some_at xs 0 (by rw [hxl]; decide)
    obtain ⟨y1, hx1⟩ := some_at xs 1 (by rw [hxl]; decide)
    obtain ⟨y2, hx2⟩ := some_at xs 2 (by rw [hxl]; decide)
    rw [hx0] at f0
    rw [hx1] at f1
    rw [hx2] at f2
    simp only [List.getElem_toArray, List.getElem_cons_zero, List.getElem_cons_succ, Try.cellsB, Try.cellsI, List.drop, List.take] at f0 f1 f2
    obtain ⟨a, e0, _⟩ := trod_num f0
    obtain ⟨b, e1, _⟩ := trod_num f1
    obtain ⟨c, e2, _⟩ := DataW.trod_bool Try.underlying4 f2
    simp only [List.cons.injEq, and_true] at e0 e1 e2
    subst e0 e1 e2
    exact ⟨⟨a, b, c⟩, rfl⟩

set_option maxRecDepth 100000 in
theorem trod_lives {fuel : Nat} {cs : List Value} {x : DataW H × List MemPlace} (h : DataW.trod enc Try.prog w base spare held fuel 55 cs = some x) :
    ∃ (a : Option Addr) (c : Nat) (ls : List LiveV), cs = [.slice a ls.length c] ∧ ReadsL w a ls ∧ ls.length ≤ maxLen := by
  rcases DataW.trod_slice Try.underlying55 h with ⟨rfl, _⟩ | ⟨a, len, cap, elems, rest, n, _, rfl, _, _, hl, hm, hlen, hel, _, _⟩
  · exact ⟨none, 0, [], rfl, ReadsL.nil _ _, by simp⟩
  rw [Try.cellsLv] at hel
  have each : ∀ i, i < len → ∃ t : LiveV, w.cells? base (a.add (i * 3)) 3 = some t.cells := by
    intro i hi
    have hy := hel i hi
    rw [List.getElem?_eq_getElem (by omega : i < elems.length), Option.bind_eq_some_iff] at hy
    obtain ⟨cs', hcs, hy'⟩ := hy
    obtain ⟨t, e⟩ := trod_live hy'
    exact ⟨t, by rw [hcs, e]⟩
  obtain ⟨f, hf⟩ : ∃ f : Nat → LiveV, ∀ i, i < len → w.cells? base (a.add (i * 3)) 3 = some (f i).cells := by
    refine ⟨fun i => if h : i < len then (each i h).choose else zeroL, fun i hi => ?_⟩
    simp only [dif_pos hi]
    exact (each i hi).choose_spec
  refine ⟨some a, cap, (List.range len).map f, by simp, ?_, by simp; omega⟩
  intro hne
  have hpos := List.length_pos_iff.2 hne
  simp only [List.length_map, List.length_range] at hpos ⊢
  obtain ⟨b, off, spot⟩ := a
  have c0 := (World.cells?_some (hf 0 hpos)).2.2 0 (by decide)
  have hspot : spot = none := by simpa [Addr.add] using World.cell?_spot c0
  subst hspot
  refine ⟨b, off, rfl, fun k hk => ?_⟩
  have e : ((List.range len).map f).getD k zeroL = f k := by simp [List.getD, hk]
  rw [e]
  have hc := (World.cells?_some (hf k hk)).2.2
  have d0 := hc 0 (by decide)
  have d1 := hc 1 (by decide)
  have d2 := hc 2 (by decide)
  simp only [Addr_add, LiveV.cells] at d0 d1 d2
  exact ⟨by simpa using d0, by simpa using d1, by simpa using d2⟩

set_option maxRecDepth 100000 in
theorem trod_rec {fuel : Nat} {cs : List Value} {x : DataW H × List MemPlace} (h : DataW.trod enc Try.prog w base spare held fuel 57 cs = some x) :
    ∃ r : RecA, cs = r.cells ∧ InRec w r := by
  obtain ⟨xs, n, _, _, hlen, hxl, hf⟩ := DataW.trod_struct Try.underlying57 h
  rw [Try.cellsRc] at hlen
  match cs, hlen with
  | [v0, v1, v2, v3, v4, v5, v6, v7, v8, v9, v10, v11, v12, v13, v14], _ =>
    have f0 := hf 0 _ rfl
    have f1 := hf 1 _ rfl
    have f2 := hf 2 _ rfl
    have f3 := hf 3 _ rfl
    have f4 := hf 4 _ rfl
    have f5 := hf 5 _ rfl
    have f6 := hf 6 _ rfl
    have f7 := hf 7 _ rfl
    have f8 := hf 8 _ rfl
    obtain ⟨y0, hx0⟩ := some_at xs 0 (by rw [hxl]; decide)
    rw [hx0] at f0
    obtain ⟨y1, hx1⟩ := some_at xs 1 (by rw [hxl]; decide)
    rw [hx1] at f1
    obtain ⟨y2, hx2⟩ := some_at xs 2 (by rw [hxl]; decide)
    rw [hx2] at f2
    obtain ⟨y3, hx3⟩ := some_at xs 3 (by rw [hxl]; decide)
    rw [hx3] at f3
    obtain ⟨y4, hx4⟩ := some_at xs 4 (by rw [hxl]; decide)
    rw [hx4] at f4
    obtain ⟨y5, hx5⟩ := some_at xs 5 (by rw [hxl]; decide)
    rw [hx5] at f5
    obtain ⟨y6, hx6⟩ := some_at xs 6 (by rw [hxl]; decide)
    rw [hx6] at f6
    obtain ⟨y7, hx7⟩ := some_at xs 7 (by rw [hxl]; decide)
    rw [hx7] at f7
    obtain ⟨y8, hx8⟩ := some_at xs 8 (by rw [hxl]; decide)
    rw [hx8] at f8
    simp only [List.getElem_toArray, List.getElem_cons_zero, List.getElem_cons_succ, Try.cellsI, Try.cellsSl, Try.cellsLvs, List.drop, List.take] at f0 f1 f2 f3 f4 f5 f6 f7 f8
    obtain ⟨n0, e0, w0⟩ := trod_num f0
    obtain ⟨n1, e1, w1⟩ := trod_num f1
    obtain ⟨n2, e2, w2⟩ := trod_num f2
    obtain ⟨n3, e3, w3⟩ := trod_num f3
    obtain ⟨n4, e4, w4⟩ := trod_num f4
    obtain ⟨n5, e5, w5⟩ := trod_num f7
    obtain ⟨s, e6, hs⟩ := trod_slot f5
    obtain ⟨u, e7, hu⟩ := trod_slot f6
    obtain ⟨aL, cL, ls, e8, hL, lL⟩ := trod_lives f8
    simp only [SlotA.cells, List.cons.injEq, and_true] at e0 e1 e2 e3 e4 e5 e6 e7 e8
    obtain ⟨g0, g1, g2, g3⟩ := e6
    obtain ⟨k0, k1, k2, k3⟩ := e7
    subst e0 e1 e2 e3 e4 e5 e8 g0 g1 g2 g3 k0 k1 k2 k3
    exact ⟨⟨n0, n1, n2, n3, n4, s, u, n5, ls, aL, cL⟩, rfl, hs, hu, hL, lL, w0, w1, w2, w3, w4, w5⟩

set_option maxRecDepth 100000 in
/-- A record that came in as an argument. -/
theorem open_rec {b0 : Nat} {v : Value} {d : DataW H} {ps : List MemPlace} (hval : Value.okWide Try.prog w .any b0 57 v) (h : DataW.Trod enc Try.prog w base spare held 57 v d ps) :
    ∃ r : RecA, v = .agg r.cells.toArray ∧ InRec w r := by
  obtain ⟨cs, rfl, hcs⟩ := okWide_struct Try.underlying57 hval
  obtain ⟨fuel, hf⟩ := h
  have e : (Value.agg cs).cells.toList = cs.toList := rfl
  rw [e] at hf
  obtain ⟨r, hc, rest⟩ := trod_rec hf
  refine ⟨r, ?_, rest⟩
  congr 1
  apply Array.toList_inj.1
  rw [hc]
end
end Go.Proofs.Ytnnehpimkdoeoaa

/- What the laws of records share. -/
namespace Go.Proofs.Ytnnehpimkdoeoaa
open Go.RowKit

def zeroR : RecA := ⟨0, 0, 0, 0, 0, zeroS, zeroS, 0, [], none, 0⟩
theorem short_of {r t : RecA} {m : Nat} (h : t.v = r.v) (hl : r.short m) : t.short m := by
  simp only [RecA.v, RecV.mk.injEq] at h
  obtain ⟨_, _, _, _, _, h1, h2, _, h3⟩ := h
  exact ⟨by rw [h1]; exact hl.bf, by rw [h2]; exact hl.af, by rw [h3]; exact hl.txs⟩
theorem short_wide {r : RecA} (hl : r.short 1048576) : r.short 1099511627776 := ⟨by have := hl.bf; omega, by have := hl.af; omega, by have := hl.txs; omega⟩
theorem InRec.short {w : World} {r : RecA} (h : InRec w r) : r.short 9223372036854775807 := by
  have h1 := h.bf.lI
  have h2 := h.bf.lR
  have h3 := h.af.lI
  have h4 := h.af.lR
  have h5 := h.lT
  simp only [maxLen] at h1 h2 h3 h4 h5
  exact ⟨by omega, by omega, by omega⟩
theorem RecA.own.blocks_lt {w : World} {lo hi : Nat} {r : RecA} (h : r.own w lo hi) : ∀ k ∈ r.blocks, lo ≤ k ∧ k < hi := by
  intro k hk
  simp only [RecA.blocks, List.mem_append, Option.mem_toList] at hk
  rcases hk with h1 | h1 | h1
  · exact SlotA.blocks_lt h.bf k h1
  · exact SlotA.blocks_lt h.af k h1
  · exact h.txs.lt k h1
theorem toRec_law (r : RecA) (w : World) (hr : r.reads w) (hl : r.short 1048576) :
    Calls Try.prog 19 #[.agg r.cells.toArray] w fun e w' => ∃ t : RecA, e = .returned (.agg t.cells.toArray) ∧ Hid (t.v = r.v) ∧ t.own w' w.heap.size w'.heap.size ∧ Below w.heap.size w w' :=
  toRec_own r w hr (short_wide hl).bf (short_wide hl).af (short_wide hl).txs
theorem putRec_len (r : RecV) : (putRecOf r).length ≤ 100000 := by
  unfold putRecOf
  split
  · rename_i h
    have h0 := okR_txs h
    have h1 := flatN_len (headR r)
    have h2 := putSlot_len r.bf
    have h3 := putSlot_len r.af
    have h4 := (putOf_len (r.txs.length : Int)).2
    have h5 := flatL_len r.txs
    have h6 : (headR r).length = 6 := rfl
    simp only [bodyR, List.length_append]
    omega
  · simp
end Go.Proofs.Ytnnehpimkdoeoaa

/- Rows of records: what they are, what a walk reads and owns of them. -/
namespace Go.Proofs.Ytnnehpimkdoeoaa
open Go.RowKit

def cellsRs (rs : List RecA) : List Value := rs.flatMap RecA.cells
theorem cellsR_len (r : RecA) : r.cells.length = 15 := rfl
theorem cellsRs_len (rs : List RecA) : (cellsRs rs).length = rs.length * 15 := by
  induction rs with
  | nil => rfl
  | cons s r ih => simp only [cellsRs, List.flatMap_cons, List.length_append, cellsR_len, List.length_cons] at *; omega
theorem cellsRs_app (a b : List RecA) : cellsRs (a ++ b) = cellsRs a ++ cellsRs b := by simp [cellsRs]
theorem cellsRs_cons (r : RecA) (b : List RecA) : cellsRs (r :: b) = r.cells ++ cellsRs b := by simp [cellsRs]
theorem cellsRs_at (rs : List RecA) (k j : Nat) (hk : k < rs.length) (hj : j < 15) : (cellsRs rs)[k * 15 + j]? = (rs.getD k zeroR).cells[j]? := by
  induction rs generalizing k with
  | nil => simp at hk
  | cons s r ih =>
    rw [cellsRs_cons]
    cases k with
    | zero => rw [List.getElem?_append_left (by rw [cellsR_len]; omega)]; simp
    | succ k =>
      rw [List.getElem?_append_right (by rw [cellsR_len]; omega), cellsR_len]
      have := ih k (by simpa using hk)
      rw [show (k + 1) * 15 + j - 15 = k * 15 + j by omega, this]
      simp
theorem oneRs (rs : List RecA) : ∀ v ∈ cellsRs rs, v.oneCell' = true := by
  intro v hv
  obtain ⟨s, _, hs⟩ := List.mem_flatMap.1 hv
  exact oneR s v hs
theorem recD_split (rs : List RecA) (k : Nat) (hk : k < rs.length) : rs = rs.take k ++ rs.getD k zeroR :: rs.drop (k + 1) := by
  have e : rs.getD k zeroR = rs[k] := by simp [List.getD, hk]
  rw [e]
  conv => lhs; rw [← List.take_append_drop k rs, List.drop_eq_getElem_cons hk]
theorem recD_mem (rs : List RecA) (k : Nat) (hk : k < rs.length) : rs.getD k zeroR ∈ rs := by
  have e : rs.getD k zeroR = rs[k] := by simp [List.getD, hk]
  rw [e]
  exact List.getElem_mem hk

theorem rangeAt_below {w w' : World} {b o n : Nat} {cs : List Value} (h : w.rangeAt b o cs) (hb : Below n w w') (hn : b < n) : w'.rangeAt b o cs := fun j v hv => (hb.cell (p := ⟨b, o + j, none⟩) hn).trans (h j v hv)
theorem rangeAt_block {w w' : World} {b o : Nat} {cs : List Value} (h : w.rangeAt b o cs) (hb : w'.heap[b]? = w.heap[b]?) : w'.rangeAt b o cs := fun j v hv => by
  have := h j v hv
  simp only [World.cell?, hb] at this ⊢
  exact this
theorem rangeR_lt {w : World} {b o : Nat} {r : RecA} (h : w.rangeAt b o r.cells) : b < w.heap.size := block_lt (h 0 _ rfl)

/-- The slice at a reads these. -/
def ReadsRs (w : World) (a : Option Addr) (rs : List RecA) : Prop := rs ≠ [] → ∃ b off, a = some ⟨b, off, none⟩ ∧ ∀ k, k < rs.length → w.rangeAt b (off + k * 15) (rs.getD k zeroR).cells ∧ (rs.getD k zeroR).reads w
theorem ReadsRs.nil (w : World) (a : Option Addr) : ReadsRs w a [] := fun h => absurd rfl h
theorem ReadsRs.below {w w' : World} {a : Option Addr} {rs : List RecA} (h : ReadsRs w a rs) (hb : Below w.heap.size w w') : ReadsRs w' a rs := by
  intro hne
  obtain ⟨b, off, ha, hc⟩ := h hne
  refine ⟨b, off, ha, fun k hk => ?_⟩
  obtain ⟨h0, h1⟩ := hc k hk
  exact ⟨rangeAt_below h0 hb (rangeR_lt h0), h1.below hb⟩
theorem ReadsRs.cases {w : World} {a : Option Addr} {rs : List RecA} (h : ReadsRs w a rs) : rs = [] ∨ ∃ b off, a = some ⟨b, off, none⟩ ∧ 0 < rs.length ∧ ∀ k, k < rs.length → w.rangeAt b (off + k * 15) (rs.getD k zeroR).cells ∧ (rs.getD k zeroR).reads w := by
  by_cases e : rs = []
  · exact .inl e
  · obtain ⟨b, off, ha, hc⟩ := h e
    exact .inr ⟨b, off, ha, List.length_pos_iff.2 e, hc⟩

/-- The slice at a, of capacity c, owns these, and what hangs at them; all of it lies from lo up to hi, no two rows are one. -/
structure OwnRs (w : World) (lo hi : Nat) (a : Option Addr) (c : Nat) (rs : List RecA) : Prop where
  row : w.ownsRow lo 44 15 (.slice a rs.length c) rs.length (cellsRs rs)
  top : hi ≤ w.heap.size
  blk : ∀ k, (Value.slice a rs.length c).ownBlock = some k → k < hi
  each : ∀ r ∈ rs, r.own w lo hi
  apart : ((Value.slice a rs.length c).ownBlock.toList ++ rs.flatMap RecA.blocks).Nodup

def blocksRs (a : Option Addr) (c : Nat) (rs : List RecA) : List Nat := (Value.slice a rs.length c).ownBlock.toList ++ rs.flatMap RecA.blocks
theorem OwnRs.blocks_lt {w : World} {lo hi : Nat} {a : Option Addr} {c : Nat} {rs : List RecA} (h : OwnRs w lo hi a c rs) : ∀ k ∈ blocksRs a c rs, lo ≤ k ∧ k < hi := by
  intro k hk
  simp only [blocksRs, List.mem_append, List.mem_flatMap, Option.mem_toList] at hk
  rcases hk with h1 | ⟨r, hr, h1⟩
  · exact ⟨(h.row.lt k h1).1, h.blk k h1⟩
  · exact (h.each r hr).blocks_lt k h1
theorem RecA.own.touch {w w' : World} {lo hi : Nat} {r : RecA} {bl : List Nat} (h : r.own w lo hi) (ht : Touch bl w w') (hd : ∀ k ∈ r.blocks, k ∉ bl) : r.own w' lo hi :=
  ⟨SlotA.touch h.bf ht (fun k hk => hd k (List.mem_append.2 (.inl hk))), SlotA.touch h.af ht (fun k hk => hd k (List.mem_append.2 (.inr (List.mem_append.2 (.inl hk))))), h.txs.touch ht (fun k hk => hd k (List.mem_append.2 (.inr (List.mem_append.2 (.inr (Option.mem_toList.2 hk)))))), h.apart⟩
theorem OwnRs.touch {w w' : World} {lo hi : Nat} {a : Option Addr} {c : Nat} {rs : List RecA} {bl : List Nat} (h : OwnRs w lo hi a c rs) (ht : Touch bl w w') (hd : ∀ k ∈ blocksRs a c rs, k ∉ bl) : OwnRs w' lo hi a c rs :=
  ⟨ownsRow_block h.row (fun k hk => ht.block k (h.row.lt k hk).2 (hd k (List.mem_append.2 (.inl (Option.mem_toList.2 hk))))), Nat.le_trans h.top ht.size, h.blk, fun r hr => (h.each r hr).touch ht (fun k hk => hd k (List.mem_append.2 (.inr (List.mem_flatMap.2 ⟨r, hr, hk⟩)))), h.apart⟩
theorem OwnRs.within {w w' : World} {lo hi l r : Nat} {a : Option Addr} {c : Nat} {rs : List RecA} (h : OwnRs w lo hi a c rs) (hw : Within l r w w') (hd : hi ≤ l ∨ r ≤ lo) : OwnRs w' lo hi a c rs :=
  ⟨ownsRow_block h.row (fun k hk => hw.block k (by have := h.blk k hk; have := h.top; omega) (by have := h.blk k hk; have := (h.row.lt k hk).1; omega)), Nat.le_trans h.top hw.size, h.blk, fun x hx => (h.each x hx).within hw hd, h.apart⟩
theorem OwnRs.below {w w' : World} {lo hi : Nat} {a : Option Addr} {c : Nat} {rs : List RecA} (h : OwnRs w lo hi a c rs) (hb : Below w.heap.size w w') : OwnRs w' lo hi a c rs :=
  h.within (Within.of_below (lo := w.heap.size) (hi := w.heap.size) hb) (.inl h.top)
theorem OwnRs.widen {w : World} {lo hi lo' hi' : Nat} {a : Option Addr} {c : Nat} {rs : List RecA} (h : OwnRs w lo hi a c rs) (h1 : lo' ≤ lo) (h2 : hi ≤ hi') (h3 : hi' ≤ w.heap.size) : OwnRs w lo' hi' a c rs :=
  ⟨ownsRow_base h.row (fun k hk => by have := (h.row.lt k hk).1; omega), h3, fun k hk => by have := h.blk k hk; omega, fun x hx => (h.each x hx).widen h1 h2 h3, h.apart⟩
theorem ownRs_nil (w : World) (lo hi : Nat) (h : hi ≤ w.heap.size) : OwnRs w lo hi none 0 [] := ⟨⟨by simp [cellsRs], .inl ⟨rfl, rfl⟩⟩, h, (fun k hk => by cases hk), (fun r hr => by simp at hr), by simp [Value.ownBlock]⟩
theorem OwnRs.nocap {w : World} {lo hi : Nat} {a : Option Addr} {c : Nat} {rs : List RecA} (h : OwnRs w lo hi a c rs) : a = none → c = 0 := by
  intro ha
  rcases h.row.2 with ⟨hv, _⟩ | ⟨g, cap, cur, hv, _⟩
  · simp only [Value.slice.injEq] at hv; exact hv.2.2
  · simp [ha] at hv
/-- One of a row that lies in block g. -/
theorem row_rec {w : World} {base g n cap : Nat} {rs : List RecA} (h : w.ownsRow base 44 15 (.slice (some ⟨g, 0, none⟩) n cap) n (cellsRs rs)) (hn : rs.length = n) (k : Nat) (hk : k < n) :
    w.rangeAt g (k * 15) (rs.getD k zeroR).cells ∧ w.there g (k * 15) 15 := by
  refine ⟨fun j v hv => ?_, fun j hj => ?_⟩
  · have hj : j < 15 := by have := (List.getElem?_eq_some_iff.1 hv).1; rwa [cellsR_len] at this
    rw [h.cellAt (k * 15 + j) (by omega), cellsRs_at rs k j (by omega) hj, hv]
  · refine ⟨?_, h.frozenAt _⟩
    rw [h.cellAt (k * 15 + j) (by omega), cellsRs_at rs k j (by omega) hj, List.getElem?_eq_getElem (by rw [cellsR_len]; omega)]
    rfl
theorem OwnRs.reads {w : World} {lo hi : Nat} {a : Option Addr} {c : Nat} {rs : List RecA} (h : OwnRs w lo hi a c rs) : ReadsRs w a rs := by
  intro hne
  rcases h.row.2 with ⟨_, h0⟩ | ⟨g, cap', cur, hv, hb, hg, hr⟩
  · exact absurd (List.length_eq_zero_iff.1 h0) hne
  · simp only [Value.slice.injEq] at hv
    obtain ⟨rfl, _, rfl⟩ := hv
    refine ⟨g, 0, rfl, fun k hk => ?_⟩
    rw [Nat.zero_add]
    exact ⟨(row_rec h.row rfl k hk).1, (h.each _ (recD_mem rs k hk)).reads⟩
/-- A stretch of a row's cells stored. -/
theorem row_setCells {base g n cap sz : Nat} {e : TypeId} (cs : List Value) : ∀ (pre old post : List Value) (w : World), w.ownsRow base e sz (.slice (some ⟨g, 0, none⟩) n cap) n (pre ++ (old ++ post)) → old.length = cs.length →
    (w.setCells g pre.length cs).ownsRow base e sz (.slice (some ⟨g, 0, none⟩) n cap) n (pre ++ (cs ++ post)) ∧ w.grownBy (w.setCells g pre.length cs) (some g) := by
  induction cs with
  | nil => intro pre old post w h hl; obtain rfl := List.length_eq_zero_iff.1 hl; exact ⟨h, World.grownBy.refl _ _⟩
  | cons c cr ih =>
    intro pre old post w h hl
    obtain ⟨x, r, rfl⟩ : ∃ x r, old = x :: r := by
      cases old with
      | nil => simp at hl
      | cons x r => exact ⟨x, r, rfl⟩
    have hs := h.stored pre.length c
    rw [List.set_append_right _ _ (Nat.le_refl _), Nat.sub_self] at hs
    simp only [List.cons_append, List.set_cons_zero] at hs
    have := ih (pre ++ [c]) r post (w.setCell ⟨g, pre.length, none⟩ c) (by simpa using hs.1) (by simpa using hl)
    simp only [List.length_append, List.length_singleton] at this
    rw [World.setCells]
    exact ⟨by simpa using this.1, grownBy_trans hs.2 this.2⟩
theorem setCells_heap (B : Nat) : ∀ (vs : List Value) (o : Nat) (w : World), (w.setCells B o vs).heap.size = w.heap.size := by
  intro vs
  induction vs with
  | nil => intro o w; rfl
  | cons v r ih => intro o w; rw [World.setCells, ih]; simp

/-- A record of the row stored: q, which is owned elsewhere. -/
theorem OwnRs.fill {w : World} {lo hi g c : Nat} {A B : List RecA} {z : RecA} (h : OwnRs w lo hi (some ⟨g, 0, none⟩) c (A ++ z :: B)) (q : RecA) {l u : Nat} (hq : q.own w l u) (hl : hi ≤ l) (hlo : lo ≤ hi) (hu : u ≤ w.heap.size) :
    ∃ W, Hid (w.setCells g (A.length * 15) q.cells = W) ∧ OwnRs W lo (max hi u) (some ⟨g, 0, none⟩) c (A ++ q :: B) ∧ Touch [g] w W ∧ W.heap.size = w.heap.size := by
  have hrow := h.row
  rw [cellsRs_app, cellsRs_cons, List.length_append, List.length_cons] at hrow
  have hg : lo ≤ g ∧ g < hi := ⟨(hrow.lt g rfl).1, h.blk g rfl⟩
  obtain ⟨h1, h2⟩ := row_setCells q.cells (cellsRs A) z.cells (cellsRs B) w hrow rfl
  rw [cellsRs_len] at h1 h2
  have ht : Touch [g] w (w.setCells g (A.length * 15) q.cells) := Touch.of_grown h2 (fun k hk => by cases hk; simp)
  have hap := h.apart
  simp only [List.flatMap_append, List.flatMap_cons, Value.ownBlock, Option.toList, List.singleton_append, List.nodup_cons, List.nodup_append, List.mem_append, not_or] at hap
  obtain ⟨⟨n1, n2, n3⟩, a1, ⟨a2, a3, a4⟩, a5⟩ := hap
  have hqb := hq.blocks_lt
  have hA : ∀ x ∈ A.flatMap RecA.blocks, lo ≤ x ∧ x < hi := fun x hx => by
    obtain ⟨r, hr, hx⟩ := List.mem_flatMap.1 hx
    exact (h.each r (by simp [hr])).blocks_lt x hx
  have hB : ∀ x ∈ B.flatMap RecA.blocks, lo ≤ x ∧ x < hi := fun x hx => by
    obtain ⟨r, hr, hx⟩ := List.mem_flatMap.1 hx
    exact (h.each r (by simp [hr])).blocks_lt x hx
  have hsz := setCells_heap g q.cells (A.length * 15) w
  refine ⟨_, rfl, ⟨?_, ?_, fun k hk => ?_, fun r hr => ?_, ?_⟩, ht, hsz⟩
  · rw [cellsRs_app, cellsRs_cons, List.length_append, List.length_cons]
    exact h1
  · rw [hsz]
    have := h.top
    omega
  · cases hk
    show g < max hi u
    omega
  · rcases List.mem_append.1 hr with hr | hr
    · exact ((h.each r (by simp [hr])).touch ht (fun k hk hk' => n1 (by rw [← List.mem_singleton.1 hk']; exact List.mem_flatMap.2 ⟨r, hr, hk⟩))).widen (Nat.le_refl _) (by omega) (by rw [hsz]; have := h.top; omega)
    · rcases List.mem_cons.1 hr with rfl | hr
      · exact (hq.touch ht (fun k hk hk' => by have := hqb k hk; have := List.mem_singleton.1 hk'; omega)).widen (by omega) (by omega) (by rw [hsz]; have := h.top; omega)
      · exact ((h.each r (by simp [hr])).touch ht (fun k hk hk' => n3 (by rw [← List.mem_singleton.1 hk']; exact List.mem_flatMap.2 ⟨r, hr, hk⟩))).widen (Nat.le_refl _) (by omega) (by rw [hsz]; have := h.top; omega)
  · simp only [List.flatMap_append, List.flatMap_cons, Value.ownBlock, Option.toList, List.singleton_append, List.nodup_cons, List.nodup_append, List.mem_append, not_or]
    refine ⟨⟨n1, fun hk => by have := hqb g hk; omega, n3⟩, a1, ⟨hq.apart, a3, fun x hx y hy e => by have := hqb x hx; have := hB y hy; omega⟩, fun x hx y hy e => ?_⟩
    rcases hy with hy | hy
    · have := hqb y hy; have := hA x hx; omega
    · exact a5 x hx y (.inr hy) e
end Go.Proofs.Ytnnehpimkdoeoaa
