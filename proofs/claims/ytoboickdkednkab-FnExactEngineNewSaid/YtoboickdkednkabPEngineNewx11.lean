/- Several texts in one, in their order. -/
import Derived.Test.YtoboickdkednkabPEngineNewx1
import Derived.ProofKit
import Derived.OpenShut
import Derived.ChangeOld
import Derived.Test.YtoboickdkednkabPEngineNewx3
import Derived.ChangeArms
import Derived.Test.YtoboickdkednkabPEngineNewx4
import Derived.Test.YtoboickdkednkabPEngineNewx8
import Derived.Test.YtoboickdkednkabProg
import Derived.LaidEql
import Derived.Stop.Asserts
import Derived.RowKitTokens
import Derived.Test.YtoboickdkednkabPEngineNewx7
/- What came in, read: a slice of numbers, an object. -/
namespace Go.Proofs.Ytoboickdkednkab
open Go.ChangeShapes Go.WideShapes Go.ChangeAt Go.RowKit

def InI64 (z : Int) : Prop := -9223372036854775808 ≤ z ∧ z ≤ 9223372036854775807
section
variable {H : Type} {enc : TypeId × Value → H} {w : World} {base : Nat} {spare : Nat → Bool} {held : Bool}

end
end Go.Proofs.Ytoboickdkednkab

/- What came in, read: a slot, a page. -/
namespace Go.Proofs.Ytoboickdkednkab
open Go.ChangeShapes Go.WideShapes Go.ChangeAt Go.RowKit

/-- A slot as it came in: its lists are read, its numbers are 64-bit numbers. -/
structure InSlot (w : World) (s : SlotA) : Prop where
  reads : s.reads w
  lI : s.v.o.ints.length ≤ maxLen
  lR : s.v.o.refs.length ≤ maxLen
  kind : InI64 s.v.o.kind
  ints : ∀ z ∈ s.v.o.ints, InI64 z
  refs : ∀ z ∈ s.v.o.refs, InI64 z

section
variable {H : Type} {enc : TypeId × Value → H} {w : World} {base : Nat} {spare : Nat → Bool} {held : Bool}

end
end Go.Proofs.Ytoboickdkednkab

/- What came in, read: a record. -/
namespace Go.Proofs.Ytoboickdkednkab
open Go.ChangeShapes Go.WideShapes Go.ChangeAt Go.RowKit

/-- A record as it came in: its lists are read, its numbers are 64-bit numbers. -/
structure InRec (w : World) (r : RecA) : Prop where
  bf : InSlot w r.bf
  af : InSlot w r.af
  txs : ReadsL w r.aL r.txs
  lT : r.txs.length ≤ maxLen
  nums : InI64 r.lsn ∧ InI64 r.tx ∧ InI64 r.prev ∧ InI64 r.kind ∧ InI64 r.oid ∧ InI64 r.next
theorem InRec.reads {w : World} {r : RecA} (h : InRec w r) : r.reads w := ⟨h.bf.reads, h.af.reads, h.txs⟩

section
variable {H : Type} {enc : TypeId × Value → H} {w : World} {base : Nat} {spare : Nat → Bool} {held : Bool}

end
end Go.Proofs.Ytoboickdkednkab

/- What the laws of records share. -/
namespace Go.Proofs.Ytoboickdkednkab
open Go.RowKit

def zeroR : RecA := ⟨0, 0, 0, 0, 0, zeroS, zeroS, 0, [], none, 0⟩
theorem InRec.short {w : World} {r : RecA} (h : InRec w r) : r.short 9223372036854775807 := by
  have h1 := h.bf.lI
  have h2 := h.bf.lR
  have h3 := h.af.lI
  have h4 := h.af.lR
  have h5 := h.lT
  simp only [maxLen] at h1 h2 h3 h4 h5
  exact ⟨by omega, by omega, by omega⟩
theorem RecA.own.blocks_lt {w : World} {lo hi : Nat} {r : RecA} (h : r.own w lo hi) : ∀ k ∈ r.blocks, lo ≤ k ∧ k < hi := by
  intro k hk
  simp only [RecA.blocks, List.mem_append, Option.mem_toList] at hk
  rcases hk with h1 | h1 | h1
  · exact SlotA.blocks_lt h.bf k h1
  · exact SlotA.blocks_lt h.af k h1
  · exact h.txs.lt k h1
end Go.Proofs.Ytoboickdkednkab

/- Rows of records: what they are, what a walk reads and owns of them. -/
namespace Go.Proofs.Ytoboickdkednkab
open Go.RowKit

def cellsRs (rs : List RecA) : List Value := rs.flatMap RecA.cells
theorem cellsR_len (r : RecA) : r.cells.length = 15 := rfl
theorem cellsRs_len (rs : List RecA) : (cellsRs rs).length = rs.length * 15 := by
  induction rs with
  | nil => rfl
  | cons s r ih => simp only [cellsRs, List.flatMap_cons, List.length_append, cellsR_len, List.length_cons] at *; omega
theorem cellsRs_app (a b : List RecA) : cellsRs (a ++ b) = cellsRs a ++ cellsRs b := by simp [cellsRs]
theorem cellsRs_cons (r : RecA) (b : List RecA) : cellsRs (r :: b) = r.cells ++ cellsRs b := by simp [cellsRs]
theorem cellsRs_at (rs : List RecA) (k j : Nat) (hk : k < rs.length) (hj : j < 15) : (cellsRs rs)[k * 15 + j]? = (rs.getD k zeroR).cells[j]? := by
  induction rs generalizing k with
  | nil => simp at hk
  | cons s r ih =>
    rw [cellsRs_cons]
    cases k with
    | zero => rw [List.getElem?_append_left (by rw [cellsR_len]; omega)]; simp
    | succ k =>
      rw [List.getElem?_append_right (by rw [cellsR_len]; omega), cellsR_len]
      have := ih k (by simpa using hk)
      rw [show (k + 1) * 15 + j - 15 = k * 15 + j by omega, this]
      simp
theorem recD_mem (rs : List RecA) (k : Nat) (hk : k < rs.length) : rs.getD k zeroR ∈ rs := by
  have e : rs.getD k zeroR = rs[k] := by simp [List.getD, hk]
  rw [e]
  exact List.getElem_mem hk

theorem rangeAt_below {w w' : World} {b o n : Nat} {cs : List Value} (h : w.rangeAt b o cs) (hb : Below n w w') (hn : b < n) : w'.rangeAt b o cs := fun j v hv => (hb.cell (p := ⟨b, o + j, none⟩) hn).trans (h j v hv)
theorem rangeR_lt {w : World} {b o : Nat} {r : RecA} (h : w.rangeAt b o r.cells) : b < w.heap.size := block_lt (h 0 _ rfl)

/-- The slice at a reads these. -/
def ReadsRs (w : World) (a : Option Addr) (rs : List RecA) : Prop := rs ≠ [] → ∃ b off, a = some ⟨b, off, none⟩ ∧ ∀ k, k < rs.length → w.rangeAt b (off + k * 15) (rs.getD k zeroR).cells ∧ (rs.getD k zeroR).reads w
theorem ReadsRs.nil (w : World) (a : Option Addr) : ReadsRs w a [] := fun h => absurd rfl h
theorem ReadsRs.below {w w' : World} {a : Option Addr} {rs : List RecA} (h : ReadsRs w a rs) (hb : Below w.heap.size w w') : ReadsRs w' a rs := by
  intro hne
  obtain ⟨b, off, ha, hc⟩ := h hne
  refine ⟨b, off, ha, fun k hk => ?_⟩
  obtain ⟨h0, h1⟩ := hc k hk
  exact ⟨rangeAt_below h0 hb (rangeR_lt h0), h1.below hb⟩
theorem ReadsRs.cases {w : World} {a : Option Addr} {rs : List RecA} (h : ReadsRs w a rs) : rs = [] ∨ ∃ b off, a = some ⟨b, off, none⟩ ∧ 0 < rs.length ∧ ∀ k, k < rs.length → w.rangeAt b (off + k * 15) (rs.getD k zeroR).cells ∧ (rs.getD k zeroR).reads w := by
  by_cases e : rs = []
  · exact .inl e
  · obtain ⟨b, off, ha, hc⟩ := h e
    exact .inr ⟨b, off, ha, List.length_pos_iff.2 e, hc⟩

/-- The slice at a, of capacity c, owns these, and what hangs at them; all of it lies from lo up to hi, no two rows are one. -/
structure OwnRs (w : World) (lo hi : Nat) (a : Option Addr) (c : Nat) (rs : List RecA) : Prop where
  row : w.ownsRow lo 73 15 (.slice a rs.length c) rs.length (cellsRs rs)
  top : hi ≤ w.heap.size
  blk : ∀ k, (Value.slice a rs.length c).ownBlock = some k → k < hi
  each : ∀ r ∈ rs, r.own w lo hi
  apart : ((Value.slice a rs.length c).ownBlock.toList ++ rs.flatMap RecA.blocks).Nodup

def blocksRs (a : Option Addr) (c : Nat) (rs : List RecA) : List Nat := (Value.slice a rs.length c).ownBlock.toList ++ rs.flatMap RecA.blocks
theorem OwnRs.blocks_lt {w : World} {lo hi : Nat} {a : Option Addr} {c : Nat} {rs : List RecA} (h : OwnRs w lo hi a c rs) : ∀ k ∈ blocksRs a c rs, lo ≤ k ∧ k < hi := by
  intro k hk
  simp only [blocksRs, List.mem_append, List.mem_flatMap, Option.mem_toList] at hk
  rcases hk with h1 | ⟨r, hr, h1⟩
  · exact ⟨(h.row.lt k h1).1, h.blk k h1⟩
  · exact (h.each r hr).blocks_lt k h1
theorem RecA.own.touch {w w' : World} {lo hi : Nat} {r : RecA} {bl : List Nat} (h : r.own w lo hi) (ht : Touch bl w w') (hd : ∀ k ∈ r.blocks, k ∉ bl) : r.own w' lo hi :=
  ⟨SlotA.touch h.bf ht (fun k hk => hd k (List.mem_append.2 (.inl hk))), SlotA.touch h.af ht (fun k hk => hd k (List.mem_append.2 (.inr (List.mem_append.2 (.inl hk))))), h.txs.touch ht (fun k hk => hd k (List.mem_append.2 (.inr (List.mem_append.2 (.inr (Option.mem_toList.2 hk)))))), h.apart⟩
theorem OwnRs.touch {w w' : World} {lo hi : Nat} {a : Option Addr} {c : Nat} {rs : List RecA} {bl : List Nat} (h : OwnRs w lo hi a c rs) (ht : Touch bl w w') (hd : ∀ k ∈ blocksRs a c rs, k ∉ bl) : OwnRs w' lo hi a c rs :=
  ⟨ownsRow_block h.row (fun k hk => ht.block k (h.row.lt k hk).2 (hd k (List.mem_append.2 (.inl (Option.mem_toList.2 hk))))), Nat.le_trans h.top ht.size, h.blk, fun r hr => (h.each r hr).touch ht (fun k hk => hd k (List.mem_append.2 (.inr (List.mem_flatMap.2 ⟨r, hr, hk⟩)))), h.apart⟩
theorem OwnRs.within {w w' : World} {lo hi l r : Nat} {a : Option Addr} {c : Nat} {rs : List RecA} (h : OwnRs w lo hi a c rs) (hw : Within l r w w') (hd : hi ≤ l ∨ r ≤ lo) : OwnRs w' lo hi a c rs :=
  ⟨ownsRow_block h.row (fun k hk => hw.block k (by have := h.blk k hk; have := h.top; omega) (by have := h.blk k hk; have := (h.row.lt k hk).1; omega)), Nat.le_trans h.top hw.size, h.blk, fun x hx => (h.each x hx).within hw hd, h.apart⟩
theorem OwnRs.below {w w' : World} {lo hi : Nat} {a : Option Addr} {c : Nat} {rs : List RecA} (h : OwnRs w lo hi a c rs) (hb : Below w.heap.size w w') : OwnRs w' lo hi a c rs :=
  h.within (Within.of_below (lo := w.heap.size) (hi := w.heap.size) hb) (.inl h.top)
theorem OwnRs.widen {w : World} {lo hi lo' hi' : Nat} {a : Option Addr} {c : Nat} {rs : List RecA} (h : OwnRs w lo hi a c rs) (h1 : lo' ≤ lo) (h2 : hi ≤ hi') (h3 : hi' ≤ w.heap.size) : OwnRs w lo' hi' a c rs :=
  ⟨ownsRow_base h.row (fun k hk => by have := (h.row.lt k hk).1; omega), h3, fun k hk => by have := h.blk k hk; omega, fun x hx => (h.each x hx).widen h1 h2 h3, h.apart⟩
theorem ownRs_nil (w : World) (lo hi : Nat) (h : hi ≤ w.heap.size) : OwnRs w lo hi none 0 [] := ⟨⟨by simp [cellsRs], .inl ⟨rfl, rfl⟩⟩, h, (fun k hk => by cases hk), (fun r hr => by simp at hr), by simp [Value.ownBlock]⟩
theorem OwnRs.nocap {w : World} {lo hi : Nat} {a : Option Addr} {c : Nat} {rs : List RecA} (h : OwnRs w lo hi a c rs) : a = none → c = 0 := by
  intro ha
  rcases h.row.2 with ⟨hv, _⟩ | ⟨g, cap, cur, hv, _⟩
  · simp only [Value.slice.injEq] at hv; exact hv.2.2
  · simp [ha] at hv
/-- One of a row that lies in block g. -/
theorem row_rec {w : World} {base g n cap : Nat} {rs : List RecA} (h : w.ownsRow base 73 15 (.slice (some ⟨g, 0, none⟩) n cap) n (cellsRs rs)) (hn : rs.length = n) (k : Nat) (hk : k < n) :
    w.rangeAt g (k * 15) (rs.getD k zeroR).cells ∧ w.there g (k * 15) 15 := by
  refine ⟨fun j v hv => ?_, fun j hj => ?_⟩
  · have hj : j < 15 := by have := (List.getElem?_eq_some_iff.1 hv).1; rwa [cellsR_len] at this
    rw [h.cellAt (k * 15 + j) (by omega), cellsRs_at rs k j (by omega) hj, hv]
  · refine ⟨?_, h.frozenAt _⟩
    rw [h.cellAt (k * 15 + j) (by omega), cellsRs_at rs k j (by omega) hj, List.getElem?_eq_getElem (by rw [cellsR_len]; omega)]
    rfl
theorem OwnRs.reads {w : World} {lo hi : Nat} {a : Option Addr} {c : Nat} {rs : List RecA} (h : OwnRs w lo hi a c rs) : ReadsRs w a rs := by
  intro hne
  rcases h.row.2 with ⟨_, h0⟩ | ⟨g, cap', cur, hv, hb, hg, hr⟩
  · exact absurd (List.length_eq_zero_iff.1 h0) hne
  · simp only [Value.slice.injEq] at hv
    obtain ⟨rfl, _, rfl⟩ := hv
    refine ⟨g, 0, rfl, fun k hk => ?_⟩
    rw [Nat.zero_add]
    exact ⟨(row_rec h.row rfl k hk).1, (h.each _ (recD_mem rs k hk)).reads⟩
end Go.Proofs.Ytoboickdkednkab

/- Seats of the pool, and rows of them: what they are, what a walk reads and owns of them. -/
namespace Go.Proofs.Ytoboickdkednkab
open Go.RowKit

/-- A seat, and where its page's lists lie. -/
structure SeatA where
  no : Int
  lsn : Int
  s0 : SlotA
  s1 : SlotA
  s2 : SlotA
  s3 : SlotA
  dirty : Bool
  hot : Bool
def SeatA.ss (s : SeatA) : List SlotA := [s.s0, s.s1, s.s2, s.s3]
def SeatA.page (s : SeatA) : PageA := ⟨s.lsn, s.ss⟩
structure SeatV where
  no : Int
  lsn : Int
  ss : List SlotV
  dirty : Bool
  hot : Bool
def SeatA.v (s : SeatA) : SeatV := ⟨s.no, s.lsn, s.ss.map (·.v), s.dirty, s.hot⟩
def SeatA.cells (s : SeatA) : List Value := .int .i64 s.no :: .int .i64 s.lsn :: (s.s0.cells ++ (s.s1.cells ++ (s.s2.cells ++ (s.s3.cells ++ [.bool s.dirty, .bool s.hot]))))
theorem SeatA.cells_page (s : SeatA) : s.cells = .int .i64 s.no :: (s.page.cells ++ [.bool s.dirty, .bool s.hot]) := by
  simp [SeatA.cells, SeatA.page, SeatA.ss, PageA.cells, cellsS]
def zeroSt : SeatA := ⟨0, 0, zeroS, zeroS, zeroS, zeroS, false, false⟩
def SeatA.reads (w : World) (s : SeatA) : Prop := ReadsS w s.ss
theorem SeatA.reads.below {w w' : World} {s : SeatA} (h : s.reads w) (hb : Below w.heap.size w w') : s.reads w' := ReadsS.below h hb
def SeatA.blocks (s : SeatA) : List Nat := s.ss.flatMap SlotA.blocks
def SeatA.own (w : World) (lo hi : Nat) (s : SeatA) : Prop := OwnS w lo hi s.ss
theorem SeatA.own.apart {w : World} {lo hi : Nat} {s : SeatA} (h : s.own w lo hi) : s.blocks.Nodup := OwnS.apart h
theorem SeatA.own.reads {w : World} {lo hi : Nat} {s : SeatA} (h : s.own w lo hi) : s.reads w := OwnS.reads h
theorem SeatA.own.below {w w' : World} {lo hi : Nat} {s : SeatA} (h : s.own w lo hi) (hb : Below w.heap.size w w') : s.own w' lo hi := OwnS.below h hb
theorem SeatA.own.within {w w' : World} {lo hi l u : Nat} {s : SeatA} (h : s.own w lo hi) (hw : Within l u w w') (hd : hi ≤ l ∨ u ≤ lo) : s.own w' lo hi := OwnS.within h hw hd
theorem SeatA.own.widen {w : World} {lo hi lo' hi' : Nat} {s : SeatA} (h : s.own w lo hi) (h1 : lo' ≤ lo) (h2 : hi ≤ hi') (h3 : hi' ≤ w.heap.size) : s.own w lo' hi' := OwnS.widen h h1 h2 h3
theorem SeatA.own.blocks_lt {w : World} {lo hi : Nat} {s : SeatA} (h : s.own w lo hi) : ∀ k ∈ s.blocks, lo ≤ k ∧ k < hi := OwnS.blocks_lt h
def cellsSts (rs : List SeatA) : List Value := rs.flatMap SeatA.cells
theorem cellsSt_len (r : SeatA) : r.cells.length = 20 := rfl
theorem cellsSts_len (rs : List SeatA) : (cellsSts rs).length = rs.length * 20 := by
  induction rs with
  | nil => rfl
  | cons s r ih => simp only [cellsSts, List.flatMap_cons, List.length_append, cellsSt_len, List.length_cons] at *; omega
theorem cellsSts_app (a b : List SeatA) : cellsSts (a ++ b) = cellsSts a ++ cellsSts b := by simp [cellsSts]
theorem cellsSts_cons (r : SeatA) (b : List SeatA) : cellsSts (r :: b) = r.cells ++ cellsSts b := by simp [cellsSts]
theorem cellsSts_at (rs : List SeatA) (k j : Nat) (hk : k < rs.length) (hj : j < 20) : (cellsSts rs)[k * 20 + j]? = (rs.getD k zeroSt).cells[j]? := by
  induction rs generalizing k with
  | nil => simp at hk
  | cons s r ih =>
    rw [cellsSts_cons]
    cases k with
    | zero => rw [List.getElem?_append_left (by rw [cellsSt_len]; omega)]; simp
    | succ k =>
      rw [List.getElem?_append_right (by rw [cellsSt_len]; omega), cellsSt_len]
      have := ih k (by simpa using hk)
      rw [show (k + 1) * 20 + j - 20 = k * 20 + j by omega, this]
      simp
theorem seatD_mem (rs : List SeatA) (k : Nat) (hk : k < rs.length) : rs.getD k zeroSt ∈ rs := by
  have e : rs.getD k zeroSt = rs[k] := by simp [List.getD, hk]
  rw [e]
  exact List.getElem_mem hk

theorem rangeSt_lt {w : World} {b o : Nat} {r : SeatA} (h : w.rangeAt b o r.cells) : b < w.heap.size := block_lt (h 0 _ rfl)

/-- The slice at a reads these. -/
def ReadsSts (w : World) (a : Option Addr) (rs : List SeatA) : Prop := rs ≠ [] → ∃ b off, a = some ⟨b, off, none⟩ ∧ ∀ k, k < rs.length → w.rangeAt b (off + k * 20) (rs.getD k zeroSt).cells ∧ (rs.getD k zeroSt).reads w
theorem ReadsSts.nil (w : World) (a : Option Addr) : ReadsSts w a [] := fun h => absurd rfl h
theorem ReadsSts.below {w w' : World} {a : Option Addr} {rs : List SeatA} (h : ReadsSts w a rs) (hb : Below w.heap.size w w') : ReadsSts w' a rs := by
  intro hne
  obtain ⟨b, off, ha, hc⟩ := h hne
  refine ⟨b, off, ha, fun k hk => ?_⟩
  obtain ⟨h0, h1⟩ := hc k hk
  exact ⟨rangeAt_below h0 hb (rangeSt_lt h0), h1.below hb⟩
theorem ReadsSts.cases {w : World} {a : Option Addr} {rs : List SeatA} (h : ReadsSts w a rs) : rs = [] ∨ ∃ b off, a = some ⟨b, off, none⟩ ∧ 0 < rs.length ∧ ∀ k, k < rs.length → w.rangeAt b (off + k * 20) (rs.getD k zeroSt).cells ∧ (rs.getD k zeroSt).reads w := by
  by_cases e : rs = []
  · exact .inl e
  · obtain ⟨b, off, ha, hc⟩ := h e
    exact .inr ⟨b, off, ha, List.length_pos_iff.2 e, hc⟩

/-- The slice at a, of capacity c, owns these, and what hangs at them; all of it lies from lo up to hi, no two rows are one. -/
structure OwnSts (w : World) (lo hi : Nat) (a : Option Addr) (c : Nat) (rs : List SeatA) : Prop where
  row : w.ownsRow lo 70 20 (.slice a rs.length c) rs.length (cellsSts rs)
  top : hi ≤ w.heap.size
  blk : ∀ k, (Value.slice a rs.length c).ownBlock = some k → k < hi
  each : ∀ r ∈ rs, r.own w lo hi
  apart : ((Value.slice a rs.length c).ownBlock.toList ++ rs.flatMap SeatA.blocks).Nodup

def blocksSts (a : Option Addr) (c : Nat) (rs : List SeatA) : List Nat := (Value.slice a rs.length c).ownBlock.toList ++ rs.flatMap SeatA.blocks
theorem OwnSts.blocks_lt {w : World} {lo hi : Nat} {a : Option Addr} {c : Nat} {rs : List SeatA} (h : OwnSts w lo hi a c rs) : ∀ k ∈ blocksSts a c rs, lo ≤ k ∧ k < hi := by
  intro k hk
  simp only [blocksSts, List.mem_append, List.mem_flatMap, Option.mem_toList] at hk
  rcases hk with h1 | ⟨r, hr, h1⟩
  · exact ⟨(h.row.lt k h1).1, h.blk k h1⟩
  · exact (h.each r hr).blocks_lt k h1
theorem SeatA.own.touch {w w' : World} {lo hi : Nat} {s : SeatA} {bl : List Nat} (h : s.own w lo hi) (ht : Touch bl w w') (hd : ∀ k ∈ s.blocks, k ∉ bl) : s.own w' lo hi :=
  ⟨fun x hx => SlotA.touch (h.each x hx) ht (fun k hk => hd k (List.mem_flatMap.2 ⟨x, hx, hk⟩)), OwnS.apart h⟩
theorem OwnSts.touch {w w' : World} {lo hi : Nat} {a : Option Addr} {c : Nat} {rs : List SeatA} {bl : List Nat} (h : OwnSts w lo hi a c rs) (ht : Touch bl w w') (hd : ∀ k ∈ blocksSts a c rs, k ∉ bl) : OwnSts w' lo hi a c rs :=
  ⟨ownsRow_block h.row (fun k hk => ht.block k (h.row.lt k hk).2 (hd k (List.mem_append.2 (.inl (Option.mem_toList.2 hk))))), Nat.le_trans h.top ht.size, h.blk, fun r hr => (h.each r hr).touch ht (fun k hk => hd k (List.mem_append.2 (.inr (List.mem_flatMap.2 ⟨r, hr, hk⟩)))), h.apart⟩
theorem OwnSts.within {w w' : World} {lo hi l r : Nat} {a : Option Addr} {c : Nat} {rs : List SeatA} (h : OwnSts w lo hi a c rs) (hw : Within l r w w') (hd : hi ≤ l ∨ r ≤ lo) : OwnSts w' lo hi a c rs :=
  ⟨ownsRow_block h.row (fun k hk => hw.block k (by have := h.blk k hk; have := h.top; omega) (by have := h.blk k hk; have := (h.row.lt k hk).1; omega)), Nat.le_trans h.top hw.size, h.blk, fun x hx => (h.each x hx).within hw hd, h.apart⟩
theorem OwnSts.below {w w' : World} {lo hi : Nat} {a : Option Addr} {c : Nat} {rs : List SeatA} (h : OwnSts w lo hi a c rs) (hb : Below w.heap.size w w') : OwnSts w' lo hi a c rs :=
  h.within (Within.of_below (lo := w.heap.size) (hi := w.heap.size) hb) (.inl h.top)
theorem OwnSts.widen {w : World} {lo hi lo' hi' : Nat} {a : Option Addr} {c : Nat} {rs : List SeatA} (h : OwnSts w lo hi a c rs) (h1 : lo' ≤ lo) (h2 : hi ≤ hi') (h3 : hi' ≤ w.heap.size) : OwnSts w lo' hi' a c rs :=
  ⟨ownsRow_base h.row (fun k hk => by have := (h.row.lt k hk).1; omega), h3, fun k hk => by have := h.blk k hk; omega, fun x hx => (h.each x hx).widen h1 h2 h3, h.apart⟩
theorem ownSts_nil (w : World) (lo hi : Nat) (h : hi ≤ w.heap.size) : OwnSts w lo hi none 0 [] := ⟨⟨by simp [cellsSts], .inl ⟨rfl, rfl⟩⟩, h, (fun k hk => by cases hk), (fun r hr => by simp at hr), by simp [Value.ownBlock]⟩
theorem OwnSts.nocap {w : World} {lo hi : Nat} {a : Option Addr} {c : Nat} {rs : List SeatA} (h : OwnSts w lo hi a c rs) : a = none → c = 0 := by
  intro ha
  rcases h.row.2 with ⟨hv, _⟩ | ⟨g, cap, cur, hv, _⟩
  · simp only [Value.slice.injEq] at hv; exact hv.2.2
  · simp [ha] at hv
/-- One of a row that lies in block g. -/
theorem row_seat {w : World} {base g n cap : Nat} {rs : List SeatA} (h : w.ownsRow base 70 20 (.slice (some ⟨g, 0, none⟩) n cap) n (cellsSts rs)) (hn : rs.length = n) (k : Nat) (hk : k < n) :
    w.rangeAt g (k * 20) (rs.getD k zeroSt).cells ∧ w.there g (k * 20) 20 := by
  refine ⟨fun j v hv => ?_, fun j hj => ?_⟩
  · have hj : j < 20 := by have := (List.getElem?_eq_some_iff.1 hv).1; rwa [cellsSt_len] at this
    rw [h.cellAt (k * 20 + j) (by omega), cellsSts_at rs k j (by omega) hj, hv]
  · refine ⟨?_, h.frozenAt _⟩
    rw [h.cellAt (k * 20 + j) (by omega), cellsSts_at rs k j (by omega) hj, List.getElem?_eq_getElem (by rw [cellsSt_len]; omega)]
    rfl
theorem OwnSts.reads {w : World} {lo hi : Nat} {a : Option Addr} {c : Nat} {rs : List SeatA} (h : OwnSts w lo hi a c rs) : ReadsSts w a rs := by
  intro hne
  rcases h.row.2 with ⟨_, h0⟩ | ⟨g, cap', cur, hv, hb, hg, hr⟩
  · exact absurd (List.length_eq_zero_iff.1 h0) hne
  · simp only [Value.slice.injEq] at hv
    obtain ⟨rfl, _, rfl⟩ := hv
    refine ⟨g, 0, rfl, fun k hk => ?_⟩
    rw [Nat.zero_add]
    exact ⟨(row_seat h.row rfl k hk).1, (h.each _ (seatD_mem rs k hk)).reads⟩
end Go.Proofs.Ytoboickdkednkab

/- errors.As at a noObject: the walks of errors.As and of impl.isNoObject. -/
namespace Go.Proofs.Ytoboickdkednkab
open Go.RowKit Go.Extern.Stop Go.Stop Go.Extern

end Go.Proofs.Ytoboickdkednkab

/- When an object is right; the walks of impl.partsOk, impl.checkObj and impl.ObjOk. -/
namespace Go.Proofs.Ytoboickdkednkab
open Go.RowKit

end Go.Proofs.Ytoboickdkednkab

/- The walks of impl.slotHas, impl.slotOk and impl.markSlots over either; a slot of a row taken out by its number. -/
namespace Go.Proofs.Ytoboickdkednkab
open Go.RowKit

end Go.Proofs.Ytoboickdkednkab
