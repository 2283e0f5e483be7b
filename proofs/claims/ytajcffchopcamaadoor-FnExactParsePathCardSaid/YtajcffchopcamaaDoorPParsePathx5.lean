/- Several texts in one, in their order. -/
import Derived.Test.YtajcffchopcamaaDoorPParsePathx4
import Derived.Test.YtajcffchopcamaaDoorPParsePathx3
/- The walk of laws.toObj. -/
namespace Go.Proofs.YtajcffchopcamaaDoor
open Go.RowKit

end Go.Proofs.YtajcffchopcamaaDoor

/- Slots: what they are, what a walk reads and owns of them; the walk of laws.toSlot. -/
namespace Go.Proofs.YtajcffchopcamaaDoor
open Go.RowKit

structure SlotV where
  has : Bool
  o : ObjV

/-- A slot, and where its object's lists lie. -/
structure SlotA where
  v : SlotV
  aI : Option Addr
  cI : Nat
  aR : Option Addr
  cR : Nat

def SlotA.cells (s : SlotA) : List Value := [.bool s.v.has, .int .i64 s.v.o.kind, .slice s.aI s.v.o.ints.length s.cI, .slice s.aR s.v.o.refs.length s.cR]
def SlotA.reads (w : World) (s : SlotA) : Prop := ReadsO w s.aI s.cI s.aR s.cR s.v.o
def SlotA.own (w : World) (lo hi : Nat) (s : SlotA) : Prop := OwnO w lo hi s.aI s.cI s.aR s.cR s.v.o

theorem Box.four {w : World} {B : Nat} {x0 x1 x2 x3 : Value} {t : TypeId} (b : Box w B [x0, x1, x2, x3] t) :
    w.cell? ⟨B, 0, none⟩ = some x0 ∧ w.cell? ⟨B, 1, none⟩ = some x1 ∧ w.cell? ⟨B, 2, none⟩ = some x2 ∧ w.cell? ⟨B, 3, none⟩ = some x3 ∧ w.frozen? ⟨B, 0, none⟩ = false ∧ w.frozen? ⟨B, 1, none⟩ = false ∧ w.frozen? ⟨B, 2, none⟩ = false ∧ w.frozen? ⟨B, 3, none⟩ = false :=
  ⟨b.cell 0 _ rfl, b.cell 1 _ rfl, b.cell 2 _ rfl, b.cell 3 _ rfl, b.frozen 0, b.frozen 1, b.frozen 2, b.frozen 3⟩
end Go.Proofs.YtajcffchopcamaaDoor

/- Rows of slots: their cells, what is owned of them, a slot stored. -/
namespace Go.Proofs.YtajcffchopcamaaDoor
open Go.RowKit

def cellsS (ss : List SlotA) : List Value := ss.flatMap SlotA.cells
def zeroS : SlotA := ⟨⟨false, ⟨0, [], []⟩⟩, none, 0, none, 0⟩

theorem cells_len (s : SlotA) : s.cells.length = 4 := rfl
theorem cellsS_at (ss : List SlotA) (k j : Nat) (hk : k < ss.length) (hj : j < 4) : (cellsS ss)[k * 4 + j]? = (ss.getD k zeroS).cells[j]? := by
  induction ss generalizing k with
  | nil => simp at hk
  | cons s r ih =>
    have e : cellsS (s :: r) = s.cells ++ cellsS r := by simp [cellsS]
    rw [e]
    cases k with
    | zero => rw [List.getElem?_append_left (by rw [cells_len]; omega)]; simp
    | succ k =>
      rw [List.getElem?_append_right (by rw [cells_len]; omega), cells_len]
      have := ih k (by simpa using hk)
      rw [show (k + 1) * 4 + j - 4 = k * 4 + j by omega, this]
      simp
/-- The facts that a walk wants of slot k of a row of slots that lies in block B from cell o on. -/
theorem Box.slot {w : World} {B : Nat} {ss : List SlotA} {t : TypeId} (b : Box w B (cellsS ss) t) (k : Nat) (hk : k < ss.length) :
    w.cell? ⟨B, k * 4, none⟩ = some (.bool (ss.getD k zeroS).v.has) ∧ w.cell? ⟨B, k * 4 + 1, none⟩ = some (.int .i64 (ss.getD k zeroS).v.o.kind) ∧
    w.cell? ⟨B, k * 4 + 2, none⟩ = some (.slice (ss.getD k zeroS).aI (ss.getD k zeroS).v.o.ints.length (ss.getD k zeroS).cI) ∧ w.cell? ⟨B, k * 4 + 3, none⟩ = some (.slice (ss.getD k zeroS).aR (ss.getD k zeroS).v.o.refs.length (ss.getD k zeroS).cR) ∧
    (∀ i, w.frozen? ⟨B, i, none⟩ = false) :=
  ⟨b.cell _ _ (cellsS_at ss k 0 hk (by omega)), b.cell _ _ (cellsS_at ss k 1 hk (by omega)), b.cell _ _ (cellsS_at ss k 2 hk (by omega)), b.cell _ _ (cellsS_at ss k 3 hk (by omega)), fun i => b.frozen i⟩
/-- The blocks that a slot's lists own. -/
def SlotA.blocks (s : SlotA) : List Nat := (Value.slice s.aI s.v.o.ints.length s.cI).ownBlock.toList ++ (Value.slice s.aR s.v.o.refs.length s.cR).ownBlock.toList
/-- The slots own their lists; no two of them share a row. -/
structure OwnS (w : World) (lo hi : Nat) (ss : List SlotA) : Prop where
  each : ∀ s ∈ ss, s.own w lo hi
  apart : (ss.flatMap SlotA.blocks).Nodup

theorem SlotA.blocks_lt {w : World} {lo hi : Nat} {s : SlotA} (h : s.own w lo hi) : ∀ k ∈ s.blocks, lo ≤ k ∧ k < hi := by
  intro k hk
  rcases List.mem_append.1 hk with h1 | h1
  · exact h.ints.lt k (Option.mem_toList.1 h1)
  · exact h.refs.lt k (Option.mem_toList.1 h1)
theorem SlotA.blocks_nodup {w : World} {lo hi : Nat} {s : SlotA} (h : s.own w lo hi) : s.blocks.Nodup := by
  unfold SlotA.blocks
  cases h1 : (Value.slice s.aI s.v.o.ints.length s.cI).ownBlock with
  | none => cases h2 : (Value.slice s.aR s.v.o.refs.length s.cR).ownBlock <;> simp
  | some a =>
    cases h2 : (Value.slice s.aR s.v.o.refs.length s.cR).ownBlock with
    | none => simp
    | some b =>
      have := h.apart a h1
      rw [h2] at this
      have hne : b ≠ a := fun e => this (by rw [e])
      simp [Ne.symm hne]
theorem OwnS.nil (w : World) (lo hi : Nat) : OwnS w lo hi [] := ⟨by simp, by simp⟩
theorem OwnS.below {w w' : World} {lo hi : Nat} {ss : List SlotA} (h : OwnS w lo hi ss) (hb : Below w.heap.size w w') : OwnS w' lo hi ss := ⟨fun s hs => (h.each s hs).below hb, h.apart⟩
theorem OwnS.within {w w' : World} {lo hi l r : Nat} {ss : List SlotA} (h : OwnS w lo hi ss) (hw : Within l r w w') (hd : hi ≤ l ∨ r ≤ lo) : OwnS w' lo hi ss := ⟨fun s hs => (h.each s hs).within hw hd, h.apart⟩
theorem OwnS.widen {w : World} {lo hi lo' hi' : Nat} {ss : List SlotA} (h : OwnS w lo hi ss) (h1 : lo' ≤ lo) (h2 : hi ≤ hi') (h3 : hi' ≤ w.heap.size) : OwnS w lo' hi' ss := ⟨fun s hs => (h.each s hs).widen h1 h2 h3, h.apart⟩
theorem OwnS.blocks_lt {w : World} {lo hi : Nat} {ss : List SlotA} (h : OwnS w lo hi ss) : ∀ k ∈ ss.flatMap SlotA.blocks, lo ≤ k ∧ k < hi := by
  intro k hk
  obtain ⟨s, hs, hk'⟩ := List.mem_flatMap.1 hk
  exact SlotA.blocks_lt (h.each s hs) k hk'
def ReadsS (w : World) (ss : List SlotA) : Prop := ∀ s ∈ ss, s.reads w
theorem OwnS.reads {w : World} {lo hi : Nat} {ss : List SlotA} (h : OwnS w lo hi ss) : ReadsS w ss := fun s hs => OwnO.reads (h.each s hs)
theorem ReadsS.below {w w' : World} {ss : List SlotA} (h : ReadsS w ss) (hb : Below w.heap.size w w') : ReadsS w' ss := fun s hs => ReadsO.below (h s hs) hb
end Go.Proofs.YtajcffchopcamaaDoor
