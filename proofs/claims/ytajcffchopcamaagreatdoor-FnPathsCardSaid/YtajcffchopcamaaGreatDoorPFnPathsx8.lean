/- Several texts in one, in their order. -/
import Derived.Test.YtajcffchopcamaaGreatDoorPFnPathsx7
import Derived.Deep.RegionHeld3
import Derived.Test.YtajcffchopcamaaGreatDoorPFnPathsx3
import Derived.Deep.MidRow
import Derived.Test.YtajcffchopcamaaGreatDoorPFnPathsx5
import Derived.Test.YtajcffchopcamaaGreatDoorPFnPathsx4
/- The text of an object; the walks of spec.l2Join and spec.ObjText. -/
namespace Go.Proofs.YtajcffchopcamaaGreatDoor
open Go.RowKit

theorem num_len (z : Int) (h : -1000000000 ≤ z ∧ z ≤ 1000000000) : (numText z).length ≤ 11 := by
  unfold numText
  split
  · have := decOf_len 9 (-z).toNat (by omega)
    simp; omega
  · have := decOf_len 9 z.toNat (by omega)
    omega
end Go.Proofs.YtajcffchopcamaaGreatDoor

/- The walk of laws.toSlotA4. -/
namespace Go.Proofs.YtajcffchopcamaaGreatDoor
open Go.RowKit

end Go.Proofs.YtajcffchopcamaaGreatDoor

/- Ranges of cells in a box: read, and written, whole. -/
namespace Go.Proofs.YtajcffchopcamaaGreatDoor
open Go.RowKit

theorem Box.range {w : World} {B : Nat} {t : TypeId} (pre cs post : List Value) (b : Box w B (pre ++ (cs ++ post)) t) : w.rangeAt B pre.length cs := by
  intro j v hv
  have hj : j < cs.length := (List.getElem?_eq_some_iff.1 hv).1
  refine b.cell _ v ?_
  rw [List.getElem?_append_right (by omega), List.getElem?_append_left (by omega)]
  rw [show pre.length + j - pre.length = j by omega]
  exact hv
theorem Box.there {w : World} {B : Nat} {vs : List Value} {t : TypeId} (b : Box w B vs t) (o n : Nat) (h : o + n ≤ vs.length) : w.there B o n := fun j hj =>
  ⟨by rw [b.cell (o + j) _ (List.getElem?_eq_getElem (by omega))]; rfl, b.frozen _⟩
structure PageA where
  lsn : Int
  ss : List SlotA
def PageA.cells (p : PageA) : List Value := .int .i64 p.lsn :: cellsS p.ss
end Go.Proofs.YtajcffchopcamaaGreatDoor

/- Rows of slots: what they are, what a walk reads and owns of them. -/
namespace Go.Proofs.YtajcffchopcamaaGreatDoor
open Go.RowKit

def cellsVw (rs : List SlotA) : List Value := rs.flatMap SlotA.cells
theorem cells_lenV (r : SlotA) : r.cells.length = 4 := rfl
theorem cellsVw_len (rs : List SlotA) : (cellsVw rs).length = rs.length * 4 := by
  induction rs with
  | nil => rfl
  | cons s r ih => simp only [cellsVw, List.flatMap_cons, List.length_append, cells_lenV, List.length_cons] at *; omega
theorem cellsVw_app (a b : List SlotA) : cellsVw (a ++ b) = cellsVw a ++ cellsVw b := by simp [cellsVw]
theorem cellsVw_cons (r : SlotA) (b : List SlotA) : cellsVw (r :: b) = r.cells ++ cellsVw b := by simp [cellsVw]
theorem cellsVw_at (rs : List SlotA) (k j : Nat) (hk : k < rs.length) (hj : j < 4) : (cellsVw rs)[k * 4 + j]? = (rs.getD k zeroS).cells[j]? := by
  induction rs generalizing k with
  | nil => simp at hk
  | cons s r ih =>
    rw [cellsVw_cons]
    cases k with
    | zero => rw [List.getElem?_append_left (by rw [cells_lenV]; omega)]; simp
    | succ k =>
      rw [List.getElem?_append_right (by rw [cells_lenV]; omega), cells_lenV]
      have := ih k (by simpa using hk)
      rw [show (k + 1) * 4 + j - 4 = k * 4 + j by omega, this]
      simp
theorem slotD_mem (rs : List SlotA) (k : Nat) (hk : k < rs.length) : rs.getD k zeroS ∈ rs := by
  have e : rs.getD k zeroS = rs[k] := by simp [List.getD, hk]
  rw [e]
  exact List.getElem_mem hk

theorem rangeAt_belowV {w w' : World} {b o n : Nat} {cs : List Value} (h : w.rangeAt b o cs) (hb : Below n w w') (hn : b < n) : w'.rangeAt b o cs := fun j v hv => (hb.cell (p := ⟨b, o + j, none⟩) hn).trans (h j v hv)
theorem rangeV_lt {w : World} {b o : Nat} {r : SlotA} (h : w.rangeAt b o r.cells) : b < w.heap.size := block_lt (h 0 _ rfl)

/-- The slice at a reads these. -/
def ReadsVw (w : World) (a : Option Addr) (rs : List SlotA) : Prop := rs ≠ [] → ∃ b off, a = some ⟨b, off, none⟩ ∧ ∀ k, k < rs.length → w.rangeAt b (off + k * 4) (rs.getD k zeroS).cells ∧ (rs.getD k zeroS).reads w
theorem ReadsVw.nil (w : World) (a : Option Addr) : ReadsVw w a [] := fun h => absurd rfl h
theorem ReadsVw.below {w w' : World} {a : Option Addr} {rs : List SlotA} (h : ReadsVw w a rs) (hb : Below w.heap.size w w') : ReadsVw w' a rs := by
  intro hne
  obtain ⟨b, off, ha, hc⟩ := h hne
  refine ⟨b, off, ha, fun k hk => ?_⟩
  obtain ⟨h0, h1⟩ := hc k hk
  exact ⟨rangeAt_belowV h0 hb (rangeV_lt h0), ReadsO.below h1 hb⟩
theorem ReadsVw.cases {w : World} {a : Option Addr} {rs : List SlotA} (h : ReadsVw w a rs) : rs = [] ∨ ∃ b off, a = some ⟨b, off, none⟩ ∧ 0 < rs.length ∧ ∀ k, k < rs.length → w.rangeAt b (off + k * 4) (rs.getD k zeroS).cells ∧ (rs.getD k zeroS).reads w := by
  by_cases e : rs = []
  · exact .inl e
  · obtain ⟨b, off, ha, hc⟩ := h e
    exact .inr ⟨b, off, ha, List.length_pos_iff.2 e, hc⟩

/-- The slice at a, of capacity c, owns these, and what hangs at them; all of it lies from lo up to hi, no two rows are one. -/
structure OwnVw (w : World) (lo hi : Nat) (a : Option Addr) (c : Nat) (rs : List SlotA) : Prop where
  row : w.ownsRow lo 41 4 (.slice a rs.length c) rs.length (cellsVw rs)
  top : hi ≤ w.heap.size
  blk : ∀ k, (Value.slice a rs.length c).ownBlock = some k → k < hi
  each : ∀ r ∈ rs, r.own w lo hi
  apart : ((Value.slice a rs.length c).ownBlock.toList ++ rs.flatMap SlotA.blocks).Nodup

def blocksVw (a : Option Addr) (c : Nat) (rs : List SlotA) : List Nat := (Value.slice a rs.length c).ownBlock.toList ++ rs.flatMap SlotA.blocks
theorem OwnVw.blocks_lt {w : World} {lo hi : Nat} {a : Option Addr} {c : Nat} {rs : List SlotA} (h : OwnVw w lo hi a c rs) : ∀ k ∈ blocksVw a c rs, lo ≤ k ∧ k < hi := by
  intro k hk
  simp only [blocksVw, List.mem_append, List.mem_flatMap, Option.mem_toList] at hk
  rcases hk with h1 | ⟨r, hr, h1⟩
  · exact ⟨(h.row.lt k h1).1, h.blk k h1⟩
  · exact SlotA.blocks_lt (h.each r hr) k h1
theorem OwnVw.touch {w w' : World} {lo hi : Nat} {a : Option Addr} {c : Nat} {rs : List SlotA} {bl : List Nat} (h : OwnVw w lo hi a c rs) (ht : Touch bl w w') (hd : ∀ k ∈ blocksVw a c rs, k ∉ bl) : OwnVw w' lo hi a c rs :=
  ⟨ownsRow_block h.row (fun k hk => ht.block k (h.row.lt k hk).2 (hd k (List.mem_append.2 (.inl (Option.mem_toList.2 hk))))), Nat.le_trans h.top ht.size, h.blk, fun r hr => SlotA.touch (h.each r hr) ht (fun k hk => hd k (List.mem_append.2 (.inr (List.mem_flatMap.2 ⟨r, hr, hk⟩)))), h.apart⟩
theorem OwnVw.within {w w' : World} {lo hi l r : Nat} {a : Option Addr} {c : Nat} {rs : List SlotA} (h : OwnVw w lo hi a c rs) (hw : Within l r w w') (hd : hi ≤ l ∨ r ≤ lo) : OwnVw w' lo hi a c rs :=
  ⟨ownsRow_block h.row (fun k hk => hw.block k (by have := h.blk k hk; have := h.top; omega) (by have := h.blk k hk; have := (h.row.lt k hk).1; omega)), Nat.le_trans h.top hw.size, h.blk, fun x hx => OwnO.within (h.each x hx) hw hd, h.apart⟩
theorem OwnVw.below {w w' : World} {lo hi : Nat} {a : Option Addr} {c : Nat} {rs : List SlotA} (h : OwnVw w lo hi a c rs) (hb : Below w.heap.size w w') : OwnVw w' lo hi a c rs :=
  h.within (Within.of_below (lo := w.heap.size) (hi := w.heap.size) hb) (.inl h.top)
theorem OwnVw.widen {w : World} {lo hi lo' hi' : Nat} {a : Option Addr} {c : Nat} {rs : List SlotA} (h : OwnVw w lo hi a c rs) (h1 : lo' ≤ lo) (h2 : hi ≤ hi') (h3 : hi' ≤ w.heap.size) : OwnVw w lo' hi' a c rs :=
  ⟨ownsRow_base h.row (fun k hk => by have := (h.row.lt k hk).1; omega), h3, fun k hk => by have := h.blk k hk; omega, fun x hx => OwnO.widen (h.each x hx) h1 h2 h3, h.apart⟩
theorem OwnVw.nocap {w : World} {lo hi : Nat} {a : Option Addr} {c : Nat} {rs : List SlotA} (h : OwnVw w lo hi a c rs) : a = none → c = 0 := by
  intro ha
  rcases h.row.2 with ⟨hv, _⟩ | ⟨g, cap, cur, hv, _⟩
  · simp only [Value.slice.injEq] at hv; exact hv.2.2
  · simp [ha] at hv
/-- One of a row that lies in block g. -/
theorem row_slot {w : World} {base g n cap : Nat} {rs : List SlotA} (h : w.ownsRow base 41 4 (.slice (some ⟨g, 0, none⟩) n cap) n (cellsVw rs)) (hn : rs.length = n) (k : Nat) (hk : k < n) :
    w.rangeAt g (k * 4) (rs.getD k zeroS).cells ∧ w.there g (k * 4) 4 := by
  refine ⟨fun j v hv => ?_, fun j hj => ?_⟩
  · have hj : j < 4 := by have := (List.getElem?_eq_some_iff.1 hv).1; rwa [cells_lenV] at this
    rw [h.cellAt (k * 4 + j) (by omega), cellsVw_at rs k j (by omega) hj, hv]
  · refine ⟨?_, h.frozenAt _⟩
    rw [h.cellAt (k * 4 + j) (by omega), cellsVw_at rs k j (by omega) hj, List.getElem?_eq_getElem (by rw [cells_lenV]; omega)]
    rfl
theorem OwnVw.reads {w : World} {lo hi : Nat} {a : Option Addr} {c : Nat} {rs : List SlotA} (h : OwnVw w lo hi a c rs) : ReadsVw w a rs := by
  intro hne
  rcases h.row.2 with ⟨_, h0⟩ | ⟨g, cap', cur, hv, hb, hg, hr⟩
  · exact absurd (List.length_eq_zero_iff.1 h0) hne
  · simp only [Value.slice.injEq] at hv
    obtain ⟨rfl, _, rfl⟩ := hv
    refine ⟨g, 0, rfl, fun k hk => ?_⟩
    rw [Nat.zero_add]
    exact ⟨(row_slot h.row rfl k hk).1, OwnO.reads (h.each _ (slotD_mem rs k hk))⟩
/-- A stretch of a row's cells stored. -/
theorem row_setCellsV {base g n cap sz : Nat} {e : TypeId} (cs : List Value) : ∀ (pre old post : List Value) (w : World), w.ownsRow base e sz (.slice (some ⟨g, 0, none⟩) n cap) n (pre ++ (old ++ post)) → old.length = cs.length →
    (w.setCells g pre.length cs).ownsRow base e sz (.slice (some ⟨g, 0, none⟩) n cap) n (pre ++ (cs ++ post)) ∧ w.grownBy (w.setCells g pre.length cs) (some g) := by
  induction cs with
  | nil => intro pre old post w h hl; obtain rfl := List.length_eq_zero_iff.1 hl; exact ⟨h, World.grownBy.refl _ _⟩
  | cons c cr ih =>
    intro pre old post w h hl
    obtain ⟨x, r, rfl⟩ : ∃ x r, old = x :: r := by
      cases old with
      | nil => simp at hl
      | cons x r => exact ⟨x, r, rfl⟩
    have hs := h.stored pre.length c
    rw [List.set_append_right _ _ (Nat.le_refl _), Nat.sub_self] at hs
    simp only [List.cons_append, List.set_cons_zero] at hs
    have := ih (pre ++ [c]) r post (w.setCell ⟨g, pre.length, none⟩ c) (by simpa using hs.1) (by simpa using hl)
    simp only [List.length_append, List.length_singleton] at this
    rw [World.setCells]
    exact ⟨by simpa using this.1, grownBy_trans hs.2 this.2⟩
theorem setCells_heapV (B : Nat) : ∀ (vs : List Value) (o : Nat) (w : World), (w.setCells B o vs).heap.size = w.heap.size := by
  intro vs
  induction vs with
  | nil => intro o w; rfl
  | cons v r ih => intro o w; rw [World.setCells, ih]; simp

/-- A slot of the row stored: q, which is owned elsewhere. -/
theorem OwnVw.fill {w : World} {lo hi g c : Nat} {A B : List SlotA} {z : SlotA} (h : OwnVw w lo hi (some ⟨g, 0, none⟩) c (A ++ z :: B)) (q : SlotA) {l u : Nat} (hq : q.own w l u) (hl : hi ≤ l) (hlo : lo ≤ hi) (hu : u ≤ w.heap.size) :
    ∃ W, Hid (w.setCells g (A.length * 4) q.cells = W) ∧ OwnVw W lo (max hi u) (some ⟨g, 0, none⟩) c (A ++ q :: B) ∧ Touch [g] w W ∧ W.heap.size = w.heap.size := by
  have hrow := h.row
  rw [cellsVw_app, cellsVw_cons, List.length_append, List.length_cons] at hrow
  have hg : lo ≤ g ∧ g < hi := ⟨(hrow.lt g rfl).1, h.blk g rfl⟩
  obtain ⟨h1, h2⟩ := row_setCellsV q.cells (cellsVw A) z.cells (cellsVw B) w hrow rfl
  rw [cellsVw_len] at h1 h2
  have ht : Touch [g] w (w.setCells g (A.length * 4) q.cells) := Touch.of_grown h2 (fun k hk => by cases hk; simp)
  have hap := h.apart
  simp only [List.flatMap_append, List.flatMap_cons, Value.ownBlock, Option.toList, List.singleton_append, List.nodup_cons, List.nodup_append, List.mem_append, not_or] at hap
  obtain ⟨⟨n1, n2, n3⟩, a1, ⟨a2, a3, a4⟩, a5⟩ := hap
  have hqb := SlotA.blocks_lt hq
  have hA : ∀ x ∈ A.flatMap SlotA.blocks, lo ≤ x ∧ x < hi := fun x hx => by
    obtain ⟨r, hr, hx⟩ := List.mem_flatMap.1 hx
    exact SlotA.blocks_lt (h.each r (by simp [hr])) x hx
  have hB : ∀ x ∈ B.flatMap SlotA.blocks, lo ≤ x ∧ x < hi := fun x hx => by
    obtain ⟨r, hr, hx⟩ := List.mem_flatMap.1 hx
    exact SlotA.blocks_lt (h.each r (by simp [hr])) x hx
  have hsz := setCells_heapV g q.cells (A.length * 4) w
  refine ⟨_, rfl, ⟨?_, ?_, fun k hk => ?_, fun r hr => ?_, ?_⟩, ht, hsz⟩
  · rw [cellsVw_app, cellsVw_cons, List.length_append, List.length_cons]
    exact h1
  · rw [hsz]
    have := h.top
    omega
  · cases hk
    show g < max hi u
    omega
  · rcases List.mem_append.1 hr with hr | hr
    · exact (SlotA.touch (h.each r (by simp [hr])) ht (fun k hk hk' => n1 (by rw [← List.mem_singleton.1 hk']; exact List.mem_flatMap.2 ⟨r, hr, hk⟩))).widen (Nat.le_refl _) (by omega) (by rw [hsz]; have := h.top; omega)
    · rcases List.mem_cons.1 hr with rfl | hr
      · exact (SlotA.touch hq ht (fun k hk hk' => by have := hqb k hk; have := List.mem_singleton.1 hk'; omega)).widen (by omega) (by omega) (by rw [hsz]; have := h.top; omega)
      · exact (SlotA.touch (h.each r (by simp [hr])) ht (fun k hk hk' => n3 (by rw [← List.mem_singleton.1 hk']; exact List.mem_flatMap.2 ⟨r, hr, hk⟩))).widen (Nat.le_refl _) (by omega) (by rw [hsz]; have := h.top; omega)
  · simp only [List.flatMap_append, List.flatMap_cons, Value.ownBlock, Option.toList, List.singleton_append, List.nodup_cons, List.nodup_append, List.mem_append, not_or]
    refine ⟨⟨n1, fun hk => by have := hqb g hk; omega, n3⟩, a1, ⟨SlotA.blocks_nodup hq, a3, fun x hx y hy e => by have := hqb x hx; have := hB y hy; omega⟩, fun x hx y hy e => ?_⟩
    rcases hy with hy | hy
    · have := hqb y hy; have := hA x hx; omega
    · exact a5 x hx y (.inr hy) e
end Go.Proofs.YtajcffchopcamaaGreatDoor

/- The walks of laws.eqSlot, eqSlotA4, eqPage, where both say the same. -/
namespace Go.Proofs.YtajcffchopcamaaGreatDoor
open Go.RowKit

end Go.Proofs.YtajcffchopcamaaGreatDoor
