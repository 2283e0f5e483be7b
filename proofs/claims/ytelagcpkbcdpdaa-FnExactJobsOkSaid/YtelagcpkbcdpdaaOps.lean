/- Rows of ops: what they are, what a walk reads and owns of them. -/
import Derived.Test.YtelagcpkbcdpdaaTouch
namespace Go.Proofs.Ytelagcpkbcdpdaa
open Go.RowKit

structure OpV where
  kd : Int
  oid : Int
  num : Int
def OpV.cells (l : OpV) : List Value := [.int .i64 l.kd, .int .i64 l.oid, .int .i64 l.num]
def zeroQ : OpV := ⟨0, 0, 0⟩
def cellsQ (ls : List OpV) : List Value := ls.flatMap OpV.cells
theorem cellsQ_len (ls : List OpV) : (cellsQ ls).length = ls.length * 3 := by
  induction ls with
  | nil => rfl
  | cons s r ih => simp only [cellsQ, List.flatMap_cons, List.length_append, OpV.cells, List.length_cons, List.length_nil] at *; omega
theorem cellsQ_app (a b : List OpV) : cellsQ (a ++ b) = cellsQ a ++ cellsQ b := by simp [cellsQ]
theorem cellsQ_at (ls : List OpV) (k j : Nat) (hk : k < ls.length) (hj : j < 3) : (cellsQ ls)[k * 3 + j]? = (ls.getD k zeroQ).cells[j]? := by
  induction ls generalizing k with
  | nil => simp at hk
  | cons s r ih =>
    have e : cellsQ (s :: r) = s.cells ++ cellsQ r := by simp [cellsQ]
    have l3 : s.cells.length = 3 := rfl
    rw [e]
    cases k with
    | zero => rw [List.getElem?_append_left (by rw [l3]; omega)]; simp
    | succ k =>
      rw [List.getElem?_append_right (by rw [l3]; omega), l3]
      have := ih k (by simpa using hk)
      rw [show (k + 1) * 3 + j - 3 = k * 3 + j by omega, this]
      simp
theorem cellsQ_set (ls : List OpV) (k : Nat) (hk : k < ls.length) (t : OpV) :
    (((cellsQ ls).set (k * 3) (.int .i64 t.kd)).set (k * 3 + 1) (.int .i64 t.oid)).set (k * 3 + 2) (.int .i64 t.num) = cellsQ (ls.set k t) := by
  induction ls generalizing k with
  | nil => simp at hk
  | cons s r ih =>
    cases k with
    | zero => simp [cellsQ, OpV.cells]
    | succ k =>
      have := ih k (by simpa using hk)
      have e2 : ∀ x, cellsQ (s :: x) = s.cells ++ cellsQ x := fun x => by simp [cellsQ]
      have l3 : s.cells.length = 3 := rfl
      rw [e2, List.set_append_right _ _ (by rw [l3]; omega), List.set_append_right _ _ (by rw [l3]; omega), List.set_append_right _ _ (by rw [l3]; omega), l3, show (k + 1) * 3 - 3 = k * 3 by omega, show (k + 1) * 3 + 1 - 3 = k * 3 + 1 by omega, show (k + 1) * 3 + 2 - 3 = k * 3 + 2 by omega, this, List.set_cons_succ, e2]

/-- The slice at a reads these. -/
def ReadsQ (w : World) (a : Option Addr) (ls : List OpV) : Prop := ls ≠ [] → ∃ b off, a = some ⟨b, off, none⟩ ∧ ∀ k, k < ls.length → w.cell? ⟨b, off + k * 3, none⟩ = some (.int .i64 (ls.getD k zeroQ).kd) ∧ w.cell? ⟨b, off + k * 3 + 1, none⟩ = some (.int .i64 (ls.getD k zeroQ).oid) ∧ w.cell? ⟨b, off + k * 3 + 2, none⟩ = some (.int .i64 (ls.getD k zeroQ).num)
theorem ReadsQ.nil (w : World) (a : Option Addr) : ReadsQ w a [] := fun h => absurd rfl h
theorem ReadsQ.below {w w' : World} {a : Option Addr} {ls : List OpV} (h : ReadsQ w a ls) (hb : Below w.heap.size w w') : ReadsQ w' a ls := by
  intro hne
  obtain ⟨b, off, ha, hc⟩ := h hne
  refine ⟨b, off, ha, fun k hk => ?_⟩
  obtain ⟨h0, h1, h2⟩ := hc k hk
  have hlt := block_lt h0
  exact ⟨by rw [hb.cell (p := ⟨b, off + k * 3, none⟩) hlt]; exact h0, by rw [hb.cell (p := ⟨b, off + k * 3 + 1, none⟩) hlt]; exact h1, by rw [hb.cell (p := ⟨b, off + k * 3 + 2, none⟩) hlt]; exact h2⟩
theorem ReadsQ.cases {w : World} {a : Option Addr} {ls : List OpV} (h : ReadsQ w a ls) : ls = [] ∨ ∃ b off, a = some ⟨b, off, none⟩ ∧ 0 < ls.length ∧ ∀ k, k < ls.length → w.cell? ⟨b, off + k * 3, none⟩ = some (.int .i64 (ls.getD k zeroQ).kd) ∧ w.cell? ⟨b, off + k * 3 + 1, none⟩ = some (.int .i64 (ls.getD k zeroQ).oid) ∧ w.cell? ⟨b, off + k * 3 + 2, none⟩ = some (.int .i64 (ls.getD k zeroQ).num) := by
  by_cases e : ls = []
  · exact .inl e
  · obtain ⟨b, off, ha, hc⟩ := h e
    exact .inr ⟨b, off, ha, List.length_pos_iff.2 e, hc⟩

/-- The slice at a, of capacity c, owns these; its row lies from lo up to hi. -/
def OwnQ (w : World) (lo hi : Nat) (a : Option Addr) (c : Nat) (ls : List OpV) : Prop :=
  w.ownsRow lo 62 3 (.slice a ls.length c) ls.length (cellsQ ls) ∧ hi ≤ w.heap.size ∧ ∀ k, (Value.slice a ls.length c).ownBlock = some k → k < hi
theorem OwnQ.lt {w : World} {lo hi : Nat} {a : Option Addr} {c : Nat} {ls : List OpV} (h : OwnQ w lo hi a c ls) : ∀ k, (Value.slice a ls.length c).ownBlock = some k → lo ≤ k ∧ k < hi := fun k hk => ⟨(h.1.lt k hk).1, h.2.2 k hk⟩
theorem OwnQ.touch {w w' : World} {lo hi : Nat} {a : Option Addr} {c : Nat} {ls : List OpV} {bl : List Nat} (h : OwnQ w lo hi a c ls) (ht : Touch bl w w') (hd : ∀ k, (Value.slice a ls.length c).ownBlock = some k → k ∉ bl) : OwnQ w' lo hi a c ls :=
  ⟨ownsRow_block h.1 (fun k hk => ht.block k (h.1.lt k hk).2 (hd k hk)), Nat.le_trans h.2.1 ht.size, h.2.2⟩
theorem OwnQ.within {w w' : World} {lo hi l r : Nat} {a : Option Addr} {c : Nat} {ls : List OpV} (h : OwnQ w lo hi a c ls) (hw : Within l r w w') (hd : hi ≤ l ∨ r ≤ lo) : OwnQ w' lo hi a c ls :=
  ⟨ownsRow_block h.1 (fun k hk => hw.block k (by have := h.2.2 k hk; have := h.2.1; omega) (by have := h.lt k hk; omega)), Nat.le_trans h.2.1 hw.size, h.2.2⟩
theorem OwnQ.below {w w' : World} {lo hi : Nat} {a : Option Addr} {c : Nat} {ls : List OpV} (h : OwnQ w lo hi a c ls) (hb : Below w.heap.size w w') : OwnQ w' lo hi a c ls :=
  h.within (Within.of_below (lo := w.heap.size) (hi := w.heap.size) hb) (.inl h.2.1)
theorem OwnQ.widen {w : World} {lo hi lo' hi' : Nat} {a : Option Addr} {c : Nat} {ls : List OpV} (h : OwnQ w lo hi a c ls) (h1 : lo' ≤ lo) (h2 : hi ≤ hi') (h3 : hi' ≤ w.heap.size) : OwnQ w lo' hi' a c ls :=
  ⟨ownsRow_base h.1 (fun k hk => by have := h.lt k hk; omega), h3, fun k hk => by have := h.lt k hk; omega⟩
theorem ownQ_nil (w : World) (lo hi : Nat) (h : hi ≤ w.heap.size) : OwnQ w lo hi none 0 [] := ⟨⟨by simp [cellsQ], .inl ⟨rfl, rfl⟩⟩, h, fun k hk => by cases hk⟩
theorem OwnQ.nocap {w : World} {lo hi : Nat} {a : Option Addr} {c : Nat} {ls : List OpV} (h : OwnQ w lo hi a c ls) : a = none → c = 0 := by
  intro ha
  rcases h.1.2 with ⟨hv, _⟩ | ⟨g, cap, cur, hv, _⟩
  · simp only [Value.slice.injEq] at hv; exact hv.2.2
  · simp [ha] at hv
/-- The three cells of one of a row that lies in block g. -/
theorem row_op {w : World} {base g n cap : Nat} {ls : List OpV} (h : w.ownsRow base 62 3 (.slice (some ⟨g, 0, none⟩) n cap) n (cellsQ ls)) (hn : ls.length = n) (k : Nat) (hk : k < n) :
    w.cell? ⟨g, k * 3, none⟩ = some (.int .i64 (ls.getD k zeroQ).kd) ∧ w.cell? ⟨g, k * 3 + 1, none⟩ = some (.int .i64 (ls.getD k zeroQ).oid) ∧ w.cell? ⟨g, k * 3 + 2, none⟩ = some (.int .i64 (ls.getD k zeroQ).num) ∧ (∀ i, w.frozen? ⟨g, i, none⟩ = false) := by
  have a0 := cellsQ_at ls k 0 (by omega) (by omega)
  have a1 := cellsQ_at ls k 1 (by omega) (by omega)
  have a2 := cellsQ_at ls k 2 (by omega) (by omega)
  simp only [OpV.cells, Nat.add_zero, List.getElem?_cons_zero, List.getElem?_cons_succ] at a0 a1 a2
  exact ⟨by rw [h.cellAt (k * 3) (by omega)]; exact a0, by rw [h.cellAt (k * 3 + 1) (by omega)]; exact a1, by rw [h.cellAt (k * 3 + 2) (by omega)]; exact a2, fun i => h.frozenAt i⟩
/-- One of the row stored. -/
theorem row_storeQ {w : World} {base g n cap : Nat} {ls : List OpV} (h : w.ownsRow base 62 3 (.slice (some ⟨g, 0, none⟩) n cap) n (cellsQ ls)) (hn : ls.length = n) (k : Nat) (hk : k < n) (t : OpV) :
    ∃ W, Hid (((w.setCell ⟨g, k * 3, none⟩ (.int .i64 t.kd)).setCell ⟨g, k * 3 + 1, none⟩ (.int .i64 t.oid)).setCell ⟨g, k * 3 + 2, none⟩ (.int .i64 t.num) = W) ∧ W.ownsRow base 62 3 (.slice (some ⟨g, 0, none⟩) n cap) n (cellsQ (ls.set k t)) ∧ w.grownBy W (some g) := by
  have s1 := h.stored (k * 3) (.int .i64 t.kd)
  have s2 := s1.1.stored (k * 3 + 1) (.int .i64 t.oid)
  have s3 := s2.1.stored (k * 3 + 2) (.int .i64 t.num)
  refine ⟨_, rfl, ?_, grownBy_trans (grownBy_trans s1.2 s2.2) s3.2⟩
  have := s3.1
  rw [cellsQ_set ls k (by omega) t] at this
  exact this
theorem OwnQ.reads {w : World} {lo hi : Nat} {a : Option Addr} {c : Nat} {ls : List OpV} (h : OwnQ w lo hi a c ls) : ReadsQ w a ls := by
  intro hne
  rcases h.1.2 with ⟨_, h0⟩ | ⟨g, cap', cur, hv, hb, hg, hr⟩
  · exact absurd (List.length_eq_zero_iff.1 h0) hne
  · simp only [Value.slice.injEq] at hv
    obtain ⟨rfl, _, rfl⟩ := hv
    refine ⟨g, 0, rfl, fun k hk => ?_⟩
    obtain ⟨a0, a1, a2, _⟩ := row_op h.1 rfl k hk
    rw [Nat.zero_add]
    exact ⟨a0, a1, a2⟩
end Go.Proofs.Ytelagcpkbcdpdaa
