/- Several texts in one, in their order. -/
import Derived.Test.YtekljhabjkmhpaaDoorPFnLockedx3
import Derived.Test.YtekljhabjkmhpaaDoorPFnLockedx4
import Derived.Test.YtekljhabjkmhpaaDoorPFnLockedx5
import Derived.Deep.RegionHeld3
import Derived.WalkKit
/- What is written lies in some blocks, named one by one; all else is as it was. -/
namespace Go.Proofs.YtekljhabjkmhpaaDoor
open Go.RowKit

structure Touch (bl : List Nat) (w w' : World) : Prop where
  os : w'.os = w.os
  tape : w'.tape = w.tape
  output : w'.output = w.output
  size : w.heap.size ≤ w'.heap.size
  block : ∀ k, k < w.heap.size → k ∉ bl → w'.heap[k]? = w.heap[k]?

theorem Touch.refl (bl : List Nat) (w : World) : Touch bl w w := ⟨rfl, rfl, rfl, Nat.le_refl _, fun _ _ _ => rfl⟩
theorem Touch.trans {bl : List Nat} {a b c : World} (h : Touch bl a b) (k : Touch bl b c) : Touch bl a c :=
  ⟨k.os.trans h.os, k.tape.trans h.tape, k.output.trans h.output, Nat.le_trans h.size k.size, fun i hi hn => (k.block i (Nat.lt_of_lt_of_le hi h.size) hn).trans (h.block i hi hn)⟩
theorem Touch.mono {bl bl' : List Nat} {w w' : World} (h : Touch bl w w') (hs : ∀ k ∈ bl, k ∈ bl') : Touch bl' w w' :=
  ⟨h.os, h.tape, h.output, h.size, fun k hk hn => h.block k hk (fun hh => hn (hs k hh))⟩
theorem Touch.of_below {bl : List Nat} {w w' : World} (h : Below w.heap.size w w') : Touch bl w w' := ⟨h.os, h.tape, h.output, h.size, fun k hk _ => h.block k hk⟩
theorem Touch.of_grown {bl : List Nat} {w w' : World} {row : Option Nat} (h : w.grownBy w' row) (hr : ∀ k, row = some k → k ∈ bl) : Touch bl w w' :=
  ⟨h.os, h.tape, h.output, h.size, fun k hk hn => h.block k hk (fun e => hn (hr k e.symm))⟩
theorem Touch.within {bl : List Nat} {lo hi : Nat} {w w' : World} (h : Touch bl w w') (hb : ∀ k ∈ bl, lo ≤ k ∧ k < hi) : Within lo hi w w' :=
  ⟨h.os, h.tape, h.output, h.size, fun k hk hn => h.block k hk (fun hh => hn (hb k hh))⟩
theorem Box.touch {w w' : World} {B : Nat} {vs : List Value} {t : TypeId} {bl : List Nat} (h : Box w B vs t) (ht : Touch bl w w') (hn : B ∉ bl) : Box w' B vs t := h.block (ht.block B h.lt hn)
theorem OwnI.touch {w w' : World} {lo hi : Nat} {a : Option Addr} {c : Nat} {ns : List Int} {bl : List Nat} (h : OwnI w lo hi a c ns) (ht : Touch bl w w') (hd : ∀ k, (Value.slice a ns.length c).ownBlock = some k → k ∉ bl) : OwnI w' lo hi a c ns :=
  ⟨ownsRow_block h.1 (fun k hk => ht.block k (h.1.lt k hk).2 (hd k hk)), Nat.le_trans h.2.1 ht.size, h.2.2⟩
theorem SlotA.touch {w w' : World} {lo hi : Nat} {s : SlotA} {bl : List Nat} (h : s.own w lo hi) (ht : Touch bl w w') (hd : ∀ k ∈ s.blocks, k ∉ bl) : s.own w' lo hi :=
  ⟨h.ints.touch ht (fun k hk => hd k (List.mem_append.2 (.inl (Option.mem_toList.2 hk)))), h.refs.touch ht (fun k hk => hd k (List.mem_append.2 (.inr (Option.mem_toList.2 hk)))), h.apart⟩

/-- One of them is another, in the same blocks: the others are as they were. -/
theorem OwnS.replace {w w' : World} {lo hi : Nat} {A B : List SlotA} {s t : SlotA} (h : OwnS w lo hi (A ++ s :: B)) (ht : Touch s.blocks w w') (ho : t.own w' lo hi) (hb : t.blocks = s.blocks) : OwnS w' lo hi (A ++ t :: B) := by
  have hap := h.apart
  rw [List.flatMap_append, List.flatMap_cons, List.nodup_append] at hap
  obtain ⟨_, h2, h3⟩ := hap
  rw [List.nodup_append] at h2
  obtain ⟨_, _, h5⟩ := h2
  refine ⟨fun x hx => ?_, ?_⟩
  · rcases List.mem_append.1 hx with hA | hB
    · refine SlotA.touch (h.each x (by simp [hA])) ht (fun k hk hk' => ?_)
      exact h3 k (List.mem_flatMap.2 ⟨x, hA, hk⟩) k (List.mem_append.2 (.inl hk')) rfl
    · rcases List.mem_cons.1 hB with rfl | hB
      · exact ho
      · refine SlotA.touch (h.each x (by simp [hB])) ht (fun k hk hk' => ?_)
        exact h5 k hk' k (List.mem_flatMap.2 ⟨x, hB, hk⟩) rfl
  · have := h.apart
    rw [List.flatMap_append, List.flatMap_cons] at this ⊢
    rw [hb]; exact this

end Go.Proofs.YtekljhabjkmhpaaDoor

/- Rows of grants: what they are, what a walk reads and owns of them. -/
namespace Go.Proofs.YtekljhabjkmhpaaDoor
open Go.RowKit

structure GrantV where
  tx : Int
  res : Int
  mode : Int
def GrantV.cells (l : GrantV) : List Value := [.int .i64 l.tx, .int .i64 l.res, .int .i64 l.mode]
def zeroG : GrantV := ⟨0, 0, 0⟩
def cellsG (ls : List GrantV) : List Value := ls.flatMap GrantV.cells
theorem cellsG_len (ls : List GrantV) : (cellsG ls).length = ls.length * 3 := by
  induction ls with
  | nil => rfl
  | cons s r ih => simp only [cellsG, List.flatMap_cons, List.length_append, GrantV.cells, List.length_cons, List.length_nil] at *; omega
theorem cellsG_app (a b : List GrantV) : cellsG (a ++ b) = cellsG a ++ cellsG b := by simp [cellsG]
theorem cellsG_at (ls : List GrantV) (k j : Nat) (hk : k < ls.length) (hj : j < 3) : (cellsG ls)[k * 3 + j]? = (ls.getD k zeroG).cells[j]? := by
  induction ls generalizing k with
  | nil => simp at hk
  | cons s r ih =>
    have e : cellsG (s :: r) = s.cells ++ cellsG r := by simp [cellsG]
    have l3 : s.cells.length = 3 := rfl
    rw [e]
    cases k with
    | zero => rw [List.getElem?_append_left (by rw [l3]; omega)]; simp
    | succ k =>
      rw [List.getElem?_append_right (by rw [l3]; omega), l3]
      have := ih k (by simpa using hk)
      rw [show (k + 1) * 3 + j - 3 = k * 3 + j by omega, this]
      simp
theorem cellsG_set (ls : List GrantV) (k : Nat) (hk : k < ls.length) (t : GrantV) :
    (((cellsG ls).set (k * 3) (.int .i64 t.tx)).set (k * 3 + 1) (.int .i64 t.res)).set (k * 3 + 2) (.int .i64 t.mode) = cellsG (ls.set k t) := by
  induction ls generalizing k with
  | nil => simp at hk
  | cons s r ih =>
    cases k with
    | zero => simp [cellsG, GrantV.cells]
    | succ k =>
      have := ih k (by simpa using hk)
      have e2 : ∀ x, cellsG (s :: x) = s.cells ++ cellsG x := fun x => by simp [cellsG]
      have l3 : s.cells.length = 3 := rfl
      rw [e2, List.set_append_right _ _ (by rw [l3]; omega), List.set_append_right _ _ (by rw [l3]; omega), List.set_append_right _ _ (by rw [l3]; omega), l3, show (k + 1) * 3 - 3 = k * 3 by omega, show (k + 1) * 3 + 1 - 3 = k * 3 + 1 by omega, show (k + 1) * 3 + 2 - 3 = k * 3 + 2 by omega, this, List.set_cons_succ, e2]

/-- The slice at a reads these. -/
def ReadsG (w : World) (a : Option Addr) (ls : List GrantV) : Prop := ls ≠ [] → ∃ b off, a = some ⟨b, off, none⟩ ∧ ∀ k, k < ls.length → w.cell? ⟨b, off + k * 3, none⟩ = some (.int .i64 (ls.getD k zeroG).tx) ∧ w.cell? ⟨b, off + k * 3 + 1, none⟩ = some (.int .i64 (ls.getD k zeroG).res) ∧ w.cell? ⟨b, off + k * 3 + 2, none⟩ = some (.int .i64 (ls.getD k zeroG).mode)
theorem ReadsG.nil (w : World) (a : Option Addr) : ReadsG w a [] := fun h => absurd rfl h
theorem ReadsG.below {w w' : World} {a : Option Addr} {ls : List GrantV} (h : ReadsG w a ls) (hb : Below w.heap.size w w') : ReadsG w' a ls := by
  intro hne
  obtain ⟨b, off, ha, hc⟩ := h hne
  refine ⟨b, off, ha, fun k hk => ?_⟩
  obtain ⟨h0, h1, h2⟩ := hc k hk
  have hlt := block_lt h0
  exact ⟨by rw [hb.cell (p := ⟨b, off + k * 3, none⟩) hlt]; exact h0, by rw [hb.cell (p := ⟨b, off + k * 3 + 1, none⟩) hlt]; exact h1, by rw [hb.cell (p := ⟨b, off + k * 3 + 2, none⟩) hlt]; exact h2⟩
theorem ReadsG.cases {w : World} {a : Option Addr} {ls : List GrantV} (h : ReadsG w a ls) : ls = [] ∨ ∃ b off, a = some ⟨b, off, none⟩ ∧ 0 < ls.length ∧ ∀ k, k < ls.length → w.cell? ⟨b, off + k * 3, none⟩ = some (.int .i64 (ls.getD k zeroG).tx) ∧ w.cell? ⟨b, off + k * 3 + 1, none⟩ = some (.int .i64 (ls.getD k zeroG).res) ∧ w.cell? ⟨b, off + k * 3 + 2, none⟩ = some (.int .i64 (ls.getD k zeroG).mode) := by
  by_cases e : ls = []
  · exact .inl e
  · obtain ⟨b, off, ha, hc⟩ := h e
    exact .inr ⟨b, off, ha, List.length_pos_iff.2 e, hc⟩

/-- The slice at a, of capacity c, owns these; its row lies from lo up to hi. -/
def OwnG (w : World) (lo hi : Nat) (a : Option Addr) (c : Nat) (ls : List GrantV) : Prop :=
  w.ownsRow lo 37 3 (.slice a ls.length c) ls.length (cellsG ls) ∧ hi ≤ w.heap.size ∧ ∀ k, (Value.slice a ls.length c).ownBlock = some k → k < hi
theorem OwnG.lt {w : World} {lo hi : Nat} {a : Option Addr} {c : Nat} {ls : List GrantV} (h : OwnG w lo hi a c ls) : ∀ k, (Value.slice a ls.length c).ownBlock = some k → lo ≤ k ∧ k < hi := fun k hk => ⟨(h.1.lt k hk).1, h.2.2 k hk⟩
theorem OwnG.touch {w w' : World} {lo hi : Nat} {a : Option Addr} {c : Nat} {ls : List GrantV} {bl : List Nat} (h : OwnG w lo hi a c ls) (ht : Touch bl w w') (hd : ∀ k, (Value.slice a ls.length c).ownBlock = some k → k ∉ bl) : OwnG w' lo hi a c ls :=
  ⟨ownsRow_block h.1 (fun k hk => ht.block k (h.1.lt k hk).2 (hd k hk)), Nat.le_trans h.2.1 ht.size, h.2.2⟩
theorem OwnG.within {w w' : World} {lo hi l r : Nat} {a : Option Addr} {c : Nat} {ls : List GrantV} (h : OwnG w lo hi a c ls) (hw : Within l r w w') (hd : hi ≤ l ∨ r ≤ lo) : OwnG w' lo hi a c ls :=
  ⟨ownsRow_block h.1 (fun k hk => hw.block k (by have := h.2.2 k hk; have := h.2.1; omega) (by have := h.lt k hk; omega)), Nat.le_trans h.2.1 hw.size, h.2.2⟩
theorem OwnG.below {w w' : World} {lo hi : Nat} {a : Option Addr} {c : Nat} {ls : List GrantV} (h : OwnG w lo hi a c ls) (hb : Below w.heap.size w w') : OwnG w' lo hi a c ls :=
  h.within (Within.of_below (lo := w.heap.size) (hi := w.heap.size) hb) (.inl h.2.1)
theorem OwnG.widen {w : World} {lo hi lo' hi' : Nat} {a : Option Addr} {c : Nat} {ls : List GrantV} (h : OwnG w lo hi a c ls) (h1 : lo' ≤ lo) (h2 : hi ≤ hi') (h3 : hi' ≤ w.heap.size) : OwnG w lo' hi' a c ls :=
  ⟨ownsRow_base h.1 (fun k hk => by have := h.lt k hk; omega), h3, fun k hk => by have := h.lt k hk; omega⟩
theorem ownG_nil (w : World) (lo hi : Nat) (h : hi ≤ w.heap.size) : OwnG w lo hi none 0 [] := ⟨⟨by simp [cellsG], .inl ⟨rfl, rfl⟩⟩, h, fun k hk => by cases hk⟩
theorem OwnG.nocap {w : World} {lo hi : Nat} {a : Option Addr} {c : Nat} {ls : List GrantV} (h : OwnG w lo hi a c ls) : a = none → c = 0 := by
  intro ha
  rcases h.1.2 with ⟨hv, _⟩ | ⟨g, cap, cur, hv, _⟩
  · simp only [Value.slice.injEq] at hv; exact hv.2.2
  · simp [ha] at hv
/-- The three cells of one of a row that lies in block g. -/
theorem row_grant {w : World} {base g n cap : Nat} {ls : List GrantV} (h : w.ownsRow base 37 3 (.slice (some ⟨g, 0, none⟩) n cap) n (cellsG ls)) (hn : ls.length = n) (k : Nat) (hk : k < n) :
    w.cell? ⟨g, k * 3, none⟩ = some (.int .i64 (ls.getD k zeroG).tx) ∧ w.cell? ⟨g, k * 3 + 1, none⟩ = some (.int .i64 (ls.getD k zeroG).res) ∧ w.cell? ⟨g, k * 3 + 2, none⟩ = some (.int .i64 (ls.getD k zeroG).mode) ∧ (∀ i, w.frozen? ⟨g, i, none⟩ = false) := by
  have a0 := cellsG_at ls k 0 (by omega) (by omega)
  have a1 := cellsG_at ls k 1 (by omega) (by omega)
  have a2 := cellsG_at ls k 2 (by omega) (by omega)
  simp only [GrantV.cells, Nat.add_zero, List.getElem?_cons_zero, List.getElem?_cons_succ] at a0 a1 a2
  exact ⟨by rw [h.cellAt (k * 3) (by omega)]; exact a0, by rw [h.cellAt (k * 3 + 1) (by omega)]; exact a1, by rw [h.cellAt (k * 3 + 2) (by omega)]; exact a2, fun i => h.frozenAt i⟩
/-- One of the row stored. -/
theorem row_storeG {w : World} {base g n cap : Nat} {ls : List GrantV} (h : w.ownsRow base 37 3 (.slice (some ⟨g, 0, none⟩) n cap) n (cellsG ls)) (hn : ls.length = n) (k : Nat) (hk : k < n) (t : GrantV) :
    ∃ W, Hid (((w.setCell ⟨g, k * 3, none⟩ (.int .i64 t.tx)).setCell ⟨g, k * 3 + 1, none⟩ (.int .i64 t.res)).setCell ⟨g, k * 3 + 2, none⟩ (.int .i64 t.mode) = W) ∧ W.ownsRow base 37 3 (.slice (some ⟨g, 0, none⟩) n cap) n (cellsG (ls.set k t)) ∧ w.grownBy W (some g) := by
  have s1 := h.stored (k * 3) (.int .i64 t.tx)
  have s2 := s1.1.stored (k * 3 + 1) (.int .i64 t.res)
  have s3 := s2.1.stored (k * 3 + 2) (.int .i64 t.mode)
  refine ⟨_, rfl, ?_, grownBy_trans (grownBy_trans s1.2 s2.2) s3.2⟩
  have := s3.1
  rw [cellsG_set ls k (by omega) t] at this
  exact this
theorem OwnG.reads {w : World} {lo hi : Nat} {a : Option Addr} {c : Nat} {ls : List GrantV} (h : OwnG w lo hi a c ls) : ReadsG w a ls := by
  intro hne
  rcases h.1.2 with ⟨_, h0⟩ | ⟨g, cap', cur, hv, hb, hg, hr⟩
  · exact absurd (List.length_eq_zero_iff.1 h0) hne
  · simp only [Value.slice.injEq] at hv
    obtain ⟨rfl, _, rfl⟩ := hv
    refine ⟨g, 0, rfl, fun k hk => ?_⟩
    obtain ⟨a0, a1, a2, _⟩ := row_grant h.1 rfl k hk
    rw [Nat.zero_add]
    exact ⟨a0, a1, a2⟩
end Go.Proofs.YtekljhabjkmhpaaDoor

/- The walks of laws.toGrant, toGrantS, eqGrant, eqGrantS, szGrantS. -/
namespace Go.Proofs.YtekljhabjkmhpaaDoor
open Go.RowKit

theorem Tryd.infoGrant : (Tryd.prog.info? 37).map (fun i => (i.zero, i.size, i.bytes)) = some (some (.agg #[.int .i64 0, .int .i64 0, .int .i64 0]), 3, 24) := by kernel_rfl

end Go.Proofs.YtekljhabjkmhpaaDoor

/- Is a number within bounds? -/
namespace Go.Proofs.YtekljhabjkmhpaaDoor
def inB (x l m : Int) : Bool := decide (l ≤ x ∧ x ≤ m)
end Go.Proofs.YtekljhabjkmhpaaDoor
