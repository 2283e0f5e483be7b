/- Several texts in one, in their order. -/
import Derived.Test.YtgbpnepipknjnabDoorPDanglingx3
import Derived.Test.YtgbpnepipknjnabDoorPDanglingx4
import Derived.Test.YtgbpnepipknjnabDoorPDanglingx2
import Derived.Deep.RegionHeld3
import Derived.Deep.MidRow
/- What is written lies in some blocks, named one by one; all else is as it was. -/
namespace Go.Proofs.YtgbpnepipknjnabDoor
open Go.RowKit

structure Touch (bl : List Nat) (w w' : World) : Prop where
  os : w'.os = w.os
  tape : w'.tape = w.tape
  output : w'.output = w.output
  size : w.heap.size ≤ w'.heap.size
  block : ∀ k, k < w.heap.size → k ∉ bl → w'.heap[k]? = w.heap[k]?

theorem Touch.refl (bl : List Nat) (w : World) : Touch bl w w := ⟨rfl, rfl, rfl, Nat.le_refl _, fun _ _ _ => rfl⟩
theorem Touch.trans {bl : List Nat} {a b c : World} (h : Touch bl a b) (k : Touch bl b c) : Touch bl a c :=
  ⟨k.os.trans h.os, k.tape.trans h.tape, k.output.trans h.output, Nat.le_trans h.size k.size, fun i hi hn => (k.block i (Nat.lt_of_lt_of_le hi h.size) hn).trans (h.block i hi hn)⟩
theorem Touch.mono {bl bl' : List Nat} {w w' : World} (h : Touch bl w w') (hs : ∀ k ∈ bl, k ∈ bl') : Touch bl' w w' :=
  ⟨h.os, h.tape, h.output, h.size, fun k hk hn => h.block k hk (fun hh => hn (hs k hh))⟩
theorem Touch.of_below {bl : List Nat} {w w' : World} (h : Below w.heap.size w w') : Touch bl w w' := ⟨h.os, h.tape, h.output, h.size, fun k hk _ => h.block k hk⟩
theorem Touch.of_grown {bl : List Nat} {w w' : World} {row : Option Nat} (h : w.grownBy w' row) (hr : ∀ k, row = some k → k ∈ bl) : Touch bl w w' :=
  ⟨h.os, h.tape, h.output, h.size, fun k hk hn => h.block k hk (fun e => hn (hr k e.symm))⟩
theorem Touch.within {bl : List Nat} {lo hi : Nat} {w w' : World} (h : Touch bl w w') (hb : ∀ k ∈ bl, lo ≤ k ∧ k < hi) : Within lo hi w w' :=
  ⟨h.os, h.tape, h.output, h.size, fun k hk hn => h.block k hk (fun hh => hn (hb k hh))⟩
theorem Box.touch {w w' : World} {B : Nat} {vs : List Value} {t : TypeId} {bl : List Nat} (h : Box w B vs t) (ht : Touch bl w w') (hn : B ∉ bl) : Box w' B vs t := h.block (ht.block B h.lt hn)
theorem OwnI.touch {w w' : World} {lo hi : Nat} {a : Option Addr} {c : Nat} {ns : List Int} {bl : List Nat} (h : OwnI w lo hi a c ns) (ht : Touch bl w w') (hd : ∀ k, (Value.slice a ns.length c).ownBlock = some k → k ∉ bl) : OwnI w' lo hi a c ns :=
  ⟨ownsRow_block h.1 (fun k hk => ht.block k (h.1.lt k hk).2 (hd k hk)), Nat.le_trans h.2.1 ht.size, h.2.2⟩
theorem SlotA.touch {w w' : World} {lo hi : Nat} {s : SlotA} {bl : List Nat} (h : s.own w lo hi) (ht : Touch bl w w') (hd : ∀ k ∈ s.blocks, k ∉ bl) : s.own w' lo hi :=
  ⟨h.ints.touch ht (fun k hk => hd k (List.mem_append.2 (.inl (Option.mem_toList.2 hk)))), h.refs.touch ht (fun k hk => hd k (List.mem_append.2 (.inr (Option.mem_toList.2 hk)))), h.apart⟩

/-- One of them is another, in the same blocks: the others are as they were. -/
theorem OwnS.replace {w w' : World} {lo hi : Nat} {A B : List SlotA} {s t : SlotA} (h : OwnS w lo hi (A ++ s :: B)) (ht : Touch s.blocks w w') (ho : t.own w' lo hi) (hb : t.blocks = s.blocks) : OwnS w' lo hi (A ++ t :: B) := by
  have hap := h.apart
  rw [List.flatMap_append, List.flatMap_cons, List.nodup_append] at hap
  obtain ⟨_, h2, h3⟩ := hap
  rw [List.nodup_append] at h2
  obtain ⟨_, _, h5⟩ := h2
  refine ⟨fun x hx => ?_, ?_⟩
  · rcases List.mem_append.1 hx with hA | hB
    · refine SlotA.touch (h.each x (by simp [hA])) ht (fun k hk hk' => ?_)
      exact h3 k (List.mem_flatMap.2 ⟨x, hA, hk⟩) k (List.mem_append.2 (.inl hk')) rfl
    · rcases List.mem_cons.1 hB with rfl | hB
      · exact ho
      · refine SlotA.touch (h.each x (by simp [hB])) ht (fun k hk hk' => ?_)
        exact h5 k hk' k (List.mem_flatMap.2 ⟨x, hB, hk⟩) rfl
  · have := h.apart
    rw [List.flatMap_append, List.flatMap_cons] at this ⊢
    rw [hb]; exact this

def SlotA.count (s : SlotA) : Nat := s.v.o.ints.length + s.v.o.refs.length
end Go.Proofs.YtgbpnepipknjnabDoor

/- Rows of pairs of numbers. -/
namespace Go.Proofs.YtgbpnepipknjnabDoor
open Go.RowKit

structure PairV where
  px : Int
  py : Int
def PairV.cells (l : PairV) : List Value := [.int .i64 l.px, .int .i64 l.py]
def zeroD2 : PairV := ⟨0, 0⟩
def cellsD2 (ls : List PairV) : List Value := ls.flatMap PairV.cells
theorem cellsD2_len (ls : List PairV) : (cellsD2 ls).length = ls.length * 2 := by
  induction ls with
  | nil => rfl
  | cons s r ih => simp only [cellsD2, List.flatMap_cons, List.length_append, PairV.cells, List.length_cons, List.length_nil] at *; omega
theorem cellsD2_app (a b : List PairV) : cellsD2 (a ++ b) = cellsD2 a ++ cellsD2 b := by simp [cellsD2]
theorem cellsD2_at (ls : List PairV) (k j : Nat) (hk : k < ls.length) (hj : j < 2) : (cellsD2 ls)[k * 2 + j]? = (ls.getD k zeroD2).cells[j]? := by
  induction ls generalizing k with
  | nil => simp at hk
  | cons s r ih =>
    have e : cellsD2 (s :: r) = s.cells ++ cellsD2 r := by simp [cellsD2]
    have l3 : s.cells.length = 2 := rfl
    rw [e]
    cases k with
    | zero => rw [List.getElem?_append_left (by rw [l3]; omega)]; simp
    | succ k =>
      rw [List.getElem?_append_right (by rw [l3]; omega), l3]
      have := ih k (by simpa using hk)
      rw [show (k + 1) * 2 + j - 2 = k * 2 + j by omega, this]
      simp
theorem cellsD2_set (ls : List PairV) (k : Nat) (hk : k < ls.length) (t : PairV) :
    ((cellsD2 ls).set (k * 2) (.int .i64 t.px)).set (k * 2 + 1) (.int .i64 t.py) = cellsD2 (ls.set k t) := by
  induction ls generalizing k with
  | nil => simp at hk
  | cons s r ih =>
    cases k with
    | zero => simp [cellsD2, PairV.cells]
    | succ k =>
      have := ih k (by simpa using hk)
      have e2 : ∀ x, cellsD2 (s :: x) = s.cells ++ cellsD2 x := fun x => by simp [cellsD2]
      have l3 : s.cells.length = 2 := rfl
      rw [e2, List.set_append_right _ _ (by rw [l3]; omega), List.set_append_right _ _ (by rw [l3]; omega), l3, show (k + 1) * 2 - 2 = k * 2 by omega, show (k + 1) * 2 + 1 - 2 = k * 2 + 1 by omega, this, List.set_cons_succ, e2]

/-- The slice at a reads these. -/
def ReadsD2 (w : World) (a : Option Addr) (ls : List PairV) : Prop := ls ≠ [] → ∃ b off, a = some ⟨b, off, none⟩ ∧ ∀ k, k < ls.length → w.cell? ⟨b, off + k * 2, none⟩ = some (.int .i64 (ls.getD k zeroD2).px) ∧ w.cell? ⟨b, off + k * 2 + 1, none⟩ = some (.int .i64 (ls.getD k zeroD2).py)
theorem ReadsD2.nil (w : World) (a : Option Addr) : ReadsD2 w a [] := fun h => absurd rfl h
theorem ReadsD2.below {w w' : World} {a : Option Addr} {ls : List PairV} (h : ReadsD2 w a ls) (hb : Below w.heap.size w w') : ReadsD2 w' a ls := by
  intro hne
  obtain ⟨b, off, ha, hc⟩ := h hne
  refine ⟨b, off, ha, fun k hk => ?_⟩
  obtain ⟨h0, h1⟩ := hc k hk
  have hlt := block_lt h0
  exact ⟨by rw [hb.cell (p := ⟨b, off + k * 2, none⟩) hlt]; exact h0, by rw [hb.cell (p := ⟨b, off + k * 2 + 1, none⟩) hlt]; exact h1⟩
theorem ReadsD2.cases {w : World} {a : Option Addr} {ls : List PairV} (h : ReadsD2 w a ls) : ls = [] ∨ ∃ b off, a = some ⟨b, off, none⟩ ∧ 0 < ls.length ∧ ∀ k, k < ls.length → w.cell? ⟨b, off + k * 2, none⟩ = some (.int .i64 (ls.getD k zeroD2).px) ∧ w.cell? ⟨b, off + k * 2 + 1, none⟩ = some (.int .i64 (ls.getD k zeroD2).py) := by
  by_cases e : ls = []
  · exact .inl e
  · obtain ⟨b, off, ha, hc⟩ := h e
    exact .inr ⟨b, off, ha, List.length_pos_iff.2 e, hc⟩

/-- The slice at a, of capacity c, owns these; its row lies from lo up to hi. -/
def OwnD2 (w : World) (lo hi : Nat) (a : Option Addr) (c : Nat) (ls : List PairV) : Prop :=
  w.ownsRow lo 43 2 (.slice a ls.length c) ls.length (cellsD2 ls) ∧ hi ≤ w.heap.size ∧ ∀ k, (Value.slice a ls.length c).ownBlock = some k → k < hi
theorem OwnD2.lt {w : World} {lo hi : Nat} {a : Option Addr} {c : Nat} {ls : List PairV} (h : OwnD2 w lo hi a c ls) : ∀ k, (Value.slice a ls.length c).ownBlock = some k → lo ≤ k ∧ k < hi := fun k hk => ⟨(h.1.lt k hk).1, h.2.2 k hk⟩
theorem OwnD2.touch {w w' : World} {lo hi : Nat} {a : Option Addr} {c : Nat} {ls : List PairV} {bl : List Nat} (h : OwnD2 w lo hi a c ls) (ht : Touch bl w w') (hd : ∀ k, (Value.slice a ls.length c).ownBlock = some k → k ∉ bl) : OwnD2 w' lo hi a c ls :=
  ⟨ownsRow_block h.1 (fun k hk => ht.block k (h.1.lt k hk).2 (hd k hk)), Nat.le_trans h.2.1 ht.size, h.2.2⟩
theorem OwnD2.within {w w' : World} {lo hi l r : Nat} {a : Option Addr} {c : Nat} {ls : List PairV} (h : OwnD2 w lo hi a c ls) (hw : Within l r w w') (hd : hi ≤ l ∨ r ≤ lo) : OwnD2 w' lo hi a c ls :=
  ⟨ownsRow_block h.1 (fun k hk => hw.block k (by have := h.2.2 k hk; have := h.2.1; omega) (by have := h.lt k hk; omega)), Nat.le_trans h.2.1 hw.size, h.2.2⟩
theorem OwnD2.below {w w' : World} {lo hi : Nat} {a : Option Addr} {c : Nat} {ls : List PairV} (h : OwnD2 w lo hi a c ls) (hb : Below w.heap.size w w') : OwnD2 w' lo hi a c ls :=
  h.within (Within.of_below (lo := w.heap.size) (hi := w.heap.size) hb) (.inl h.2.1)
theorem OwnD2.widen {w : World} {lo hi lo' hi' : Nat} {a : Option Addr} {c : Nat} {ls : List PairV} (h : OwnD2 w lo hi a c ls) (h1 : lo' ≤ lo) (h2 : hi ≤ hi') (h3 : hi' ≤ w.heap.size) : OwnD2 w lo' hi' a c ls :=
  ⟨ownsRow_base h.1 (fun k hk => by have := h.lt k hk; omega), h3, fun k hk => by have := h.lt k hk; omega⟩
theorem OwnD2.nocap {w : World} {lo hi : Nat} {a : Option Addr} {c : Nat} {ls : List PairV} (h : OwnD2 w lo hi a c ls) : a = none → c = 0 := by
  intro ha
  rcases h.1.2 with ⟨hv, _⟩ | ⟨g, cap, cur, hv, _⟩
  · simp only [Value.slice.injEq] at hv; exact hv.2.2
  · simp [ha] at hv
/-- The two cells of one of a row that lies in block g. -/
theorem row_pair {w : World} {base g n cap : Nat} {ls : List PairV} (h : w.ownsRow base 43 2 (.slice (some ⟨g, 0, none⟩) n cap) n (cellsD2 ls)) (hn : ls.length = n) (k : Nat) (hk : k < n) :
    w.cell? ⟨g, k * 2, none⟩ = some (.int .i64 (ls.getD k zeroD2).px) ∧ w.cell? ⟨g, k * 2 + 1, none⟩ = some (.int .i64 (ls.getD k zeroD2).py) ∧ (∀ i, w.frozen? ⟨g, i, none⟩ = false) := by
  have a0 := cellsD2_at ls k 0 (by omega) (by omega)
  have a1 := cellsD2_at ls k 1 (by omega) (by omega)
  simp only [PairV.cells, Nat.add_zero, List.getElem?_cons_zero, List.getElem?_cons_succ] at a0 a1
  exact ⟨by rw [h.cellAt (k * 2) (by omega)]; exact a0, by rw [h.cellAt (k * 2 + 1) (by omega)]; exact a1, fun i => h.frozenAt i⟩
/-- One of the row stored. -/
theorem row_storeD2 {w : World} {base g n cap : Nat} {ls : List PairV} (h : w.ownsRow base 43 2 (.slice (some ⟨g, 0, none⟩) n cap) n (cellsD2 ls)) (hn : ls.length = n) (k : Nat) (hk : k < n) (t : PairV) :
    ∃ W, Hid ((w.setCell ⟨g, k * 2, none⟩ (.int .i64 t.px)).setCell ⟨g, k * 2 + 1, none⟩ (.int .i64 t.py) = W) ∧ W.ownsRow base 43 2 (.slice (some ⟨g, 0, none⟩) n cap) n (cellsD2 (ls.set k t)) ∧ w.grownBy W (some g) := by
  have s1 := h.stored (k * 2) (.int .i64 t.px)
  have s2 := s1.1.stored (k * 2 + 1) (.int .i64 t.py)
  refine ⟨_, rfl, ?_, grownBy_trans s1.2 s2.2⟩
  have := s2.1
  rw [cellsD2_set ls k (by omega) t] at this
  exact this
theorem OwnD2.reads {w : World} {lo hi : Nat} {a : Option Addr} {c : Nat} {ls : List PairV} (h : OwnD2 w lo hi a c ls) : ReadsD2 w a ls := by
  intro hne
  rcases h.1.2 with ⟨_, h0⟩ | ⟨g, cap', cur, hv, hb, hg, hr⟩
  · exact absurd (List.length_eq_zero_iff.1 h0) hne
  · simp only [Value.slice.injEq] at hv
    obtain ⟨rfl, _, rfl⟩ := hv
    refine ⟨g, 0, rfl, fun k hk => ?_⟩
    obtain ⟨a0, a1, _⟩ := row_pair h.1 rfl k hk
    rw [Nat.zero_add]
    exact ⟨a0, a1⟩
theorem Tryd.infoPair : (Tryd.prog.info? 43).map (fun i => (i.zero, i.size, i.bytes)) = some (some (.agg #[.int .i64 0, .int .i64 0]), 2, 16) := by kernel_rfl
theorem pairs_oneCell (zs : List PairV) : ∀ v ∈ cellsD2 zs, v.oneCell' = true := by
  intro v hv
  obtain ⟨s, _, hs⟩ := List.mem_flatMap.1 hv
  simp only [PairV.cells, List.mem_cons, List.not_mem_nil, or_false] at hs
  rcases hs with rfl | rfl <;> rfl

theorem readsD2_one (w : World) (z : PairV) (t : TypeId) : ReadsD2 (w.alloc (.cells #[.int .i64 z.px, .int .i64 z.py] t)) (some ⟨w.heap.size, 0, none⟩) [z] := by
  intro _
  refine ⟨w.heap.size, 0, rfl, fun k hk => ?_⟩
  obtain rfl : k = 0 := by simpa using hk
  have b : Box (w.alloc (.cells #[.int .i64 z.px, .int .i64 z.py] t)) w.heap.size [.int .i64 z.px, .int .i64 z.py] t := box_new _ _ _
  exact ⟨b.cell 0 _ rfl, b.cell 1 _ rfl⟩
theorem run_append_pairs {w : World} (ty : TypeId) (lo hi : Nat) (a : Option Addr) (c : Nat) (xs : List PairV) (hown : OwnD2 w lo hi a c xs)
    (sa : Option Addr) (sc : Nat) (zs : List PairV) (hr : ReadsD2 w sa zs) (hc : sa = none → sc = 0) (hb : xs.length + zs.length ≤ 1099511627776) (hlo : lo ≤ w.heap.size) :
    ∃ a' c' ys w', (Builtin.append_ #[24, 24] ty #[.slice a xs.length c, .slice sa zs.length sc]).run Tryd.prog w = .ok (.slice a' ys.length c') w' ∧ Hid (ys = xs ++ zs) ∧ OwnD2 w' lo w'.heap.size a' c' ys ∧ w.grownBy w' (Value.slice a xs.length c).ownBlock ∧
      (∀ k, (Value.slice a' ys.length c').ownBlock = some k → (Value.slice a xs.length c).ownBlock = some k ∨ k = w.heap.size) := by
  obtain ⟨i0, hi0, hz0, hz1, hz2⟩ := info_parts Tryd.infoPair
  cases sa with
  | none =>
    have hz : zs = [] := by
      by_cases e : zs = []
      · exact e
      · obtain ⟨b, off, hh, _⟩ := hr e
        cases hh
    subst hz
    have := hc rfl
    subst this
    refine ⟨a, c, xs, w, run_append_owned_none (P := Tryd.prog) (w := w) lo 24 ty 43 i0 2 Tryd.underlying24 hi0 _ _ _ hown.1, (by simp [Hid]), ⟨hown.1, Nat.le_refl _, fun k hk => (hown.1.lt k hk).2⟩, World.grownBy.refl _ _, fun k hk => .inl hk⟩
  | some ad =>
    obtain ⟨v', w', h1, h2, h3, _, h5⟩ := run_append_own_at (P := Tryd.prog) w lo 24 ty 43 i0 (.agg #[.int .i64 0, .int .i64 0]) 2 16 Tryd.underlying24 hi0 hz0 hz1 hz2 rfl (by decide) _ _ _ hown.1 ad zs.length sc (cellsD2 zs) (by rw [cellsD2_len]) (by
      intro j u hj
      have hjl : j < zs.length * 2 := by rw [← cellsD2_len]; exact (List.getElem?_eq_some_iff.1 hj).1
      have hne : zs ≠ [] := by intro e; simp [e] at hjl
      obtain ⟨b, off, hh, hcell⟩ := hr hne
      cases hh
      have hat := cellsD2_at zs (j / 2) (j % 2) (by omega) (Nat.mod_lt _ (by omega))
      rw [show j / 2 * 2 + j % 2 = j by omega, hj] at hat
      obtain ⟨k0, k1⟩ := hcell (j / 2) (by omega)
      rw [Addr_add]
      rcases (by omega : j % 2 = 0 ∨ j % 2 = 1) with h' | h' <;> rw [h'] at hat <;> simp only [PairV.cells, List.getElem?_cons_zero, List.getElem?_cons_succ, Option.some.injEq] at hat
      · rw [show off + j = off + j / 2 * 2 by omega, k0, hat]
      · rw [show off + j = off + j / 2 * 2 + 1 by omega, k1, hat]) (pairs_oneCell _) (by simp only [maxLen]; omega) (by omega) hlo
    rw [← cellsD2_app, ← List.length_append] at h2
    have sh : ∃ a' c', v' = .slice a' (xs ++ zs).length c' := by
      rcases h2.2 with ⟨rfl, h0⟩ | ⟨g, cap, cur, rfl, _⟩
      · exact ⟨none, 0, by rw [h0]⟩
      · exact ⟨_, _, rfl⟩
    obtain ⟨a', c', rfl⟩ := sh
    refine ⟨a', c', xs ++ zs, w', h1, rfl, ⟨h2, Nat.le_refl _, fun k hk => (h2.lt k hk).2⟩, h3, fun k hk => ?_⟩
    rcases h5 with h5 | h5
    · exact .inl (by rw [← h5]; exact hk)
    · rw [h5] at hk
      exact .inr (Option.some.inj hk).symm

theorem append_pairsF {w : World} {ops : Array Oper} {rest : List Oper} {o : Oper} {act : Act} {Q : Exit → Act → World → Prop} (hgd : o.guard = none) (s x : Operand)
    (ho : o.op = .call { callee := .builtin .append, args := #[s, x], argTypes := #[24, 24] })
    (lo hi : Nat) (a : Option Addr) (c : Nat) (xs : List PairV) (hs : act.eval s = .slice a xs.length c) (hown : OwnD2 w lo hi a c xs)
    (sa : Option Addr) (sc : Nat) (zs : List PairV) (hx : act.eval x = .slice sa zs.length sc) (hr : ReadsD2 w sa zs) (hc : sa = none → sc = 0)
    (hb : xs.length + zs.length ≤ 1099511627776) (hlo : lo ≤ w.heap.size)
    (h : ∀ a' c' ys w', Hid (ys = xs ++ zs) → OwnD2 w' lo w'.heap.size a' c' ys → w.grownBy w' (Value.slice a xs.length c).ownBlock → (∀ k, (Value.slice a' ys.length c').ownBlock = some k → (Value.slice a xs.length c).ownBlock = some k ∨ k = w.heap.size) → wpList Tryd.prog ops Q rest (act.put o.dst (.slice a' ys.length c')) w') :
    wpList Tryd.prog ops Q (o :: rest) act w := by
  obtain ⟨a', c', ys, w', hrun, h1, h2, h3, h4⟩ := run_append_pairs (w := w) o.type lo hi a c xs hown sa sc zs hr hc hb hlo
  refine wpList_plain hgd fun K hK => ?_
  unfold Oper.wp execOp
  simp only [ho, resolve, invoke, builtin, Sem.run_bind, Sem.run_pure, Result.andThen_ok, List.map_toArray, List.map_cons, List.map_nil, hs, hx, hrun]
  exact hK _ _ (h a' c' ys w' h1 h2 h3 h4)
def markD21 (k0 : Int) (i : Nat) : PairV := ⟨k0 + 2 * i, k0 + 2 * i + 1⟩
def marksD2 (k0 : Int) (n : Nat) : List PairV := (List.range n).map fun i : Nat => markD21 k0 i
theorem marksD2_len (k0 : Int) (n : Nat) : (marksD2 k0 n).length = n := by simp [marksD2]
theorem marksD2_at (k0 : Int) (n i : Nat) (h : i < n) : (marksD2 k0 n).getD i zeroD2 = markD21 k0 i := by simp [marksD2, List.getD, h]
theorem marksD2_succ (k0 : Int) (n : Nat) : marksD2 k0 (n + 1) = marksD2 k0 n ++ [markD21 k0 n] := by simp [marksD2, List.range_succ]
def markedD2 (k0 : Int) (xs : List PairV) (k : Nat) : List PairV := marksD2 k0 k ++ xs.drop k
theorem markedD2_len (k0 : Int) (xs : List PairV) (k : Nat) (h : k ≤ xs.length) : (markedD2 k0 xs k).length = xs.length := by simp [markedD2, marksD2_len]; omega
theorem markedD2_set (k0 : Int) (xs : List PairV) (k : Nat) (h : k < xs.length) : (markedD2 k0 xs k).set k (markD21 k0 k) = markedD2 k0 xs (k + 1) := by
  unfold markedD2
  rw [List.set_append, if_neg (by rw [marksD2_len]; omega), marksD2_len, Nat.sub_self, marksD2_succ, List.drop_eq_getElem_cons h, List.set_cons_zero]
  simp
theorem markedD2_all (k0 : Int) (xs : List PairV) : markedD2 k0 xs xs.length = marksD2 k0 xs.length := by simp [markedD2]

end Go.Proofs.YtgbpnepipknjnabDoor

/- The walk of laws.toSlotA4. -/
namespace Go.Proofs.YtgbpnepipknjnabDoor
open Go.RowKit

end Go.Proofs.YtgbpnepipknjnabDoor

/- Ranges of cells in a box: read, and written, whole. -/
namespace Go.Proofs.YtgbpnepipknjnabDoor
open Go.RowKit

theorem Box.range {w : World} {B : Nat} {t : TypeId} (pre cs post : List Value) (b : Box w B (pre ++ (cs ++ post)) t) : w.rangeAt B pre.length cs := by
  intro j v hv
  have hj : j < cs.length := (List.getElem?_eq_some_iff.1 hv).1
  refine b.cell _ v ?_
  rw [List.getElem?_append_right (by omega), List.getElem?_append_left (by omega)]
  rw [show pre.length + j - pre.length = j by omega]
  exact hv
theorem Box.there {w : World} {B : Nat} {vs : List Value} {t : TypeId} (b : Box w B vs t) (o n : Nat) (h : o + n ≤ vs.length) : w.there B o n := fun j hj =>
  ⟨by rw [b.cell (o + j) _ (List.getElem?_eq_getElem (by omega))]; rfl, b.frozen _⟩
structure PageA where
  lsn : Int
  ss : List SlotA
def PageA.cells (p : PageA) : List Value := .int .i64 p.lsn :: cellsS p.ss
end Go.Proofs.YtgbpnepipknjnabDoor

/- Rows of slots: what they are, what a walk reads and owns of them. -/
namespace Go.Proofs.YtgbpnepipknjnabDoor
open Go.RowKit

def cellsVw (rs : List SlotA) : List Value := rs.flatMap SlotA.cells
theorem cells_lenV (r : SlotA) : r.cells.length = 4 := rfl
theorem cellsVw_len (rs : List SlotA) : (cellsVw rs).length = rs.length * 4 := by
  induction rs with
  | nil => rfl
  | cons s r ih => simp only [cellsVw, List.flatMap_cons, List.length_append, cells_lenV, List.length_cons] at *; omega
theorem cellsVw_app (a b : List SlotA) : cellsVw (a ++ b) = cellsVw a ++ cellsVw b := by simp [cellsVw]
theorem cellsVw_cons (r : SlotA) (b : List SlotA) : cellsVw (r :: b) = r.cells ++ cellsVw b := by simp [cellsVw]
theorem cellsVw_at (rs : List SlotA) (k j : Nat) (hk : k < rs.length) (hj : j < 4) : (cellsVw rs)[k * 4 + j]? = (rs.getD k zeroS).cells[j]? := by
  induction rs generalizing k with
  | nil => simp at hk
  | cons s r ih =>
    rw [cellsVw_cons]
    cases k with
    | zero => rw [List.getElem?_append_left (by rw [cells_lenV]; omega)]; simp
    | succ k =>
      rw [List.getElem?_append_right (by rw [cells_lenV]; omega), cells_lenV]
      have := ih k (by simpa using hk)
      rw [show (k + 1) * 4 + j - 4 = k * 4 + j by omega, this]
      simp
theorem slotD_mem (rs : List SlotA) (k : Nat) (hk : k < rs.length) : rs.getD k zeroS ∈ rs := by
  have e : rs.getD k zeroS = rs[k] := by simp [List.getD, hk]
  rw [e]
  exact List.getElem_mem hk

theorem rangeAt_belowV {w w' : World} {b o n : Nat} {cs : List Value} (h : w.rangeAt b o cs) (hb : Below n w w') (hn : b < n) : w'.rangeAt b o cs := fun j v hv => (hb.cell (p := ⟨b, o + j, none⟩) hn).trans (h j v hv)
theorem rangeV_lt {w : World} {b o : Nat} {r : SlotA} (h : w.rangeAt b o r.cells) : b < w.heap.size := block_lt (h 0 _ rfl)

/-- The slice at a reads these. -/
def ReadsVw (w : World) (a : Option Addr) (rs : List SlotA) : Prop := rs ≠ [] → ∃ b off, a = some ⟨b, off, none⟩ ∧ ∀ k, k < rs.length → w.rangeAt b (off + k * 4) (rs.getD k zeroS).cells ∧ (rs.getD k zeroS).reads w
theorem ReadsVw.nil (w : World) (a : Option Addr) : ReadsVw w a [] := fun h => absurd rfl h
theorem ReadsVw.below {w w' : World} {a : Option Addr} {rs : List SlotA} (h : ReadsVw w a rs) (hb : Below w.heap.size w w') : ReadsVw w' a rs := by
  intro hne
  obtain ⟨b, off, ha, hc⟩ := h hne
  refine ⟨b, off, ha, fun k hk => ?_⟩
  obtain ⟨h0, h1⟩ := hc k hk
  exact ⟨rangeAt_belowV h0 hb (rangeV_lt h0), ReadsO.below h1 hb⟩
theorem ReadsVw.cases {w : World} {a : Option Addr} {rs : List SlotA} (h : ReadsVw w a rs) : rs = [] ∨ ∃ b off, a = some ⟨b, off, none⟩ ∧ 0 < rs.length ∧ ∀ k, k < rs.length → w.rangeAt b (off + k * 4) (rs.getD k zeroS).cells ∧ (rs.getD k zeroS).reads w := by
  by_cases e : rs = []
  · exact .inl e
  · obtain ⟨b, off, ha, hc⟩ := h e
    exact .inr ⟨b, off, ha, List.length_pos_iff.2 e, hc⟩

/-- The slice at a, of capacity c, owns these, and what hangs at them; all of it lies from lo up to hi, no two rows are one. -/
structure OwnVw (w : World) (lo hi : Nat) (a : Option Addr) (c : Nat) (rs : List SlotA) : Prop where
  row : w.ownsRow lo 42 4 (.slice a rs.length c) rs.length (cellsVw rs)
  top : hi ≤ w.heap.size
  blk : ∀ k, (Value.slice a rs.length c).ownBlock = some k → k < hi
  each : ∀ r ∈ rs, r.own w lo hi
  apart : ((Value.slice a rs.length c).ownBlock.toList ++ rs.flatMap SlotA.blocks).Nodup

def blocksVw (a : Option Addr) (c : Nat) (rs : List SlotA) : List Nat := (Value.slice a rs.length c).ownBlock.toList ++ rs.flatMap SlotA.blocks
theorem OwnVw.blocks_lt {w : World} {lo hi : Nat} {a : Option Addr} {c : Nat} {rs : List SlotA} (h : OwnVw w lo hi a c rs) : ∀ k ∈ blocksVw a c rs, lo ≤ k ∧ k < hi := by
  intro k hk
  simp only [blocksVw, List.mem_append, List.mem_flatMap, Option.mem_toList] at hk
  rcases hk with h1 | ⟨r, hr, h1⟩
  · exact ⟨(h.row.lt k h1).1, h.blk k h1⟩
  · exact SlotA.blocks_lt (h.each r hr) k h1
theorem OwnVw.touch {w w' : World} {lo hi : Nat} {a : Option Addr} {c : Nat} {rs : List SlotA} {bl : List Nat} (h : OwnVw w lo hi a c rs) (ht : Touch bl w w') (hd : ∀ k ∈ blocksVw a c rs, k ∉ bl) : OwnVw w' lo hi a c rs :=
  ⟨ownsRow_block h.row (fun k hk => ht.block k (h.row.lt k hk).2 (hd k (List.mem_append.2 (.inl (Option.mem_toList.2 hk))))), Nat.le_trans h.top ht.size, h.blk, fun r hr => SlotA.touch (h.each r hr) ht (fun k hk => hd k (List.mem_append.2 (.inr (List.mem_flatMap.2 ⟨r, hr, hk⟩)))), h.apart⟩
theorem OwnVw.within {w w' : World} {lo hi l r : Nat} {a : Option Addr} {c : Nat} {rs : List SlotA} (h : OwnVw w lo hi a c rs) (hw : Within l r w w') (hd : hi ≤ l ∨ r ≤ lo) : OwnVw w' lo hi a c rs :=
  ⟨ownsRow_block h.row (fun k hk => hw.block k (by have := h.blk k hk; have := h.top; omega) (by have := h.blk k hk; have := (h.row.lt k hk).1; omega)), Nat.le_trans h.top hw.size, h.blk, fun x hx => OwnO.within (h.each x hx) hw hd, h.apart⟩
theorem OwnVw.below {w w' : World} {lo hi : Nat} {a : Option Addr} {c : Nat} {rs : List SlotA} (h : OwnVw w lo hi a c rs) (hb : Below w.heap.size w w') : OwnVw w' lo hi a c rs :=
  h.within (Within.of_below (lo := w.heap.size) (hi := w.heap.size) hb) (.inl h.top)
theorem OwnVw.widen {w : World} {lo hi lo' hi' : Nat} {a : Option Addr} {c : Nat} {rs : List SlotA} (h : OwnVw w lo hi a c rs) (h1 : lo' ≤ lo) (h2 : hi ≤ hi') (h3 : hi' ≤ w.heap.size) : OwnVw w lo' hi' a c rs :=
  ⟨ownsRow_base h.row (fun k hk => by have := (h.row.lt k hk).1; omega), h3, fun k hk => by have := h.blk k hk; omega, fun x hx => OwnO.widen (h.each x hx) h1 h2 h3, h.apart⟩
theorem OwnVw.nocap {w : World} {lo hi : Nat} {a : Option Addr} {c : Nat} {rs : List SlotA} (h : OwnVw w lo hi a c rs) : a = none → c = 0 := by
  intro ha
  rcases h.row.2 with ⟨hv, _⟩ | ⟨g, cap, cur, hv, _⟩
  · simp only [Value.slice.injEq] at hv; exact hv.2.2
  · simp [ha] at hv
/-- One of a row that lies in block g. -/
theorem row_slot {w : World} {base g n cap : Nat} {rs : List SlotA} (h : w.ownsRow base 42 4 (.slice (some ⟨g, 0, none⟩) n cap) n (cellsVw rs)) (hn : rs.length = n) (k : Nat) (hk : k < n) :
    w.rangeAt g (k * 4) (rs.getD k zeroS).cells ∧ w.there g (k * 4) 4 := by
  refine ⟨fun j v hv => ?_, fun j hj => ?_⟩
  · have hj : j < 4 := by have := (List.getElem?_eq_some_iff.1 hv).1; rwa [cells_lenV] at this
    rw [h.cellAt (k * 4 + j) (by omega), cellsVw_at rs k j (by omega) hj, hv]
  · refine ⟨?_, h.frozenAt _⟩
    rw [h.cellAt (k * 4 + j) (by omega), cellsVw_at rs k j (by omega) hj, List.getElem?_eq_getElem (by rw [cells_lenV]; omega)]
    rfl
theorem OwnVw.reads {w : World} {lo hi : Nat} {a : Option Addr} {c : Nat} {rs : List SlotA} (h : OwnVw w lo hi a c rs) : ReadsVw w a rs := by
  intro hne
  rcases h.row.2 with ⟨_, h0⟩ | ⟨g, cap', cur, hv, hb, hg, hr⟩
  · exact absurd (List.length_eq_zero_iff.1 h0) hne
  · simp only [Value.slice.injEq] at hv
    obtain ⟨rfl, _, rfl⟩ := hv
    refine ⟨g, 0, rfl, fun k hk => ?_⟩
    rw [Nat.zero_add]
    exact ⟨(row_slot h.row rfl k hk).1, OwnO.reads (h.each _ (slotD_mem rs k hk))⟩
/-- A stretch of a row's cells stored. -/
theorem row_setCellsV {base g n cap sz : Nat} {e : TypeId} (cs : List Value) : ∀ (pre old post : List Value) (w : World), w.ownsRow base e sz (.slice (some ⟨g, 0, none⟩) n cap) n (pre ++ (old ++ post)) → old.length = cs.length →
    (w.setCells g pre.length cs).ownsRow base e sz (.slice (some ⟨g, 0, none⟩) n cap) n (pre ++ (cs ++ post)) ∧ w.grownBy (w.setCells g pre.length cs) (some g) := by
  induction cs with
  | nil => intro pre old post w h hl; obtain rfl := List.length_eq_zero_iff.1 hl; exact ⟨h, World.grownBy.refl _ _⟩
  | cons c cr ih =>
    intro pre old post w h hl
    obtain ⟨x, r, rfl⟩ : ∃ x r, old = x :: r := by
      cases old with
      | nil => simp at hl
      | cons x r => exact ⟨x, r, rfl⟩
    have hs := h.stored pre.length c
    rw [List.set_append_right _ _ (Nat.le_refl _), Nat.sub_self] at hs
    simp only [List.cons_append, List.set_cons_zero] at hs
    have := ih (pre ++ [c]) r post (w.setCell ⟨g, pre.length, none⟩ c) (by simpa using hs.1) (by simpa using hl)
    simp only [List.length_append, List.length_singleton] at this
    rw [World.setCells]
    exact ⟨by simpa using this.1, grownBy_trans hs.2 this.2⟩
theorem setCells_heapV (B : Nat) : ∀ (vs : List Value) (o : Nat) (w : World), (w.setCells B o vs).heap.size = w.heap.size := by
  intro vs
  induction vs with
  | nil => intro o w; rfl
  | cons v r ih => intro o w; rw [World.setCells, ih]; simp

/-- A slot of the row stored: q, which is owned elsewhere. -/
theorem OwnVw.fill {w : World} {lo hi g c : Nat} {A B : List SlotA} {z : SlotA} (h : OwnVw w lo hi (some ⟨g, 0, none⟩) c (A ++ z :: B)) (q : SlotA) {l u : Nat} (hq : q.own w l u) (hl : hi ≤ l) (hlo : lo ≤ hi) (hu : u ≤ w.heap.size) :
    ∃ W, Hid (w.setCells g (A.length * 4) q.cells = W) ∧ OwnVw W lo (max hi u) (some ⟨g, 0, none⟩) c (A ++ q :: B) ∧ Touch [g] w W ∧ W.heap.size = w.heap.size := by
  have hrow := h.row
  rw [cellsVw_app, cellsVw_cons, List.length_append, List.length_cons] at hrow
  have hg : lo ≤ g ∧ g < hi := ⟨(hrow.lt g rfl).1, h.blk g rfl⟩
  obtain ⟨h1, h2⟩ := row_setCellsV q.cells (cellsVw A) z.cells (cellsVw B) w hrow rfl
  rw [cellsVw_len] at h1 h2
  have ht : Touch [g] w (w.setCells g (A.length * 4) q.cells) := Touch.of_grown h2 (fun k hk => by cases hk; simp)
  have hap := h.apart
  simp only [List.flatMap_append, List.flatMap_cons, Value.ownBlock, Option.toList, List.singleton_append, List.nodup_cons, List.nodup_append, List.mem_append, not_or] at hap
  obtain ⟨⟨n1, n2, n3⟩, a1, ⟨a2, a3, a4⟩, a5⟩ := hap
  have hqb := SlotA.blocks_lt hq
  have hA : ∀ x ∈ A.flatMap SlotA.blocks, lo ≤ x ∧ x < hi := fun x hx => by
    obtain ⟨r, hr, hx⟩ := List.mem_flatMap.1 hx
    exact SlotA.blocks_lt (h.each r (by simp [hr])) x hx
  have hB : ∀ x ∈ B.flatMap SlotA.blocks, lo ≤ x ∧ x < hi := fun x hx => by
    obtain ⟨r, hr, hx⟩ := List.mem_flatMap.1 hx
    exact SlotA.blocks_lt (h.each r (by simp [hr])) x hx
  have hsz := setCells_heapV g q.cells (A.length * 4) w
  refine ⟨_, rfl, ⟨?_, ?_, fun k hk => ?_, fun r hr => ?_, ?_⟩, ht, hsz⟩
  · rw [cellsVw_app, cellsVw_cons, List.length_append, List.length_cons]
    exact h1
  · rw [hsz]
    have := h.top
    omega
  · cases hk
    show g < max hi u
    omega
  · rcases List.mem_append.1 hr with hr | hr
    · exact (SlotA.touch (h.each r (by simp [hr])) ht (fun k hk hk' => n1 (by rw [← List.mem_singleton.1 hk']; exact List.mem_flatMap.2 ⟨r, hr, hk⟩))).widen (Nat.le_refl _) (by omega) (by rw [hsz]; have := h.top; omega)
    · rcases List.mem_cons.1 hr with rfl | hr
      · exact (SlotA.touch hq ht (fun k hk hk' => by have := hqb k hk; have := List.mem_singleton.1 hk'; omega)).widen (by omega) (by omega) (by rw [hsz]; have := h.top; omega)
      · exact (SlotA.touch (h.each r (by simp [hr])) ht (fun k hk hk' => n3 (by rw [← List.mem_singleton.1 hk']; exact List.mem_flatMap.2 ⟨r, hr, hk⟩))).widen (Nat.le_refl _) (by omega) (by rw [hsz]; have := h.top; omega)
  · simp only [List.flatMap_append, List.flatMap_cons, Value.ownBlock, Option.toList, List.singleton_append, List.nodup_cons, List.nodup_append, List.mem_append, not_or]
    refine ⟨⟨n1, fun hk => by have := hqb g hk; omega, n3⟩, a1, ⟨SlotA.blocks_nodup hq, a3, fun x hx y hy e => by have := hqb x hx; have := hB y hy; omega⟩, fun x hx y hy e => ?_⟩
    rcases hy with hy | hy
    · have := hqb y hy; have := hA x hx; omega
    · exact a5 x hx y (.inr hy) e
end Go.Proofs.YtgbpnepipknjnabDoor

/- The walks of laws.eqSlot, eqSlotA4, eqPage, where both say the same. -/
namespace Go.Proofs.YtgbpnepipknjnabDoor
open Go.RowKit

set_option maxHeartbeats 400000 in
set_option maxRecDepth 100000 in
theorem eqSlot_same (s t : SlotA) (he : t.v = s.v) (w : World) (hs : s.reads w) (ht : t.reads w) (hlI : s.v.o.ints.length ≤ 1099511627776) (hlR : s.v.o.refs.length ≤ 1099511627776) :
    Calls Tryd.prog 18 #[.agg s.cells.toArray, .agg t.cells.toArray] w fun e w' => e = .returned (.bool true) ∧ Below w.heap.size w w' := by
  obtain ⟨v, aI, cI, aR, cR⟩ := s
  obtain ⟨v', bI, dI, bR, dR⟩ := t
  simp only at he
  subst he
  obtain ⟨h, ⟨k, ints, refs⟩⟩ := v'
  simp only [SlotA.cells, SlotA.reads] at *
  obtain ⟨W, hW, b0, b1, hbW, hsW⟩ := boxes2 w [.bool h, .int .i64 k, .slice aI ints.length cI, .slice aR refs.length cR] [.bool h, .int .i64 k, .slice bI ints.length dI, .slice bR refs.length dR] 42 42
  go_enter Tryd.func18, Tryd.ntmps18
  go_wp2_with fail
  rw [hW.out]
  clear hW
  refine (eqObj_same ⟨k, ints, refs⟩ aI cI aR cR bI dI bR dR W (hs.below hbW) (ht.below hbW) hlI hlR).mono ?_
  rintro e w1 ⟨rfl, hb1⟩
  go_wp2
  go_ret
  exact ⟨rfl, hbW.trans (hb1.mono hbW.size)⟩

end Go.Proofs.YtgbpnepipknjnabDoor
