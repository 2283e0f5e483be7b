/- Several texts in one, in their order. -/
import Derived.Test.YtekljhabjkmhpabDoorPart1
import Derived.Test.YtekljhabjkmhpabDoorPart2
import Derived.Deep.RegionHeld3
import Derived.WalkKit
import Derived.Test.YtekljhabjkmhpabDoorProg
/- What is written lies in some blocks, named one by one; all else is as it was. -/
namespace Go.Proofs.YtekljhabjkmhpabDoor
open Go.RowKit

structure Touch (bl : List Nat) (w w' : World) : Prop where
  os : w'.os = w.os
  tape : w'.tape = w.tape
  output : w'.output = w.output
  size : w.heap.size ≤ w'.heap.size
  block : ∀ k, k < w.heap.size → k ∉ bl → w'.heap[k]? = w.heap[k]?

theorem Touch.refl (bl : List Nat) (w : World) : Touch bl w w := ⟨rfl, rfl, rfl, Nat.le_refl _, fun _ _ _ => rfl⟩
theorem Touch.trans {bl : List Nat} {a b c : World} (h : Touch bl a b) (k : Touch bl b c) : Touch bl a c :=
  ⟨k.os.trans h.os, k.tape.trans h.tape, k.output.trans h.output, Nat.le_trans h.size k.size, fun i hi hn => (k.block i (Nat.lt_of_lt_of_le hi h.size) hn).trans (h.block i hi hn)⟩
theorem Touch.mono {bl bl' : List Nat} {w w' : World} (h : Touch bl w w') (hs : ∀ k ∈ bl, k ∈ bl') : Touch bl' w w' :=
  ⟨h.os, h.tape, h.output, h.size, fun k hk hn => h.block k hk (fun hh => hn (hs k hh))⟩
theorem Touch.of_below {bl : List Nat} {w w' : World} (h : Below w.heap.size w w') : Touch bl w w' := ⟨h.os, h.tape, h.output, h.size, fun k hk _ => h.block k hk⟩
theorem Touch.of_grown {bl : List Nat} {w w' : World} {row : Option Nat} (h : w.grownBy w' row) (hr : ∀ k, row = some k → k ∈ bl) : Touch bl w w' :=
  ⟨h.os, h.tape, h.output, h.size, fun k hk hn => h.block k hk (fun e => hn (hr k e.symm))⟩
theorem Touch.within {bl : List Nat} {lo hi : Nat} {w w' : World} (h : Touch bl w w') (hb : ∀ k ∈ bl, lo ≤ k ∧ k < hi) : Within lo hi w w' :=
  ⟨h.os, h.tape, h.output, h.size, fun k hk hn => h.block k hk (fun hh => hn (hb k hh))⟩
theorem Box.touch {w w' : World} {B : Nat} {vs : List Value} {t : TypeId} {bl : List Nat} (h : Box w B vs t) (ht : Touch bl w w') (hn : B ∉ bl) : Box w' B vs t := h.block (ht.block B h.lt hn)
theorem OwnI.touch {w w' : World} {lo hi : Nat} {a : Option Addr} {c : Nat} {ns : List Int} {bl : List Nat} (h : OwnI w lo hi a c ns) (ht : Touch bl w w') (hd : ∀ k, (Value.slice a ns.length c).ownBlock = some k → k ∉ bl) : OwnI w' lo hi a c ns :=
  ⟨ownsRow_block h.1 (fun k hk => ht.block k (h.1.lt k hk).2 (hd k hk)), Nat.le_trans h.2.1 ht.size, h.2.2⟩
theorem SlotA.touch {w w' : World} {lo hi : Nat} {s : SlotA} {bl : List Nat} (h : s.own w lo hi) (ht : Touch bl w w') (hd : ∀ k ∈ s.blocks, k ∉ bl) : s.own w' lo hi :=
  ⟨h.ints.touch ht (fun k hk => hd k (List.mem_append.2 (.inl (Option.mem_toList.2 hk)))), h.refs.touch ht (fun k hk => hd k (List.mem_append.2 (.inr (Option.mem_toList.2 hk)))), h.apart⟩

/-- One of them is another, in the same blocks: the others are as they were. -/
theorem OwnS.replace {w w' : World} {lo hi : Nat} {A B : List SlotA} {s t : SlotA} (h : OwnS w lo hi (A ++ s :: B)) (ht : Touch s.blocks w w') (ho : t.own w' lo hi) (hb : t.blocks = s.blocks) : OwnS w' lo hi (A ++ t :: B) := by
  have hap := h.apart
  rw [List.flatMap_append, List.flatMap_cons, List.nodup_append] at hap
  obtain ⟨_, h2, h3⟩ := hap
  rw [List.nodup_append] at h2
  obtain ⟨_, _, h5⟩ := h2
  refine ⟨fun x hx => ?_, ?_⟩
  · rcases List.mem_append.1 hx with hA | hB
    · refine SlotA.touch (h.each x (by simp [hA])) ht (fun k hk hk' => ?_)
      exact h3 k (List.mem_flatMap.2 ⟨x, hA, hk⟩) k (List.mem_append.2 (.inl hk')) rfl
    · rcases List.mem_cons.1 hB with rfl | hB
      · exact ho
      · refine SlotA.touch (h.each x (by simp [hB])) ht (fun k hk hk' => ?_)
        exact h5 k hk' k (List.mem_flatMap.2 ⟨x, hB, hk⟩) rfl
  · have := h.apart
    rw [List.flatMap_append, List.flatMap_cons] at this ⊢
    rw [hb]; exact this

def SlotA.mark (s : SlotA) (k : Int) : SlotA := { s with v := ⟨s.v.has, markO s.v.o k⟩ }
def SlotA.count (s : SlotA) : Nat := s.v.o.ints.length + s.v.o.refs.length
def markSs : List SlotA → Int → List SlotA
  | [], _ => []
  | s :: r, k => s.mark k :: markSs r (k + s.count)
def countS : List SlotA → Nat
  | [] => 0
  | s :: r => s.count + countS r
theorem mark_blocks (s : SlotA) (k : Int) : (s.mark k).blocks = s.blocks := by simp [SlotA.mark, SlotA.blocks, markO, marksI_len]
theorem mark_cells (s : SlotA) (k : Int) : (s.mark k).cells = s.cells := by simp [SlotA.mark, SlotA.cells, markO, marksI_len]
theorem countS_snoc (ss : List SlotA) (s : SlotA) : countS (ss ++ [s]) = countS ss + s.count := by
  induction ss with
  | nil => simp [countS]
  | cons x r ih => simp only [List.cons_append, countS, ih]; omega
theorem markSs_snoc (ss : List SlotA) (s : SlotA) : ∀ k, markSs (ss ++ [s]) k = markSs ss k ++ [s.mark (k + countS ss)] := by
  induction ss with
  | nil => intro k; simp [markSs, countS]
  | cons x r ih =>
    intro k
    simp only [List.cons_append, markSs, ih, countS]
    congr 3
    congr 1
    omega
theorem markSs_len (ss : List SlotA) : ∀ k, (markSs ss k).length = ss.length := by
  induction ss with
  | nil => intro k; rfl
  | cons x r ih => intro k; simp [markSs, ih]
theorem markSs_app (A B : List SlotA) : ∀ k, markSs (A ++ B) k = markSs A k ++ markSs B (k + countS A) := by
  induction A with
  | nil => intro k; simp [markSs, countS]
  | cons x r ih =>
    intro k
    simp only [List.cons_append, markSs, ih, countS]
    congr 3
    omega
theorem markSs_at (ss : List SlotA) (k : Int) (j : Nat) (h : j < ss.length) : (ss.getD j zeroS).mark (k + countS (ss.take j)) ∈ markSs ss k := by
  have e : markSs ss k = markSs (ss.take j) k ++ markSs (ss.drop j) (k + countS (ss.take j)) := by rw [← markSs_app, List.take_append_drop]
  have e2 : ss.getD j zeroS = ss[j] := by simp [List.getD, h]
  rw [e, List.drop_eq_getElem_cons h, markSs, e2]
  exact List.mem_append.2 (.inr (List.mem_cons.2 (.inl rfl)))
theorem take_split (ss : List SlotA) (j : Nat) (h : j < ss.length) : ss.drop j = ss.getD j zeroS :: ss.drop (j + 1) ∧ ss.take (j + 1) = ss.take j ++ [ss.getD j zeroS] := by
  refine ⟨by rw [List.drop_eq_getElem_cons h]; simp [List.getD, h], ?_⟩
  rw [List.take_add_one]
  simp [List.getD, h]
theorem countS_le (ss : List SlotA) (M : Nat) (h : ∀ s ∈ ss, s.v.o.ints.length ≤ M ∧ s.v.o.refs.length ≤ M) : countS ss ≤ ss.length * (2 * M) := by
  induction ss with
  | nil => simp [countS]
  | cons x r ih =>
    have h1 := h x (by simp)
    have h2 := ih (fun s hs => h s (by simp [hs]))
    simp only [countS, SlotA.count, List.length_cons, Nat.add_mul]
    omega

end Go.Proofs.YtekljhabjkmhpabDoor

/- Rows of grants: what they are, what a walk reads and owns of them. -/
namespace Go.Proofs.YtekljhabjkmhpabDoor
open Go.RowKit

structure GrantV where
  tx : Int
  res : Int
  mode : Int
def GrantV.cells (l : GrantV) : List Value := [.int .i64 l.tx, .int .i64 l.res, .int .i64 l.mode]
def zeroG : GrantV := ⟨0, 0, 0⟩
def cellsG (ls : List GrantV) : List Value := ls.flatMap GrantV.cells
theorem cellsG_len (ls : List GrantV) : (cellsG ls).length = ls.length * 3 := by
  induction ls with
  | nil => rfl
  | cons s r ih => simp only [cellsG, List.flatMap_cons, List.length_append, GrantV.cells, List.length_cons, List.length_nil] at *; omega
theorem cellsG_app (a b : List GrantV) : cellsG (a ++ b) = cellsG a ++ cellsG b := by simp [cellsG]
theorem cellsG_at (ls : List GrantV) (k j : Nat) (hk : k < ls.length) (hj : j < 3) : (cellsG ls)[k * 3 + j]? = (ls.getD k zeroG).cells[j]? := by
  induction ls generalizing k with
  | nil => simp at hk
  | cons s r ih =>
    have e : cellsG (s :: r) = s.cells ++ cellsG r := by simp [cellsG]
    have l3 : s.cells.length = 3 := rfl
    rw [e]
    cases k with
    | zero => rw [List.getElem?_append_left (by rw [l3]; omega)]; simp
    | succ k =>
      rw [List.getElem?_append_right (by rw [l3]; omega), l3]
      have := ih k (by simpa using hk)
      rw [show (k + 1) * 3 + j - 3 = k * 3 + j by omega, this]
      simp
theorem cellsG_set (ls : List GrantV) (k : Nat) (hk : k < ls.length) (t : GrantV) :
    (((cellsG ls).set (k * 3) (.int .i64 t.tx)).set (k * 3 + 1) (.int .i64 t.res)).set (k * 3 + 2) (.int .i64 t.mode) = cellsG (ls.set k t) := by
  induction ls generalizing k with
  | nil => simp at hk
  | cons s r ih =>
    cases k with
    | zero => simp [cellsG, GrantV.cells]
    | succ k =>
      have := ih k (by simpa using hk)
      have e2 : ∀ x, cellsG (s :: x) = s.cells ++ cellsG x := fun x => by simp [cellsG]
      have l3 : s.cells.length = 3 := rfl
      rw [e2, List.set_append_right _ _ (by rw [l3]; omega), List.set_append_right _ _ (by rw [l3]; omega), List.set_append_right _ _ (by rw [l3]; omega), l3, show (k + 1) * 3 - 3 = k * 3 by omega, show (k + 1) * 3 + 1 - 3 = k * 3 + 1 by omega, show (k + 1) * 3 + 2 - 3 = k * 3 + 2 by omega, this, List.set_cons_succ, e2]

/-- The slice at a reads these. -/
def ReadsG (w : World) (a : Option Addr) (ls : List GrantV) : Prop := ls ≠ [] → ∃ b off, a = some ⟨b, off, none⟩ ∧ ∀ k, k < ls.length → w.cell? ⟨b, off + k * 3, none⟩ = some (.int .i64 (ls.getD k zeroG).tx) ∧ w.cell? ⟨b, off + k * 3 + 1, none⟩ = some (.int .i64 (ls.getD k zeroG).res) ∧ w.cell? ⟨b, off + k * 3 + 2, none⟩ = some (.int .i64 (ls.getD k zeroG).mode)
theorem ReadsG.nil (w : World) (a : Option Addr) : ReadsG w a [] := fun h => absurd rfl h
theorem ReadsG.below {w w' : World} {a : Option Addr} {ls : List GrantV} (h : ReadsG w a ls) (hb : Below w.heap.size w w') : ReadsG w' a ls := by
  intro hne
  obtain ⟨b, off, ha, hc⟩ := h hne
  refine ⟨b, off, ha, fun k hk => ?_⟩
  obtain ⟨h0, h1, h2⟩ := hc k hk
  have hlt := block_lt h0
  exact ⟨by rw [hb.cell (p := ⟨b, off + k * 3, none⟩) hlt]; exact h0, by rw [hb.cell (p := ⟨b, off + k * 3 + 1, none⟩) hlt]; exact h1, by rw [hb.cell (p := ⟨b, off + k * 3 + 2, none⟩) hlt]; exact h2⟩
theorem ReadsG.cases {w : World} {a : Option Addr} {ls : List GrantV} (h : ReadsG w a ls) : ls = [] ∨ ∃ b off, a = some ⟨b, off, none⟩ ∧ 0 < ls.length ∧ ∀ k, k < ls.length → w.cell? ⟨b, off + k * 3, none⟩ = some (.int .i64 (ls.getD k zeroG).tx) ∧ w.cell? ⟨b, off + k * 3 + 1, none⟩ = some (.int .i64 (ls.getD k zeroG).res) ∧ w.cell? ⟨b, off + k * 3 + 2, none⟩ = some (.int .i64 (ls.getD k zeroG).mode) := by
  by_cases e : ls = []
  · exact .inl e
  · obtain ⟨b, off, ha, hc⟩ := h e
    exact .inr ⟨b, off, ha, List.length_pos_iff.2 e, hc⟩

/-- The slice at a, of capacity c, owns these; its row lies from lo up to hi. -/
def OwnG (w : World) (lo hi : Nat) (a : Option Addr) (c : Nat) (ls : List GrantV) : Prop :=
  w.ownsRow lo 46 3 (.slice a ls.length c) ls.length (cellsG ls) ∧ hi ≤ w.heap.size ∧ ∀ k, (Value.slice a ls.length c).ownBlock = some k → k < hi
theorem OwnG.lt {w : World} {lo hi : Nat} {a : Option Addr} {c : Nat} {ls : List GrantV} (h : OwnG w lo hi a c ls) : ∀ k, (Value.slice a ls.length c).ownBlock = some k → lo ≤ k ∧ k < hi := fun k hk => ⟨(h.1.lt k hk).1, h.2.2 k hk⟩
theorem OwnG.touch {w w' : World} {lo hi : Nat} {a : Option Addr} {c : Nat} {ls : List GrantV} {bl : List Nat} (h : OwnG w lo hi a c ls) (ht : Touch bl w w') (hd : ∀ k, (Value.slice a ls.length c).ownBlock = some k → k ∉ bl) : OwnG w' lo hi a c ls :=
  ⟨ownsRow_block h.1 (fun k hk => ht.block k (h.1.lt k hk).2 (hd k hk)), Nat.le_trans h.2.1 ht.size, h.2.2⟩
theorem OwnG.within {w w' : World} {lo hi l r : Nat} {a : Option Addr} {c : Nat} {ls : List GrantV} (h : OwnG w lo hi a c ls) (hw : Within l r w w') (hd : hi ≤ l ∨ r ≤ lo) : OwnG w' lo hi a c ls :=
  ⟨ownsRow_block h.1 (fun k hk => hw.block k (by have := h.2.2 k hk; have := h.2.1; omega) (by have := h.lt k hk; omega)), Nat.le_trans h.2.1 hw.size, h.2.2⟩
theorem OwnG.below {w w' : World} {lo hi : Nat} {a : Option Addr} {c : Nat} {ls : List GrantV} (h : OwnG w lo hi a c ls) (hb : Below w.heap.size w w') : OwnG w' lo hi a c ls :=
  h.within (Within.of_below (lo := w.heap.size) (hi := w.heap.size) hb) (.inl h.2.1)
theorem OwnG.widen {w : World} {lo hi lo' hi' : Nat} {a : Option Addr} {c : Nat} {ls : List GrantV} (h : OwnG w lo hi a c ls) (h1 : lo' ≤ lo) (h2 : hi ≤ hi') (h3 : hi' ≤ w.heap.size) : OwnG w lo' hi' a c ls :=
  ⟨ownsRow_base h.1 (fun k hk => by have := h.lt k hk; omega), h3, fun k hk => by have := h.lt k hk; omega⟩
theorem ownG_nil (w : World) (lo hi : Nat) (h : hi ≤ w.heap.size) : OwnG w lo hi none 0 [] := ⟨⟨by simp [cellsG], .inl ⟨rfl, rfl⟩⟩, h, fun k hk => by cases hk⟩
theorem OwnG.nocap {w : World} {lo hi : Nat} {a : Option Addr} {c : Nat} {ls : List GrantV} (h : OwnG w lo hi a c ls) : a = none → c = 0 := by
  intro ha
  rcases h.1.2 with ⟨hv, _⟩ | ⟨g, cap, cur, hv, _⟩
  · simp only [Value.slice.injEq] at hv; exact hv.2.2
  · simp [ha] at hv
/-- The three cells of one of a row that lies in block g. -/
theorem row_grant {w : World} {base g n cap : Nat} {ls : List GrantV} (h : w.ownsRow base 46 3 (.slice (some ⟨g, 0, none⟩) n cap) n (cellsG ls)) (hn : ls.length = n) (k : Nat) (hk : k < n) :
    w.cell? ⟨g, k * 3, none⟩ = some (.int .i64 (ls.getD k zeroG).tx) ∧ w.cell? ⟨g, k * 3 + 1, none⟩ = some (.int .i64 (ls.getD k zeroG).res) ∧ w.cell? ⟨g, k * 3 + 2, none⟩ = some (.int .i64 (ls.getD k zeroG).mode) ∧ (∀ i, w.frozen? ⟨g, i, none⟩ = false) := by
  have a0 := cellsG_at ls k 0 (by omega) (by omega)
  have a1 := cellsG_at ls k 1 (by omega) (by omega)
  have a2 := cellsG_at ls k 2 (by omega) (by omega)
  simp only [GrantV.cells, Nat.add_zero, List.getElem?_cons_zero, List.getElem?_cons_succ] at a0 a1 a2
  exact ⟨by rw [h.cellAt (k * 3) (by omega)]; exact a0, by rw [h.cellAt (k * 3 + 1) (by omega)]; exact a1, by rw [h.cellAt (k * 3 + 2) (by omega)]; exact a2, fun i => h.frozenAt i⟩
/-- One of the row stored. -/
theorem row_storeG {w : World} {base g n cap : Nat} {ls : List GrantV} (h : w.ownsRow base 46 3 (.slice (some ⟨g, 0, none⟩) n cap) n (cellsG ls)) (hn : ls.length = n) (k : Nat) (hk : k < n) (t : GrantV) :
    ∃ W, Hid (((w.setCell ⟨g, k * 3, none⟩ (.int .i64 t.tx)).setCell ⟨g, k * 3 + 1, none⟩ (.int .i64 t.res)).setCell ⟨g, k * 3 + 2, none⟩ (.int .i64 t.mode) = W) ∧ W.ownsRow base 46 3 (.slice (some ⟨g, 0, none⟩) n cap) n (cellsG (ls.set k t)) ∧ w.grownBy W (some g) := by
  have s1 := h.stored (k * 3) (.int .i64 t.tx)
  have s2 := s1.1.stored (k * 3 + 1) (.int .i64 t.res)
  have s3 := s2.1.stored (k * 3 + 2) (.int .i64 t.mode)
  refine ⟨_, rfl, ?_, grownBy_trans (grownBy_trans s1.2 s2.2) s3.2⟩
  have := s3.1
  rw [cellsG_set ls k (by omega) t] at this
  exact this
theorem OwnG.reads {w : World} {lo hi : Nat} {a : Option Addr} {c : Nat} {ls : List GrantV} (h : OwnG w lo hi a c ls) : ReadsG w a ls := by
  intro hne
  rcases h.1.2 with ⟨_, h0⟩ | ⟨g, cap', cur, hv, hb, hg, hr⟩
  · exact absurd (List.length_eq_zero_iff.1 h0) hne
  · simp only [Value.slice.injEq] at hv
    obtain ⟨rfl, _, rfl⟩ := hv
    refine ⟨g, 0, rfl, fun k hk => ?_⟩
    obtain ⟨a0, a1, a2, _⟩ := row_grant h.1 rfl k hk
    rw [Nat.zero_add]
    exact ⟨a0, a1, a2⟩
end Go.Proofs.YtekljhabjkmhpabDoor

/- The walks of laws.toGrant, toGrantS, eqGrant, eqGrantS, szGrantS. -/
namespace Go.Proofs.YtekljhabjkmhpabDoor
open Go.RowKit

set_option maxHeartbeats 400000 in
set_option maxRecDepth 100000 in
theorem toGrant_any (l : GrantV) (w : World) :
    Calls Tryd.prog 49 #[.agg l.cells.toArray] w fun e w' => e = .returned (.agg l.cells.toArray) ∧ Below w.heap.size w w' := by
  obtain ⟨x, y, z⟩ := l
  simp only [GrantV.cells]
  obtain ⟨W, hW, b0, b1, b2, hbW, hsW⟩ := boxes3 w [.int .i64 x, .int .i64 y, .int .i64 z] [.int .i64 x, .int .i64 y, .int .i64 z] [.int .i64 x, .int .i64 y, .int .i64 z] 70 46 46
  obtain ⟨q0, q1, q2, _⟩ := b1.three
  clear b0 b2 hsW
  go_enter Tryd.func49, Tryd.ntmps49
  go_wp2
  rw [hW.out]
  exact bodyPost_ret (v := .agg #[.int .i64 x, .int .i64 y, .int .i64 z]) (by simp [results, Tryd.results49, go_sem, q0, q1, q2]) rfl ⟨rfl, hbW⟩

theorem zero_cellsG (n : Nat) : (madeCells #[.int .i64 0, .int .i64 0, .int .i64 0] (n * 3)).toList = cellsG (List.replicate n zeroG) := by
  apply List.ext_getElem?
  intro i
  by_cases h : i < n * 3
  · have e := cellsG_at (List.replicate n zeroG) (i / 3) (i % 3) (by simp; omega) (Nat.mod_lt _ (by omega))
    rw [show i / 3 * 3 + i % 3 = i by omega] at e
    rw [e]
    have hg : (List.replicate n zeroG).getD (i / 3) zeroG = zeroG := by simp [List.getD, show i / 3 < n by omega]
    rw [hg]
    simp only [madeCells, Array.toList_map, List.getElem?_map, Array.toList_range, List.getElem?_range h, Option.map_some, GrantV.cells, zeroG]
    have : i % 3 < 3 := Nat.mod_lt _ (by omega)
    show some (#[Value.int .i64 0, .int .i64 0, .int .i64 0][i % 3]!) = _
    rcases (by omega : i % 3 = 0 ∨ i % 3 = 1 ∨ i % 3 = 2) with h' | h' | h' <;> rw [h'] <;> rfl
  · rw [List.getElem?_eq_none (by simp [size_madeCells]; omega), List.getElem?_eq_none (by rw [cellsG_len]; simp; omega)]

theorem made_grant (n : Nat) : (madeCells (Value.agg #[.int .i64 0, .int .i64 0, .int .i64 0]).cells (n * 3)).toList = cellsG (List.replicate n zeroG) := zero_cellsG n
def partG (ls : List GrantV) (k : Nat) : List GrantV := ls.take k ++ List.replicate (ls.length - k) zeroG
theorem partG_len (ls : List GrantV) (k : Nat) (h : k ≤ ls.length) : (partG ls k).length = ls.length := by simp [partG]; omega
theorem partG_all (ls : List GrantV) : partG ls ls.length = ls := by simp [partG]
theorem partG_none (ls : List GrantV) : partG ls 0 = List.replicate ls.length zeroG := by simp [partG]
theorem partG_set (ls : List GrantV) (k : Nat) (h : k < ls.length) : (partG ls k).set k (ls.getD k zeroG) = partG ls (k + 1) := by
  unfold partG
  rw [List.set_append, if_neg (by simp; omega), List.take_succ_eq_append_getElem h]
  have e : ls.length - k = (ls.length - (k + 1)) + 1 := by omega
  have e2 : k - (List.take k ls).length = 0 := by simp; omega
  rw [e2, e, List.replicate_succ, List.set_cons_zero]
  simp only [List.getD, h, List.getElem?_eq_getElem, Option.getD_some, List.append_assoc, List.singleton_append]

theorem Tryd.infoGrant : (Tryd.prog.info? 46).map (fun i => (i.zero, i.size, i.bytes)) = some (some (.agg #[.int .i64 0, .int .i64 0, .int .i64 0]), 3, 24) := by kernel_rfl

set_option maxHeartbeats 400000 in
set_option maxRecDepth 100000 in
theorem toGrantS_any (a : Option Addr) (cap : Nat) (ls : List GrantV) (w : World) (hr : ReadsG w a ls) (hl : ls.length ≤ 1099511627776) :
    Calls Tryd.prog 26 #[.slice a ls.length cap] w fun e w' => ∃ a' c', e = .returned (.slice a' ls.length c') ∧ OwnG w' w.heap.size w'.heap.size a' c' ls ∧ Below w.heap.size w w' := by
  obtain ⟨i0, hi, hz0, hz1, hz2⟩ := info_parts Tryd.infoGrant
  rcases hr.cases with rfl | ⟨b, off, rfl, hpos, hcell⟩
  · go_enter Tryd.func26, Tryd.ntmps26
    go_wp2_with (at_make; refine wpList_make_full _ rfl _ _ 26 rfl w.heap.size 46 i0 (.agg #[.int .i64 0, .int .i64 0, .int .i64 0]) 3 Tryd.underlying26 hi hz0 hz1 _ _ _ _ 0 rfl rfl (by simp) (by simp) (by omega) (by simp [maxLen]) (Nat.le_refl _) ?_)
    intro w0 hown0 hgrow0
    go_wp2
    refine wp_loop_rounds 1 ?_
    rw [rounds_succ]
    go_wp2
    go_ret
    have ho : w0.ownsRow w.heap.size 46 3 (.slice (some ⟨w.heap.size, 0, none⟩) 0 0) 0 (cellsG []) := by
      have e := made_grant 0
      simp only [List.replicate_zero] at e
      rw [← e]
      exact hown0
    exact ⟨_, _, rfl, ⟨ho, Nat.le_refl _, fun k hk => (ho.lt k hk).2⟩, (Below.refl _ _).grown hgrow0 (Nat.le_refl _) (fun k h => by cases h)⟩
  · have hbB : b < w.heap.size := block_lt (hcell 0 hpos).1
    go_enter Tryd.func26, Tryd.ntmps26
    go_wp2_with (at_make; refine wpList_make_full _ rfl _ _ 26 rfl w.heap.size 46 i0 (.agg #[.int .i64 0, .int .i64 0, .int .i64 0]) 3 Tryd.underlying26 hi hz0 hz1 _ _ _ _ ls.length rfl rfl rfl rfl (by rw [hz2]; omega) (by simp [maxLen]; omega) (Nat.le_refl _) ?_)
    intro w0 hown0 hgrow0
    have hown1 : w0.ownsRow w.heap.size 46 3 (.slice (some ⟨w.heap.size, 0, none⟩) ls.length ls.length) ls.length (cellsG (partG ls 0)) := by
      rw [partG_none, ← made_grant]
      exact hown0
    have hb0 : Below w.heap.size w w0 := (Below.refl _ _).grown hgrow0 (Nat.le_refl _) (fun k h => by cases h)
    clear hown0 hgrow0
    go_wp2
    go_loopw [4] (fun i wr => ∃ k : Nat, k ≤ ls.length ∧ i = .int .i64 k ∧ wr.ownsRow w.heap.size 46 3 (.slice (some ⟨w.heap.size, 0, none⟩) ls.length ls.length) ls.length (cellsG (partG ls k)) ∧ Below w.heap.size w wr)
      (fun i _ => ls.length - (intOf i).toNat)
    case atStart => exact ⟨0, Nat.zero_le _, rfl, hown1, hb0⟩
    case round =>
      obtain ⟨k, hk, rfl, hown, hnx⟩ := hrel
      by_cases hlt : k < ls.length
      · obtain ⟨c0, c1, c2⟩ := hcell k hlt
        have d0 : wr.cell? ⟨b, off + k * 3, none⟩ = _ := (hnx.cell (by exact hbB)).trans c0
        have d1 : wr.cell? ⟨b, off + k * 3 + 1, none⟩ = _ := (hnx.cell (by exact hbB)).trans c1
        have d2 : wr.cell? ⟨b, off + k * 3 + 2, none⟩ = _ := (hnx.cell (by exact hbB)).trans c2
        have hp := partG_len ls k hk
        have HSET : Hid ((partG ls k).set k (ls.getD k zeroG) = partG ls (k + 1)) := partG_set ls k hlt
        clear c0 c1 c2 hcell hown1 hb0
        generalize ls.getD k zeroG = z at *
        have C := toGrant_any z wr
        simp only [GrantV.cells] at C
        go_wp2_with fail
        refine C.mono ?_
        clear C d0 d1 d2
        rintro e w1 ⟨rfl, hb1⟩
        have hownA := ownsRow_block hown (fun j hj => hb1.block j (hown.lt j hj).2)
        obtain ⟨x0, x1, x2, hfz⟩ := row_grant hownA hp k hlt
        have f0 := hfz (k * 3)
        have f1 := hfz (k * 3 + 1)
        have f2 := hfz (k * 3 + 2)
        obtain ⟨W2, hW2, ho2, hg2⟩ := row_storeG hownA hp k hlt z
        rw [HSET.out] at ho2
        have hB2 : Below w.heap.size w W2 := (hnx.trans (hb1.mono hnx.size)).grown hg2 (by have := hnx.size; have := hb1.size; omega) (fun j hj => by cases hj; omega)
        have HH : Hid (_ ∧ _) := ⟨ho2, hB2⟩
        clear ho2 hB2 hg2 hfz hownA hown hb1 hnx HSET
        generalize (partG ls k).getD k zeroG = old at *
        go_wp2_with fail
        rw [hW2.out]
        go_roundw
        case rel => exact ⟨k + 1, by omega, by go_num, HH.out.1, HH.out.2⟩
        case measure => simp [intOf]; omega
      · have HE : Hid (wr.ownsRow w.heap.size 46 3 (.slice (some ⟨w.heap.size, 0, none⟩) ls.length ls.length) ls.length (cellsG ls)) := by
          have e : k = ls.length := by omega
          rw [e, partG_all] at hown
          exact hown
        go_wp2
        go_ret
        exact ⟨_, _, rfl, ⟨HE.out, Nat.le_refl _, fun k hk => (HE.out.lt k hk).2⟩, hnx⟩

set_option maxHeartbeats 400000 in
set_option maxRecDepth 100000 in
theorem eqGrant_same (l : GrantV) (w : World) :
    Calls Tryd.prog 56 #[.agg l.cells.toArray, .agg l.cells.toArray] w fun e w' => e = .returned (.bool true) ∧ Below w.heap.size w w' := by
  obtain ⟨x, y, z⟩ := l
  simp only [GrantV.cells]
  obtain ⟨W, hW, b0, b1, hbW, hsW⟩ := boxes2 w [.int .i64 x, .int .i64 y, .int .i64 z] [.int .i64 x, .int .i64 y, .int .i64 z] 46 46
  clear b0 b1 hsW
  go_enter Tryd.func56, Tryd.ntmps56
  go_wp2
  rw [hW.out]
  go_ret
  exact ⟨rfl, hbW⟩

set_option maxHeartbeats 1000000 in
set_option maxRecDepth 100000 in
theorem eqGrantS_same (a b : Option Addr) (ca cb : Nat) (ls : List GrantV) (w : World) (ha : ReadsG w a ls) (hb : ReadsG w b ls) (hl : ls.length ≤ 1099511627776) :
    Calls Tryd.prog 32 #[.slice a ls.length ca, .slice b ls.length cb] w fun e w' => e = .returned (.bool true) ∧ Below w.heap.size w w' := by
  rcases ha.cases with rfl | ⟨b1, o1, rfl, hpos, hc1⟩
  · go_enter Tryd.func32, Tryd.ntmps32
    go_wp2
    refine wp_loop_rounds 1 ?_
    rw [rounds_succ]
    go_wp2
    go_ret
    exact ⟨rfl, Below.refl _ _⟩
  · rcases hb.cases with rfl | ⟨b2, o2, rfl, _, hc2⟩
    · simp at hpos
    · go_enter Tryd.func32, Tryd.ntmps32
      go_wp2
      go_loopw [5] (fun i wr => ∃ k : Nat, k ≤ ls.length ∧ i = .int .i64 k ∧ Below w.heap.size w wr) (fun i _ => ls.length - (intOf i).toNat)
      case atStart => exact ⟨0, Nat.zero_le _, rfl, Below.refl _ _⟩
      case round =>
        obtain ⟨k, hk, rfl, hbl⟩ := hrel
        by_cases hlt : k < ls.length
        · have h1 := hc1 k hlt
          have h2 := hc2 k hlt
          clear hc1 hc2
          generalize ls.getD k zeroG = z at *
          have HS : Hid (∀ w1, Below w.heap.size w w1 → (w1.cell? ⟨b1, o1 + k * 3, none⟩ = some (.int .i64 z.tx) ∧ w1.cell? ⟨b1, o1 + k * 3 + 1, none⟩ = some (.int .i64 z.res) ∧ w1.cell? ⟨b1, o1 + k * 3 + 2, none⟩ = some (.int .i64 z.mode)) ∧ (w1.cell? ⟨b2, o2 + k * 3, none⟩ = some (.int .i64 z.tx) ∧ w1.cell? ⟨b2, o2 + k * 3 + 1, none⟩ = some (.int .i64 z.res) ∧ w1.cell? ⟨b2, o2 + k * 3 + 2, none⟩ = some (.int .i64 z.mode))) := fun w1 hh =>
            ⟨⟨(hh.cell (block_lt h1.1)).trans h1.1, (hh.cell (block_lt h1.2.1)).trans h1.2.1, (hh.cell (block_lt h1.2.2)).trans h1.2.2⟩, (hh.cell (block_lt h2.1)).trans h2.1, (hh.cell (block_lt h2.2.1)).trans h2.2.1, (hh.cell (block_lt h2.2.2)).trans h2.2.2⟩
          have hh := HS.out wr hbl
          clear h1 h2
          go_wp2_with fail
          go_region_held3 (fun w1 => (w1.cell? ⟨b1, o1 + k * 3, none⟩ = some (.int .i64 z.tx) ∧ w1.cell? ⟨b1, o1 + k * 3 + 1, none⟩ = some (.int .i64 z.res) ∧ w1.cell? ⟨b1, o1 + k * 3 + 2, none⟩ = some (.int .i64 z.mode)) ∧ (w1.cell? ⟨b2, o2 + k * 3, none⟩ = some (.int .i64 z.tx) ∧ w1.cell? ⟨b2, o2 + k * 3 + 1, none⟩ = some (.int .i64 z.res) ∧ w1.cell? ⟨b2, o2 + k * 3 + 2, none⟩ = some (.int .i64 z.mode)))
            (first | exact HS.out _ hw2 | go_keep | fail)
            ((first | (go_at_call 56; refine (eqGrant_same z _).mono ?_; rintro e w2 ⟨rfl, hb2⟩; have hw2 : Below w.heap.size w w2 := (hbl.drew).trans (hb2.mono hbl.size)) | fail))
          all_goals
            go_wp2_with fail
            go_roundw
            case rel => exact ⟨k + 1, by omega, by go_num, hw2⟩
            case measure => simp [intOf]; omega
        · go_wp2
          go_ret
          exact ⟨rfl, hbl⟩
end Go.Proofs.YtekljhabjkmhpabDoor

/- Is a number within bounds? -/
namespace Go.Proofs.YtekljhabjkmhpabDoor
def inB (x l m : Int) : Bool := decide (l ≤ x ∧ x ≤ m)
end Go.Proofs.YtekljhabjkmhpabDoor

/- Modes: when two go together, and what is both. -/
namespace Go.Proofs.YtekljhabjkmhpabDoor

def modeB (m : Int) : Bool := inB m 1 4
def goTab : List Bool := [true, true, true, false, true, true, false, false, true, false, true, false, false, false, false, false]
def bothTab : List Int := [1, 2, 3, 4, 2, 2, 4, 4, 3, 4, 3, 4, 4, 4, 4, 4]
def goesB (a b : Int) : Bool := modeB a && modeB b && goTab.getD ((a.toNat - 1) * 4 + (b.toNat - 1)) false
def bothZ (a b : Int) : Int := if modeB a && modeB b then bothTab.getD ((a.toNat - 1) * 4 + (b.toNat - 1)) 0 else 0

theorem modeB_iff (m : Int) : modeB m = true ↔ 1 ≤ m ∧ m ≤ 4 := by simp [modeB, inB]
theorem modeB_cases {m : Int} (h : modeB m = true) : m = 1 ∨ m = 2 ∨ m = 3 ∨ m = 4 := by
  have := (modeB_iff m).1 h; omega
theorem goesB_symm (a b : Int) : goesB a b = goesB b a := by
  cases ha : modeB a <;> cases hb : modeB b
  · simp [goesB, ha, hb]
  · simp [goesB, ha, hb]
  · simp [goesB, ha, hb]
  · rcases modeB_cases ha with rfl | rfl | rfl | rfl <;> rcases modeB_cases hb with rfl | rfl | rfl | rfl <;> rfl
theorem bothZ_symm (a b : Int) : bothZ a b = bothZ b a := by
  cases ha : modeB a <;> cases hb : modeB b
  · simp [bothZ, ha, hb]
  · simp [bothZ, ha, hb]
  · simp [bothZ, ha, hb]
  · rcases modeB_cases ha with rfl | rfl | rfl | rfl <;> rcases modeB_cases hb with rfl | rfl | rfl | rfl <;> rfl
theorem goesB_left {a b : Int} (h : modeB a = false) : goesB a b = false := by simp [goesB, h]
theorem goesB_right {a b : Int} (h : modeB b = false) : goesB a b = false := by simp [goesB, h]
theorem bothZ_left {a b : Int} (h : modeB a = false) : bothZ a b = 0 := by simp [bothZ, h]
theorem bothZ_right {a b : Int} (h : modeB b = false) : bothZ a b = 0 := by simp [bothZ, h]
theorem bothZ_mode {a b : Int} (ha : modeB a = true) (hb : modeB b = true) : modeB (bothZ a b) = true := by
  rcases modeB_cases ha with rfl | rfl | rfl | rfl <;> rcases modeB_cases hb with rfl | rfl | rfl | rfl <;> rfl
theorem bothZ_nil (a b : Int) : bothZ a b = 0 ↔ (modeB a && modeB b) = false := by
  cases ha : modeB a <;> cases hb : modeB b
  · simp [bothZ, ha]
  · simp [bothZ, ha]
  · simp [bothZ, hb]
  · have := (modeB_iff _).1 (bothZ_mode ha hb)
    simp; omega
/-- What is both goes with no more than each. -/
theorem both_goes (a b k : Int) (h : goesB (bothZ a b) k = true) : goesB a k = true ∧ goesB b k = true := by
  cases ha : modeB a
  · rw [bothZ_left ha] at h; simp [goesB, modeB, inB] at h
  cases hb : modeB b
  · rw [bothZ_right hb] at h; simp [goesB, modeB, inB] at h
  cases hk : modeB k
  · rw [goesB_right hk] at h; cases h
  rcases modeB_cases ha with rfl | rfl | rfl | rfl <;> rcases modeB_cases hb with rfl | rfl | rfl | rfl <;> rcases modeB_cases hk with rfl | rfl | rfl | rfl <;> revert h <;> decide
theorem both_same {a b : Int} (ha : modeB a = true) (hb : modeB b = true) : bothZ (bothZ a b) a = bothZ a b ∧ bothZ (bothZ a b) b = bothZ a b := by
  rcases modeB_cases ha with rfl | rfl | rfl | rfl <;> rcases modeB_cases hb with rfl | rfl | rfl | rfl <;> exact ⟨rfl, rfl⟩
end Go.Proofs.YtekljhabjkmhpabDoor

/- The walk of spec.l1In. -/
namespace Go.Proofs.YtekljhabjkmhpabDoor
open Go.RowKit

set_option maxHeartbeats 400000 in
theorem l1In_any (x l m : Int) (w : World) : Calls Tryd.prog 42 #[.int .i64 x, .int .i64 l, .int .i64 m] w fun e w' => e = .returned (.bool (inB x l m)) ∧ w' = w := by
  by_cases h1 : l ≤ x
  · by_cases h2 : x ≤ m
    · have HB : Hid (inB x l m = true) := by simp [Hid, inB, h1, h2]
      go_enter Tryd.func42, Tryd.ntmps42
      go_wp2
      go_ret
      exact ⟨ret_bool HB.out.symm, rfl⟩
    · have HB : Hid (inB x l m = false) := by simp [Hid, inB, h2]
      go_enter Tryd.func42, Tryd.ntmps42
      go_wp2
      go_ret
      exact ⟨ret_bool HB.out.symm, rfl⟩
  · have HB : Hid (inB x l m = false) := by simp [Hid, inB, h1]
    go_enter Tryd.func42, Tryd.ntmps42
    go_wp2
    go_ret
    exact ⟨ret_bool HB.out.symm, rfl⟩

end Go.Proofs.YtekljhabjkmhpabDoor

/- The two tables of modes in memory; the walks of impl.modeOk, Goes, Both. -/
namespace Go.Proofs.YtekljhabjkmhpabDoor
open Go.RowKit

def TabGo (w : World) : Prop := ∃ t f, w.heap[1]? = some (.cells (goTab.map Value.bool).toArray t f)
def TabBoth (w : World) : Prop := ∃ t f, w.heap[0]? = some (.cells (bothTab.map (Value.int .i64)).toArray t f)
theorem TabGo.lt {w : World} (h : TabGo w) : 1 < w.heap.size := by obtain ⟨t, f, h⟩ := h; exact (Array.getElem?_eq_some_iff.1 h).1
theorem TabBoth.lt {w : World} (h : TabBoth w) : 0 < w.heap.size := by obtain ⟨t, f, h⟩ := h; exact (Array.getElem?_eq_some_iff.1 h).1
theorem TabGo.keep {w w' : World} (h : TabGo w) (hb : Below w.heap.size w w') : TabGo w' := by
  have := hb.block _ h.lt
  obtain ⟨t, f, h⟩ := h
  exact ⟨t, f, by rw [this]; exact h⟩
theorem TabBoth.keep {w w' : World} (h : TabBoth w) (hb : Below w.heap.size w w') : TabBoth w' := by
  have := hb.block _ h.lt
  obtain ⟨t, f, h⟩ := h
  exact ⟨t, f, by rw [this]; exact h⟩
theorem TabGo.cell {w : World} (h : TabGo w) (i : Nat) (hi : i < 16) : w.cell? ⟨1, i, none⟩ = some (.bool (goTab.getD i false)) := by
  obtain ⟨t, f, h⟩ := h
  have e : goTab.length = 16 := rfl
  simp [World.cell?, h, List.getD, e, hi]
theorem TabBoth.cell {w : World} (h : TabBoth w) (i : Nat) (hi : i < 16) : w.cell? ⟨0, i, none⟩ = some (.int .i64 (bothTab.getD i 0)) := by
  obtain ⟨t, f, h⟩ := h
  have e : bothTab.length = 16 := rfl
  simp [World.cell?, h, List.getD, e, hi]

set_option maxHeartbeats 400000 in
theorem modeOk_any (m : Int) (w : World) : Calls Tryd.prog 52 #[.int .i64 m] w fun e w' => e = .returned (.bool (modeB m)) ∧ w' = w := by
  by_cases h1 : 1 ≤ m
  · by_cases h2 : m ≤ 4
    · have HB : Hid (modeB m = true) := (modeB_iff m).2 ⟨h1, h2⟩
      go_enter Tryd.func52, Tryd.ntmps52
      go_wp2
      go_ret
      exact ⟨ret_bool HB.out.symm, rfl⟩
    · have HB : Hid (modeB m = false) := by simp [Hid, modeB, inB, h2]
      go_enter Tryd.func52, Tryd.ntmps52
      go_wp2
      go_ret
      exact ⟨ret_bool HB.out.symm, rfl⟩
  · have HB : Hid (modeB m = false) := by simp [Hid, modeB, inB, h1]
    go_enter Tryd.func52, Tryd.ntmps52
    go_wp2
    go_ret
    exact ⟨ret_bool HB.out.symm, rfl⟩

set_option maxHeartbeats 400000 in
theorem l9Mode_any (m : Int) (w : World) : Calls Tryd.prog 43 #[.int .i64 m] w fun e w' => e = .returned (.bool (modeB m)) ∧ w' = w := by
  go_enter Tryd.func43, Tryd.ntmps43
  go_wp2_with fail
  refine (l1In_any m 1 4 w).mono ?_
  rintro e w' ⟨rfl, rfl⟩
  go_wp2
  go_ret
  exact ⟨rfl, rfl⟩

set_option maxHeartbeats 2000000 in
set_option maxRecDepth 100000 in
theorem implGoes_any (a b : Int) (w : World) (hT : TabGo w) : Calls Tryd.prog 63 #[.int .i64 a, .int .i64 b] w fun e w' => e = .returned (.bool (goesB a b)) ∧ w' = w := by
  have Ca := modeOk_any a w
  have Cb := modeOk_any b w
  cases ha : modeB a
  · have HB : Hid (goesB a b = false) := goesB_left ha
    rw [ha] at Ca
    go_enter Tryd.func63, Tryd.ntmps63
    go_wp2_with fail
    refine Ca.mono ?_
    rintro e w' ⟨rfl, rfl⟩
    go_wp2_with fail
    go_ret
    exact ⟨ret_bool HB.out.symm, rfl⟩
  cases hb : modeB b
  · have HB : Hid (goesB a b = false) := goesB_right hb
    rw [ha] at Ca
    rw [hb] at Cb
    go_enter Tryd.func63, Tryd.ntmps63
    go_wp2_with fail
    refine Ca.mono ?_
    rintro e w' ⟨rfl, rfl⟩
    go_wp2_with fail
    refine Cb.mono ?_
    rintro e w' ⟨rfl, rfl⟩
    go_wp2_with fail
    go_ret
    exact ⟨ret_bool HB.out.symm, rfl⟩
  have HC : Hid (∀ i, i < 16 → w.cell? ⟨1, i, none⟩ = some (.bool (goTab.getD i false))) := fun i hi => hT.cell i hi
  clear hT
  rw [ha] at Ca
  rw [hb] at Cb
  have h1 := modeB_cases ha
  have h2 := modeB_cases hb
  clear ha hb
  rcases h1 with rfl | rfl | rfl | rfl <;> rcases h2 with rfl | rfl | rfl | rfl <;>
  · go_enter Tryd.func63, Tryd.ntmps63
    go_wp2_with fail
    refine Ca.mono ?_
    rintro e w' ⟨rfl, rfl⟩
    go_wp2_with fail
    refine Cb.mono ?_
    rintro e w' ⟨rfl, rfl⟩
    have g0 := HC.out 0 (by decide)
    have g1 := HC.out 1 (by decide)
    have g2 := HC.out 2 (by decide)
    have g3 := HC.out 3 (by decide)
    have g4 := HC.out 4 (by decide)
    have g5 := HC.out 5 (by decide)
    have g6 := HC.out 6 (by decide)
    have g7 := HC.out 7 (by decide)
    have g8 := HC.out 8 (by decide)
    have g9 := HC.out 9 (by decide)
    have g10 := HC.out 10 (by decide)
    have g11 := HC.out 11 (by decide)
    have g12 := HC.out 12 (by decide)
    have g13 := HC.out 13 (by decide)
    have g14 := HC.out 14 (by decide)
    have g15 := HC.out 15 (by decide)
    go_wp2_with fail
    go_ret
    exact ⟨rfl, rfl⟩
set_option maxHeartbeats 2000000 in
set_option maxRecDepth 100000 in
theorem implBoth_any (a b : Int) (w : World) (hT : TabBoth w) : Calls Tryd.prog 62 #[.int .i64 a, .int .i64 b] w fun e w' => e = .returned (.int .i64 (bothZ a b)) ∧ w' = w := by
  have Ca := modeOk_any a w
  have Cb := modeOk_any b w
  cases ha : modeB a
  · have HB : Hid (bothZ a b = 0) := bothZ_left ha
    rw [ha] at Ca
    go_enter Tryd.func62, Tryd.ntmps62
    go_wp2_with fail
    refine Ca.mono ?_
    rintro e w' ⟨rfl, rfl⟩
    go_wp2_with fail
    go_ret
    exact ⟨ret_int HB.out.symm, rfl⟩
  cases hb : modeB b
  · have HB : Hid (bothZ a b = 0) := bothZ_right hb
    rw [ha] at Ca
    rw [hb] at Cb
    go_enter Tryd.func62, Tryd.ntmps62
    go_wp2_with fail
    refine Ca.mono ?_
    rintro e w' ⟨rfl, rfl⟩
    go_wp2_with fail
    refine Cb.mono ?_
    rintro e w' ⟨rfl, rfl⟩
    go_wp2_with fail
    go_ret
    exact ⟨ret_int HB.out.symm, rfl⟩
  have HC : Hid (∀ i, i < 16 → w.cell? ⟨0, i, none⟩ = some (.int .i64 (bothTab.getD i 0))) := fun i hi => hT.cell i hi
  clear hT
  rw [ha] at Ca
  rw [hb] at Cb
  have h1 := modeB_cases ha
  have h2 := modeB_cases hb
  clear ha hb
  rcases h1 with rfl | rfl | rfl | rfl <;> rcases h2 with rfl | rfl | rfl | rfl <;>
  · go_enter Tryd.func62, Tryd.ntmps62
    go_wp2_with fail
    refine Ca.mono ?_
    rintro e w' ⟨rfl, rfl⟩
    go_wp2_with fail
    refine Cb.mono ?_
    rintro e w' ⟨rfl, rfl⟩
    have g0 := HC.out 0 (by decide)
    have g1 := HC.out 1 (by decide)
    have g2 := HC.out 2 (by decide)
    have g3 := HC.out 3 (by decide)
    have g4 := HC.out 4 (by decide)
    have g5 := HC.out 5 (by decide)
    have g6 := HC.out 6 (by decide)
    have g7 := HC.out 7 (by decide)
    have g8 := HC.out 8 (by decide)
    have g9 := HC.out 9 (by decide)
    have g10 := HC.out 10 (by decide)
    have g11 := HC.out 11 (by decide)
    have g12 := HC.out 12 (by decide)
    have g13 := HC.out 13 (by decide)
    have g14 := HC.out 14 (by decide)
    have g15 := HC.out 15 (by decide)
    go_wp2_with fail
    go_ret
    exact ⟨rfl, rfl⟩
set_option maxHeartbeats 2000000 in
set_option maxRecDepth 100000 in
theorem specGoes_any (a b : Int) (w : World) : Calls Tryd.prog 41 #[.int .i64 a, .int .i64 b] w fun e w' => e = .returned (.bool (goesB a b)) ∧ w' = w := by
  have Ca := l9Mode_any a w
  have Cb := l9Mode_any b w
  cases ha : modeB a
  · have HB : Hid (goesB a b = false) := goesB_left ha
    rw [ha] at Ca
    go_enter Tryd.func41, Tryd.ntmps41
    go_wp2_with fail
    refine Ca.mono ?_
    rintro e w' ⟨rfl, rfl⟩
    go_wp2_with fail
    go_ret
    exact ⟨ret_bool HB.out.symm, rfl⟩
  cases hb : modeB b
  · have HB : Hid (goesB a b = false) := goesB_right hb
    rw [ha] at Ca
    rw [hb] at Cb
    go_enter Tryd.func41, Tryd.ntmps41
    go_wp2_with fail
    refine Ca.mono ?_
    rintro e w' ⟨rfl, rfl⟩
    go_wp2_with fail
    refine Cb.mono ?_
    rintro e w' ⟨rfl, rfl⟩
    go_wp2_with fail
    go_ret
    exact ⟨ret_bool HB.out.symm, rfl⟩
  rw [ha] at Ca
  rw [hb] at Cb
  have h1 := modeB_cases ha
  have h2 := modeB_cases hb
  clear ha hb
  rcases h1 with rfl | rfl | rfl | rfl <;> rcases h2 with rfl | rfl | rfl | rfl <;>
  · go_enter Tryd.func41, Tryd.ntmps41
    go_wp2_with fail
    refine Ca.mono ?_
    rintro e w' ⟨rfl, rfl⟩
    go_wp2_with fail
    refine Cb.mono ?_
    rintro e w' ⟨rfl, rfl⟩
    go_wp2_with fail
    go_ret
    exact ⟨rfl, rfl⟩
set_option maxHeartbeats 2000000 in
set_option maxRecDepth 100000 in
theorem specBoth_any (a b : Int) (w : World) : Calls Tryd.prog 61 #[.int .i64 a, .int .i64 b] w fun e w' => e = .returned (.int .i64 (bothZ a b)) ∧ w' = w := by
  have Ca := l9Mode_any a w
  have Cb := l9Mode_any b w
  cases ha : modeB a
  · have HB : Hid (bothZ a b = 0) := bothZ_left ha
    rw [ha] at Ca
    go_enter Tryd.func61, Tryd.ntmps61
    go_wp2_with fail
    refine Ca.mono ?_
    rintro e w' ⟨rfl, rfl⟩
    go_wp2_with fail
    go_ret
    exact ⟨ret_int HB.out.symm, rfl⟩
  cases hb : modeB b
  · have HB : Hid (bothZ a b = 0) := bothZ_right hb
    rw [ha] at Ca
    rw [hb] at Cb
    go_enter Tryd.func61, Tryd.ntmps61
    go_wp2_with fail
    refine Ca.mono ?_
    rintro e w' ⟨rfl, rfl⟩
    go_wp2_with fail
    refine Cb.mono ?_
    rintro e w' ⟨rfl, rfl⟩
    go_wp2_with fail
    go_ret
    exact ⟨ret_int HB.out.symm, rfl⟩
  rw [ha] at Ca
  rw [hb] at Cb
  have h1 := modeB_cases ha
  have h2 := modeB_cases hb
  clear ha hb
  rcases h1 with rfl | rfl | rfl | rfl <;> rcases h2 with rfl | rfl | rfl | rfl <;>
  · go_enter Tryd.func61, Tryd.ntmps61
    go_wp2_with fail
    refine Ca.mono ?_
    rintro e w' ⟨rfl, rfl⟩
    go_wp2_with fail
    refine Cb.mono ?_
    rintro e w' ⟨rfl, rfl⟩
    go_wp2_with fail
    go_ret
    exact ⟨rfl, rfl⟩
end Go.Proofs.YtekljhabjkmhpabDoor

/- Lists looked through from the front. -/
namespace Go.Proofs.YtekljhabjkmhpabDoor

theorem take_step {α : Type} (ls : List α) (z : α) (k : Nat) (h : k < ls.length) : ls.take (k + 1) = ls.take k ++ [ls.getD k z] := by
  rw [List.take_succ_eq_append_getElem h]
  simp [List.getD, h]
theorem any_step {α : Type} {p : α → Bool} {ls : List α} {z : α} {k : Nat} (h : k < ls.length) (h0 : (ls.take k).any p = false) (h1 : p (ls.getD k z) = false) : (ls.take (k + 1)).any p = false := by
  rw [take_step ls z k h, List.any_append, h0, List.any_cons, h1]
  rfl
theorem any_hit {α : Type} {p : α → Bool} {ls : List α} {z : α} {k : Nat} (h : k < ls.length) (h1 : p (ls.getD k z) = true) : ls.any p = true := by
  rw [List.any_eq_true]
  exact ⟨ls.getD k z, by simp [List.getD, h], h1⟩
theorem any_end {α : Type} {p : α → Bool} {ls : List α} {k : Nat} (h : ¬ k < ls.length) (h0 : (ls.take k).any p = false) : ls.any p = false := by
  rwa [List.take_of_length_le (by omega)] at h0
theorem all_step {α : Type} {p : α → Bool} {ls : List α} {z : α} {k : Nat} (h : k < ls.length) (h0 : (ls.take k).all p = true) (h1 : p (ls.getD k z) = true) : (ls.take (k + 1)).all p = true := by
  rw [take_step ls z k h, List.all_append, h0, List.all_cons, h1]
  rfl
theorem all_hit {α : Type} {p : α → Bool} {ls : List α} {z : α} {k : Nat} (h : k < ls.length) (h1 : p (ls.getD k z) = false) : ls.all p = false := by
  rw [List.all_eq_false]
  exact ⟨ls.getD k z, by simp [List.getD, h], by rw [h1]; decide⟩
theorem all_end {α : Type} {p : α → Bool} {ls : List α} {k : Nat} (h : ¬ k < ls.length) (h0 : (ls.take k).all p = true) : ls.all p = true := by
  rwa [List.take_of_length_le (by omega)] at h0

/-- The first place of one that is so; -1, where there is none. -/
def placeZ {α : Type} (p : α → Bool) (ls : List α) : Int := match ls.findIdx? p with | some i => i | none => -1
theorem placeZ_hit {α : Type} {p : α → Bool} {ls : List α} {z : α} {k : Nat} (h : k < ls.length) (h0 : (ls.take k).any p = false) (h1 : p (ls.getD k z) = true) : placeZ p ls = k := by
  have e : ls.findIdx? p = some k := by
    rw [List.findIdx?_eq_some_iff_getElem]
    refine ⟨h, by simpa [List.getD, h] using h1, fun j hj => ?_⟩
    have := List.any_eq_false.1 h0 ls[j] (by rw [List.mem_take_iff_getElem]; exact ⟨j, by omega, rfl⟩)
    simpa using this
  rw [placeZ, e]
theorem placeZ_none {α : Type} {p : α → Bool} {ls : List α} (h : ls.any p = false) : placeZ p ls = -1 := by
  have e : ls.findIdx? p = none := by
    rw [List.findIdx?_eq_none_iff]
    intro x hx
    have := List.any_eq_false.1 h x hx
    simpa using this
  rw [placeZ, e]
theorem placeZ_end {α : Type} {p : α → Bool} {ls : List α} {k : Nat} (h : ¬ k < ls.length) (h0 : (ls.take k).any p = false) : placeZ p ls = -1 := placeZ_none (any_end h h0)
theorem placeZ_neg {α : Type} (p : α → Bool) (ls : List α) : 0 ≤ placeZ p ls ↔ ls.any p = true := by
  constructor
  · intro h
    cases e : ls.any p
    · rw [placeZ_none e] at h; omega
    · rfl
  · intro h
    cases e : ls.findIdx? p with
    | none =>
      rw [List.findIdx?_eq_none_iff] at e
      obtain ⟨x, hx, hp⟩ := List.any_eq_true.1 h
      rw [e x hx] at hp; cases hp
    | some i => rw [placeZ, e]; simp
theorem placeZ_lt {α : Type} {p : α → Bool} {ls : List α} (h : 0 ≤ placeZ p ls) : ∃ k : Nat, k < ls.length ∧ placeZ p ls = k := by
  cases e : ls.findIdx? p with
  | none => rw [placeZ, e] at h; simp at h
  | some i =>
    obtain ⟨hi, _⟩ := List.findIdx?_eq_some_iff_getElem.1 e
    exact ⟨i, hi, by rw [placeZ, e]⟩
theorem placeZ_at {α : Type} {p : α → Bool} {ls : List α} {k : Nat} (h : placeZ p ls = k) (z : α) : k < ls.length ∧ p (ls.getD k z) = true ∧ (ls.take k).any p = false := by
  cases e : ls.findIdx? p with
  | none => rw [placeZ, e] at h; simp at h
  | some i =>
    rw [placeZ, e] at h
    simp only [Int.natCast_inj] at h
    subst h
    obtain ⟨hi, h1, h2⟩ := List.findIdx?_eq_some_iff_getElem.1 e
    refine ⟨hi, by simpa [List.getD, hi] using h1, ?_⟩
    rw [List.any_eq_false]
    intro x hx
    obtain ⟨j, hj, rfl⟩ := List.mem_take_iff_getElem.1 hx
    have := h2 j (by omega)
    simpa using this
end Go.Proofs.YtekljhabjkmhpabDoor

/- The walks of impl.grantOk, placeOf, isAmong, bars, goesWithOthers; spec.l9Grant. -/
namespace Go.Proofs.YtekljhabjkmhpabDoor
open Go.RowKit

def grantB (g : GrantV) : Bool := inB g.tx 1 99 && (inB g.res 0 99 && modeB g.mode)
def atB (tx res : Int) (g : GrantV) : Bool := g.tx == tx && g.res == res
def barsB (g o : GrantV) : Bool := o.res == g.res && (o.tx != g.tx && !goesB g.mode o.mode)

set_option maxHeartbeats 400000 in
set_option maxRecDepth 100000 in
theorem placeOf_any (a : Option Addr) (c : Nat) (ls : List GrantV) (tx res : Int) (w : World) (hr : ReadsG w a ls) (hl : ls.length ≤ 1099511627776) :
    Calls Tryd.prog 50 #[.slice a ls.length c, .int .i64 tx, .int .i64 res] w fun e w' => e = .returned (.int .i64 (placeZ (atB tx res) ls)) ∧ Below w.heap.size w w' := by
  rcases hr.cases with rfl | ⟨b, off, rfl, hpos, hcell⟩
  · go_enter Tryd.func50, Tryd.ntmps50
    go_wp2
    refine wp_loop_rounds 1 ?_
    rw [rounds_succ]
    go_wp2
    go_ret
    exact ⟨rfl, Below.refl _ _⟩
  · go_enter Tryd.func50, Tryd.ntmps50
    go_wp2
    go_loopw [11] (fun i wr => ∃ k : Nat, k ≤ ls.length ∧ i = .int .i64 k ∧ (ls.take k).any (atB tx res) = false ∧ Below w.heap.size w wr) (fun i _ => ls.length - (intOf i).toNat)
    case atStart => exact ⟨0, Nat.zero_le _, rfl, rfl, Below.refl _ _⟩
    case round =>
      obtain ⟨k, hk, rfl, hany, hbl⟩ := hrel
      by_cases hlt : k < ls.length
      · obtain ⟨c0, c1, c2⟩ := hcell k hlt
        have d0 : wr.cell? ⟨b, off + k * 3, none⟩ = _ := (hbl.cell (block_lt c0)).trans c0
        have d1 : wr.cell? ⟨b, off + k * 3 + 1, none⟩ = _ := (hbl.cell (block_lt c1)).trans c1
        have d2 : wr.cell? ⟨b, off + k * 3 + 2, none⟩ = _ := (hbl.cell (block_lt c2)).trans c2
        clear c0 c1 c2
        have HN : Hid (atB tx res (ls.getD k zeroG) = false → (ls.take (k + 1)).any (atB tx res) = false) := any_step hlt hany
        have HH : Hid (atB tx res (ls.getD k zeroG) = true → placeZ (atB tx res) ls = k) := placeZ_hit hlt hany
        clear hcell hany
        generalize ls.getD k zeroG = z at *
        have hB : ∀ o, Below w.heap.size w (wr.alloc o) := fun o => hbl.alloc hbl.size o
        clear hbl
        by_cases h1 : z.tx = tx
        · by_cases h2 : z.res = res
          · have HR : Hid _ := HH.out (by simp [atB, h1, h2])
            go_wp2
            go_ret
            exact ⟨ret_int HR.out.symm, hB _⟩
          · have HR : Hid _ := HN.out (by simp [atB, h1, h2])
            go_wp2
            go_roundw
            case rel => exact ⟨k + 1, by omega, by go_num, HR.out, hB _⟩
            case measure => simp [intOf]; omega
        · have HR : Hid _ := HN.out (by simp [atB, h1])
          go_wp2
          go_roundw
          case rel => exact ⟨k + 1, by omega, by go_num, HR.out, hB _⟩
          case measure => simp [intOf]; omega
      · have HR : Hid _ := placeZ_end hlt hany
        go_wp2
        go_ret
        exact ⟨ret_int HR.out.symm, hbl⟩

set_option maxHeartbeats 400000 in
set_option maxRecDepth 100000 in
theorem isAmong_any (a : Option Addr) (c : Nat) (ls : List GrantV) (x : Int) (w : World) (hr : ReadsG w a ls) (hl : ls.length ≤ 1099511627776) :
    Calls Tryd.prog 30 #[.slice a ls.length c, .int .i64 x] w fun e w' => e = .returned (.bool (ls.any (fun g => g.tx == x))) ∧ Below w.heap.size w w' := by
  rcases hr.cases with rfl | ⟨b, off, rfl, hpos, hcell⟩
  · go_enter Tryd.func30, Tryd.ntmps30
    go_wp2
    refine wp_loop_rounds 1 ?_
    rw [rounds_succ]
    go_wp2
    go_ret
    exact ⟨rfl, Below.refl _ _⟩
  · go_enter Tryd.func30, Tryd.ntmps30
    go_wp2
    go_loopw [9] (fun i wr => ∃ k : Nat, k ≤ ls.length ∧ i = .int .i64 k ∧ Hid ((ls.take k).any (fun g => g.tx == x) = false) ∧ Below w.heap.size w wr) (fun i _ => ls.length - (intOf i).toNat)
    case atStart => exact ⟨0, Nat.zero_le _, rfl, rfl, Below.refl _ _⟩
    case round =>
      obtain ⟨k, hk, rfl, hany, hbl⟩ := hrel
      by_cases hlt : k < ls.length
      · obtain ⟨c0, c1, c2⟩ := hcell k hlt
        have d0 : wr.cell? ⟨b, off + k * 3, none⟩ = _ := (hbl.cell (block_lt c0)).trans c0
        have d1 : wr.cell? ⟨b, off + k * 3 + 1, none⟩ = _ := (hbl.cell (block_lt c1)).trans c1
        have d2 : wr.cell? ⟨b, off + k * 3 + 2, none⟩ = _ := (hbl.cell (block_lt c2)).trans c2
        clear c0 c1 c2
        have HN : Hid (((ls.getD k zeroG).tx == x) = false → (ls.take (k + 1)).any (fun g => g.tx == x) = false) := any_step (p := fun g : GrantV => g.tx == x) hlt hany
        have HH : Hid (((ls.getD k zeroG).tx == x) = true → ls.any (fun g => g.tx == x) = true) := any_hit (p := fun g : GrantV => g.tx == x) hlt
        clear hcell hany
        generalize ls.getD k zeroG = z at *
        have hB : ∀ o, Below w.heap.size w (wr.alloc o) := fun o => hbl.alloc hbl.size o
        clear hbl
        by_cases h1 : z.tx = x
        · have HR : Hid _ := HH.out (by simp [h1])
          go_wp2
          go_ret
          exact ⟨ret_bool HR.out.symm, hB _⟩
        · have HR : Hid _ := HN.out (by simp [h1])
          go_wp2
          go_roundw
          case rel => exact ⟨k + 1, by omega, by go_num, HR.out, hB _⟩
          case measure => simp [intOf]; omega
      · have HR : Hid _ := any_end hlt hany
        go_wp2
        go_ret
        exact ⟨ret_bool HR.out.symm, hbl⟩

set_option maxHeartbeats 400000 in
set_option maxRecDepth 100000 in
theorem isWanted_any (a : Option Addr) (c : Nat) (ls : List GrantV) (x : Int) (w : World) (hr : ReadsG w a ls) (hl : ls.length ≤ 1099511627776) :
    Calls Tryd.prog 54 #[.slice a ls.length c, .int .i64 x] w fun e w' => e = .returned (.bool (ls.any (fun g => g.res == x))) ∧ Below w.heap.size w w' := by
  rcases hr.cases with rfl | ⟨b, off, rfl, hpos, hcell⟩
  · go_enter Tryd.func54, Tryd.ntmps54
    go_wp2
    refine wp_loop_rounds 1 ?_
    rw [rounds_succ]
    go_wp2
    go_ret
    exact ⟨rfl, Below.refl _ _⟩
  · go_enter Tryd.func54, Tryd.ntmps54
    go_wp2
    go_loopw [9] (fun i wr => ∃ k : Nat, k ≤ ls.length ∧ i = .int .i64 k ∧ Hid ((ls.take k).any (fun g => g.res == x) = false) ∧ Below w.heap.size w wr) (fun i _ => ls.length - (intOf i).toNat)
    case atStart => exact ⟨0, Nat.zero_le _, rfl, rfl, Below.refl _ _⟩
    case round =>
      obtain ⟨k, hk, rfl, hany, hbl⟩ := hrel
      by_cases hlt : k < ls.length
      · obtain ⟨c0, c1, c2⟩ := hcell k hlt
        have d0 : wr.cell? ⟨b, off + k * 3, none⟩ = _ := (hbl.cell (block_lt c0)).trans c0
        have d1 : wr.cell? ⟨b, off + k * 3 + 1, none⟩ = _ := (hbl.cell (block_lt c1)).trans c1
        have d2 : wr.cell? ⟨b, off + k * 3 + 2, none⟩ = _ := (hbl.cell (block_lt c2)).trans c2
        clear c0 c1 c2
        have HN : Hid (((ls.getD k zeroG).res == x) = false → (ls.take (k + 1)).any (fun g => g.res == x) = false) := any_step (p := fun g : GrantV => g.res == x) hlt hany
        have HH : Hid (((ls.getD k zeroG).res == x) = true → ls.any (fun g => g.res == x) = true) := any_hit (p := fun g : GrantV => g.res == x) hlt
        clear hcell hany
        generalize ls.getD k zeroG = z at *
        have hB : ∀ o, Below w.heap.size w (wr.alloc o) := fun o => hbl.alloc hbl.size o
        clear hbl
        by_cases h1 : z.res = x
        · have HR : Hid _ := HH.out (by simp [h1])
          go_wp2
          go_ret
          exact ⟨ret_bool HR.out.symm, hB _⟩
        · have HR : Hid _ := HN.out (by simp [h1])
          go_wp2
          go_roundw
          case rel => exact ⟨k + 1, by omega, by go_num, HR.out, hB _⟩
          case measure => simp [intOf]; omega
      · have HR : Hid _ := any_end hlt hany
        go_wp2
        go_ret
        exact ⟨ret_bool HR.out.symm, hbl⟩

set_option maxHeartbeats 400000 in
set_option maxRecDepth 100000 in
theorem bars_any (o g : GrantV) (w : World) (hT : TabGo w) :
    Calls Tryd.prog 60 #[.agg #[.int .i64 o.tx, .int .i64 o.res, .int .i64 o.mode], .agg #[.int .i64 g.tx, .int .i64 g.res, .int .i64 g.mode]] w fun e w' => e = .returned (.bool (barsB g o)) ∧ Below w.heap.size w w' := by
  obtain ⟨W, hW, b0, b1, hbW, hsW⟩ := boxes2 w [.int .i64 o.tx, .int .i64 o.res, .int .i64 o.mode] [.int .i64 g.tx, .int .i64 g.res, .int .i64 g.mode] 46 46
  have C := implGoes_any g.mode o.mode W (hT.keep hbW)
  have HB : Hid (barsB g o = (o.res == g.res && (o.tx != g.tx && !goesB g.mode o.mode))) := rfl
  generalize goesB g.mode o.mode = gg at *
  generalize barsB g o = R at *
  obtain ⟨a, b, d⟩ := o
  obtain ⟨a', b', d'⟩ := g
  simp only at *
  clear b0 b1 hsW hT
  by_cases h1 : b = b'
  · by_cases h2 : a = a'
    · have HR : R = false := by rw [HB.out]; simp [h2]
      subst HR h1 h2
      go_enter Tryd.func60, Tryd.ntmps60
      go_wp2
      go_ret
      rw [hW.out]
      exact ⟨rfl, hbW⟩
    · have HR : R = !gg := by rw [HB.out]; simp [h1, h2]
      subst HR h1
      go_enter Tryd.func60, Tryd.ntmps60
      go_wp2_with fail
      rw [hW.out]
      refine C.mono ?_
      rintro e w' ⟨rfl, rfl⟩
      go_wp2
      go_ret
      exact ⟨ret_bool (by simp [h2]), hbW⟩
  · have HR : R = false := by rw [HB.out]; simp [h1]
    subst HR
    go_enter Tryd.func60, Tryd.ntmps60
    go_wp2
    go_ret
    rw [hW.out]
    exact ⟨rfl, hbW⟩

set_option maxHeartbeats 400000 in
set_option maxRecDepth 100000 in
theorem goesWith_any (a : Option Addr) (c : Nat) (ls : List GrantV) (g : GrantV) (w : World) (hT : TabGo w) (hr : ReadsG w a ls) (hl : ls.length ≤ 1099511627776) :
    Calls Tryd.prog 51 #[.slice a ls.length c, .agg #[.int .i64 g.tx, .int .i64 g.res, .int .i64 g.mode]] w fun e w' => e = .returned (.bool (!ls.any (barsB g))) ∧ Below w.heap.size w w' := by
  obtain ⟨W, hW, b0, hbW, hsW⟩ := boxes1 w [.int .i64 g.tx, .int .i64 g.res, .int .i64 g.mode] 46
  have hlt0 := b0.lt
  have hrW := hr.below hbW
  have hTW := hT.keep hbW
  clear hr hT
  rcases hrW.cases with rfl | ⟨b, off, rfl, hpos, hcell⟩
  · go_enter Tryd.func51, Tryd.ntmps51
    go_wp2
    refine wp_loop_rounds 1 ?_
    rw [rounds_succ]
    go_wp2
    go_ret
    rw [hW.out]
    exact ⟨rfl, hbW⟩
  · go_enter Tryd.func51, Tryd.ntmps51
    go_wp2
    rw [hW.out]
    clear hW
    go_loopw [9] (fun i wr => ∃ k : Nat, k ≤ ls.length ∧ i = .int .i64 k ∧ Hid ((ls.take k).any (barsB g) = false) ∧ Below W.heap.size W wr) (fun i _ => ls.length - (intOf i).toNat)
    case atStart => exact ⟨0, Nat.zero_le _, rfl, rfl, Below.refl _ _⟩
    case round =>
      obtain ⟨k, hk, rfl, hany, hbl⟩ := hrel
      have HB : Hid (∀ w', Below W.heap.size W w' → Below w.heap.size w w') := fun w' h => hbW.trans (h.mono hbW.size)
      by_cases hlt : k < ls.length
      · obtain ⟨c0, c1, c2⟩ := hcell k hlt
        have d0 : wr.cell? ⟨b, off + k * 3, none⟩ = _ := (hbl.cell (block_lt c0)).trans c0
        have d1 : wr.cell? ⟨b, off + k * 3 + 1, none⟩ = _ := (hbl.cell (block_lt c1)).trans c1
        have d2 : wr.cell? ⟨b, off + k * 3 + 2, none⟩ = _ := (hbl.cell (block_lt c2)).trans c2
        clear c0 c1 c2
        have HN : Hid (barsB g (ls.getD k zeroG) = false → (ls.take (k + 1)).any (barsB g) = false) := any_step hlt hany
        have HH : Hid (barsB g (ls.getD k zeroG) = true → ls.any (barsB g) = true) := any_hit hlt
        clear hcell hany
        generalize ls.getD k zeroG = z at *
        have bg := b0.below hbl hlt0
        obtain ⟨e0, e1, e2, _⟩ := bg.three
        have hlw := bg.lt
        obtain ⟨V, hV, bz, hbV, hsV⟩ := boxes1 wr [.int .i64 z.tx, .int .i64 z.res, .int .i64 z.mode] 46
        have hBV : Below W.heap.size W V := hbl.trans (hbV.mono hbl.size)
        have C := bars_any z g V (hTW.keep hBV)
        clear bg bz hsV hbl hbV b0
        go_wp2_with fail
        rw [hV.out]
        refine C.mono ?_
        clear C hV
        generalize barsB g z = R at *
        rintro e w1 ⟨rfl, hb1⟩
        have hB1 : Below W.heap.size W w1 := hBV.trans (hb1.mono hBV.size)
        clear hb1 hBV
        cases R
        · have HR : Hid _ := HN.out rfl
          go_wp2
          go_roundw
          case rel => exact ⟨k + 1, by omega, by go_num, HR.out, hB1⟩
          case measure => simp [intOf]; omega
        · have HR : Hid _ := HH.out rfl
          go_wp2
          go_ret
          exact ⟨ret_bool (by rw [HR.out]; rfl), HB.out _ hB1⟩
      · have HR : Hid _ := any_end hlt hany
        go_wp2
        go_ret
        exact ⟨ret_bool (by rw [HR.out]; rfl), HB.out _ hbl⟩

set_option maxHeartbeats 400000 in
set_option maxRecDepth 100000 in
theorem grantOk_any (g : GrantV) (w : World) :
    Calls Tryd.prog 29 #[.agg #[.int .i64 g.tx, .int .i64 g.res, .int .i64 g.mode]] w fun e w' => e = .returned (.bool (grantB g)) ∧ Below w.heap.size w w' := by
  obtain ⟨W, hW, b0, hbW, hsW⟩ := boxes1 w [.int .i64 g.tx, .int .i64 g.res, .int .i64 g.mode] 46
  have C := modeOk_any g.mode W
  obtain ⟨x, y, m⟩ := g
  simp only [grantB] at *
  clear b0 hsW
  by_cases h1 : 1 ≤ x
  case neg =>
    have HX : Hid (inB x 1 99 = false) := by simp [Hid, inB, h1]
    go_enter Tryd.func29, Tryd.ntmps29
    go_wp2
    go_ret
    rw [hW.out]
    exact ⟨ret_bool (by rw [HX.out]; rfl), hbW⟩
  by_cases h2 : x ≤ 99
  case neg =>
    have HX : Hid (inB x 1 99 = false) := by simp [Hid, inB, h2]
    go_enter Tryd.func29, Tryd.ntmps29
    go_wp2
    go_ret
    rw [hW.out]
    exact ⟨ret_bool (by rw [HX.out]; rfl), hbW⟩
  have HX : Hid (inB x 1 99 = true) := by simp [Hid, inB, h1, h2]
  by_cases h3 : 0 ≤ y
  case neg =>
    have HY : Hid (inB y 0 99 = false) := by simp [Hid, inB, h3]
    go_enter Tryd.func29, Tryd.ntmps29
    go_wp2
    go_ret
    rw [hW.out]
    exact ⟨ret_bool (by rw [HX.out, HY.out]; rfl), hbW⟩
  by_cases h4 : y ≤ 99
  case neg =>
    have HY : Hid (inB y 0 99 = false) := by simp [Hid, inB, h4]
    go_enter Tryd.func29, Tryd.ntmps29
    go_wp2
    go_ret
    rw [hW.out]
    exact ⟨ret_bool (by rw [HX.out, HY.out]; rfl), hbW⟩
  have HY : Hid (inB y 0 99 = true) := by simp [Hid, inB, h3, h4]
  go_enter Tryd.func29, Tryd.ntmps29
  go_wp2_with fail
  rw [hW.out]
  refine C.mono ?_
  rintro e w' ⟨rfl, rfl⟩
  go_wp2
  go_ret
  exact ⟨ret_bool (by rw [HX.out, HY.out]; rfl), hbW⟩

set_option maxHeartbeats 400000 in
set_option maxRecDepth 100000 in
theorem l9Grant_any (g : GrantV) (w : World) :
    Calls Tryd.prog 23 #[.agg #[.int .i64 g.tx, .int .i64 g.res, .int .i64 g.mode]] w fun e w' => e = .returned (.bool (grantB g)) ∧ Below w.heap.size w w' := by
  obtain ⟨W, hW, b0, hbW, hsW⟩ := boxes1 w [.int .i64 g.tx, .int .i64 g.res, .int .i64 g.mode] 46
  obtain ⟨q0, q1, q2, _⟩ := b0.three
  have C1 := l1In_any g.tx 1 99 W
  have C2 := l1In_any g.res 0 99 W
  have C3 := l9Mode_any g.mode W
  have HB : Hid (grantB g = (inB g.tx 1 99 && (inB g.res 0 99 && modeB g.mode))) := rfl
  generalize inB g.tx 1 99 = x1 at *
  generalize inB g.res 0 99 = x2 at *
  generalize modeB g.mode = x3 at *
  generalize grantB g = R at *
  clear b0 hsW
  cases x1
  · go_enter Tryd.func23, Tryd.ntmps23
    go_wp2_with fail
    rw [hW.out]
    refine C1.mono ?_
    rintro e w' ⟨rfl, rfl⟩
    go_wp2
    go_ret
    exact ⟨ret_bool (by rw [HB.out]; rfl), hbW⟩
  cases x2
  · go_enter Tryd.func23, Tryd.ntmps23
    go_wp2_with fail
    rw [hW.out]
    refine C1.mono ?_
    rintro e w' ⟨rfl, rfl⟩
    go_wp2_with fail
    refine C2.mono ?_
    rintro e w' ⟨rfl, rfl⟩
    go_wp2
    go_ret
    exact ⟨ret_bool (by rw [HB.out]; rfl), hbW⟩
  · go_enter Tryd.func23, Tryd.ntmps23
    go_wp2_with fail
    rw [hW.out]
    refine C1.mono ?_
    rintro e w' ⟨rfl, rfl⟩
    go_wp2_with fail
    refine C2.mono ?_
    rintro e w' ⟨rfl, rfl⟩
    go_wp2_with fail
    refine C3.mono ?_
    rintro e w' ⟨rfl, rfl⟩
    go_wp2
    go_ret
    exact ⟨ret_bool (by rw [HB.out]; rfl), hbW⟩
end Go.Proofs.YtekljhabjkmhpabDoor

/- Locks: what they are, where they lie; when they are right. -/
namespace Go.Proofs.YtekljhabjkmhpabDoor
open Go.RowKit

structure LocksA where
  given : List GrantV
  waits : List GrantV
  aG : Option Addr
  cG : Nat
  aW : Option Addr
  cW : Nat
def LocksA.cells (l : LocksA) : List Value := [.slice l.aG l.given.length l.cG, .slice l.aW l.waits.length l.cW]
structure LocksA.reads (w : World) (l : LocksA) : Prop where
  given : ReadsG w l.aG l.given
  waits : ReadsG w l.aW l.waits
  ng : l.aG = none → l.cG = 0
  nw : l.aW = none → l.cW = 0
  lg : l.given.length ≤ l.cG
  lw : l.waits.length ≤ l.cW
theorem OwnG.cap {w : World} {lo hi : Nat} {a : Option Addr} {c : Nat} {ls : List GrantV} (h : OwnG w lo hi a c ls) : ls.length ≤ c := by
  rcases h.1.2 with ⟨hv, h0⟩ | ⟨g, cap, cur, hv, _, _, hr⟩
  · omega
  · simp only [Value.slice.injEq] at hv
    omega
theorem ReadsG.take {w : World} {a : Option Addr} {ls : List GrantV} (h : ReadsG w a ls) (k : Nat) : ReadsG w a (ls.take k) := by
  intro hne
  have hy : ls ≠ [] := by intro e; simp [e] at hne
  obtain ⟨b, off, ha, hc⟩ := h hy
  refine ⟨b, off, ha, fun i hi => ?_⟩
  have hi2 : i < k ∧ i < ls.length := by simp at hi; omega
  have : (ls.take k).getD i zeroG = ls.getD i zeroG := by simp [List.getD, hi2.1]
  rw [this]
  exact hc i hi2.2
structure LocksA.own (w : World) (lo hi : Nat) (l : LocksA) : Prop where
  given : OwnG w lo hi l.aG l.cG l.given
  waits : OwnG w lo hi l.aW l.cW l.waits
  apart : ∀ k, (Value.slice l.aG l.given.length l.cG).ownBlock = some k → (Value.slice l.aW l.waits.length l.cW).ownBlock ≠ some k
theorem LocksA.reads.below {w w' : World} {l : LocksA} (h : l.reads w) (hb : Below w.heap.size w w') : l.reads w' := ⟨h.given.below hb, h.waits.below hb, h.ng, h.nw, h.lg, h.lw⟩
theorem LocksA.own.reads {w : World} {lo hi : Nat} {l : LocksA} (h : l.own w lo hi) : l.reads w := ⟨h.given.reads, h.waits.reads, h.given.nocap, h.waits.nocap, h.given.cap, h.waits.cap⟩
theorem LocksA.own.below {w w' : World} {lo hi : Nat} {l : LocksA} (h : l.own w lo hi) (hb : Below w.heap.size w w') : l.own w' lo hi := ⟨h.given.below hb, h.waits.below hb, h.apart⟩
theorem LocksA.own.within {w w' : World} {lo hi x y : Nat} {l : LocksA} (h : l.own w lo hi) (hw : Within x y w w') (hd : hi ≤ x ∨ y ≤ lo) : l.own w' lo hi := ⟨h.given.within hw hd, h.waits.within hw hd, h.apart⟩
theorem LocksA.own.widen {w : World} {lo hi lo' hi' : Nat} {l : LocksA} (h : l.own w lo hi) (h1 : lo' ≤ lo) (h2 : hi ≤ hi') (h3 : hi' ≤ w.heap.size) : l.own w lo' hi' := ⟨h.given.widen h1 h2 h3, h.waits.widen h1 h2 h3, h.apart⟩
/-- Both lists are no longer than this. -/
def LocksA.short (l : LocksA) (n : Nat) : Prop := l.given.length ≤ n ∧ l.waits.length ≤ n

def clashB (g h : GrantV) : Bool := h.res == g.res && (h.tx == g.tx || !goesB h.mode g.mode)
def givenAt (ls : List GrantV) (i : Nat) : Bool := grantB (ls.getD i zeroG) && !(ls.take i).any (clashB (ls.getD i zeroG))
def waitAt (ls : List GrantV) (i : Nat) : Bool := grantB (ls.getD i zeroG) && !(ls.take i).any (fun h => h.tx == (ls.getD i zeroG).tx)
def okLocks (G W : List GrantV) : Bool := decide (G.length ≤ 60) && (decide (W.length ≤ 60) && ((List.range G.length).all (givenAt G) && (List.range W.length).all (waitAt W)))
theorem okLocks_g {G W : List GrantV} (h : ¬ G.length ≤ 60) : okLocks G W = false := by simp [okLocks, h]
theorem okLocks_w {G W : List GrantV} (h : ¬ W.length ≤ 60) : okLocks G W = false := by simp [okLocks, h]
theorem okLocks_given {G W : List GrantV} (k : Nat) (hk : k < G.length) (h : givenAt G k = false) : okLocks G W = false := by
  have : (List.range G.length).all (givenAt G) = false := by
    rw [List.all_eq_false]
    exact ⟨k, List.mem_range.2 hk, by rw [h]; decide⟩
  simp [okLocks, this]
theorem okLocks_wait {G W : List GrantV} (k : Nat) (hk : k < W.length) (h : waitAt W k = false) : okLocks G W = false := by
  have : (List.range W.length).all (waitAt W) = false := by
    rw [List.all_eq_false]
    exact ⟨k, List.mem_range.2 hk, by rw [h]; decide⟩
  simp [okLocks, this]
theorem okLocks_yes {G W : List GrantV} (h1 : G.length ≤ 60) (h2 : W.length ≤ 60) (h3 : ∀ k, k < G.length → givenAt G k = true) (h4 : ∀ k, k < W.length → waitAt W k = true) : okLocks G W = true := by
  have a3 : (List.range G.length).all (givenAt G) = true := List.all_eq_true.2 (fun k hk => h3 k (List.mem_range.1 hk))
  have a4 : (List.range W.length).all (waitAt W) = true := List.all_eq_true.2 (fun k hk => h4 k (List.mem_range.1 hk))
  simp [okLocks, a3, a4, h1, h2]
theorem okLocks_out {G W : List GrantV} (h : okLocks G W = true) : G.length ≤ 60 ∧ W.length ≤ 60 ∧ (∀ k, k < G.length → givenAt G k = true) ∧ (∀ k, k < W.length → waitAt W k = true) := by
  simp only [okLocks, Bool.and_eq_true, decide_eq_true_eq] at h
  exact ⟨h.1, h.2.1, fun k hk => List.all_eq_true.1 h.2.2.1 k (List.mem_range.2 hk), fun k hk => List.all_eq_true.1 h.2.2.2 k (List.mem_range.2 hk)⟩
/-- As the landed code asks it: nothing of this Tx and Res ahead, and it goes with the others. -/
theorem clash_split (g : GrantV) (ls : List GrantV) : ls.any (clashB g) = (ls.any (atB g.tx g.res) || ls.any (barsB g)) := by
  induction ls with
  | nil => rfl
  | cons h r ih =>
    simp only [List.any_cons, ih]
    have : clashB g h = (atB g.tx g.res h || barsB g h) := by
      unfold clashB atB barsB
      rw [goesB_symm h.mode g.mode]
      have e1 : (h.tx != g.tx) = !(h.tx == g.tx) := rfl
      rw [e1]
      cases (h.res == g.res) <;> cases (h.tx == g.tx) <;> cases goesB g.mode h.mode <;> rfl
    rw [this]
    cases atB g.tx g.res h <;> cases barsB g h <;> cases r.any (atB g.tx g.res) <;> cases r.any (barsB g) <;> rfl
end Go.Proofs.YtekljhabjkmhpabDoor
