/- Rows of jobs (each a row of ops): what they are, what a walk reads and owns of them. -/
import Derived.Test.YtelagcpkbcdpdaaOpsWalk
namespace Go.Proofs.Ytelagcpkbcdpdaa
open Go.RowKit

structure JobA where
  ops : List OpV
  a : Option Addr
  c : Nat
def JobA.cell (j : JobA) : Value := .slice j.a j.ops.length j.c
def zeroJ : JobA := ⟨[], none, 0⟩
def cellsJ (js : List JobA) : List Value := js.map JobA.cell
def opsJ (js : List JobA) : List (List OpV) := js.map JobA.ops
theorem cellsJ_len (js : List JobA) : (cellsJ js).length = js.length := by simp [cellsJ]
theorem opsJ_len (js : List JobA) : (opsJ js).length = js.length := by simp [opsJ]
theorem opsJ_at (js : List JobA) (k : Nat) : (opsJ js).getD k [] = (js.getD k zeroJ).ops := by
  simp only [opsJ, List.getD, List.getElem?_map]
  cases js[k]? <;> rfl
theorem cellsJ_app (a b : List JobA) : cellsJ (a ++ b) = cellsJ a ++ cellsJ b := by simp [cellsJ]
theorem cellsJ_cons (j : JobA) (b : List JobA) : cellsJ (j :: b) = j.cell :: cellsJ b := rfl
theorem cellsJ_at (js : List JobA) (k : Nat) (hk : k < js.length) : (cellsJ js)[k]? = some (js.getD k zeroJ).cell := by
  simp [cellsJ, List.getD, hk]
theorem jobD_mem (js : List JobA) (k : Nat) (hk : k < js.length) : js.getD k zeroJ ∈ js := by
  have e : js.getD k zeroJ = js[k] := by simp [List.getD, hk]
  rw [e]
  exact List.getElem_mem hk
theorem jobD_split (js : List JobA) (k : Nat) (hk : k < js.length) : js = js.take k ++ js.getD k zeroJ :: js.drop (k + 1) := by
  have e : js.getD k zeroJ = js[k] := by simp [List.getD, hk]
  rw [e]
  conv => lhs; rw [← List.take_append_drop k js, List.drop_eq_getElem_cons hk]

/-- The slice at a reads these. -/
def ReadsJ (w : World) (a : Option Addr) (js : List JobA) : Prop := js ≠ [] → ∃ b off, a = some ⟨b, off, none⟩ ∧ ∀ k, k < js.length → w.cell? ⟨b, off + k, none⟩ = some (js.getD k zeroJ).cell ∧ ReadsQ w (js.getD k zeroJ).a (js.getD k zeroJ).ops
theorem ReadsJ.nil (w : World) (a : Option Addr) : ReadsJ w a [] := fun h => absurd rfl h
theorem ReadsJ.below {w w' : World} {a : Option Addr} {js : List JobA} (h : ReadsJ w a js) (hb : Below w.heap.size w w') : ReadsJ w' a js := by
  intro hne
  obtain ⟨b, off, ha, hc⟩ := h hne
  refine ⟨b, off, ha, fun k hk => ?_⟩
  obtain ⟨h0, h1⟩ := hc k hk
  exact ⟨by rw [hb.cell (p := ⟨b, off + k, none⟩) (block_lt h0)]; exact h0, h1.below hb⟩
theorem ReadsJ.cases {w : World} {a : Option Addr} {js : List JobA} (h : ReadsJ w a js) : js = [] ∨ ∃ b off, a = some ⟨b, off, none⟩ ∧ 0 < js.length ∧ ∀ k, k < js.length → w.cell? ⟨b, off + k, none⟩ = some (js.getD k zeroJ).cell ∧ ReadsQ w (js.getD k zeroJ).a (js.getD k zeroJ).ops := by
  by_cases e : js = []
  · exact .inl e
  · obtain ⟨b, off, ha, hc⟩ := h e
    exact .inr ⟨b, off, ha, List.length_pos_iff.2 e, hc⟩

def JobA.blocks (j : JobA) : List Nat := j.cell.ownBlock.toList
/-- The slice at a, of capacity c, owns these, and the ops at them; all of it lies from lo up to hi, no two rows are one. -/
structure OwnJ (w : World) (lo hi : Nat) (a : Option Addr) (c : Nat) (js : List JobA) : Prop where
  row : w.ownsRow lo 59 1 (.slice a js.length c) js.length (cellsJ js)
  top : hi ≤ w.heap.size
  blk : ∀ k, (Value.slice a js.length c).ownBlock = some k → k < hi
  each : ∀ j ∈ js, OwnQ w lo hi j.a j.c j.ops
  apart : ((Value.slice a js.length c).ownBlock.toList ++ js.flatMap JobA.blocks).Nodup
def blocksJ (a : Option Addr) (c : Nat) (js : List JobA) : List Nat := (Value.slice a js.length c).ownBlock.toList ++ js.flatMap JobA.blocks
theorem jobBlocks_lt {w : World} {lo hi : Nat} {j : JobA} (h : OwnQ w lo hi j.a j.c j.ops) : ∀ k ∈ j.blocks, lo ≤ k ∧ k < hi := fun k hk => h.lt k (Option.mem_toList.1 hk)
theorem OwnJ.blocks_lt {w : World} {lo hi : Nat} {a : Option Addr} {c : Nat} {js : List JobA} (h : OwnJ w lo hi a c js) : ∀ k ∈ blocksJ a c js, lo ≤ k ∧ k < hi := by
  intro k hk
  simp only [blocksJ, List.mem_append, List.mem_flatMap, Option.mem_toList] at hk
  rcases hk with h1 | ⟨r, hr, h1⟩
  · exact ⟨(h.row.lt k h1).1, h.blk k h1⟩
  · exact jobBlocks_lt (h.each r hr) k h1
theorem OwnJ.touch {w w' : World} {lo hi : Nat} {a : Option Addr} {c : Nat} {js : List JobA} {bl : List Nat} (h : OwnJ w lo hi a c js) (ht : Touch bl w w') (hd : ∀ k ∈ blocksJ a c js, k ∉ bl) : OwnJ w' lo hi a c js :=
  ⟨ownsRow_block h.row (fun k hk => ht.block k (h.row.lt k hk).2 (hd k (List.mem_append.2 (.inl (Option.mem_toList.2 hk))))), Nat.le_trans h.top ht.size, h.blk, fun r hr => (h.each r hr).touch ht (fun k hk => hd k (List.mem_append.2 (.inr (List.mem_flatMap.2 ⟨r, hr, Option.mem_toList.2 hk⟩)))), h.apart⟩
theorem OwnJ.within {w w' : World} {lo hi l r : Nat} {a : Option Addr} {c : Nat} {js : List JobA} (h : OwnJ w lo hi a c js) (hw : Within l r w w') (hd : hi ≤ l ∨ r ≤ lo) : OwnJ w' lo hi a c js :=
  ⟨ownsRow_block h.row (fun k hk => hw.block k (by have := h.blk k hk; have := h.top; omega) (by have := h.blk k hk; have := (h.row.lt k hk).1; omega)), Nat.le_trans h.top hw.size, h.blk, fun x hx => (h.each x hx).within hw hd, h.apart⟩
theorem OwnJ.below {w w' : World} {lo hi : Nat} {a : Option Addr} {c : Nat} {js : List JobA} (h : OwnJ w lo hi a c js) (hb : Below w.heap.size w w') : OwnJ w' lo hi a c js :=
  h.within (Within.of_below (lo := w.heap.size) (hi := w.heap.size) hb) (.inl h.top)
theorem OwnJ.widen {w : World} {lo hi lo' hi' : Nat} {a : Option Addr} {c : Nat} {js : List JobA} (h : OwnJ w lo hi a c js) (h1 : lo' ≤ lo) (h2 : hi ≤ hi') (h3 : hi' ≤ w.heap.size) : OwnJ w lo' hi' a c js :=
  ⟨ownsRow_base h.row (fun k hk => by have := (h.row.lt k hk).1; omega), h3, fun k hk => by have := h.blk k hk; omega, fun x hx => (h.each x hx).widen h1 h2 h3, h.apart⟩
theorem ownJ_nil (w : World) (lo hi : Nat) (h : hi ≤ w.heap.size) : OwnJ w lo hi none 0 [] := ⟨⟨by simp [cellsJ], .inl ⟨rfl, rfl⟩⟩, h, (fun k hk => by cases hk), (fun r hr => by simp at hr), by simp [Value.ownBlock]⟩
theorem OwnJ.nocap {w : World} {lo hi : Nat} {a : Option Addr} {c : Nat} {js : List JobA} (h : OwnJ w lo hi a c js) : a = none → c = 0 := by
  intro ha
  rcases h.row.2 with ⟨hv, _⟩ | ⟨g, cap, cur, hv, _⟩
  · simp only [Value.slice.injEq] at hv; exact hv.2.2
  · simp [ha] at hv
theorem OwnJ.reads {w : World} {lo hi : Nat} {a : Option Addr} {c : Nat} {js : List JobA} (h : OwnJ w lo hi a c js) : ReadsJ w a js := by
  intro hne
  rcases h.row.2 with ⟨_, h0⟩ | ⟨g, cap', cur, hv, hb, hg, hr⟩
  · exact absurd (List.length_eq_zero_iff.1 h0) hne
  · simp only [Value.slice.injEq] at hv
    obtain ⟨rfl, _, rfl⟩ := hv
    refine ⟨g, 0, rfl, fun k hk => ?_⟩
    rw [Nat.zero_add]
    refine ⟨?_, (h.each _ (jobD_mem js k hk)).reads⟩
    rw [h.row.cellAt k (by omega), cellsJ_at js k hk]
/-- A job of the row stored: q, which is owned elsewhere. -/
theorem OwnJ.fill {w : World} {lo hi g c : Nat} {A B : List JobA} {z : JobA} (h : OwnJ w lo hi (some ⟨g, 0, none⟩) c (A ++ z :: B)) (q : JobA) {l u : Nat} (hq : OwnQ w l u q.a q.c q.ops) (hl : hi ≤ l) (hlo : lo ≤ hi) (hu : u ≤ w.heap.size) :
    ∃ W, Hid (w.setCell ⟨g, A.length, none⟩ q.cell = W) ∧ OwnJ W lo (max hi u) (some ⟨g, 0, none⟩) c (A ++ q :: B) ∧ Touch [g] w W ∧ W.heap.size = w.heap.size := by
  have hrow := h.row
  rw [cellsJ_app, cellsJ_cons, List.length_append, List.length_cons] at hrow
  have hg : lo ≤ g ∧ g < hi := ⟨(hrow.lt g rfl).1, h.blk g rfl⟩
  obtain ⟨h1, h2⟩ := hrow.stored A.length q.cell
  rw [show A.length = (cellsJ A).length from (cellsJ_len A).symm, List.set_append_right _ _ (Nat.le_refl _), Nat.sub_self, List.set_cons_zero, cellsJ_len] at h1
  have ht : Touch [g] w (w.setCell ⟨g, A.length, none⟩ q.cell) := Touch.of_grown h2 (fun k hk => by cases hk; simp)
  have hap := h.apart
  simp only [List.flatMap_append, List.flatMap_cons, Value.ownBlock, Option.toList, List.singleton_append, List.nodup_cons, List.nodup_append, List.mem_append, not_or] at hap
  obtain ⟨⟨n1, n2, n3⟩, a1, ⟨a2, a3, a4⟩, a5⟩ := hap
  have hqb := jobBlocks_lt (j := q) hq
  have hA : ∀ x ∈ A.flatMap JobA.blocks, lo ≤ x ∧ x < hi := fun x hx => by
    obtain ⟨r, hr, hx⟩ := List.mem_flatMap.1 hx
    exact jobBlocks_lt (h.each r (by simp [hr])) x hx
  have hB : ∀ x ∈ B.flatMap JobA.blocks, lo ≤ x ∧ x < hi := fun x hx => by
    obtain ⟨r, hr, hx⟩ := List.mem_flatMap.1 hx
    exact jobBlocks_lt (h.each r (by simp [hr])) x hx
  have hsz : (w.setCell ⟨g, A.length, none⟩ q.cell).heap.size = w.heap.size := by simp
  refine ⟨_, rfl, ⟨?_, ?_, fun k hk => ?_, fun r hr => ?_, ?_⟩, ht, hsz⟩
  · rw [cellsJ_app, cellsJ_cons, List.length_append, List.length_cons]
    exact h1
  · rw [hsz]
    have := h.top
    omega
  · cases hk
    show g < max hi u
    omega
  · rcases List.mem_append.1 hr with hr | hr
    · exact ((h.each r (by simp [hr])).touch ht (fun k hk hk' => n1 (by rw [← List.mem_singleton.1 hk']; exact List.mem_flatMap.2 ⟨r, hr, Option.mem_toList.2 hk⟩))).widen (Nat.le_refl _) (by omega) (by rw [hsz]; have := h.top; omega)
    · rcases List.mem_cons.1 hr with rfl | hr
      · exact (hq.touch ht (fun k hk hk' => by have := hq.lt k hk; have := List.mem_singleton.1 hk'; omega)).widen (by omega) (by omega) (by rw [hsz]; have := h.top; omega)
      · exact ((h.each r (by simp [hr])).touch ht (fun k hk hk' => n3 (by rw [← List.mem_singleton.1 hk']; exact List.mem_flatMap.2 ⟨r, hr, Option.mem_toList.2 hk⟩))).widen (Nat.le_refl _) (by omega) (by rw [hsz]; have := h.top; omega)
  · have hqn : q.blocks.Nodup := by
      unfold JobA.blocks
      cases q.cell.ownBlock <;> simp
    simp only [List.flatMap_append, List.flatMap_cons, Value.ownBlock, Option.toList, List.singleton_append, List.nodup_cons, List.nodup_append, List.mem_append, not_or]
    refine ⟨⟨n1, fun hk => by have := hqb g hk; omega, n3⟩, a1, ⟨hqn, a3, fun x hx y hy e => by have := hqb x hx; have := hB y hy; omega⟩, fun x hx y hy e => ?_⟩
    rcases hy with hy | hy
    · have := hqb y hy; have := hA x hx; omega
    · exact a5 x hx y (.inr hy) e

theorem Try.infoOps : (Try.prog.info? 59).map (fun i => (i.zero, i.size, i.bytes)) = some (some (.slice none 0 0), 1, 24) := by kernel_rfl
theorem made_jobs (n : Nat) : (madeCells (Value.slice none 0 0).cells (n * 1)).toList = cellsJ (List.replicate n zeroJ) := by
  apply List.ext_getElem?
  intro i
  by_cases h : i < n
  · rw [cellsJ_at _ _ (by simpa using h)]
    have hg : (List.replicate n zeroJ).getD i zeroJ = zeroJ := by simp [List.getD, h]
    rw [hg]
    simp only [madeCells, Array.toList_map, List.getElem?_map, Array.toList_range, List.getElem?_range (show i < n * 1 by omega), Option.map_some]
    show some (#[Value.slice none 0 0][i % 1]!) = _
    rw [Nat.mod_one]
    rfl
  · rw [List.getElem?_eq_none (by simp [size_madeCells]; omega), List.getElem?_eq_none (by rw [cellsJ_len]; simp; omega)]
theorem ownJ_made {w : World} {lo g n : Nat} (h : w.ownsRow lo 59 1 (.slice (some ⟨g, 0, none⟩) n n) n (cellsJ (List.replicate n zeroJ))) : OwnJ w lo w.heap.size (some ⟨g, 0, none⟩) n (List.replicate n zeroJ) := by
  refine ⟨by rw [List.length_replicate]; exact h, Nat.le_refl _, fun k hk => ?_, fun j hj => ?_, ?_⟩
  · exact (h.lt k (by rw [List.length_replicate] at hk; exact hk)).2
  · rw [List.eq_of_mem_replicate hj]
    exact ownQ_nil _ _ _ (Nat.le_refl _)
  · have e : (List.replicate n zeroJ).flatMap JobA.blocks = [] := by
      rw [List.flatMap_eq_nil_iff]
      intro x hx
      rw [List.eq_of_mem_replicate hx]
      rfl
    rw [e]
    simp [Value.ownBlock]
end Go.Proofs.Ytelagcpkbcdpdaa
