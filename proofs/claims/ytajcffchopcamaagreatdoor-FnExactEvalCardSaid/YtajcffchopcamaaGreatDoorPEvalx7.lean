/- Several texts in one, in their order. -/
import Derived.Test.YtajcffchopcamaaGreatDoorPEvalx4
import Derived.Test.YtajcffchopcamaaGreatDoorPEvalx5
import Derived.Test.YtajcffchopcamaaGreatDoorPEvalx6
import Derived.Test.YtajcffchopcamaaGreatDoorPEvalx3
import Derived.Deep.RegionHeld3
/- What is written lies in some blocks, named one by one; all else is as it was. -/
namespace Go.Proofs.YtajcffchopcamaaGreatDoor
open Go.RowKit

structure Touch (bl : List Nat) (w w' : World) : Prop where
  os : w'.os = w.os
  tape : w'.tape = w.tape
  output : w'.output = w.output
  size : w.heap.size ≤ w'.heap.size
  block : ∀ k, k < w.heap.size → k ∉ bl → w'.heap[k]? = w.heap[k]?

theorem Touch.refl (bl : List Nat) (w : World) : Touch bl w w := ⟨rfl, rfl, rfl, Nat.le_refl _, fun _ _ _ => rfl⟩
theorem Touch.trans {bl : List Nat} {a b c : World} (h : Touch bl a b) (k : Touch bl b c) : Touch bl a c :=
  ⟨k.os.trans h.os, k.tape.trans h.tape, k.output.trans h.output, Nat.le_trans h.size k.size, fun i hi hn => (k.block i (Nat.lt_of_lt_of_le hi h.size) hn).trans (h.block i hi hn)⟩
theorem Touch.mono {bl bl' : List Nat} {w w' : World} (h : Touch bl w w') (hs : ∀ k ∈ bl, k ∈ bl') : Touch bl' w w' :=
  ⟨h.os, h.tape, h.output, h.size, fun k hk hn => h.block k hk (fun hh => hn (hs k hh))⟩
theorem Touch.of_below {bl : List Nat} {w w' : World} (h : Below w.heap.size w w') : Touch bl w w' := ⟨h.os, h.tape, h.output, h.size, fun k hk _ => h.block k hk⟩
theorem Touch.of_grown {bl : List Nat} {w w' : World} {row : Option Nat} (h : w.grownBy w' row) (hr : ∀ k, row = some k → k ∈ bl) : Touch bl w w' :=
  ⟨h.os, h.tape, h.output, h.size, fun k hk hn => h.block k hk (fun e => hn (hr k e.symm))⟩
theorem Touch.within {bl : List Nat} {lo hi : Nat} {w w' : World} (h : Touch bl w w') (hb : ∀ k ∈ bl, lo ≤ k ∧ k < hi) : Within lo hi w w' :=
  ⟨h.os, h.tape, h.output, h.size, fun k hk hn => h.block k hk (fun hh => hn (hb k hh))⟩
theorem Box.touch {w w' : World} {B : Nat} {vs : List Value} {t : TypeId} {bl : List Nat} (h : Box w B vs t) (ht : Touch bl w w') (hn : B ∉ bl) : Box w' B vs t := h.block (ht.block B h.lt hn)
theorem OwnI.touch {w w' : World} {lo hi : Nat} {a : Option Addr} {c : Nat} {ns : List Int} {bl : List Nat} (h : OwnI w lo hi a c ns) (ht : Touch bl w w') (hd : ∀ k, (Value.slice a ns.length c).ownBlock = some k → k ∉ bl) : OwnI w' lo hi a c ns :=
  ⟨ownsRow_block h.1 (fun k hk => ht.block k (h.1.lt k hk).2 (hd k hk)), Nat.le_trans h.2.1 ht.size, h.2.2⟩
theorem SlotA.touch {w w' : World} {lo hi : Nat} {s : SlotA} {bl : List Nat} (h : s.own w lo hi) (ht : Touch bl w w') (hd : ∀ k ∈ s.blocks, k ∉ bl) : s.own w' lo hi :=
  ⟨h.ints.touch ht (fun k hk => hd k (List.mem_append.2 (.inl (Option.mem_toList.2 hk)))), h.refs.touch ht (fun k hk => hd k (List.mem_append.2 (.inr (Option.mem_toList.2 hk)))), h.apart⟩

/-- One of them is another, in the same blocks: the others are as they were. -/
theorem OwnS.replace {w w' : World} {lo hi : Nat} {A B : List SlotA} {s t : SlotA} (h : OwnS w lo hi (A ++ s :: B)) (ht : Touch s.blocks w w') (ho : t.own w' lo hi) (hb : t.blocks = s.blocks) : OwnS w' lo hi (A ++ t :: B) := by
  have hap := h.apart
  rw [List.flatMap_append, List.flatMap_cons, List.nodup_append] at hap
  obtain ⟨_, h2, h3⟩ := hap
  rw [List.nodup_append] at h2
  obtain ⟨_, _, h5⟩ := h2
  refine ⟨fun x hx => ?_, ?_⟩
  · rcases List.mem_append.1 hx with hA | hB
    · refine SlotA.touch (h.each x (by simp [hA])) ht (fun k hk hk' => ?_)
      exact h3 k (List.mem_flatMap.2 ⟨x, hA, hk⟩) k (List.mem_append.2 (.inl hk')) rfl
    · rcases List.mem_cons.1 hB with rfl | hB
      · exact ho
      · refine SlotA.touch (h.each x (by simp [hB])) ht (fun k hk hk' => ?_)
        exact h5 k hk' k (List.mem_flatMap.2 ⟨x, hB, hk⟩) rfl
  · have := h.apart
    rw [List.flatMap_append, List.flatMap_cons] at this ⊢
    rw [hb]; exact this

def SlotA.mark (s : SlotA) (k : Int) : SlotA := { s with v := ⟨s.v.has, markO s.v.o k⟩ }
def SlotA.count (s : SlotA) : Nat := s.v.o.ints.length + s.v.o.refs.length
end Go.Proofs.YtajcffchopcamaaGreatDoor

/- Rows of a path's steps. -/
namespace Go.Proofs.YtajcffchopcamaaGreatDoor
open Go.RowKit

structure StepV where
  kd : Int
  num : Int
def StepV.cells (l : StepV) : List Value := [.int .i64 l.kd, .int .i64 l.num]
def zeroPh : StepV := ⟨0, 0⟩
def cellsPh (ls : List StepV) : List Value := ls.flatMap StepV.cells
theorem cellsPh_len (ls : List StepV) : (cellsPh ls).length = ls.length * 2 := by
  induction ls with
  | nil => rfl
  | cons s r ih => simp only [cellsPh, List.flatMap_cons, List.length_append, StepV.cells, List.length_cons, List.length_nil] at *; omega
theorem cellsPh_at (ls : List StepV) (k j : Nat) (hk : k < ls.length) (hj : j < 2) : (cellsPh ls)[k * 2 + j]? = (ls.getD k zeroPh).cells[j]? := by
  induction ls generalizing k with
  | nil => simp at hk
  | cons s r ih =>
    have e : cellsPh (s :: r) = s.cells ++ cellsPh r := by simp [cellsPh]
    have l3 : s.cells.length = 2 := rfl
    rw [e]
    cases k with
    | zero => rw [List.getElem?_append_left (by rw [l3]; omega)]; simp
    | succ k =>
      rw [List.getElem?_append_right (by rw [l3]; omega), l3]
      have := ih k (by simpa using hk)
      rw [show (k + 1) * 2 + j - 2 = k * 2 + j by omega, this]
      simp
theorem cellsPh_set (ls : List StepV) (k : Nat) (hk : k < ls.length) (t : StepV) :
    ((cellsPh ls).set (k * 2) (.int .i64 t.kd)).set (k * 2 + 1) (.int .i64 t.num) = cellsPh (ls.set k t) := by
  induction ls generalizing k with
  | nil => simp at hk
  | cons s r ih =>
    cases k with
    | zero => simp [cellsPh, StepV.cells]
    | succ k =>
      have := ih k (by simpa using hk)
      have e2 : ∀ x, cellsPh (s :: x) = s.cells ++ cellsPh x := fun x => by simp [cellsPh]
      have l3 : s.cells.length = 2 := rfl
      rw [e2, List.set_append_right _ _ (by rw [l3]; omega), List.set_append_right _ _ (by rw [l3]; omega), l3, show (k + 1) * 2 - 2 = k * 2 by omega, show (k + 1) * 2 + 1 - 2 = k * 2 + 1 by omega, this, List.set_cons_succ, e2]

/-- The slice at a reads these. -/
def ReadsPh (w : World) (a : Option Addr) (ls : List StepV) : Prop := ls ≠ [] → ∃ b off, a = some ⟨b, off, none⟩ ∧ ∀ k, k < ls.length → w.cell? ⟨b, off + k * 2, none⟩ = some (.int .i64 (ls.getD k zeroPh).kd) ∧ w.cell? ⟨b, off + k * 2 + 1, none⟩ = some (.int .i64 (ls.getD k zeroPh).num)
theorem ReadsPh.nil (w : World) (a : Option Addr) : ReadsPh w a [] := fun h => absurd rfl h
theorem ReadsPh.below {w w' : World} {a : Option Addr} {ls : List StepV} (h : ReadsPh w a ls) (hb : Below w.heap.size w w') : ReadsPh w' a ls := by
  intro hne
  obtain ⟨b, off, ha, hc⟩ := h hne
  refine ⟨b, off, ha, fun k hk => ?_⟩
  obtain ⟨h0, h1⟩ := hc k hk
  have hlt := block_lt h0
  exact ⟨by rw [hb.cell (p := ⟨b, off + k * 2, none⟩) hlt]; exact h0, by rw [hb.cell (p := ⟨b, off + k * 2 + 1, none⟩) hlt]; exact h1⟩
theorem ReadsPh.cases {w : World} {a : Option Addr} {ls : List StepV} (h : ReadsPh w a ls) : ls = [] ∨ ∃ b off, a = some ⟨b, off, none⟩ ∧ 0 < ls.length ∧ ∀ k, k < ls.length → w.cell? ⟨b, off + k * 2, none⟩ = some (.int .i64 (ls.getD k zeroPh).kd) ∧ w.cell? ⟨b, off + k * 2 + 1, none⟩ = some (.int .i64 (ls.getD k zeroPh).num) := by
  by_cases e : ls = []
  · exact .inl e
  · obtain ⟨b, off, ha, hc⟩ := h e
    exact .inr ⟨b, off, ha, List.length_pos_iff.2 e, hc⟩

/-- The slice at a, of capacity c, owns these; its row lies from lo up to hi. -/
def OwnPh (w : World) (lo hi : Nat) (a : Option Addr) (c : Nat) (ls : List StepV) : Prop :=
  w.ownsRow lo 44 2 (.slice a ls.length c) ls.length (cellsPh ls) ∧ hi ≤ w.heap.size ∧ ∀ k, (Value.slice a ls.length c).ownBlock = some k → k < hi
theorem OwnPh.lt {w : World} {lo hi : Nat} {a : Option Addr} {c : Nat} {ls : List StepV} (h : OwnPh w lo hi a c ls) : ∀ k, (Value.slice a ls.length c).ownBlock = some k → lo ≤ k ∧ k < hi := fun k hk => ⟨(h.1.lt k hk).1, h.2.2 k hk⟩
theorem OwnPh.touch {w w' : World} {lo hi : Nat} {a : Option Addr} {c : Nat} {ls : List StepV} {bl : List Nat} (h : OwnPh w lo hi a c ls) (ht : Touch bl w w') (hd : ∀ k, (Value.slice a ls.length c).ownBlock = some k → k ∉ bl) : OwnPh w' lo hi a c ls :=
  ⟨ownsRow_block h.1 (fun k hk => ht.block k (h.1.lt k hk).2 (hd k hk)), Nat.le_trans h.2.1 ht.size, h.2.2⟩
theorem OwnPh.within {w w' : World} {lo hi l r : Nat} {a : Option Addr} {c : Nat} {ls : List StepV} (h : OwnPh w lo hi a c ls) (hw : Within l r w w') (hd : hi ≤ l ∨ r ≤ lo) : OwnPh w' lo hi a c ls :=
  ⟨ownsRow_block h.1 (fun k hk => hw.block k (by have := h.2.2 k hk; have := h.2.1; omega) (by have := h.lt k hk; omega)), Nat.le_trans h.2.1 hw.size, h.2.2⟩
theorem OwnPh.below {w w' : World} {lo hi : Nat} {a : Option Addr} {c : Nat} {ls : List StepV} (h : OwnPh w lo hi a c ls) (hb : Below w.heap.size w w') : OwnPh w' lo hi a c ls :=
  h.within (Within.of_below (lo := w.heap.size) (hi := w.heap.size) hb) (.inl h.2.1)
theorem OwnPh.widen {w : World} {lo hi lo' hi' : Nat} {a : Option Addr} {c : Nat} {ls : List StepV} (h : OwnPh w lo hi a c ls) (h1 : lo' ≤ lo) (h2 : hi ≤ hi') (h3 : hi' ≤ w.heap.size) : OwnPh w lo' hi' a c ls :=
  ⟨ownsRow_base h.1 (fun k hk => by have := h.lt k hk; omega), h3, fun k hk => by have := h.lt k hk; omega⟩
theorem OwnPh.nocap {w : World} {lo hi : Nat} {a : Option Addr} {c : Nat} {ls : List StepV} (h : OwnPh w lo hi a c ls) : a = none → c = 0 := by
  intro ha
  rcases h.1.2 with ⟨hv, _⟩ | ⟨g, cap, cur, hv, _⟩
  · simp only [Value.slice.injEq] at hv; exact hv.2.2
  · simp [ha] at hv
/-- The two cells of one of a row that lies in block g. -/
theorem row_step {w : World} {base g n cap : Nat} {ls : List StepV} (h : w.ownsRow base 44 2 (.slice (some ⟨g, 0, none⟩) n cap) n (cellsPh ls)) (hn : ls.length = n) (k : Nat) (hk : k < n) :
    w.cell? ⟨g, k * 2, none⟩ = some (.int .i64 (ls.getD k zeroPh).kd) ∧ w.cell? ⟨g, k * 2 + 1, none⟩ = some (.int .i64 (ls.getD k zeroPh).num) ∧ (∀ i, w.frozen? ⟨g, i, none⟩ = false) := by
  have a0 := cellsPh_at ls k 0 (by omega) (by omega)
  have a1 := cellsPh_at ls k 1 (by omega) (by omega)
  simp only [StepV.cells, Nat.add_zero, List.getElem?_cons_zero, List.getElem?_cons_succ] at a0 a1
  exact ⟨by rw [h.cellAt (k * 2) (by omega)]; exact a0, by rw [h.cellAt (k * 2 + 1) (by omega)]; exact a1, fun i => h.frozenAt i⟩
/-- One of the row stored. -/
theorem row_storePh {w : World} {base g n cap : Nat} {ls : List StepV} (h : w.ownsRow base 44 2 (.slice (some ⟨g, 0, none⟩) n cap) n (cellsPh ls)) (hn : ls.length = n) (k : Nat) (hk : k < n) (t : StepV) :
    ∃ W, Hid ((w.setCell ⟨g, k * 2, none⟩ (.int .i64 t.kd)).setCell ⟨g, k * 2 + 1, none⟩ (.int .i64 t.num) = W) ∧ W.ownsRow base 44 2 (.slice (some ⟨g, 0, none⟩) n cap) n (cellsPh (ls.set k t)) ∧ w.grownBy W (some g) := by
  have s1 := h.stored (k * 2) (.int .i64 t.kd)
  have s2 := s1.1.stored (k * 2 + 1) (.int .i64 t.num)
  refine ⟨_, rfl, ?_, grownBy_trans s1.2 s2.2⟩
  have := s2.1
  rw [cellsPh_set ls k (by omega) t] at this
  exact this
theorem OwnPh.reads {w : World} {lo hi : Nat} {a : Option Addr} {c : Nat} {ls : List StepV} (h : OwnPh w lo hi a c ls) : ReadsPh w a ls := by
  intro hne
  rcases h.1.2 with ⟨_, h0⟩ | ⟨g, cap', cur, hv, hb, hg, hr⟩
  · exact absurd (List.length_eq_zero_iff.1 h0) hne
  · simp only [Value.slice.injEq] at hv
    obtain ⟨rfl, _, rfl⟩ := hv
    refine ⟨g, 0, rfl, fun k hk => ?_⟩
    obtain ⟨a0, a1, _⟩ := row_step h.1 rfl k hk
    rw [Nat.zero_add]
    exact ⟨a0, a1⟩
theorem Tryz.infoStep : (Tryz.prog.info? 44).map (fun i => (i.zero, i.size, i.bytes)) = some (some (.agg #[.int .i64 0, .int .i64 0]), 2, 16) := by kernel_rfl
end Go.Proofs.YtajcffchopcamaaGreatDoor

/- The walks of laws.toPathStep, toPathStepS, eqPathStep, eqPathStepS, szPathStepS. -/
namespace Go.Proofs.YtajcffchopcamaaGreatDoor
open Go.RowKit

set_option maxHeartbeats 400000 in
set_option maxRecDepth 100000 in
theorem toPathStep_any (l : StepV) (w : World) :
    Calls Tryz.prog 74 #[.agg l.cells.toArray] w fun e w' => e = .returned (.agg l.cells.toArray) ∧ Below w.heap.size w w' := by
  obtain ⟨x, y⟩ := l
  simp only [StepV.cells]
  obtain ⟨W, hW, b0, b1, b2, hbW, hsW⟩ := boxes3 w [.int .i64 x, .int .i64 y] [.int .i64 x, .int .i64 y] [.int .i64 x, .int .i64 y] 121 44 44
  have q0 := b1.cell 0 _ rfl
  have q1 := b1.cell 1 _ rfl
  clear b0 b2 hsW
  go_enter Tryz.func74, Tryz.ntmps74
  go_wp2
  rw [hW.out]
  exact bodyPost_ret (v := .agg #[.int .i64 x, .int .i64 y]) (by simp [results, Tryz.results74, go_sem, q0, q1]) rfl ⟨rfl, hbW⟩

theorem zero_cellsPh (n : Nat) : (madeCells #[.int .i64 0, .int .i64 0] (n * 2)).toList = cellsPh (List.replicate n zeroPh) := by
  apply List.ext_getElem?
  intro i
  by_cases h : i < n * 2
  · have e := cellsPh_at (List.replicate n zeroPh) (i / 2) (i % 2) (by simp; omega) (Nat.mod_lt _ (by omega))
    rw [show i / 2 * 2 + i % 2 = i by omega] at e
    rw [e]
    have hg : (List.replicate n zeroPh).getD (i / 2) zeroPh = zeroPh := by simp [List.getD, show i / 2 < n by omega]
    rw [hg]
    simp only [madeCells, Array.toList_map, List.getElem?_map, Array.toList_range, List.getElem?_range h, Option.map_some, StepV.cells, zeroPh]
    have : i % 2 < 2 := Nat.mod_lt _ (by omega)
    show some (#[Value.int .i64 0, .int .i64 0][i % 2]!) = _
    rcases (by omega : i % 2 = 0 ∨ i % 2 = 1) with h' | h' <;> rw [h'] <;> rfl
  · rw [List.getElem?_eq_none (by simp [size_madeCells]; omega), List.getElem?_eq_none (by rw [cellsPh_len]; simp; omega)]

theorem made_step (n : Nat) : (madeCells (Value.agg #[.int .i64 0, .int .i64 0]).cells (n * 2)).toList = cellsPh (List.replicate n zeroPh) := zero_cellsPh n
def partPh (ls : List StepV) (k : Nat) : List StepV := ls.take k ++ List.replicate (ls.length - k) zeroPh
theorem partPh_len (ls : List StepV) (k : Nat) (h : k ≤ ls.length) : (partPh ls k).length = ls.length := by simp [partPh]; omega
theorem partPh_all (ls : List StepV) : partPh ls ls.length = ls := by simp [partPh]
theorem partPh_none (ls : List StepV) : partPh ls 0 = List.replicate ls.length zeroPh := by simp [partPh]
theorem partPh_set (ls : List StepV) (k : Nat) (h : k < ls.length) : (partPh ls k).set k (ls.getD k zeroPh) = partPh ls (k + 1) := by
  unfold partPh
  rw [List.set_append, if_neg (by simp; omega), List.take_succ_eq_append_getElem h]
  have e : ls.length - k = (ls.length - (k + 1)) + 1 := by omega
  have e2 : k - (List.take k ls).length = 0 := by simp; omega
  rw [e2, e, List.replicate_succ, List.set_cons_zero]
  simp only [List.getD, h, List.getElem?_eq_getElem, Option.getD_some, List.append_assoc, List.singleton_append]


set_option maxHeartbeats 400000 in
set_option maxRecDepth 100000 in
theorem toPathStepS_any (a : Option Addr) (cap : Nat) (ls : List StepV) (w : World) (hr : ReadsPh w a ls) (hl : ls.length ≤ 1099511627776) :
    Calls Tryz.prog 47 #[.slice a ls.length cap] w fun e w' => ∃ a' c', e = .returned (.slice a' ls.length c') ∧ OwnPh w' w.heap.size w'.heap.size a' c' ls ∧ Below w.heap.size w w' := by
  obtain ⟨i0, hi, hz0, hz1, hz2⟩ := info_parts Tryz.infoStep
  rcases hr.cases with rfl | ⟨b, off, rfl, hpos, hcell⟩
  · go_enter Tryz.func47, Tryz.ntmps47
    go_wp2_with (at_make; refine wpList_make_full _ rfl _ _ 25 rfl w.heap.size 44 i0 (.agg #[.int .i64 0, .int .i64 0]) 2 Tryz.underlying25 hi hz0 hz1 _ _ _ _ 0 rfl rfl (by simp) (by simp) (by omega) (by simp [maxLen]) (Nat.le_refl _) ?_)
    intro w0 hown0 hgrow0
    go_wp2
    refine wp_loop_rounds 1 ?_
    rw [rounds_succ]
    go_wp2
    go_ret
    have ho : w0.ownsRow w.heap.size 44 2 (.slice (some ⟨w.heap.size, 0, none⟩) 0 0) 0 (cellsPh []) := by
      have e := made_step 0
      simp only [List.replicate_zero] at e
      rw [← e]
      exact hown0
    exact ⟨_, _, rfl, ⟨ho, Nat.le_refl _, fun k hk => (ho.lt k hk).2⟩, (Below.refl _ _).grown hgrow0 (Nat.le_refl _) (fun k h => by cases h)⟩
  · have hbB : b < w.heap.size := block_lt (hcell 0 hpos).1
    go_enter Tryz.func47, Tryz.ntmps47
    go_wp2_with (at_make; refine wpList_make_full _ rfl _ _ 25 rfl w.heap.size 44 i0 (.agg #[.int .i64 0, .int .i64 0]) 2 Tryz.underlying25 hi hz0 hz1 _ _ _ _ ls.length rfl rfl rfl rfl (by rw [hz2]; omega) (by simp [maxLen]; omega) (Nat.le_refl _) ?_)
    intro w0 hown0 hgrow0
    have hown1 : w0.ownsRow w.heap.size 44 2 (.slice (some ⟨w.heap.size, 0, none⟩) ls.length ls.length) ls.length (cellsPh (partPh ls 0)) := by
      rw [partPh_none, ← made_step]
      exact hown0
    have hb0 : Below w.heap.size w w0 := (Below.refl _ _).grown hgrow0 (Nat.le_refl _) (fun k h => by cases h)
    clear hown0 hgrow0
    go_wp2
    go_loopw [4] (fun i wr => ∃ k : Nat, k ≤ ls.length ∧ i = .int .i64 k ∧ wr.ownsRow w.heap.size 44 2 (.slice (some ⟨w.heap.size, 0, none⟩) ls.length ls.length) ls.length (cellsPh (partPh ls k)) ∧ Below w.heap.size w wr)
      (fun i _ => ls.length - (RowKit.intOf i).toNat)
    case atStart => exact ⟨0, Nat.zero_le _, rfl, hown1, hb0⟩
    case round =>
      obtain ⟨k, hk, rfl, hown, hnx⟩ := hrel
      by_cases hlt : k < ls.length
      · obtain ⟨c0, c1⟩ := hcell k hlt
        have d0 : wr.cell? ⟨b, off + k * 2, none⟩ = _ := (hnx.cell (by exact hbB)).trans c0
        have d1 : wr.cell? ⟨b, off + k * 2 + 1, none⟩ = _ := (hnx.cell (by exact hbB)).trans c1
        have hp := partPh_len ls k hk
        have HSET : Hid ((partPh ls k).set k (ls.getD k zeroPh) = partPh ls (k + 1)) := partPh_set ls k hlt
        clear c0 c1 hcell hown1 hb0
        generalize ls.getD k zeroPh = z at *
        have C := toPathStep_any z wr
        simp only [StepV.cells] at C
        go_wp2_with fail
        refine C.mono ?_
        clear C d0 d1
        rintro e w1 ⟨rfl, hb1⟩
        have hownA := ownsRow_block hown (fun j hj => hb1.block j (hown.lt j hj).2)
        obtain ⟨x0, x1, hfz⟩ := row_step hownA hp k hlt
        have f0 := hfz (k * 2)
        have f1 := hfz (k * 2 + 1)
        obtain ⟨W2, hW2, ho2, hg2⟩ := row_storePh hownA hp k hlt z
        rw [HSET.out] at ho2
        have hB2 : Below w.heap.size w W2 := (hnx.trans (hb1.mono hnx.size)).grown hg2 (by have := hnx.size; have := hb1.size; omega) (fun j hj => by cases hj; omega)
        have HH : Hid (_ ∧ _) := ⟨ho2, hB2⟩
        clear ho2 hB2 hg2 hfz hownA hown hb1 hnx HSET
        generalize (partPh ls k).getD k zeroPh = old at *
        go_wp2_with fail
        rw [hW2.out]
        go_roundw
        case rel => exact ⟨k + 1, by omega, by go_num, HH.out.1, HH.out.2⟩
        case measure => simp [RowKit.intOf]; omega
      · have HE : Hid (wr.ownsRow w.heap.size 44 2 (.slice (some ⟨w.heap.size, 0, none⟩) ls.length ls.length) ls.length (cellsPh ls)) := by
          have e : k = ls.length := by omega
          rw [e, partPh_all] at hown
          exact hown
        go_wp2
        go_ret
        exact ⟨_, _, rfl, ⟨HE.out, Nat.le_refl _, fun k hk => (HE.out.lt k hk).2⟩, hnx⟩

set_option maxHeartbeats 400000 in
set_option maxRecDepth 100000 in
theorem eqPathStep_same (l : StepV) (w : World) :
    Calls Tryz.prog 76 #[.agg l.cells.toArray, .agg l.cells.toArray] w fun e w' => e = .returned (.bool true) ∧ Below w.heap.size w w' := by
  obtain ⟨x, y⟩ := l
  simp only [StepV.cells]
  obtain ⟨W, hW, b0, b1, hbW, hsW⟩ := boxes2 w [.int .i64 x, .int .i64 y] [.int .i64 x, .int .i64 y] 44 44
  clear b0 b1 hsW
  go_enter Tryz.func76, Tryz.ntmps76
  go_wp2
  rw [hW.out]
  go_ret
  exact ⟨rfl, hbW⟩

set_option maxHeartbeats 1000000 in
set_option maxRecDepth 100000 in
theorem eqPathStepS_same (a b : Option Addr) (ca cb : Nat) (ls : List StepV) (w : World) (ha : ReadsPh w a ls) (hb : ReadsPh w b ls) (hl : ls.length ≤ 1099511627776) :
    Calls Tryz.prog 49 #[.slice a ls.length ca, .slice b ls.length cb] w fun e w' => e = .returned (.bool true) ∧ Below w.heap.size w w' := by
  rcases ha.cases with rfl | ⟨b1, o1, rfl, hpos, hc1⟩
  · go_enter Tryz.func49, Tryz.ntmps49
    go_wp2
    refine wp_loop_rounds 1 ?_
    rw [rounds_succ]
    go_wp2
    go_ret
    exact ⟨rfl, Below.refl _ _⟩
  · rcases hb.cases with rfl | ⟨b2, o2, rfl, _, hc2⟩
    · simp at hpos
    · go_enter Tryz.func49, Tryz.ntmps49
      go_wp2
      go_loopw [5] (fun i wr => ∃ k : Nat, k ≤ ls.length ∧ i = .int .i64 k ∧ Below w.heap.size w wr) (fun i _ => ls.length - (RowKit.intOf i).toNat)
      case atStart => exact ⟨0, Nat.zero_le _, rfl, Below.refl _ _⟩
      case round =>
        obtain ⟨k, hk, rfl, hbl⟩ := hrel
        by_cases hlt : k < ls.length
        · have h1 := hc1 k hlt
          have h2 := hc2 k hlt
          clear hc1 hc2
          generalize ls.getD k zeroPh = z at *
          have HS : Hid (∀ w1, Below w.heap.size w w1 → (w1.cell? ⟨b1, o1 + k * 2, none⟩ = some (.int .i64 z.kd) ∧ w1.cell? ⟨b1, o1 + k * 2 + 1, none⟩ = some (.int .i64 z.num)) ∧ (w1.cell? ⟨b2, o2 + k * 2, none⟩ = some (.int .i64 z.kd) ∧ w1.cell? ⟨b2, o2 + k * 2 + 1, none⟩ = some (.int .i64 z.num))) := fun w1 hh =>
            ⟨⟨(hh.cell (block_lt h1.1)).trans h1.1, (hh.cell (block_lt h1.2)).trans h1.2⟩, (hh.cell (block_lt h2.1)).trans h2.1, (hh.cell (block_lt h2.2)).trans h2.2⟩
          have hh := HS.out wr hbl
          clear h1 h2
          go_wp2_with fail
          go_region_held3 (fun w1 => (w1.cell? ⟨b1, o1 + k * 2, none⟩ = some (.int .i64 z.kd) ∧ w1.cell? ⟨b1, o1 + k * 2 + 1, none⟩ = some (.int .i64 z.num)) ∧ (w1.cell? ⟨b2, o2 + k * 2, none⟩ = some (.int .i64 z.kd) ∧ w1.cell? ⟨b2, o2 + k * 2 + 1, none⟩ = some (.int .i64 z.num)))
            (first | exact HS.out _ hw2 | go_keep | fail)
            ((first | (go_at_call 76; refine (eqPathStep_same z _).mono ?_; rintro e w2 ⟨rfl, hb2⟩; have hw2 : Below w.heap.size w w2 := (hbl.drew).trans (hb2.mono hbl.size)) | fail))
          all_goals
            go_wp2_with fail
            go_roundw
            case rel => exact ⟨k + 1, by omega, by go_num, hw2⟩
            case measure => simp [RowKit.intOf]; omega
        · go_wp2
          go_ret
          exact ⟨rfl, hbl⟩
end Go.Proofs.YtajcffchopcamaaGreatDoor

/- The walks of laws.markPathStepS and laws.heldPathStepS. -/
namespace Go.Proofs.YtajcffchopcamaaGreatDoor
open Go.RowKit

def markPh1 (k0 : Int) (i : Nat) : StepV := ⟨k0 + 2 * i, k0 + 2 * i + 1⟩
def marksPh (k0 : Int) (n : Nat) : List StepV := (List.range n).map fun i : Nat => markPh1 k0 i
theorem marksPh_len (k0 : Int) (n : Nat) : (marksPh k0 n).length = n := by simp [marksPh]
theorem marksPh_succ (k0 : Int) (n : Nat) : marksPh k0 (n + 1) = marksPh k0 n ++ [markPh1 k0 n] := by simp [marksPh, List.range_succ]
def markedPh (k0 : Int) (xs : List StepV) (k : Nat) : List StepV := marksPh k0 k ++ xs.drop k
theorem markedPh_len (k0 : Int) (xs : List StepV) (k : Nat) (h : k ≤ xs.length) : (markedPh k0 xs k).length = xs.length := by simp [markedPh, marksPh_len]; omega
theorem markedPh_set (k0 : Int) (xs : List StepV) (k : Nat) (h : k < xs.length) : (markedPh k0 xs k).set k (markPh1 k0 k) = markedPh k0 xs (k + 1) := by
  unfold markedPh
  rw [List.set_append, if_neg (by rw [marksPh_len]; omega), marksPh_len, Nat.sub_self, marksPh_succ, List.drop_eq_getElem_cons h, List.set_cons_zero]
  simp
theorem markedPh_all (k0 : Int) (xs : List StepV) : markedPh k0 xs xs.length = marksPh k0 xs.length := by simp [markedPh]

set_option maxHeartbeats 1000000 in
set_option maxRecDepth 100000 in
theorem markPathStepS_any (base : Nat) (a : Option Addr) (cap : Nat) (k0 : Int) (xs : List StepV) (w : World)
    (hown : w.ownsRow base 44 2 (.slice a xs.length cap) xs.length (cellsPh xs)) (h0 : 0 ≤ k0) (hl : k0 + 2 * xs.length ≤ 4611686018427387904) :
    Calls Tryz.prog 50 #[.slice a xs.length cap, .int .i64 k0] w fun e w' => e = .returned (.int .i64 (k0 + 2 * xs.length)) ∧
      w'.ownsRow base 44 2 (.slice a xs.length cap) xs.length (cellsPh (marksPh k0 xs.length)) ∧ w.grownBy w' (Value.slice a xs.length cap).ownBlock := by
  have hlen := hown.1
  rcases hown.2 with ⟨hv, h00⟩ | ⟨g, cap', cur, hv, hg, hgg, hr⟩
  · simp only [Value.slice.injEq] at hv
    obtain ⟨rfl, h00', rfl⟩ := hv
    obtain rfl := List.length_eq_zero_iff.1 h00
    go_enter Tryz.func50, Tryz.ntmps50
    go_wp2
    refine wp_loop_rounds 1 ?_
    rw [rounds_succ]
    go_wp2
    go_ret
    exact ⟨by simp, hown, World.grownBy.refl _ _⟩
  · simp only [Value.slice.injEq] at hv
    obtain ⟨rfl, _, rfl⟩ := hv
    clear hgg hr hlen
    have hM : w.ownsRow base 44 2 (.slice (some ⟨g, 0, none⟩) xs.length cap) xs.length (cellsPh (markedPh k0 xs 0)) := by simpa [markedPh, marksPh] using hown
    clear hown
    go_enter Tryz.func50, Tryz.ntmps50
    go_wp2
    go_loopw [1, 5] (fun kk i wr => ∃ k : Nat, k ≤ xs.length ∧ i = .int .i64 k ∧ kk = .int .i64 (k0 + 2 * k) ∧ wr.ownsRow base 44 2 (.slice (some ⟨g, 0, none⟩) xs.length cap) xs.length (cellsPh (markedPh k0 xs k)) ∧ w.grownBy wr (some g))
      (fun _ i _ => xs.length - (RowKit.intOf i).toNat)
    case atStart => exact ⟨0, Nat.zero_le _, rfl, by simp, hM, World.grownBy.refl _ _⟩
    case round =>
      obtain ⟨k, hk, rfl, rfl, hown, hgr⟩ := hrel
      clear hM
      by_cases hlt : k < xs.length
      · have hp := markedPh_len k0 xs k hk
        obtain ⟨x0, x1, hfz⟩ := row_step hown hp k hlt
        have f0 := hfz (k * 2)
        have f1 := hfz (k * 2 + 1)
        obtain ⟨W2, hW2, ho2, hg2⟩ := row_storePh hown hp k hlt (markPh1 k0 k)
        rw [markedPh_set k0 xs k hlt] at ho2
        have HH : Hid (_ ∧ _) := ⟨ho2, grownBy_trans hgr hg2⟩
        clear ho2 hg2 hfz hown hgr
        generalize (markedPh k0 xs k).getD k zeroPh = old at *
        simp only [markPh1] at hW2
        go_wp2
        rw [hW2.out]
        go_roundw
        case rel => exact ⟨k + 1, by omega, by go_num, by go_num, HH.out.1, HH.out.2⟩
        case measure => simp [RowKit.intOf]; omega
      · have HE : Hid (wr.ownsRow base 44 2 (.slice (some ⟨g, 0, none⟩) xs.length cap) xs.length (cellsPh (marksPh k0 xs.length)) ∧ k = xs.length) := by
          have e : k = xs.length := by omega
          rw [e, markedPh_all] at hown
          exact ⟨hown, e⟩
        go_wp2
        go_ret
        exact ⟨ret_int (by have := HE.out.2; omega), HE.out.1, hgr⟩

theorem markPathStepS_own (lo hi : Nat) (a : Option Addr) (cap : Nat) (k0 : Int) (xs : List StepV) (w : World) (ho : OwnPh w lo hi a cap xs) (h0 : 0 ≤ k0) (hl : k0 + 2 * xs.length ≤ 4611686018427387904) :
    Calls Tryz.prog 50 #[.slice a xs.length cap, .int .i64 k0] w fun e w' => e = .returned (.int .i64 (k0 + 2 * xs.length)) ∧
      OwnPh w' lo hi a cap (marksPh k0 xs.length) ∧ Touch (Value.slice a xs.length cap).ownBlock.toList w w' := by
  refine (markPathStepS_any lo a cap k0 xs w ho.1 h0 hl).mono ?_
  rintro e w' ⟨rfl, h1, h2⟩
  refine ⟨rfl, ⟨by rw [marksPh_len]; exact h1, Nat.le_trans ho.2.1 h2.size, by rw [marksPh_len]; exact ho.2.2⟩, Touch.of_grown h2 (fun j hj => Option.mem_toList.2 hj)⟩

end Go.Proofs.YtajcffchopcamaaGreatDoor
