/- Several texts in one, in their order. -/
import Derived.Test.YtbaocehcnjdkkaaDoorPart3
import Derived.Test.YtbaocehcnjdkkaaDoorPart1
import Derived.Test.YtbaocehcnjdkkaaDoorPart2
import Derived.Deep.QuietTactic
import Derived.BigQuiet
import Derived.Laws.IdiomStrings
import Derived.Lib.BufferRead
/- The walk of laws.toObj. -/
namespace Go.Proofs.YtbaocehcnjdkkaaDoor
open Go.RowKit

set_option maxHeartbeats 400000 in
set_option maxRecDepth 100000 in
theorem toObj_own (o : ObjV) (aI : Option Addr) (cI : Nat) (aR : Option Addr) (cR : Nat) (w : World) (hr : ReadsO w aI cI aR cR o) (hlI : o.ints.length ≤ 1099511627776) (hlR : o.refs.length ≤ 1099511627776) :
    Calls Tryd.prog 68 #[.agg #[.int .i64 o.kind, .slice aI o.ints.length cI, .slice aR o.refs.length cR]] w fun e w' => ∃ aI' cI' aR' cR', e = .returned (.agg #[.int .i64 o.kind, .slice aI' o.ints.length cI', .slice aR' o.refs.length cR']) ∧
      OwnO w' w.heap.size w'.heap.size aI' cI' aR' cR' o ∧ Below w.heap.size w w' := by
  obtain ⟨k, ints, refs⟩ := o
  obtain ⟨hI, hR, _, _⟩ := hr
  simp only at *
  go_enter Tryd.func68, Tryd.ntmps68
  go_wp2_with fail
  obtain ⟨W, hW, b0, b1, b2, hbW, hsW⟩ := boxes3 w [.int .i64 k, .slice aI ints.length cI, .slice aR refs.length cR] [.int .i64 0, .slice none 0 0, .slice none 0 0] [.int .i64 k, .slice none 0 0, .slice none 0 0] 42 26 26
  rw [hW.out]
  clear hW
  refine (toIntS_own aI cI ints W (hI.below hbW) hlI).mono ?_
  rintro e w1 ⟨a1, c1, rfl, ho1, hb1⟩
  have b0' := b0.below hb1 b0.lt
  have b1' := b1.below hb1 b1.lt
  have b2' := b2.below hb1 b2.lt
  have h02 := b0'.cell 2 _ rfl
  have h21 := b2'.cell 1 _ rfl
  have f21 := b2'.frozen 1
  go_wp2_with fail
  obtain ⟨W2, hW2, b2s, hw2, hs2⟩ := box_set b2' 1 (.slice a1 ints.length c1)
  rw [hW2.out]
  clear hW2
  have hWb : Below w.heap.size w W2 := (hbW.trans (hb1.mono (by omega))).trans (hw2.below (by omega) (by have := hb1.size; omega))
  have ho1' : OwnI W2 W.heap.size w1.heap.size a1 c1 ints := ho1.within hw2 (.inr (by omega))
  refine (toIntS_own aR cR refs W2 (hR.below hWb) hlR).mono ?_
  rintro e w3 ⟨a3, c3, rfl, ho3, hb3⟩
  have ho13 := ho1'.below hb3
  have b23 := b2s.below hb3 b2s.lt
  have b13 := (b1'.within hw2 (by omega)).below hb3 (by have := (b1'.within hw2 (by omega)).lt; exact this)
  simp only [List.set] at b23
  have g22 := b23.cell 2 _ rfl
  have e22 := b23.frozen 2
  have bS := b23.set 2 (.slice a3 refs.length c3)
  have bT := b13.other (C := w.heap.size + 1 + 1) (i := 2) (v := .slice a3 refs.length c3) (by omega)
  simp only [List.set] at bS
  have s0 := bS.cell 0 _ rfl
  have s1 := bS.cell 1 _ rfl
  have s2 := bS.cell 2 _ rfl
  have t0 := bT.cell 0 _ rfl
  have t1 := bT.cell 1 _ rfl
  have t2 := bT.cell 2 _ rfl
  have u0 := bT.frozen 0
  have u1 := bT.frozen 1
  have u2 := bT.frozen 2
  have bF := ((bT.set 0 (.int .i64 k)).set 1 (.slice a1 ints.length c1)).set 2 (.slice a3 refs.length c3)
  simp only [List.set] at bF
  have hwF : Within (w.heap.size + 1) (w.heap.size + 3) w3 _ := (((within_set w3 (w.heap.size + 1 + 1) 2 (.slice a3 refs.length c3) (by omega)).trans (within_set _ (w.heap.size + 1) 0 (.int .i64 k) (by omega))).trans (within_set _ (w.heap.size + 1) 1 (.slice a1 ints.length c1) (by omega))).trans (within_set _ (w.heap.size + 1) 2 (.slice a3 refs.length c3) (by omega))
  have HF : Hid (_ ∧ _ ∧ _ ∧ _) := ⟨bF.cell 0 _ rfl, bF.cell 1 _ rfl, bF.cell 2 _ rfl, hwF⟩
  clear bF hwF
  go_wp2
  obtain ⟨f0, f1, f2, hwF⟩ := HF.out
  generalize (((w3.setCell ⟨w.heap.size + 1 + 1, 2, none⟩ (.slice a3 refs.length c3)).setCell ⟨w.heap.size + 1, 0, none⟩ (.int .i64 k)).setCell ⟨w.heap.size + 1, 1, none⟩ (.slice a1 ints.length c1)).setCell ⟨w.heap.size + 1, 2, none⟩ (.slice a3 refs.length c3) = WF at *
  have hs3 := hb3.size
  have hs1 := hb1.size
  have hsF := hwF.size
  refine bodyPost_ret (v := .agg #[.int .i64 k, .slice a1 ints.length c1, .slice a3 refs.length c3]) (by simp [results, Tryd.results68, go_sem, f0, f1, f2]) rfl ⟨a1, c1, a3, c3, rfl, ⟨(ho13.within hwF (.inr (by omega))).widen (by omega) (by omega) (Nat.le_refl _), (ho3.within hwF (.inr (by omega))).widen (by omega) (by omega) (Nat.le_refl _), fun j hj hj' => by have := (ho1.lt j hj).2; have := (ho3.lt j hj').1; omega⟩, (hWb.trans (hb3.mono (by omega))).trans (hwF.below (by omega) (by omega))⟩
end Go.Proofs.YtbaocehcnjdkkaaDoor

/- A box of three cells, filled. -/
namespace Go.Proofs.YtbaocehcnjdkkaaDoor
open Go.RowKit

/-- The facts that a walk wants of a box of three cells. -/
theorem Box.three {w : World} {B : Nat} {x0 x1 x2 : Value} {t : TypeId} (b : Box w B [x0, x1, x2] t) :
    w.cell? ⟨B, 0, none⟩ = some x0 ∧ w.cell? ⟨B, 1, none⟩ = some x1 ∧ w.cell? ⟨B, 2, none⟩ = some x2 ∧ w.frozen? ⟨B, 0, none⟩ = false ∧ w.frozen? ⟨B, 1, none⟩ = false ∧ w.frozen? ⟨B, 2, none⟩ = false :=
  ⟨b.cell 0 _ rfl, b.cell 1 _ rfl, b.cell 2 _ rfl, b.frozen 0, b.frozen 1, b.frozen 2⟩

theorem box3_fill {w : World} {B : Nat} {x0 x1 x2 : Value} {t : TypeId} (b : Box w B [x0, x1, x2] t) (v0 v1 v2 : Value) :
    ∃ W, Hid (((w.setCell ⟨B, 0, none⟩ v0).setCell ⟨B, 1, none⟩ v1).setCell ⟨B, 2, none⟩ v2 = W) ∧ Box W B [v0, v1, v2] t ∧ Within B (B + 1) w W ∧ W.heap.size = w.heap.size := by
  refine ⟨_, rfl, ?_, ?_, ?_⟩
  · have := ((b.set 0 v0).set 1 v1).set 2 v2
    simpa only [List.set] using this
  · exact ((within_set w B 0 v0 (by omega)).trans (within_set _ B 1 v1 (by omega))).trans (within_set _ B 2 v2 (by omega))
  · simp
end Go.Proofs.YtbaocehcnjdkkaaDoor

/- Slots: what they are, what a walk reads and owns of them; the walk of laws.toSlot. -/
namespace Go.Proofs.YtbaocehcnjdkkaaDoor
open Go.RowKit

structure SlotV where
  has : Bool
  o : ObjV

/-- A slot, and where its object's lists lie. -/
structure SlotA where
  v : SlotV
  aI : Option Addr
  cI : Nat
  aR : Option Addr
  cR : Nat

def SlotA.cells (s : SlotA) : List Value := [.bool s.v.has, .int .i64 s.v.o.kind, .slice s.aI s.v.o.ints.length s.cI, .slice s.aR s.v.o.refs.length s.cR]
def SlotA.reads (w : World) (s : SlotA) : Prop := ReadsO w s.aI s.cI s.aR s.cR s.v.o
def SlotA.own (w : World) (lo hi : Nat) (s : SlotA) : Prop := OwnO w lo hi s.aI s.cI s.aR s.cR s.v.o

theorem Box.four {w : World} {B : Nat} {x0 x1 x2 x3 : Value} {t : TypeId} (b : Box w B [x0, x1, x2, x3] t) :
    w.cell? ⟨B, 0, none⟩ = some x0 ∧ w.cell? ⟨B, 1, none⟩ = some x1 ∧ w.cell? ⟨B, 2, none⟩ = some x2 ∧ w.cell? ⟨B, 3, none⟩ = some x3 ∧ w.frozen? ⟨B, 0, none⟩ = false ∧ w.frozen? ⟨B, 1, none⟩ = false ∧ w.frozen? ⟨B, 2, none⟩ = false ∧ w.frozen? ⟨B, 3, none⟩ = false :=
  ⟨b.cell 0 _ rfl, b.cell 1 _ rfl, b.cell 2 _ rfl, b.cell 3 _ rfl, b.frozen 0, b.frozen 1, b.frozen 2, b.frozen 3⟩
theorem box4_fill3 {w : World} {B : Nat} {x0 x1 x2 x3 : Value} {t : TypeId} (b : Box w B [x0, x1, x2, x3] t) (v1 v2 v3 : Value) :
    ∃ W, Hid (((w.setCell ⟨B, 1, none⟩ v1).setCell ⟨B, 2, none⟩ v2).setCell ⟨B, 3, none⟩ v3 = W) ∧ Box W B [x0, v1, v2, v3] t ∧ Within B (B + 1) w W ∧ W.heap.size = w.heap.size := by
  refine ⟨_, rfl, ?_, ?_, ?_⟩
  · have := ((b.set 1 v1).set 2 v2).set 3 v3
    simpa only [List.set] using this
  · exact ((within_set w B 1 v1 (by omega)).trans (within_set _ B 2 v2 (by omega))).trans (within_set _ B 3 v3 (by omega))
  · simp
theorem box4_fill {w : World} {B : Nat} {x0 x1 x2 x3 : Value} {t : TypeId} (b : Box w B [x0, x1, x2, x3] t) (v0 v1 v2 v3 : Value) :
    ∃ W, Hid ((((w.setCell ⟨B, 0, none⟩ v0).setCell ⟨B, 1, none⟩ v1).setCell ⟨B, 2, none⟩ v2).setCell ⟨B, 3, none⟩ v3 = W) ∧ Box W B [v0, v1, v2, v3] t ∧ Within B (B + 1) w W ∧ W.heap.size = w.heap.size := by
  refine ⟨_, rfl, ?_, ?_, ?_⟩
  · have := (((b.set 0 v0).set 1 v1).set 2 v2).set 3 v3
    simpa only [List.set] using this
  · exact (((within_set w B 0 v0 (by omega)).trans (within_set _ B 1 v1 (by omega))).trans (within_set _ B 2 v2 (by omega))).trans (within_set _ B 3 v3 (by omega))
  · simp

set_option maxHeartbeats 1000000 in
set_option maxRecDepth 100000 in
theorem toSlot_own (s : SlotA) (w : World) (hr : s.reads w) (hlI : s.v.o.ints.length ≤ 1099511627776) (hlR : s.v.o.refs.length ≤ 1099511627776) :
    Calls Tryd.prog 31 #[.agg s.cells.toArray] w fun e w' => ∃ t : SlotA, e = .returned (.agg t.cells.toArray) ∧ Hid (t.v = s.v) ∧ t.own w' w.heap.size w'.heap.size ∧ Below w.heap.size w w' := by
  obtain ⟨⟨h, ⟨k, ints, refs⟩⟩, aI, cI, aR, cR⟩ := s
  simp only [SlotA.cells, SlotA.reads, SlotA.own] at *
  obtain ⟨W, hW, b0, b1, b2, hbW, hsW⟩ := boxes3 w [.bool h, .int .i64 k, .slice aI ints.length cI, .slice aR refs.length cR] [.bool false, .int .i64 0, .slice none 0 0, .slice none 0 0] [.bool h, .int .i64 0, .slice none 0 0, .slice none 0 0] 44 28 28
  go_enter Tryd.func31, Tryd.ntmps31
  go_wp2_with fail
  rw [hW.out]
  clear hW
  have hs0 : w.heap.size + 1 + 1 < W.heap.size := by omega
  clear hsW
  refine (toObj_own ⟨k, ints, refs⟩ aI cI aR cR W (hr.below hbW) hlI hlR).mono ?_
  rintro e w1 ⟨pI, dI, pR, dR, rfl, ho1, hb1⟩
  simp only at *
  have hs1 := hb1.size
  have b11 := b1.below hb1 b1.lt
  have b21 := b2.below hb1 b2.lt
  obtain ⟨x0, x1, x2, x3, f0, f1, f2, f3⟩ := b21.four
  obtain ⟨y0, y1, y2, y3, g0, g1, g2, g3⟩ := b11.four
  obtain ⟨W2, hW2, b22, hw2, hs2⟩ := box4_fill3 b21 (.int .i64 k) (.slice pI ints.length dI) (.slice pR refs.length dR)
  have b12 : Box W2 (w.heap.size + 1) _ _ := b11.within hw2 (by omega)
  obtain ⟨WF, hWF, bF, hwF, hsF⟩ := box4_fill b12 (.bool h) (.int .i64 k) (.slice pI ints.length dI) (.slice pR refs.length dR)
  have hbF : Below w.heap.size w WF := ((hbW.trans (hb1.mono (by omega))).trans (hw2.below (by omega) (by omega))).trans (hwF.below (by omega) (by omega))
  have hoF : OwnO WF w.heap.size WF.heap.size pI dI pR dR ⟨k, ints, refs⟩ := ((ho1.within hw2 (.inr (by omega))).within hwF (.inr (by omega))).widen (by omega) (by omega) (Nat.le_refl _)
  clear hs2 hsF hw2 hwF hbW hb1
  go_wp2
  rw [hW2.out, hWF.out]
  obtain ⟨q0, q1, q2, q3, _⟩ := bF.four
  exact bodyPost_ret (v := .agg #[.bool h, .int .i64 k, .slice pI ints.length dI, .slice pR refs.length dR]) (by simp [results, Tryd.results31, go_sem, q0, q1, q2, q3]) rfl ⟨⟨⟨h, ⟨k, ints, refs⟩⟩, pI, dI, pR, dR⟩, rfl, rfl, hoF, hbF⟩
end Go.Proofs.YtbaocehcnjdkkaaDoor

/- Rows of slots: their cells, what is owned of them, a slot stored. -/
namespace Go.Proofs.YtbaocehcnjdkkaaDoor
open Go.RowKit

/-- A result that lies in a box: it is read as the load reads it. -/
theorem results_one {P : Program} {fn : Func} {s : Nat} {ty : TypeId} {tmps : Array Value} {w : World} {v : Value} {ad : Addr} (hf : fn.results = #[.cell s ty]) (ht : tmps[s]?.getD undef = .pointer (some ad)) (hl : (loadVar ty ad).run P w = .ok v w) : (results fn tmps).run P w = .ok v w := by
  unfold results
  rw [hf]
  simp [ht, asAddr, hl]

def cellsS (ss : List SlotA) : List Value := ss.flatMap SlotA.cells
def zeroS : SlotA := ⟨⟨false, ⟨0, [], []⟩⟩, none, 0, none, 0⟩

theorem cells_len (s : SlotA) : s.cells.length = 4 := rfl
theorem cellsS_len (ss : List SlotA) : (cellsS ss).length = ss.length * 4 := by
  induction ss with
  | nil => rfl
  | cons s r ih => simp only [cellsS, List.flatMap_cons, List.length_append, cells_len, List.length_cons] at *; omega
theorem cellsS_app (a b : List SlotA) : cellsS (a ++ b) = cellsS a ++ cellsS b := by simp [cellsS]
theorem cellsS_at (ss : List SlotA) (k j : Nat) (hk : k < ss.length) (hj : j < 4) : (cellsS ss)[k * 4 + j]? = (ss.getD k zeroS).cells[j]? := by
  induction ss generalizing k with
  | nil => simp at hk
  | cons s r ih =>
    have e : cellsS (s :: r) = s.cells ++ cellsS r := by simp [cellsS]
    rw [e]
    cases k with
    | zero => rw [List.getElem?_append_left (by rw [cells_len]; omega)]; simp
    | succ k =>
      rw [List.getElem?_append_right (by rw [cells_len]; omega), cells_len]
      have := ih k (by simpa using hk)
      rw [show (k + 1) * 4 + j - 4 = k * 4 + j by omega, this]
      simp
theorem cellsS_set (ss : List SlotA) (k : Nat) (hk : k < ss.length) (t : SlotA) :
    ((((cellsS ss).set (k * 4) (.bool t.v.has)).set (k * 4 + 1) (.int .i64 t.v.o.kind)).set (k * 4 + 2) (.slice t.aI t.v.o.ints.length t.cI)).set (k * 4 + 3) (.slice t.aR t.v.o.refs.length t.cR) = cellsS (ss.set k t) := by
  induction ss generalizing k with
  | nil => simp at hk
  | cons s r ih =>
    cases k with
    | zero =>
      simp [cellsS, SlotA.cells]
    | succ k =>
      have := ih k (by simpa using hk)
      simp only [List.set_cons_succ]
      have e : cellsS (s :: r) = [.bool s.v.has, .int .i64 s.v.o.kind, .slice s.aI s.v.o.ints.length s.cI, .slice s.aR s.v.o.refs.length s.cR] ++ cellsS r := by simp [cellsS, SlotA.cells]
      have e2 : cellsS (s :: r.set k t) = [.bool s.v.has, .int .i64 s.v.o.kind, .slice s.aI s.v.o.ints.length s.cI, .slice s.aR s.v.o.refs.length s.cR] ++ cellsS (r.set k t) := by simp [cellsS, SlotA.cells]
      rw [e, e2, ← this]
      rw [show (k + 1) * 4 = k * 4 + 4 by omega]
      simp [List.set]

/-- The facts that a walk wants of slot k of a row of slots that lies in block B from cell o on. -/
theorem Box.slot {w : World} {B : Nat} {ss : List SlotA} {t : TypeId} (b : Box w B (cellsS ss) t) (k : Nat) (hk : k < ss.length) :
    w.cell? ⟨B, k * 4, none⟩ = some (.bool (ss.getD k zeroS).v.has) ∧ w.cell? ⟨B, k * 4 + 1, none⟩ = some (.int .i64 (ss.getD k zeroS).v.o.kind) ∧
    w.cell? ⟨B, k * 4 + 2, none⟩ = some (.slice (ss.getD k zeroS).aI (ss.getD k zeroS).v.o.ints.length (ss.getD k zeroS).cI) ∧ w.cell? ⟨B, k * 4 + 3, none⟩ = some (.slice (ss.getD k zeroS).aR (ss.getD k zeroS).v.o.refs.length (ss.getD k zeroS).cR) ∧
    (∀ i, w.frozen? ⟨B, i, none⟩ = false) :=
  ⟨b.cell _ _ (cellsS_at ss k 0 hk (by omega)), b.cell _ _ (cellsS_at ss k 1 hk (by omega)), b.cell _ _ (cellsS_at ss k 2 hk (by omega)), b.cell _ _ (cellsS_at ss k 3 hk (by omega)), fun i => b.frozen i⟩
theorem slot_fill {w : World} {B : Nat} {ss : List SlotA} {ty : TypeId} (b : Box w B (cellsS ss) ty) (k : Nat) (hk : k < ss.length) (t : SlotA) :
    ∃ W, Hid ((((w.setCell ⟨B, k * 4, none⟩ (.bool t.v.has)).setCell ⟨B, k * 4 + 1, none⟩ (.int .i64 t.v.o.kind)).setCell ⟨B, k * 4 + 2, none⟩ (.slice t.aI t.v.o.ints.length t.cI)).setCell ⟨B, k * 4 + 3, none⟩ (.slice t.aR t.v.o.refs.length t.cR) = W) ∧ Box W B (cellsS (ss.set k t)) ty ∧ Within B (B + 1) w W ∧ W.heap.size = w.heap.size := by
  refine ⟨_, rfl, ?_, ?_, ?_⟩
  · have := (((b.set (k * 4) (.bool t.v.has)).set (k * 4 + 1) (.int .i64 t.v.o.kind)).set (k * 4 + 2) (.slice t.aI t.v.o.ints.length t.cI)).set (k * 4 + 3) (.slice t.aR t.v.o.refs.length t.cR)
    rw [cellsS_set ss k hk t] at this
    exact this
  · exact (((within_set w B _ _ (by omega)).trans (within_set _ B _ _ (by omega))).trans (within_set _ B _ _ (by omega))).trans (within_set _ B _ _ (by omega))
  · simp

/-- The blocks that a slot's lists own. -/
def SlotA.blocks (s : SlotA) : List Nat := (Value.slice s.aI s.v.o.ints.length s.cI).ownBlock.toList ++ (Value.slice s.aR s.v.o.refs.length s.cR).ownBlock.toList
/-- The slots own their lists; no two of them share a row. -/
structure OwnS (w : World) (lo hi : Nat) (ss : List SlotA) : Prop where
  each : ∀ s ∈ ss, s.own w lo hi
  apart : (ss.flatMap SlotA.blocks).Nodup

theorem SlotA.blocks_lt {w : World} {lo hi : Nat} {s : SlotA} (h : s.own w lo hi) : ∀ k ∈ s.blocks, lo ≤ k ∧ k < hi := by
  intro k hk
  rcases List.mem_append.1 hk with h1 | h1
  · exact h.ints.lt k (Option.mem_toList.1 h1)
  · exact h.refs.lt k (Option.mem_toList.1 h1)
theorem SlotA.blocks_nodup {w : World} {lo hi : Nat} {s : SlotA} (h : s.own w lo hi) : s.blocks.Nodup := by
  unfold SlotA.blocks
  cases h1 : (Value.slice s.aI s.v.o.ints.length s.cI).ownBlock with
  | none => cases h2 : (Value.slice s.aR s.v.o.refs.length s.cR).ownBlock <;> simp
  | some a =>
    cases h2 : (Value.slice s.aR s.v.o.refs.length s.cR).ownBlock with
    | none => simp
    | some b =>
      have := h.apart a h1
      rw [h2] at this
      have hne : b ≠ a := fun e => this (by rw [e])
      simp [Ne.symm hne]
theorem OwnS.nil (w : World) (lo hi : Nat) : OwnS w lo hi [] := ⟨by simp, by simp⟩
theorem OwnS.below {w w' : World} {lo hi : Nat} {ss : List SlotA} (h : OwnS w lo hi ss) (hb : Below w.heap.size w w') : OwnS w' lo hi ss := ⟨fun s hs => (h.each s hs).below hb, h.apart⟩
theorem OwnS.within {w w' : World} {lo hi l r : Nat} {ss : List SlotA} (h : OwnS w lo hi ss) (hw : Within l r w w') (hd : hi ≤ l ∨ r ≤ lo) : OwnS w' lo hi ss := ⟨fun s hs => (h.each s hs).within hw hd, h.apart⟩
theorem OwnS.widen {w : World} {lo hi lo' hi' : Nat} {ss : List SlotA} (h : OwnS w lo hi ss) (h1 : lo' ≤ lo) (h2 : hi ≤ hi') (h3 : hi' ≤ w.heap.size) : OwnS w lo' hi' ss := ⟨fun s hs => (h.each s hs).widen h1 h2 h3, h.apart⟩
theorem OwnS.blocks_lt {w : World} {lo hi : Nat} {ss : List SlotA} (h : OwnS w lo hi ss) : ∀ k ∈ ss.flatMap SlotA.blocks, lo ≤ k ∧ k < hi := by
  intro k hk
  obtain ⟨s, hs, hk'⟩ := List.mem_flatMap.1 hk
  exact SlotA.blocks_lt (h.each s hs) k hk'
/-- One more, behind them. -/
theorem OwnS.snoc {w : World} {lo mid hi : Nat} {ss : List SlotA} {t : SlotA} (h : OwnS w lo mid ss) (ht : t.own w mid hi) (h1 : lo ≤ mid) (h2 : mid ≤ hi) (h3 : hi ≤ w.heap.size) : OwnS w lo hi (ss ++ [t]) := by
  refine ⟨fun s hs => ?_, ?_⟩
  · rcases List.mem_append.1 hs with h' | h'
    · exact (h.each s h').widen (Nat.le_refl _) h2 h3
    · obtain rfl := List.mem_singleton.1 h'
      exact OwnO.widen ht h1 (Nat.le_refl _) h3
  · rw [List.flatMap_append, List.nodup_append]
    refine ⟨h.apart, by simpa using SlotA.blocks_nodup ht, ?_⟩
    intro a ha b hb e
    have := (h.blocks_lt a ha).2
    have := (SlotA.blocks_lt ht b (by simpa using hb)).1
    omega
def ReadsS (w : World) (ss : List SlotA) : Prop := ∀ s ∈ ss, s.reads w
theorem OwnS.reads {w : World} {lo hi : Nat} {ss : List SlotA} (h : OwnS w lo hi ss) : ReadsS w ss := fun s hs => OwnO.reads (h.each s hs)
theorem ReadsS.below {w w' : World} {ss : List SlotA} (h : ReadsS w ss) (hb : Below w.heap.size w w') : ReadsS w' ss := fun s hs => ReadsO.below (h s hs) hb
end Go.Proofs.YtbaocehcnjdkkaaDoor

/- Plain mathematics of pages: when they are right, what their bytes are, that they come back of them, and of them alone. -/
namespace Go.Proofs.YtbaocehcnjdkkaaDoor
open Go.RowKit

/-- The lists of these slots are not beyond any machine. -/
def Fit (ss : List SlotA) : Prop := ∀ s ∈ ss, s.v.o.ints.length ≤ 1099511627776 ∧ s.v.o.refs.length ≤ 1099511627776

def noS : SlotV := ⟨false, noO⟩
def slotB (s : SlotV) : Bool := if s.has then okB s.o else (decide (s.o.kind = 0) && (decide (s.o.ints.length = 0) && decide (s.o.refs.length = 0)))
def okP (n : Int) (vs : List SlotV) : Bool := vs.all slotB && inB n 0 1000000
def putSlotOf (s : SlotV) : List Int := if s.has then putOf (putObjOf s.o).length ++ putObjOf s.o else putOf 0
def bodyOf (n : Int) (vs : List SlotV) : List Int := putOf n ++ vs.flatMap putSlotOf
def putPageOf (n : Int) (vs : List SlotV) : List Int := if okP n vs then frameOf (bodyOf n vs) else []

theorem slotB_has {s : SlotV} (h : s.has = true) : slotB s = okB s.o := by unfold slotB; rw [if_pos h]
theorem slotB_not {s : SlotV} (h : s.has = false) (hb : slotB s = true) : s = noS := by
  obtain ⟨b, k, i, r⟩ := s
  simp only at h
  subst h
  simp [slotB] at hb
  obtain ⟨rfl, rfl, rfl⟩ := hb
  rfl
theorem slotB_no : slotB noS = true := by rfl
theorem okB_no : okB noO = false := by rfl
theorem put_no : putObjOf noO = [] := by rfl
/-- One form for both: a slot that has nothing has no bytes, and that is told. -/
theorem putSlot_one {s : SlotV} (h : slotB s = true) : putSlotOf s = putOf (putObjOf s.o).length ++ putObjOf s.o := by
  unfold putSlotOf
  split
  · rfl
  · rename_i hh
    have e := slotB_not (by simpa using hh) h
    rw [e]
    simp [noS, put_no]

theorem putObj_len (o : ObjV) : (putObjOf o).length ≤ 1000 := by
  unfold putObjOf
  split
  · rename_i h
    obtain ⟨_, h5, h6, _, _⟩ := okB_bd h
    have h1 := putList_len o.ints
    have h2 := putList_len o.refs
    have h3 := (putOf_len o.kind).2
    rw [List.length_append, List.length_append]
    omega
  · simp
theorem putObj_byte (o : ObjV) : Bytes (putObjOf o) := by
  intro z hz
  unfold putObjOf at hz
  split at hz
  · simp only [putList, List.mem_append, List.mem_flatMap] at hz
    rcases hz with (h | h | ⟨x, _, h⟩) | h | ⟨x, _, h⟩ <;> exact putOf_byte _ z h
  · simp at hz
theorem putSlot_len (s : SlotV) : (putSlotOf s).length ≤ 1065 := by
  unfold putSlotOf
  have h1 := putObj_len s.o
  have h2 := (putOf_len ((putObjOf s.o).length : Int)).2
  have h3 := (putOf_len 0).2
  split
  · rw [List.length_append]; omega
  · omega
theorem putSlot_byte (s : SlotV) : Bytes (putSlotOf s) := by
  intro z hz
  unfold putSlotOf at hz
  split at hz
  · rcases List.mem_append.1 hz with h | h
    · exact putOf_byte _ z h
    · exact putObj_byte _ z h
  · exact putOf_byte _ z hz
theorem flatS_len (vs : List SlotV) : (vs.flatMap putSlotOf).length ≤ vs.length * 1065 := by
  induction vs with
  | nil => simp
  | cons s r ih => have := putSlot_len s; simp only [List.flatMap_cons, List.length_append, List.length_cons]; omega
theorem flatS_byte (vs : List SlotV) : Bytes (vs.flatMap putSlotOf) := by
  intro z hz
  obtain ⟨s, _, h⟩ := List.mem_flatMap.1 hz
  exact putSlot_byte s z h
theorem body_byte (n : Int) (vs : List SlotV) : Bytes (bodyOf n vs) := by
  intro z hz
  rcases List.mem_append.1 hz with h | h
  · exact putOf_byte _ z h
  · exact flatS_byte _ z h
theorem body_len (n : Int) (vs : List SlotV) : (bodyOf n vs).length ≤ 65 + vs.length * 1065 := by
  have h1 := (putOf_len n).2
  have h2 := flatS_len vs
  rw [bodyOf, List.length_append]; omega

/-- A frame comes back, alone. -/
theorem frame_back (y : List Int) (h : y.length ≤ 1000000) : unfOf (frameOf y) 0 = (y, ((frameOf y).length : Int), 0) := by
  have hc : clampI (y.length : Int) = y.length := by unfold clampI; rw [if_neg (by omega), if_neg (by omega)]
  have h4 : (four (crcOf y)).length = 4 := by simp [four, fourTo]
  have hg : getAt (frameOf y) 0 = some ((y.length : Int), (putOf y.length).length) := by
    have := back_int [] (y ++ four (crcOf y)) (y.length : Int)
    rw [hc] at this
    simpa [frameOf] using this
  have hl : (frameOf y).length = (putOf y.length).length + y.length + 4 := by simp only [frameOf, List.length_append, h4]
  have hd : (frameOf y).drop (putOf y.length).length = y ++ four (crcOf y) := by rw [frameOf, List.append_assoc, List.drop_left]
  have hd2 : (frameOf y).drop ((putOf y.length).length + y.length) = four (crcOf y) := by rw [frameOf, ← List.length_append, List.drop_left]
  rw [unf_good _ 0 y.length _ hg (by rw [hl]; omega) (by rw [hd, hd2, List.take_left, List.take_of_length_le (by omega)]), hd, List.take_left, hl]
  simp only [Prod.mk.injEq, true_and, and_true]
  omega
/-- What is a frame to its end is the frame of its body. -/
theorem frame_canon (zs : List Int) (hb : Bytes zs) (body : List Int) (h : unfOf zs 0 = (body, (zs.length : Int), 0)) : zs = frameOf body := by
  unfold unfOf at h
  cases hg : getAt zs 0 with
  | none =>
    rw [hg] at h
    simp only [Prod.mk.injEq] at h
    have h0 : zs = [] := List.length_eq_zero_iff.1 (by omega)
    subst h0
    exact absurd h.2.2 (by decide)
  | some r =>
    obtain ⟨n, q⟩ := r
    rw [hg] at h
    simp only at h
    obtain ⟨hd, h1, h2⟩ := getAt_canon zs hb 0 n q hg
    rw [List.drop_zero] at hd
    split at h
    · simp only [Prod.mk.injEq] at h; omega
    · split at h
      · simp only [Prod.mk.injEq] at h; omega
      · split at h
        · rename_i ha hb2 hc
          simp only [Prod.mk.injEq, and_true] at h
          obtain ⟨h3, h5⟩ := h
          obtain ⟨m, rfl⟩ : ∃ m : Nat, n = (m : Int) := ⟨n.toNat, by omega⟩
          rw [Int.toNat_natCast] at h3 hc
          have hbl : body.length = m := by rw [← h3, List.length_take, List.length_drop]; omega
          have hr : (zs.drop (q + m)).take 4 = zs.drop (q + m) := List.take_of_length_le (by rw [List.length_drop]; omega)
          rw [hr, h3] at hc
          unfold frameOf
          rw [hbl, ← hc, List.append_assoc]
          conv => lhs; rw [hd]
          congr 1
          rw [← h3, ← List.drop_drop, List.take_append_drop]
        · simp only [Prod.mk.injEq] at h; omega

/-- What a slot is at a place, and the place behind it. -/
def slotAt (zs : List Int) (p : Nat) : Option (SlotV × Nat) := match getAt zs (p : Int) with
  | none => none
  | some (n, q) => if n < 0 ∨ (zs.length : Int) - (q : Int) < n then none else
    if n = 0 then some (noS, q) else
    if (getPair ((zs.drop q).take n.toNat)).2 then some (⟨true, (getPair ((zs.drop q).take n.toNat)).1⟩, q + n.toNat) else none
def slotsAt (zs : List Int) : Nat → Nat → Option (List SlotV × Nat)
  | 0, p => some ([], p)
  | k + 1, p => match slotAt zs p with
    | none => none
    | some (s, q) => match slotsAt zs k q with
      | none => none
      | some (l, r) => some (s :: l, r)
def readP (zs : List Int) : Option (Int × List SlotV) := match getAt zs 0 with
  | none => none
  | some (n, p) => match slotsAt zs 4 p with
    | none => none
    | some (l, q) => if q = zs.length then some (n, l) else none

theorem getPair_true {zs : List Int} (h : (getPair zs).2 = true) : okB (getPair zs).1 = true ∧ putObjOf (getPair zs).1 = zs := by
  unfold getPair at h ⊢
  cases hg : getO zs with
  | none => rw [hg] at h; cases h
  | some o =>
    simp only
    refine ⟨getO_ok hg, ?_⟩
    unfold getO at hg
    split at hg
    · rename_i hh
      simp only [Option.some.injEq] at hg
      rw [← hg]; exact hh.2.2
    · cases hg
theorem getPair_put {o : ObjV} (h : okB o = true) : getPair (putObjOf o) = (o, true) := by unfold getPair; rw [getO_some h rfl]
theorem getPair_false {zs : List Int} (h : (getPair zs).2 = false) : (getPair zs).1 = noO := by
  unfold getPair at h ⊢
  cases hg : getO zs with
  | none => rfl
  | some o => rw [hg] at h; cases h

theorem slotAt_canon (zs : List Int) (hb : Bytes zs) (p : Nat) (s : SlotV) (q : Nat) (h : slotAt zs p = some (s, q)) : slotB s = true ∧ zs.drop p = putSlotOf s ++ zs.drop q ∧ q ≤ zs.length := by
  unfold slotAt at h
  cases hg : getAt zs (p : Int) with
  | none => rw [hg] at h; cases h
  | some r =>
    obtain ⟨n, q1⟩ := r
    rw [hg] at h
    simp only at h
    obtain ⟨hd, h1, h2⟩ := getAt_canon zs hb p n q1 hg
    split at h
    · cases h
    · split at h
      · rename_i hn
        simp only [Option.some.injEq, Prod.mk.injEq] at h
        obtain ⟨rfl, rfl⟩ := h
        subst hn
        exact ⟨slotB_no, by simpa [putSlotOf, noS] using hd, h2⟩
      · split at h
        · rename_i hn hz hp
          simp only [Option.some.injEq, Prod.mk.injEq] at h
          obtain ⟨rfl, rfl⟩ := h
          obtain ⟨g1, g2⟩ := getPair_true hp
          obtain ⟨m, rfl⟩ : ∃ m : Nat, n = (m : Int) := ⟨n.toNat, by omega⟩
          rw [Int.toNat_natCast] at *
          have hl : ((zs.drop q1).take m).length = m := by rw [List.length_take, List.length_drop]; omega
          refine ⟨by rw [slotB_has rfl]; exact g1, ?_, by omega⟩
          rw [hd]
          unfold putSlotOf
          rw [if_pos rfl]
          simp only
          rw [g2, hl, List.append_assoc]
          congr 1
          rw [← List.drop_drop, List.take_append_drop]
        · cases h
theorem slotsAt_canon (zs : List Int) (hb : Bytes zs) (k : Nat) : ∀ (p : Nat) (l : List SlotV) (q : Nat), slotsAt zs k p = some (l, q) → p ≤ zs.length → l.length = k ∧ zs.drop p = l.flatMap putSlotOf ++ zs.drop q ∧ q ≤ zs.length := by
  induction k with
  | zero =>
    intro p l q h hp
    simp only [slotsAt, Option.some.injEq, Prod.mk.injEq] at h
    obtain ⟨rfl, rfl⟩ := h
    exact ⟨rfl, by simp, hp⟩
  | succ k ih =>
    intro p l q h hp
    unfold slotsAt at h
    cases hg : slotAt zs p with
    | none => rw [hg] at h; cases h
    | some r =>
      obtain ⟨x, q1⟩ := r
      rw [hg] at h
      simp only at h
      obtain ⟨_, hd, h2⟩ := slotAt_canon zs hb p x q1 hg
      cases hn : slotsAt zs k q1 with
      | none => rw [hn] at h; cases h
      | some t =>
        obtain ⟨l1, q2⟩ := t
        rw [hn] at h
        simp only [Option.some.injEq, Prod.mk.injEq] at h
        obtain ⟨rfl, rfl⟩ := h
        obtain ⟨hl, hd2, h3⟩ := ih q1 l1 q2 hn h2
        exact ⟨by simp [hl], by rw [hd, hd2]; simp, h3⟩
theorem readP_canon (zs : List Int) (hb : Bytes zs) (n : Int) (l : List SlotV) (h : readP zs = some (n, l)) : zs = bodyOf n l ∧ l.length = 4 := by
  unfold readP at h
  cases hg : getAt zs 0 with
  | none => rw [hg] at h; cases h
  | some r =>
    obtain ⟨m, p⟩ := r
    rw [hg] at h
    simp only at h
    obtain ⟨hd, h1, h2⟩ := getAt_canon zs hb 0 m p hg
    rw [List.drop_zero] at hd
    cases hs : slotsAt zs 4 p with
    | none => rw [hs] at h; cases h
    | some t =>
      obtain ⟨l1, q⟩ := t
      rw [hs] at h
      simp only at h
      obtain ⟨hl, hd2, h3⟩ := slotsAt_canon zs hb 4 p l1 q hs h2
      split at h
      · rename_i hq
        simp only [Option.some.injEq, Prod.mk.injEq] at h
        obtain ⟨rfl, rfl⟩ := h
        refine ⟨?_, hl⟩
        conv => lhs; rw [hd, hd2, hq, List.drop_length]
        simp [bodyOf]
      · cases h

theorem slotAt_back (pre rest : List Int) (s : SlotV) (h : slotB s = true) : slotAt (pre ++ putSlotOf s ++ rest) pre.length = some (s, (pre ++ putSlotOf s).length) := by
  have hl := putObj_len s.o
  rw [putSlot_one h]
  have e : pre ++ (putOf (putObjOf s.o).length ++ putObjOf s.o) ++ rest = pre ++ putOf (putObjOf s.o).length ++ (putObjOf s.o ++ rest) := by simp
  have hn := getAt_back pre (putObjOf s.o ++ rest) ((putObjOf s.o).length : Int) (by omega)
  rw [← e] at hn
  unfold slotAt
  rw [hn]
  simp only
  have hd : (pre ++ (putOf (putObjOf s.o).length ++ putObjOf s.o) ++ rest).drop (pre ++ putOf (putObjOf s.o).length).length = putObjOf s.o ++ rest := by rw [e, List.drop_left]
  rw [if_neg (by simp only [List.length_append]; omega), hd, Int.toNat_natCast, List.take_left]
  cases hh : s.has with
  | false =>
    have es := slotB_not hh h
    have ep : putObjOf s.o = [] := by rw [es]; rfl
    rw [if_pos (by rw [ep]; rfl), ep, es]
    simp
  | true =>
    rw [slotB_has hh] at h
    have hp : 1 ≤ (putObjOf s.o).length := by
      have := (putOf_len s.o.kind).1
      rw [put_ok h, List.length_append, List.length_append]; omega
    rw [if_neg (by omega), getPair_put h]
    simp only [if_true]
    obtain ⟨b, o⟩ := s
    simp only at hh ⊢
    subst hh
    simp [Nat.add_assoc]
theorem slotsAt_back (l : List SlotV) : ∀ (pre rest : List Int), (∀ s ∈ l, slotB s = true) → slotsAt (pre ++ l.flatMap putSlotOf ++ rest) l.length pre.length = some (l, (pre ++ l.flatMap putSlotOf).length) := by
  induction l with
  | nil => intro pre rest _; simp [slotsAt]
  | cons z r ih =>
    intro pre rest h
    have hz := h z (by simp)
    have e : pre ++ (z :: r).flatMap putSlotOf ++ rest = (pre ++ putSlotOf z) ++ r.flatMap putSlotOf ++ rest := by simp
    have e2 : pre ++ (z :: r).flatMap putSlotOf ++ rest = pre ++ putSlotOf z ++ (r.flatMap putSlotOf ++ rest) := by simp
    rw [List.length_cons, slotsAt, e2, slotAt_back pre _ z hz]
    simp only
    rw [← e2, e, ih (pre ++ putSlotOf z) rest (fun y hy => h y (by simp [hy]))]
    simp
theorem okP_bd {n : Int} {l : List SlotV} (h : okP n l = true) : (∀ s ∈ l, slotB s = true) ∧ 0 ≤ n ∧ n ≤ 1000000 := by
  simp only [okP, Bool.and_eq_true, List.all_eq_true, inB, decide_eq_true_eq] at h
  exact ⟨h.1, h.2.1, h.2.2⟩
theorem readP_back (n : Int) (l : List SlotV) (h4 : l.length = 4) (h : okP n l = true) : readP (bodyOf n l) = some (n, l) := by
  obtain ⟨hs, h0, h1⟩ := okP_bd h
  have e0 : bodyOf n l = [] ++ putOf n ++ l.flatMap putSlotOf := by simp [bodyOf]
  have e1 : bodyOf n l = putOf n ++ l.flatMap putSlotOf ++ [] := by simp [bodyOf]
  have hg := getAt_back [] (l.flatMap putSlotOf) n (by omega)
  rw [← e0] at hg
  simp only [List.length_nil, List.nil_append, Int.natCast_zero] at hg
  have hsl := slotsAt_back l (putOf n) [] hs
  rw [← e1, h4] at hsl
  unfold readP
  rw [hg]
  simp only
  rw [hsl]
  simp only
  rw [if_pos (by simp [bodyOf])]

/-- What the model reads of a slot: the slot, and the reader behind it. -/
def nextSlotOf (zs : List Int) (s : Int × Bool) : SlotV × (Int × Bool) :=
  if (nextOf zs s).2.2 = true ∨ (nextOf zs s).1 = 0 then (noS, (nextOf zs s).2) else
  if (nextOf zs s).1 < 0 ∨ (zs.length : Int) - (nextOf zs s).2.1 < (nextOf zs s).1 then (noS, ((nextOf zs s).2.1, true)) else
  (⟨true, (getPair ((zs.drop (nextOf zs s).2.1.toNat).take (nextOf zs s).1.toNat)).1⟩, ((nextOf zs s).2.1 + (nextOf zs s).1, !(getPair ((zs.drop (nextOf zs s).2.1.toNat).take (nextOf zs s).1.toNat)).2))
def nextSlots (zs : List Int) : Nat → Int × Bool → List SlotV × (Int × Bool)
  | 0, s => ([], s)
  | k + 1, s => ((nextSlotOf zs s).1 :: (nextSlots zs k (nextSlotOf zs s).2).1, (nextSlots zs k (nextSlotOf zs s).2).2)
def readerP (zs : List Int) : (Int × List SlotV) × Bool :=
  (((nextOf zs (0, false)).1, (nextSlots zs 4 (nextOf zs (0, false)).2).1), (nextSlots zs 4 (nextOf zs (0, false)).2).2.2)

theorem nextSlot_back (pre rest : List Int) (s : SlotV) (h : slotB s = true) : nextSlotOf (pre ++ putSlotOf s ++ rest) ((pre.length : Int), false) = (s, (((pre ++ putSlotOf s).length : Int), false)) := by
  have hl := putObj_len s.o
  rw [putSlot_one h]
  have e : pre ++ (putOf (putObjOf s.o).length ++ putObjOf s.o) ++ rest = pre ++ putOf (putObjOf s.o).length ++ (putObjOf s.o ++ rest) := by simp
  have hn := next_back pre (putObjOf s.o ++ rest) ((putObjOf s.o).length : Int) (by omega)
  rw [← e] at hn
  have hd : (pre ++ (putOf (putObjOf s.o).length ++ putObjOf s.o) ++ rest).drop (pre ++ putOf (putObjOf s.o).length).length = putObjOf s.o ++ rest := by rw [e, List.drop_left]
  unfold nextSlotOf
  rw [hn]
  simp only [Int.toNat_natCast]
  rw [hd, List.take_left]
  cases hh : s.has with
  | false =>
    have es := slotB_not hh h
    have ep : putObjOf s.o = [] := by rw [es]; rfl
    rw [if_pos (by right; rw [ep]; rfl), ep, es]
    simp
  | true =>
    rw [slotB_has hh] at h
    have hp : 1 ≤ (putObjOf s.o).length := by
      have := (putOf_len s.o.kind).1
      rw [put_ok h, List.length_append, List.length_append]; omega
    rw [if_neg (fun hx => by rcases hx with hx | hx; exact absurd hx (by decide); omega), if_neg (by simp only [List.length_append]; omega), getPair_put h]
    obtain ⟨b, o⟩ := s
    simp only at hh ⊢
    subst hh
    simp
    omega
theorem nextSlots_back (l : List SlotV) : ∀ (pre rest : List Int), (∀ s ∈ l, slotB s = true) → nextSlots (pre ++ l.flatMap putSlotOf ++ rest) l.length ((pre.length : Int), false) = (l, (((pre ++ l.flatMap putSlotOf).length : Int), false)) := by
  induction l with
  | nil => intro pre rest _; simp [nextSlots]
  | cons z r ih =>
    intro pre rest h
    have hz := h z (by simp)
    have e : pre ++ (z :: r).flatMap putSlotOf ++ rest = (pre ++ putSlotOf z) ++ r.flatMap putSlotOf ++ rest := by simp
    have e2 : pre ++ (z :: r).flatMap putSlotOf ++ rest = pre ++ putSlotOf z ++ (r.flatMap putSlotOf ++ rest) := by simp
    rw [List.length_cons, nextSlots, e2, nextSlot_back pre _ z hz]
    simp only
    rw [← e2, e, ih (pre ++ putSlotOf z) rest (fun y hy => h y (by simp [hy]))]
    simp
theorem readerP_back (n : Int) (l : List SlotV) (h4 : l.length = 4) (h : okP n l = true) : readerP (bodyOf n l) = ((n, l), false) := by
  obtain ⟨hs, h0, h1⟩ := okP_bd h
  have e0 : bodyOf n l = [] ++ putOf n ++ l.flatMap putSlotOf := by simp [bodyOf]
  have e1 : bodyOf n l = putOf n ++ l.flatMap putSlotOf ++ [] := by simp [bodyOf]
  have hg := next_back [] (l.flatMap putSlotOf) n (by omega)
  rw [← e0] at hg
  simp only [List.length_nil, List.nil_append, Int.natCast_zero] at hg
  have hsl := nextSlots_back l (putOf n) [] hs
  rw [← e1, h4] at hsl
  unfold readerP
  rw [hg]
  simp only
  rw [hsl]
theorem nextSlots_len (zs : List Int) (k : Nat) : ∀ s, (nextSlots zs k s).1.length = k := by
  induction k with
  | zero => intro s; rfl
  | succ k ih => intro s; simp [nextSlots, ih]

/-- The page whose bytes these are, as the model finds it. -/
def getP (zs : List Int) : Option (Int × List SlotV) :=
  if (unfOf zs 0).2.2 = 0 ∧ (unfOf zs 0).2.1 = (zs.length : Int) ∧ (readerP (unfOf zs 0).1).2 = false ∧ okP (readerP (unfOf zs 0).1).1.1 (readerP (unfOf zs 0).1).1.2 = true ∧ putPageOf (readerP (unfOf zs 0).1).1.1 (readerP (unfOf zs 0).1).1.2 = zs
  then some (readerP (unfOf zs 0).1).1 else none
theorem putP_ok {n : Int} {l : List SlotV} (h : okP n l = true) : putPageOf n l = frameOf (bodyOf n l) := by unfold putPageOf; rw [if_pos h]
theorem unf_put {n : Int} {l : List SlotV} (h4 : l.length = 4) (h : okP n l = true) : unfOf (putPageOf n l) 0 = (bodyOf n l, ((putPageOf n l).length : Int), 0) := by
  rw [putP_ok h, frame_back _ (by have := body_len n l; omega)]
theorem getP_some {zs : List Int} {n : Int} {l : List SlotV} (h4 : l.length = 4) (h1 : okP n l = true) (h2 : putPageOf n l = zs) : getP zs = some (n, l) := by
  have hu := unf_put h4 h1
  rw [h2] at hu
  unfold getP
  rw [hu]
  simp only
  rw [readerP_back n l h4 h1]
  simp only
  rw [if_pos (by simp [h1, h2])]
theorem getP_none {zs : List Int} (h : ¬ ∃ n l, l.length = 4 ∧ okP n l = true ∧ putPageOf n l = zs) : getP zs = none := by
  unfold getP
  rw [if_neg]
  rintro ⟨_, _, _, h1, h2⟩
  exact h ⟨_, _, nextSlots_len _ 4 _, h1, h2⟩
theorem getP_ok {zs : List Int} {n : Int} {l : List SlotV} (h : getP zs = some (n, l)) : okP n l = true ∧ l.length = 4 ∧ putPageOf n l = zs := by
  unfold getP at h
  split at h
  · rename_i hh
    simp only [Option.some.injEq] at h
    have h1 : (readerP (unfOf zs 0).1).1.1 = n := by rw [h]
    have h2 : (readerP (unfOf zs 0).1).1.2 = l := by rw [h]
    rw [h1, h2] at hh
    exact ⟨hh.2.2.2.1, by rw [← h2]; exact nextSlots_len _ 4 _, hh.2.2.2.2⟩
  · cases h
def noP : Int × List SlotV := (0, [noS, noS, noS, noS])
def pairP (zs : List Int) : (Int × List SlotV) × Bool := match getP zs with
  | some x => (x, true)
  | none => (noP, false)
/-- The landed code finds the same. -/
theorem pairP_unf (zs : List Int) (h : ¬ ((unfOf zs 0).2.2 = 0 ∧ (unfOf zs 0).2.1 = (zs.length : Int))) : pairP zs = (noP, false) := by
  have : getP zs = none := by
    unfold getP
    rw [if_neg]
    rintro ⟨h1, h2, _⟩
    exact h ⟨h1, h2⟩
  unfold pairP; rw [this]
theorem pairP_none (zs : List Int) (h : readP (unfOf zs 0).1 = none) : pairP zs = (noP, false) := by
  have : getP zs = none := getP_none (by
    rintro ⟨n, l, h4, h1, h2⟩
    have hu := unf_put h4 h1
    rw [h2] at hu
    rw [hu] at h
    simp only at h
    rw [readP_back n l h4 h1] at h
    cases h)
  unfold pairP; rw [this]
theorem pairP_bad (zs : List Int) (n : Int) (l : List SlotV) (h : readP (unfOf zs 0).1 = some (n, l)) (hok : okP n l = false) : pairP zs = (noP, false) := by
  have : getP zs = none := getP_none (by
    rintro ⟨n', l', h4, h1, h2⟩
    have hu := unf_put h4 h1
    rw [h2] at hu
    rw [hu] at h
    simp only at h
    rw [readP_back n' l' h4 h1] at h
    simp only [Option.some.injEq, Prod.mk.injEq] at h
    obtain ⟨rfl, rfl⟩ := h
    rw [h1] at hok
    cases hok)
  unfold pairP; rw [this]
theorem pairP_some (zs : List Int) (hb : Bytes zs) (hu : (unfOf zs 0).2.2 = 0 ∧ (unfOf zs 0).2.1 = (zs.length : Int)) (n : Int) (l : List SlotV) (hbb : Bytes (unfOf zs 0).1) (h : readP (unfOf zs 0).1 = some (n, l)) (hok : okP n l = true) : pairP zs = ((n, l), true) := by
  obtain ⟨hc, h4⟩ := readP_canon _ hbb n l h
  have hz := frame_canon zs hb (unfOf zs 0).1 (by obtain ⟨e1, e2⟩ := hu; generalize unfOf zs 0 = U at *; obtain ⟨u1, u2, u3⟩ := U; simp only at *; rw [e1, e2])
  have : getP zs = some (n, l) := getP_some h4 hok (by rw [putP_ok hok, ← hc]; exact hz.symm)
  unfold pairP; rw [this]
theorem pairP_len (zs : List Int) (n : Int) (l : List SlotV) (ok : Bool) (h : pairP zs = ((n, l), ok)) : l.length = 4 ∧ ∀ s ∈ l, s.o.ints.length ≤ 5 ∧ s.o.refs.length ≤ 5 := by
  unfold pairP at h
  split at h
  · rename_i x hx
    have e : x = (n, l) := (Prod.mk.inj h).1
    subst e
    obtain ⟨h1, h4, _⟩ := getP_ok hx
    refine ⟨h4, fun s hs => ?_⟩
    have hb := (okP_bd h1).1 s hs
    cases hh : s.has with
    | true =>
      rw [slotB_has hh] at hb
      have := okB_bd hb
      exact ⟨this.2.1, this.2.2.1⟩
    | false =>
      rw [slotB_not hh hb]
      simp [noS, noO]
  · have e : noP = (n, l) := (Prod.mk.inj h).1
    have e2 : l = [noS, noS, noS, noS] := (Prod.mk.inj e).2.symm
    subst e2
    refine ⟨rfl, fun s hs => ?_⟩
    simp only [List.mem_cons, List.not_mem_nil, or_false] at hs
    rcases hs with rfl | rfl | rfl | rfl <;> simp [noS, noO]
end Go.Proofs.YtbaocehcnjdkkaaDoor

/- The walks of spec.l2SameInts, spec.l2Same and spec.SameObj. -/
namespace Go.Proofs.YtbaocehcnjdkkaaDoor
open Go.RowKit

theorem ne_at {xs ys : List Int} (j : Nat) (h : xs.getD j 0 ≠ ys.getD j 0) : decide (xs = ys) = false := by
  rw [decide_eq_false_iff_not]
  intro e
  exact h (by rw [e])
theorem ne_len {xs ys : List Int} (h : xs.length ≠ ys.length) : decide (xs = ys) = false := by
  rw [decide_eq_false_iff_not]
  intro e
  exact h (by rw [e])
theorem eq_all {xs ys : List Int} (hl : xs.length = ys.length) (h : ∀ t, t < xs.length → xs.getD t 0 = ys.getD t 0) : decide (xs = ys) = true := by
  rw [decide_eq_true_eq]
  apply List.ext_getElem hl
  intro i h1 h2
  have := h i h1
  simpa [List.getD, h1, h2] using this

set_option maxHeartbeats 400000 in
theorem l2SameInts_any (a b : Option Addr) (ca cb : Nat) (xs ys : List Int) (w : World) (ha : ReadsI w a xs) (hb : ReadsI w b ys) (hl : xs.length ≤ 1099511627776) (hl2 : ys.length ≤ 1099511627776) :
    Calls Tryd.prog 90 #[.slice a xs.length ca, .slice b ys.length cb] w fun e w' => e = .returned (.bool (decide (xs = ys))) ∧ ∃ n, w' = w.drewN n := by
  by_cases hle : xs.length = ys.length
  case neg =>
    have HE : Hid (_ = _) := ne_len hle
    have hle' : ((xs.length : Int) == (ys.length : Int)) = false := by simp; omega
    go_enter Tryd.func90, Tryd.ntmps90
    go_wp2
    go_ret
    exact ⟨ret_bool HE.out.symm, 0, rfl⟩
  case pos =>
  have HL : Hid (xs.length = ys.length) := hle
  have hle' : ((xs.length : Int) == (ys.length : Int)) = true := by simp; omega
  rcases ha.cases with rfl | ⟨b1, o1, rfl, hpos, hc1⟩
  · obtain rfl : ys = [] := List.length_eq_zero_iff.1 (by simpa using hle.symm)
    have HE : Hid (decide (([] : List Int) = []) = true) := by simp [Hid]
    clear hle hle' HL
    go_enter Tryd.func90, Tryd.ntmps90
    go_wp2
    refine wp_loop_rounds 1 ?_
    rw [rounds_succ]
    go_wp2
    go_ret
    exact ⟨ret_bool HE.out.symm, 0, rfl⟩
  · rcases hb.cases with rfl | ⟨b2, o2, rfl, _, hc2⟩
    · simp at hle; simp [hle] at hpos
    · clear hle
      go_enter Tryd.func90, Tryd.ntmps90
      go_wp2
      go_loopw [5] (fun i wr => ∃ k : Nat, k ≤ xs.length ∧ i = .int .i64 k ∧ Hid (∀ t, t < k → xs.getD t 0 = ys.getD t 0) ∧ ∃ n, wr = w.drewN n) (fun i _ => xs.length - (intOf i).toNat)
      case atStart => exact ⟨0, Nat.zero_le _, rfl, fun t ht => by omega, 0, rfl⟩
      case round =>
        obtain ⟨k, hk, rfl, hall, n, rfl⟩ := hrel
        by_cases hlt : k < xs.length
        · have h1 := hc1 k hlt
          have h2 := hc2 k (by have := HL.out; omega)
          have hlt2 : (k : Int) < (ys.length : Int) := by have := HL.out; omega
          clear hc1 hc2
          by_cases hz : xs.getD k 0 = ys.getD k 0
          · have HN : Hid (∀ t, t < k + 1 → xs.getD t 0 = ys.getD t 0) := by
              intro t ht
              by_cases e : t = k
              · rw [e]; exact hz
              · exact hall.out t (by omega)
            rw [← hz] at h2
            clear hz
            generalize xs.getD k 0 = z at *
            go_wp2
            go_quiet (fail)
            go_wp2
            go_roundw
            case rel => exact ⟨k + 1, by omega, by go_num, HN, _, rfl⟩
            case measure => simp [intOf]; omega
          · have HE : Hid (_ = _) := ne_at k hz
            have hzb : (xs.getD k 0 == ys.getD k 0) = false := by simpa using hz
            clear hz
            generalize xs.getD k 0 = z at *
            generalize ys.getD k 0 = y at *
            go_wp2
            go_quiet (fail)
            go_wp2
            go_ret
            exact ⟨ret_bool HE.out.symm, n + nq, by first | rfl | simp⟩
        · have HE : Hid (_ = _) := eq_all HL.out (fun t ht => hall.out t (by omega))
          go_wp2
          go_ret
          exact ⟨ret_bool HE.out.symm, n, rfl⟩

def sameO (a b : ObjV) : Bool := decide (a.kind = b.kind) && (decide (a.ints = b.ints) && decide (a.refs = b.refs))

set_option maxHeartbeats 1000000 in
set_option maxRecDepth 100000 in
theorem specSameObj_any (o p : ObjV) (aI : Option Addr) (cI : Nat) (aR : Option Addr) (cR : Nat) (bI : Option Addr) (dI : Nat) (bR : Option Addr) (dR : Nat) (w : World) (ha : ReadsO w aI cI aR cR o) (hb : ReadsO w bI dI bR dR p) (h1 : o.ints.length ≤ 1099511627776) (h2 : o.refs.length ≤ 1099511627776) (h3 : p.ints.length ≤ 1099511627776) (h4 : p.refs.length ≤ 1099511627776) :
    Calls Tryd.prog 52 #[.agg #[.int .i64 o.kind, .slice aI o.ints.length cI, .slice aR o.refs.length cR], .agg #[.int .i64 p.kind, .slice bI p.ints.length dI, .slice bR p.refs.length dR]] w fun e w' => e = .returned (.bool (sameO o p)) ∧ Below w.heap.size w w' := by
  obtain ⟨k, ints, refs⟩ := o
  obtain ⟨k', ints', refs'⟩ := p
  obtain ⟨haI, haR, _, _⟩ := ha
  obtain ⟨hbI, hbR, _, _⟩ := hb
  simp only at *
  obtain ⟨W, hW, b0, b1, hbW, hsW⟩ := boxes2 w [.int .i64 k, .slice aI ints.length cI, .slice aR refs.length cR] [.int .i64 k', .slice bI ints'.length dI, .slice bR refs'.length dR] 26 26
  by_cases hk : k = k'
  case neg =>
    have HE : Hid (sameO ⟨k, ints, refs⟩ ⟨k', ints', refs'⟩ = false) := by simp [Hid, sameO, hk]
    have hkb : (k == k') = false := by simpa using hk
    clear hk
    go_enter Tryd.func52, Tryd.ntmps52
    go_wp2
    go_ret
    exact ⟨ret_bool HE.out.symm, by rw [hW.out]; exact hbW⟩
  case pos =>
  subst hk
  have HE : Hid (sameO ⟨k, ints, refs⟩ ⟨k, ints', refs'⟩ = (decide (ints = ints') && decide (refs = refs'))) := by simp [Hid, sameO]
  go_enter Tryd.func52, Tryd.ntmps52
  go_wp2_with fail
  rw [hW.out]
  refine (l2SameInts_any aI bI cI dI ints ints' W (haI.below hbW) (hbI.below hbW) h1 h3).mono ?_
  rintro e w1 ⟨rfl, n1, rfl⟩
  have c0 := (b0.drewN n1).cell 2 _ rfl
  have c1 := (b1.drewN n1).cell 2 _ rfl
  have hb1 : Below w.heap.size w (W.drewN n1) := below_drewN hbW n1
  cases hd : decide (ints = ints') with
  | false =>
    rw [hd] at HE
    clear hd
    go_wp2
    go_ret
    exact ⟨ret_bool (by rw [HE.out]; rfl), hb1⟩
  | true =>
    rw [hd] at HE
    clear hd
    go_wp2_with fail
    refine (l2SameInts_any aR bR cR dR refs refs' (W.drewN n1) (haR.below hb1) (hbR.below hb1) h2 h4).mono ?_
    rintro e w2 ⟨rfl, n2, rfl⟩
    generalize decide (refs = refs') = D at *
    go_wp2
    go_ret
    exact ⟨ret_bool (by rw [HE.out]; rfl), below_drewN hbW (n1 + n2)⟩
end Go.Proofs.YtbaocehcnjdkkaaDoor

/- The walk of spec.l2Same. -/
namespace Go.Proofs.YtbaocehcnjdkkaaDoor
open Go.RowKit

set_option maxHeartbeats 400000 in
theorem l2Same_any (a b : Option Addr) (ca cb : Nat) (xs ys : List Int) (w : World) (ha : Reads w a xs) (hb : Reads w b ys) (hl : xs.length ≤ 1099511627776) (hl2 : ys.length ≤ 1099511627776) :
    Calls Tryd.prog 65 #[.slice a xs.length ca, .slice b ys.length cb] w fun e w' => e = .returned (.bool (decide (xs = ys))) ∧ ∃ n, w' = w.drewN n := by
  by_cases hle : xs.length = ys.length
  case neg =>
    have HE : Hid (_ = _) := ne_len hle
    have hle' : ((xs.length : Int) == (ys.length : Int)) = false := by simp; omega
    go_enter Tryd.func65, Tryd.ntmps65
    go_wp2
    go_ret
    exact ⟨ret_bool HE.out.symm, 0, rfl⟩
  case pos =>
  have HL : Hid (xs.length = ys.length) := hle
  have hle' : ((xs.length : Int) == (ys.length : Int)) = true := by simp; omega
  rcases ha.cases with rfl | ⟨b1, o1, rfl, hpos, hc1⟩
  · obtain rfl : ys = [] := List.length_eq_zero_iff.1 (by simpa using hle.symm)
    have HE : Hid (decide (([] : List Int) = []) = true) := by simp [Hid]
    clear hle hle' HL
    go_enter Tryd.func65, Tryd.ntmps65
    go_wp2
    refine wp_loop_rounds 1 ?_
    rw [rounds_succ]
    go_wp2
    go_ret
    exact ⟨ret_bool HE.out.symm, 0, rfl⟩
  · rcases hb.cases with rfl | ⟨b2, o2, rfl, _, hc2⟩
    · simp at hle; simp [hle] at hpos
    · clear hle
      go_enter Tryd.func65, Tryd.ntmps65
      go_wp2
      go_loopw [5] (fun i wr => ∃ k : Nat, k ≤ xs.length ∧ i = .int .i64 k ∧ Hid (∀ t, t < k → xs.getD t 0 = ys.getD t 0) ∧ ∃ n, wr = w.drewN n) (fun i _ => xs.length - (intOf i).toNat)
      case atStart => exact ⟨0, Nat.zero_le _, rfl, fun t ht => by omega, 0, rfl⟩
      case round =>
        obtain ⟨k, hk, rfl, hall, n, rfl⟩ := hrel
        by_cases hlt : k < xs.length
        · have h1 := hc1 k hlt
          have h2 := hc2 k (by have := HL.out; omega)
          have hlt2 : (k : Int) < (ys.length : Int) := by have := HL.out; omega
          clear hc1 hc2
          by_cases hz : xs.getD k 0 = ys.getD k 0
          · have HN : Hid (∀ t, t < k + 1 → xs.getD t 0 = ys.getD t 0) := by
              intro t ht
              by_cases e : t = k
              · rw [e]; exact hz
              · exact hall.out t (by omega)
            rw [← hz] at h2
            clear hz
            generalize xs.getD k 0 = z at *
            go_wp2
            go_quiet (fail)
            go_wp2
            go_roundw
            case rel => exact ⟨k + 1, by omega, by go_num, HN, _, rfl⟩
            case measure => simp [intOf]; omega
          · have HE : Hid (_ = _) := ne_at k hz
            have hzb : (xs.getD k 0 == ys.getD k 0) = false := by simpa using hz
            clear hz
            generalize xs.getD k 0 = z at *
            generalize ys.getD k 0 = y at *
            go_wp2
            go_quiet (fail)
            go_wp2
            go_ret
            exact ⟨ret_bool HE.out.symm, n + nq, by first | rfl | simp⟩
        · have HE : Hid (_ = _) := eq_all HL.out (fun t ht => hall.out t (by omega))
          go_wp2
          go_ret
          exact ⟨ret_bool HE.out.symm, n, rfl⟩

end Go.Proofs.YtbaocehcnjdkkaaDoor

/- The walk of spec.GetObj. -/
namespace Go.Proofs.YtbaocehcnjdkkaaDoor
open Go.RowKit

set_option maxHeartbeats 2000000 in
set_option maxRecDepth 100000 in
theorem specGetObj_any (a : Option Addr) (c : Nat) (zs : List Int) (w : World) (hr : Reads w a zs) (hl : zs.length ≤ 1099511627776) :
    Calls Tryd.prog 96 #[.slice a zs.length c] w fun e w' => ∃ aI cI aR cR o ok, e = .returned (.tuple #[.agg #[.int .i64 o.kind, .slice aI o.ints.length cI, .slice aR o.refs.length cR], .bool ok]) ∧ Hid (getPair zs = (o, ok)) ∧ OwnO w' w.heap.size w'.heap.size aI cI aR cR o ∧ Below w.heap.size w w' := by
  have HGR : Hid (_ = _) := getO_read zs
  have HRO : Hid (readO zs = (⟨(nextOf zs (0, false)).1, (listOf zs 5 (nextOf zs (0, false)).2).1, (listOf zs 5 (listOf zs 5 (nextOf zs (0, false)).2).2).1⟩, (listOf zs 5 (listOf zs 5 (nextOf zs (0, false)).2).2).2.2)) := rfl
  have HBR : Hid (zs ≠ [] → ∀ b off, a = some ⟨b, off, none⟩ → b ≠ w.heap.size + 1) := by
    intro hne b off ha
    obtain ⟨b', off', ha', hc⟩ := hr.2 hne
    rw [ha] at ha'
    cases ha'
    have := block_lt (hc 0 (List.length_pos_iff.2 hne))
    omega
  go_enter Tryd.func96, Tryd.ntmps96
  go_wp2_with fail
  obtain ⟨W, hW, bR, bB, bO, hbW, hsW⟩ := boxes3 w [.int .i64 0, .slice none 0 0, .slice none 0 0] [.slice a zs.length c, .int .i64 0, .bool false] [.int .i64 0, .slice none 0 0, .slice none 0 0] 26 86 26
  rw [hW.out]
  clear hW
  refine (l2Next_any (w.heap.size + 1) a c zs (0, false) W bB (hr.below hbW) (by omega)).mono ?_
  rintro e w1 ⟨⟨rfl, hb1⟩, hw1⟩
  generalize nextOf zs (0, false) = Y at *
  have hs1 := hw1.size
  have B1 : Below w.heap.size w w1 := hbW.trans (hw1.below (by omega) (by omega))
  have bO1 := bO.within hw1 (by omega)
  have bR1 := bR.within hw1 (by omega)
  have x10 := bO1.cell 0 _ rfl
  have f10 := bO1.frozen 0
  go_wp2_with fail
  obtain ⟨W2, hW2, bO2, hw2, hs2⟩ := box_set bO1 0 (.int .i64 Y.1)
  rw [hW2.out]
  clear hW2
  simp only [List.set] at bO2
  have rd2 : RdAt W2 (w.heap.size + 1) a c zs Y.2 := Box.within hb1 hw2 (by omega)
  have bR2 := bR1.within hw2 (by omega)
  have B2 : Below w.heap.size w W2 := B1.trans (hw2.below (by omega) (by omega))
  refine (l2List_any (w.heap.size + 1) a c zs Y.2 5 W2 rd2 (hr.below B2) (by omega) (by omega) HBR.out).mono ?_
  rintro e w3 ⟨aI, cI, L1, rfl, hn1, HL1, rd3, ho3, hw3⟩
  generalize listOf zs 5 Y.2 = Z1 at *
  have hs3 := hw3.size
  have B3 : Below w.heap.size w w3 := B2.trans (hw3.below (by omega) (by omega))
  have bO3 := bO2.within hw3 (by omega)
  have bR3 := bR2.within hw3 (by omega)
  have x31 := bO3.cell 1 _ rfl
  have f31 := bO3.frozen 1
  go_wp2_with fail
  obtain ⟨W4, hW4, bO4, hw4, hs4⟩ := box_set bO3 1 (.slice aI L1.length cI)
  rw [hW4.out]
  clear hW4
  simp only [List.set] at bO4
  have rd4 : RdAt W4 (w.heap.size + 1) a c zs Z1.2 := Box.within rd3 hw4 (by omega)
  have bR4 := bR3.within hw4 (by omega)
  have ho4 : OwnI W4 W2.heap.size w3.heap.size aI cI L1 := ho3.within hw4 (.inr (by omega))
  have B4 : Below w.heap.size w W4 := B3.trans (hw4.below (by omega) (by omega))
  refine (l2List_any (w.heap.size + 1) a c zs Z1.2 5 W4 rd4 (hr.below B4) (by omega) (by omega) HBR.out).mono ?_
  rintro e w5 ⟨aR, cR, L2, rfl, hn2, HL2, rd5, ho5, hw5⟩
  generalize listOf zs 5 Z1.2 = Z2 at *
  have hs5 := hw5.size
  have B5 : Below w.heap.size w w5 := B4.trans (hw5.below (by omega) (by omega))
  have bO5 := bO4.within hw5 (by omega)
  have bR5 := bR4.within hw5 (by omega)
  have ho45 : OwnI w5 W2.heap.size w3.heap.size aI cI L1 := ho4.within hw5 (.inr (by omega))
  have x52 := bO5.cell 2 _ rfl
  have f52 := bO5.frozen 2
  obtain ⟨W6, hW6, bO6, hw6, hs6⟩ := box_set bO5 2 (.slice aR L2.length cR)
  simp only [List.set] at bO6
  have rd6 : RdAt W6 (w.heap.size + 1) a c zs Z2.2 := Box.within rd5 hw6 (by omega)
  have bR6 := bR5.within hw6 (by omega)
  have ho46 : OwnI W6 W2.heap.size w3.heap.size aI cI L1 := ho45.within hw6 (.inr (by omega))
  have ho56 : OwnI W6 W4.heap.size w5.heap.size aR cR L2 := ho5.within hw6 (.inr (by omega))
  have B6 : Below w.heap.size w W6 := B5.trans (hw6.below (by omega) (by omega))
  have HO : Hid (readO zs = (⟨Y.1, L1, L2⟩, Z2.2.2)) := by rw [Hid, HRO.out, HL1.out, HL2.out]
  rw [HO.out] at HGR
  clear HRO HO HL1 HL2 rd2 rd3 rd4 rd5 bR1 bR2 bR3 bR4 bR5 bO1 bO2 bO3 bO4 B1 B2 B3 B4 ho3 ho4 ho5 ho45 bO bR bB hb1
  obtain ⟨k, sY⟩ := Y
  obtain ⟨lZ, p2, bd⟩ := Z2
  unfold RdAt at rd6
  simp only at *
  have r2 := rd6.cell 2 _ rfl
  have hB6 := bR6.lt
  have HPF : Hid (¬ (bd = false ∧ okB ⟨k, L1, L2⟩ = true ∧ putObjOf ⟨k, L1, L2⟩ = zs) → getPair zs = (noO, false)) := by
    intro h
    unfold getPair
    rw [HGR.out, if_neg h]
  have HPT : Hid (bd = false → okB ⟨k, L1, L2⟩ = true → putObjOf ⟨k, L1, L2⟩ = zs → getPair zs = (⟨k, L1, L2⟩, true)) := by
    intro h1 h2 h3
    unfold getPair
    rw [HGR.out, if_pos ⟨h1, h2, h3⟩]
  -- what is answered where it is none
  have fail : ∀ w', Below (w.heap.size + 1) W6 w' → Box w' w.heap.size [.int .i64 0, .slice none 0 0, .slice none 0 0] 26 := fun w' hh => bR6.below hh (by omega)
  have W6e := hW6.out
  cases bd with
  | true =>
    have HP : Hid (_ = _) := HPF.out (by simp)
    have g0 := bR6.cell 0 _ rfl
    have g1 := bR6.cell 1 _ rfl
    have g2 := bR6.cell 2 _ rfl
    have e0 := bR6.frozen 0
    have e1 := bR6.frozen 1
    have e2 := bR6.frozen 2
    have bF := ((bR6.set 0 (.int .i64 0)).set 1 (.slice none 0 0)).set 2 (.slice none 0 0)
    simp only [List.set] at bF
    have hwF : Within w.heap.size (w.heap.size + 1) W6 _ := ((within_set W6 w.heap.size 0 (.int .i64 0) (by omega)).trans (within_set _ w.heap.size 1 (.slice none 0 0) (by omega))).trans (within_set _ w.heap.size 2 (.slice none 0 0) (by omega))
    have HF : Hid (_ ∧ _ ∧ _ ∧ _) := ⟨bF.cell 0 _ rfl, bF.cell 1 _ rfl, bF.cell 2 _ rfl, hwF⟩
    clear bF hwF
    go_wp2
    obtain ⟨q0, q1, q2, hwF⟩ := HF.out
    generalize ((W6.setCell ⟨w.heap.size, 0, none⟩ (.int .i64 0)).setCell ⟨w.heap.size, 1, none⟩ (.slice none 0 0)).setCell ⟨w.heap.size, 2, none⟩ (.slice none 0 0) = WF at *
    refine bodyPost_ret (v := .tuple #[.agg #[.int .i64 0, .slice none 0 0, .slice none 0 0], .bool false]) (by simp [results, Tryd.results96, go_sem, q0, q1, q2]) rfl ⟨none, 0, none, 0, noO, false, rfl, HP.out, ⟨ownI_nil _ _ _ (Nat.le_refl _), ownI_nil _ _ _ (Nat.le_refl _), fun k hk => by cases hk⟩, B6.trans (hwF.below (Nat.le_refl _) (by omega))⟩
  | false =>
    have c0 := bO6.cell 0 _ rfl
    have c1 := bO6.cell 1 _ rfl
    have c2 := bO6.cell 2 _ rfl
    have hrO : ReadsO W6 aI cI aR cR ⟨k, L1, L2⟩ := ⟨ho46.reads, ho56.reads, ho46.nocap, ho56.nocap⟩
    have hok := specObjOk_any ⟨k, L1, L2⟩ aI cI aR cR W6 hrO (by simp only; omega) (by simp only; omega)
    go_wp2_with fail
    refine hok.mono ?_
    clear hok
    rintro e w7 ⟨rfl, hb7⟩
    have B7 : Below w.heap.size w w7 := B6.trans (hb7.mono (by omega))
    have bR7 := bR6.below hb7 (by omega)
    have bO7 := bO6.below hb7 bO6.lt
    have hs7 := hb7.size
    cases hB : okB ⟨k, L1, L2⟩ with
    | false =>
      have HP : Hid (_ = _) := HPF.out (by rw [hB]; simp)
      clear hB
      have g0 := (bR7).cell 0 _ rfl
      have g1 := (bR7).cell 1 _ rfl
      have g2 := (bR7).cell 2 _ rfl
      have e0 := (bR7).frozen 0
      have e1 := (bR7).frozen 1
      have e2 := (bR7).frozen 2
      have bF := (((bR7).set 0 (.int .i64 0)).set 1 (.slice none 0 0)).set 2 (.slice none 0 0)
      simp only [List.set] at bF
      have hwF : Within w.heap.size (w.heap.size + 1) w7 _ := ((within_set w7 w.heap.size 0 (.int .i64 0) (by omega)).trans (within_set _ w.heap.size 1 (.slice none 0 0) (by omega))).trans (within_set _ w.heap.size 2 (.slice none 0 0) (by omega))
      have HF : Hid (_ ∧ _ ∧ _ ∧ _) := ⟨bF.cell 0 _ rfl, bF.cell 1 _ rfl, bF.cell 2 _ rfl, hwF⟩
      clear bF hwF
      go_wp2
      obtain ⟨q0, q1, q2, hwF⟩ := HF.out
      generalize ((w7.setCell ⟨w.heap.size, 0, none⟩ (.int .i64 0)).setCell ⟨w.heap.size, 1, none⟩ (.slice none 0 0)).setCell ⟨w.heap.size, 2, none⟩ (.slice none 0 0) = WF at *
      refine bodyPost_ret (v := .tuple #[.agg #[.int .i64 0, .slice none 0 0, .slice none 0 0], .bool false]) (by simp [results, Tryd.results96, go_sem, q0, q1, q2]) rfl ⟨none, 0, none, 0, noO, false, rfl, HP.out, ⟨ownI_nil _ _ _ (Nat.le_refl _), ownI_nil _ _ _ (Nat.le_refl _), fun k hk => by cases hk⟩, (B7).trans (hwF.below (Nat.le_refl _) (by have := (B7).size; omega))⟩
    | true =>
      have HOK : Hid (_ = _) := hB
      clear hB
      have d0 := bO7.cell 0 _ rfl
      have d1 := bO7.cell 1 _ rfl
      have d2 := bO7.cell 2 _ rfl
      have hput := specPutObj_any ⟨k, L1, L2⟩ aI cI aR cR w7 (hrO.below hb7) (by simp only; omega) (by simp only; omega)
      go_wp2_with fail
      refine hput.mono ?_
      clear hput
      rintro e w8 ⟨a8, c8, y8, rfl, HY8, ho8, hb8⟩
      have B8 : Below w.heap.size w w8 := B7.trans (hb8.mono (by omega))
      have hs8 := hb8.size
      have hyl : y8.length ≤ 1000000 := by
        have h1 := putList_len L1
        have h2 := putList_len L2
        have h3 := (putOf_len k).2
        have h4 := put_ok HOK.out
        rw [HY8.out, h4, List.length_append, List.length_append]
        simp only
        omega
      have hsm := l2Same_any a8 a c8 c y8 zs w8 ho8.reads (hr.below B8) (by omega) hl
      go_wp2_with fail
      refine hsm.mono ?_
      clear hsm
      rintro e w9 ⟨rfl, n9, rfl⟩
      have B9 : Below w.heap.size w (w8.drewN n9) := below_drewN B8 n9
      have hb79 : Below w7.heap.size w7 (w8.drewN n9) := below_drewN hb8 n9
      have bR9 := bR7.below hb79 (by omega)
      have bO9 := bO7.below hb79 bO7.lt
      have ho49 := (ho46.below hb7).below hb79
      have ho59 := (ho56.below hb7).below hb79
      have hs9 : w7.heap.size ≤ (w8.drewN n9).heap.size := hb79.size
      have HD1 : Hid (decide (y8 = zs) = false → getPair zs = (noO, false)) := by
        intro h
        apply HPF.out
        rintro ⟨_, _, h3⟩
        rw [decide_eq_false_iff_not] at h
        exact h (HY8.out.trans h3)
      have HD2 : Hid (decide (y8 = zs) = true → getPair zs = (⟨k, L1, L2⟩, true)) := by
        intro h
        rw [decide_eq_true_eq] at h
        exact HPT.out (by first | rfl | trivial) HOK.out (HY8.out.symm.trans h)
      generalize w8.drewN n9 = w9 at *
      generalize decide (y8 = zs) = D at *
      cases D with
      | false =>
        have HP : Hid (_ = _) := HD1.out rfl
        have g0 := (bR9).cell 0 _ rfl
        have g1 := (bR9).cell 1 _ rfl
        have g2 := (bR9).cell 2 _ rfl
        have e0 := (bR9).frozen 0
        have e1 := (bR9).frozen 1
        have e2 := (bR9).frozen 2
        have bF := (((bR9).set 0 (.int .i64 0)).set 1 (.slice none 0 0)).set 2 (.slice none 0 0)
        simp only [List.set] at bF
        have hwF : Within w.heap.size (w.heap.size + 1) w9 _ := ((within_set w9 w.heap.size 0 (.int .i64 0) (by omega)).trans (within_set _ w.heap.size 1 (.slice none 0 0) (by omega))).trans (within_set _ w.heap.size 2 (.slice none 0 0) (by omega))
        have HF : Hid (_ ∧ _ ∧ _ ∧ _) := ⟨bF.cell 0 _ rfl, bF.cell 1 _ rfl, bF.cell 2 _ rfl, hwF⟩
        clear bF hwF
        go_wp2
        obtain ⟨q0, q1, q2, hwF⟩ := HF.out
        generalize ((w9.setCell ⟨w.heap.size, 0, none⟩ (.int .i64 0)).setCell ⟨w.heap.size, 1, none⟩ (.slice none 0 0)).setCell ⟨w.heap.size, 2, none⟩ (.slice none 0 0) = WF at *
        refine bodyPost_ret (v := .tuple #[.agg #[.int .i64 0, .slice none 0 0, .slice none 0 0], .bool false]) (by simp [results, Tryd.results96, go_sem, q0, q1, q2]) rfl ⟨none, 0, none, 0, noO, false, rfl, HP.out, ⟨ownI_nil _ _ _ (Nat.le_refl _), ownI_nil _ _ _ (Nat.le_refl _), fun k hk => by cases hk⟩, (B9).trans (hwF.below (Nat.le_refl _) (by have := (B9).size; omega))⟩
      | true =>
        have HP : Hid (_ = _) := HD2.out rfl
        have m0 := bO9.cell 0 _ rfl
        have m1 := bO9.cell 1 _ rfl
        have m2 := bO9.cell 2 _ rfl
        have g0 := (bR9).cell 0 _ rfl
        have g1 := (bR9).cell 1 _ rfl
        have g2 := (bR9).cell 2 _ rfl
        have e0 := (bR9).frozen 0
        have e1 := (bR9).frozen 1
        have e2 := (bR9).frozen 2
        have bF := (((bR9).set 0 (.int .i64 k)).set 1 (.slice aI L1.length cI)).set 2 (.slice aR L2.length cR)
        simp only [List.set] at bF
        have hwF : Within w.heap.size (w.heap.size + 1) w9 _ := ((within_set w9 w.heap.size 0 (.int .i64 k) (by omega)).trans (within_set _ w.heap.size 1 (.slice aI L1.length cI) (by omega))).trans (within_set _ w.heap.size 2 (.slice aR L2.length cR) (by omega))
        have HF : Hid (_ ∧ _ ∧ _ ∧ _) := ⟨bF.cell 0 _ rfl, bF.cell 1 _ rfl, bF.cell 2 _ rfl, hwF⟩
        clear bF hwF
        go_wp2
        obtain ⟨q0, q1, q2, hwF⟩ := HF.out
        generalize ((w9.setCell ⟨w.heap.size, 0, none⟩ (.int .i64 k)).setCell ⟨w.heap.size, 1, none⟩ (.slice aI L1.length cI)).setCell ⟨w.heap.size, 2, none⟩ (.slice aR L2.length cR) = WF at *
        have hsF := hwF.size
        refine bodyPost_ret (v := .tuple #[.agg #[.int .i64 k, .slice aI L1.length cI, .slice aR L2.length cR], .bool true]) (by simp [results, Tryd.results96, go_sem, q0, q1, q2]) rfl ⟨aI, cI, aR, cR, ⟨k, L1, L2⟩, true, rfl, HP.out, ⟨(ho49.within hwF (.inr (by omega))).widen (by omega) (by omega) (Nat.le_refl _), (ho59.within hwF (.inr (by omega))).widen (by omega) (by omega) (Nat.le_refl _), fun j hj hj' => by have := (ho46.lt j hj).2; have := (ho56.lt j hj').1; omega⟩, B9.trans (hwF.below (Nat.le_refl _) (by have := B9.size; omega))⟩
end Go.Proofs.YtbaocehcnjdkkaaDoor

/- The walk of impl.GetInt, and of the exact law of GetInt. -/
namespace Go.Proofs.YtbaocehcnjdkkaaDoor
open Go.RowKit

set_option maxHeartbeats 400000 in
theorem implGetInt_any (a : Option Addr) (c : Nat) (zs : List Int) (p : Int) (w : World) (hr : Reads w a zs) (hl : zs.length ≤ 70368744177664) (hcap : zs.length ≤ c) :
    Calls Tryd.prog 87 #[.slice a zs.length c, .int .i64 p] w fun e w' => e = .returned (triple (getAt zs p)) ∧ w' = w := by
  cases hg : getAt zs p with
  | some r =>
    obtain ⟨n, k⟩ := r
    have HS : Hid (scanOf zs p = _) := (show scanOf zs p = scanOk (n, k) from by unfold scanOf; rw [hg])
    clear hg
    go_enter Tryd.func87, Tryd.ntmps87
    go_wp2_with fail
    refine (scanInt_any a c zs p w hr hl hcap).mono ?_
    rintro e w' ⟨rfl, rfl⟩
    rw [HS.out]
    simp only [scanOk]
    go_wp2
    go_ret3
    exact ⟨rfl, rfl⟩
  | none =>
    have HS : Hid (scanOf zs p = _) := scan_none zs p hg _ rfl
    have hw : (scanWhy zs p == 0) = false := by unfold scanWhy; split <;> rfl
    clear hg
    generalize scanWhy zs p = y at *
    go_enter Tryd.func87, Tryd.ntmps87
    go_wp2_with fail
    refine (scanInt_any a c zs p w hr hl hcap).mono ?_
    rintro e w' ⟨rfl, rfl⟩
    rw [HS.out]
    go_wp2
    go_ret3
    exact ⟨rfl, rfl⟩
end Go.Proofs.YtbaocehcnjdkkaaDoor

/- A text of bytes. -/
namespace Go.Proofs.YtbaocehcnjdkkaaDoor
open Go.RowKit

def strOf (G : List Int) : ByteArray := ⟨(G.map fun z => UInt8.ofNat z.toNat).toArray⟩

theorem run_text (w : World) (b off cap : Nat) (G : List Int) (n : Nat) (hn : n = G.length) (hr : Reads w (some ⟨b, off, none⟩) G) :
    (convert 22 9 (.slice (some ⟨b, off, none⟩) n cap)).run Tryd.prog w = .ok (.string (strOf G)) w := by
  have h := run_convert_bytes_back (P := Tryd.prog) w 22 9 5 ⟨b, off, none⟩ cap (G.map fun z => UInt8.ofNat z.toNat) Tryd.underlying22 Tryd.underlying5 Tryd.underlying9 ?_
  · rw [List.length_map] at h
    rw [hn, h]
    rfl
  · intro j hj
    rw [List.length_map] at hj
    have hne : G ≠ [] := by intro e; simp [e] at hj
    obtain ⟨b', off', hh, hc⟩ := hr.2 hne
    cases hh
    have hadd : (⟨b, off, none⟩ : Addr).add j = ⟨b, off + j, none⟩ := by unfold Addr.add; split <;> simp_all
    rw [hadd, hc j hj]
    have hb := bytes_nat hr.1 j
    have hg : G.getD j 0 = G[j] := by simp [List.getD, hj]
    rw [hg] at hb
    simp only [List.getElem_map, hg]
    have : (UInt8.ofNat G[j].toNat).toNat = G[j].toNat := by simp; omega
    rw [this, ← hb.1]

theorem run_text_own {w : World} {base : Nat} {a : Option Addr} {c : Nat} {ys : List Int} (h : OwnB w base a c ys) :
    (convert 22 9 (.slice a ys.length c)).run Tryd.prog w = .ok (.string (strOf ys)) w := by
  cases a with
  | none =>
    have hn : ys = [] := by
      by_cases e : ys = []
      · exact e
      · obtain ⟨b, off, hh, _⟩ := h.reads.2 e
        cases hh
    subst hn
    exact Lib.run_convert_nil_bytes (P := Tryd.prog) w 22 9 5 c Tryd.underlying22 Tryd.underlying5 Tryd.underlying9
  | some x =>
    rcases h.2.2 with ⟨hv, _⟩ | ⟨g, cap, cur, hv, _⟩
    · simp at hv
    · simp only [Value.slice.injEq, Option.some.injEq] at hv
      obtain ⟨rfl, _, rfl⟩ := hv
      exact run_text w g 0 c ys _ rfl h.reads

end Go.Proofs.YtbaocehcnjdkkaaDoor
