/- Several texts in one, in their order. -/
import Derived.Test.YtbaocehcnjdkkaaDoorPart3
import Derived.Test.YtbaocehcnjdkkaaDoorPart1
import Derived.Test.YtbaocehcnjdkkaaDoorPart2
import Derived.Deep.MidRow
/- The walk of laws.toObj. -/
namespace Go.Proofs.YtbaocehcnjdkkaaDoor
open Go.RowKit

set_option maxHeartbeats 400000 in
set_option maxRecDepth 100000 in
theorem toObj_own (o : ObjV) (aI : Option Addr) (cI : Nat) (aR : Option Addr) (cR : Nat) (w : World) (hr : ReadsO w aI cI aR cR o) (hlI : o.ints.length ≤ 1099511627776) (hlR : o.refs.length ≤ 1099511627776) :
    Calls Tryd.prog 68 #[.agg #[.int .i64 o.kind, .slice aI o.ints.length cI, .slice aR o.refs.length cR]] w fun e w' => ∃ aI' cI' aR' cR', e = .returned (.agg #[.int .i64 o.kind, .slice aI' o.ints.length cI', .slice aR' o.refs.length cR']) ∧
      OwnO w' w.heap.size w'.heap.size aI' cI' aR' cR' o ∧ Below w.heap.size w w' := by
  obtain ⟨k, ints, refs⟩ := o
  obtain ⟨hI, hR, _, _⟩ := hr
  simp only at *
  go_enter Tryd.func68, Tryd.ntmps68
  go_wp2_with fail
  obtain ⟨W, hW, b0, b1, b2, hbW, hsW⟩ := boxes3 w [.int .i64 k, .slice aI ints.length cI, .slice aR refs.length cR] [.int .i64 0, .slice none 0 0, .slice none 0 0] [.int .i64 k, .slice none 0 0, .slice none 0 0] 42 26 26
  rw [hW.out]
  clear hW
  refine (toIntS_own aI cI ints W (hI.below hbW) hlI).mono ?_
  rintro e w1 ⟨a1, c1, rfl, ho1, hb1⟩
  have b0' := b0.below hb1 b0.lt
  have b1' := b1.below hb1 b1.lt
  have b2' := b2.below hb1 b2.lt
  have h02 := b0'.cell 2 _ rfl
  have h21 := b2'.cell 1 _ rfl
  have f21 := b2'.frozen 1
  go_wp2_with fail
  obtain ⟨W2, hW2, b2s, hw2, hs2⟩ := box_set b2' 1 (.slice a1 ints.length c1)
  rw [hW2.out]
  clear hW2
  have hWb : Below w.heap.size w W2 := (hbW.trans (hb1.mono (by omega))).trans (hw2.below (by omega) (by have := hb1.size; omega))
  have ho1' : OwnI W2 W.heap.size w1.heap.size a1 c1 ints := ho1.within hw2 (.inr (by omega))
  refine (toIntS_own aR cR refs W2 (hR.below hWb) hlR).mono ?_
  rintro e w3 ⟨a3, c3, rfl, ho3, hb3⟩
  have ho13 := ho1'.below hb3
  have b23 := b2s.below hb3 b2s.lt
  have b13 := (b1'.within hw2 (by omega)).below hb3 (by have := (b1'.within hw2 (by omega)).lt; exact this)
  simp only [List.set] at b23
  have g22 := b23.cell 2 _ rfl
  have e22 := b23.frozen 2
  have bS := b23.set 2 (.slice a3 refs.length c3)
  have bT := b13.other (C := w.heap.size + 1 + 1) (i := 2) (v := .slice a3 refs.length c3) (by omega)
  simp only [List.set] at bS
  have s0 := bS.cell 0 _ rfl
  have s1 := bS.cell 1 _ rfl
  have s2 := bS.cell 2 _ rfl
  have t0 := bT.cell 0 _ rfl
  have t1 := bT.cell 1 _ rfl
  have t2 := bT.cell 2 _ rfl
  have u0 := bT.frozen 0
  have u1 := bT.frozen 1
  have u2 := bT.frozen 2
  have bF := ((bT.set 0 (.int .i64 k)).set 1 (.slice a1 ints.length c1)).set 2 (.slice a3 refs.length c3)
  simp only [List.set] at bF
  have hwF : Within (w.heap.size + 1) (w.heap.size + 3) w3 _ := (((within_set w3 (w.heap.size + 1 + 1) 2 (.slice a3 refs.length c3) (by omega)).trans (within_set _ (w.heap.size + 1) 0 (.int .i64 k) (by omega))).trans (within_set _ (w.heap.size + 1) 1 (.slice a1 ints.length c1) (by omega))).trans (within_set _ (w.heap.size + 1) 2 (.slice a3 refs.length c3) (by omega))
  have HF : Hid (_ ∧ _ ∧ _ ∧ _) := ⟨bF.cell 0 _ rfl, bF.cell 1 _ rfl, bF.cell 2 _ rfl, hwF⟩
  clear bF hwF
  go_wp2
  obtain ⟨f0, f1, f2, hwF⟩ := HF.out
  generalize (((w3.setCell ⟨w.heap.size + 1 + 1, 2, none⟩ (.slice a3 refs.length c3)).setCell ⟨w.heap.size + 1, 0, none⟩ (.int .i64 k)).setCell ⟨w.heap.size + 1, 1, none⟩ (.slice a1 ints.length c1)).setCell ⟨w.heap.size + 1, 2, none⟩ (.slice a3 refs.length c3) = WF at *
  have hs3 := hb3.size
  have hs1 := hb1.size
  have hsF := hwF.size
  refine bodyPost_ret (v := .agg #[.int .i64 k, .slice a1 ints.length c1, .slice a3 refs.length c3]) (by simp [results, Tryd.results68, go_sem, f0, f1, f2]) rfl ⟨a1, c1, a3, c3, rfl, ⟨(ho13.within hwF (.inr (by omega))).widen (by omega) (by omega) (Nat.le_refl _), (ho3.within hwF (.inr (by omega))).widen (by omega) (by omega) (Nat.le_refl _), fun j hj hj' => by have := (ho1.lt j hj).2; have := (ho3.lt j hj').1; omega⟩, (hWb.trans (hb3.mono (by omega))).trans (hwF.below (by omega) (by omega))⟩
end Go.Proofs.YtbaocehcnjdkkaaDoor

/- A box of three cells, filled. -/
namespace Go.Proofs.YtbaocehcnjdkkaaDoor
open Go.RowKit

/-- The facts that a walk wants of a box of three cells. -/
theorem Box.three {w : World} {B : Nat} {x0 x1 x2 : Value} {t : TypeId} (b : Box w B [x0, x1, x2] t) :
    w.cell? ⟨B, 0, none⟩ = some x0 ∧ w.cell? ⟨B, 1, none⟩ = some x1 ∧ w.cell? ⟨B, 2, none⟩ = some x2 ∧ w.frozen? ⟨B, 0, none⟩ = false ∧ w.frozen? ⟨B, 1, none⟩ = false ∧ w.frozen? ⟨B, 2, none⟩ = false :=
  ⟨b.cell 0 _ rfl, b.cell 1 _ rfl, b.cell 2 _ rfl, b.frozen 0, b.frozen 1, b.frozen 2⟩

theorem box3_fill {w : World} {B : Nat} {x0 x1 x2 : Value} {t : TypeId} (b : Box w B [x0, x1, x2] t) (v0 v1 v2 : Value) :
    ∃ W, Hid (((w.setCell ⟨B, 0, none⟩ v0).setCell ⟨B, 1, none⟩ v1).setCell ⟨B, 2, none⟩ v2 = W) ∧ Box W B [v0, v1, v2] t ∧ Within B (B + 1) w W ∧ W.heap.size = w.heap.size := by
  refine ⟨_, rfl, ?_, ?_, ?_⟩
  · have := ((b.set 0 v0).set 1 v1).set 2 v2
    simpa only [List.set] using this
  · exact ((within_set w B 0 v0 (by omega)).trans (within_set _ B 1 v1 (by omega))).trans (within_set _ B 2 v2 (by omega))
  · simp
end Go.Proofs.YtbaocehcnjdkkaaDoor

/- Slots: what they are, what a walk reads and owns of them; the walk of laws.toSlot. -/
namespace Go.Proofs.YtbaocehcnjdkkaaDoor
open Go.RowKit

structure SlotV where
  has : Bool
  o : ObjV

/-- A slot, and where its object's lists lie. -/
structure SlotA where
  v : SlotV
  aI : Option Addr
  cI : Nat
  aR : Option Addr
  cR : Nat

def SlotA.cells (s : SlotA) : List Value := [.bool s.v.has, .int .i64 s.v.o.kind, .slice s.aI s.v.o.ints.length s.cI, .slice s.aR s.v.o.refs.length s.cR]
def SlotA.reads (w : World) (s : SlotA) : Prop := ReadsO w s.aI s.cI s.aR s.cR s.v.o
def SlotA.own (w : World) (lo hi : Nat) (s : SlotA) : Prop := OwnO w lo hi s.aI s.cI s.aR s.cR s.v.o

theorem Box.four {w : World} {B : Nat} {x0 x1 x2 x3 : Value} {t : TypeId} (b : Box w B [x0, x1, x2, x3] t) :
    w.cell? ⟨B, 0, none⟩ = some x0 ∧ w.cell? ⟨B, 1, none⟩ = some x1 ∧ w.cell? ⟨B, 2, none⟩ = some x2 ∧ w.cell? ⟨B, 3, none⟩ = some x3 ∧ w.frozen? ⟨B, 0, none⟩ = false ∧ w.frozen? ⟨B, 1, none⟩ = false ∧ w.frozen? ⟨B, 2, none⟩ = false ∧ w.frozen? ⟨B, 3, none⟩ = false :=
  ⟨b.cell 0 _ rfl, b.cell 1 _ rfl, b.cell 2 _ rfl, b.cell 3 _ rfl, b.frozen 0, b.frozen 1, b.frozen 2, b.frozen 3⟩
theorem box4_fill3 {w : World} {B : Nat} {x0 x1 x2 x3 : Value} {t : TypeId} (b : Box w B [x0, x1, x2, x3] t) (v1 v2 v3 : Value) :
    ∃ W, Hid (((w.setCell ⟨B, 1, none⟩ v1).setCell ⟨B, 2, none⟩ v2).setCell ⟨B, 3, none⟩ v3 = W) ∧ Box W B [x0, v1, v2, v3] t ∧ Within B (B + 1) w W ∧ W.heap.size = w.heap.size := by
  refine ⟨_, rfl, ?_, ?_, ?_⟩
  · have := ((b.set 1 v1).set 2 v2).set 3 v3
    simpa only [List.set] using this
  · exact ((within_set w B 1 v1 (by omega)).trans (within_set _ B 2 v2 (by omega))).trans (within_set _ B 3 v3 (by omega))
  · simp
theorem box4_fill {w : World} {B : Nat} {x0 x1 x2 x3 : Value} {t : TypeId} (b : Box w B [x0, x1, x2, x3] t) (v0 v1 v2 v3 : Value) :
    ∃ W, Hid ((((w.setCell ⟨B, 0, none⟩ v0).setCell ⟨B, 1, none⟩ v1).setCell ⟨B, 2, none⟩ v2).setCell ⟨B, 3, none⟩ v3 = W) ∧ Box W B [v0, v1, v2, v3] t ∧ Within B (B + 1) w W ∧ W.heap.size = w.heap.size := by
  refine ⟨_, rfl, ?_, ?_, ?_⟩
  · have := (((b.set 0 v0).set 1 v1).set 2 v2).set 3 v3
    simpa only [List.set] using this
  · exact (((within_set w B 0 v0 (by omega)).trans (within_set _ B 1 v1 (by omega))).trans (within_set _ B 2 v2 (by omega))).trans (within_set _ B 3 v3 (by omega))
  · simp

set_option maxHeartbeats 1000000 in
set_option maxRecDepth 100000 in
theorem toSlot_own (s : SlotA) (w : World) (hr : s.reads w) (hlI : s.v.o.ints.length ≤ 1099511627776) (hlR : s.v.o.refs.length ≤ 1099511627776) :
    Calls Tryd.prog 31 #[.agg s.cells.toArray] w fun e w' => ∃ t : SlotA, e = .returned (.agg t.cells.toArray) ∧ Hid (t.v = s.v) ∧ t.own w' w.heap.size w'.heap.size ∧ Below w.heap.size w w' := by
  obtain ⟨⟨h, ⟨k, ints, refs⟩⟩, aI, cI, aR, cR⟩ := s
  simp only [SlotA.cells, SlotA.reads, SlotA.own] at *
  obtain ⟨W, hW, b0, b1, b2, hbW, hsW⟩ := boxes3 w [.bool h, .int .i64 k, .slice aI ints.length cI, .slice aR refs.length cR] [.bool false, .int .i64 0, .slice none 0 0, .slice none 0 0] [.bool h, .int .i64 0, .slice none 0 0, .slice none 0 0] 44 28 28
  go_enter Tryd.func31, Tryd.ntmps31
  go_wp2_with fail
  rw [hW.out]
  clear hW
  have hs0 : w.heap.size + 1 + 1 < W.heap.size := by omega
  clear hsW
  refine (toObj_own ⟨k, ints, refs⟩ aI cI aR cR W (hr.below hbW) hlI hlR).mono ?_
  rintro e w1 ⟨pI, dI, pR, dR, rfl, ho1, hb1⟩
  simp only at *
  have hs1 := hb1.size
  have b11 := b1.below hb1 b1.lt
  have b21 := b2.below hb1 b2.lt
  obtain ⟨x0, x1, x2, x3, f0, f1, f2, f3⟩ := b21.four
  obtain ⟨y0, y1, y2, y3, g0, g1, g2, g3⟩ := b11.four
  obtain ⟨W2, hW2, b22, hw2, hs2⟩ := box4_fill3 b21 (.int .i64 k) (.slice pI ints.length dI) (.slice pR refs.length dR)
  have b12 : Box W2 (w.heap.size + 1) _ _ := b11.within hw2 (by omega)
  obtain ⟨WF, hWF, bF, hwF, hsF⟩ := box4_fill b12 (.bool h) (.int .i64 k) (.slice pI ints.length dI) (.slice pR refs.length dR)
  have hbF : Below w.heap.size w WF := ((hbW.trans (hb1.mono (by omega))).trans (hw2.below (by omega) (by omega))).trans (hwF.below (by omega) (by omega))
  have hoF : OwnO WF w.heap.size WF.heap.size pI dI pR dR ⟨k, ints, refs⟩ := ((ho1.within hw2 (.inr (by omega))).within hwF (.inr (by omega))).widen (by omega) (by omega) (Nat.le_refl _)
  clear hs2 hsF hw2 hwF hbW hb1
  go_wp2
  rw [hW2.out, hWF.out]
  obtain ⟨q0, q1, q2, q3, _⟩ := bF.four
  exact bodyPost_ret (v := .agg #[.bool h, .int .i64 k, .slice pI ints.length dI, .slice pR refs.length dR]) (by simp [results, Tryd.results31, go_sem, q0, q1, q2, q3]) rfl ⟨⟨⟨h, ⟨k, ints, refs⟩⟩, pI, dI, pR, dR⟩, rfl, rfl, hoF, hbF⟩
end Go.Proofs.YtbaocehcnjdkkaaDoor

/- Rows of slots: their cells, what is owned of them, a slot stored. -/
namespace Go.Proofs.YtbaocehcnjdkkaaDoor
open Go.RowKit

/-- A result that lies in a box: it is read as the load reads it. -/
theorem results_one {P : Program} {fn : Func} {s : Nat} {ty : TypeId} {tmps : Array Value} {w : World} {v : Value} {ad : Addr} (hf : fn.results = #[.cell s ty]) (ht : tmps[s]?.getD undef = .pointer (some ad)) (hl : (loadVar ty ad).run P w = .ok v w) : (results fn tmps).run P w = .ok v w := by
  unfold results
  rw [hf]
  simp [ht, asAddr, hl]

def cellsS (ss : List SlotA) : List Value := ss.flatMap SlotA.cells
def zeroS : SlotA := ⟨⟨false, ⟨0, [], []⟩⟩, none, 0, none, 0⟩

theorem cells_len (s : SlotA) : s.cells.length = 4 := rfl
theorem cellsS_len (ss : List SlotA) : (cellsS ss).length = ss.length * 4 := by
  induction ss with
  | nil => rfl
  | cons s r ih => simp only [cellsS, List.flatMap_cons, List.length_append, cells_len, List.length_cons] at *; omega
theorem cellsS_app (a b : List SlotA) : cellsS (a ++ b) = cellsS a ++ cellsS b := by simp [cellsS]
theorem cellsS_at (ss : List SlotA) (k j : Nat) (hk : k < ss.length) (hj : j < 4) : (cellsS ss)[k * 4 + j]? = (ss.getD k zeroS).cells[j]? := by
  induction ss generalizing k with
  | nil => simp at hk
  | cons s r ih =>
    have e : cellsS (s :: r) = s.cells ++ cellsS r := by simp [cellsS]
    rw [e]
    cases k with
    | zero => rw [List.getElem?_append_left (by rw [cells_len]; omega)]; simp
    | succ k =>
      rw [List.getElem?_append_right (by rw [cells_len]; omega), cells_len]
      have := ih k (by simpa using hk)
      rw [show (k + 1) * 4 + j - 4 = k * 4 + j by omega, this]
      simp
theorem cellsS_set (ss : List SlotA) (k : Nat) (hk : k < ss.length) (t : SlotA) :
    ((((cellsS ss).set (k * 4) (.bool t.v.has)).set (k * 4 + 1) (.int .i64 t.v.o.kind)).set (k * 4 + 2) (.slice t.aI t.v.o.ints.length t.cI)).set (k * 4 + 3) (.slice t.aR t.v.o.refs.length t.cR) = cellsS (ss.set k t) := by
  induction ss generalizing k with
  | nil => simp at hk
  | cons s r ih =>
    cases k with
    | zero =>
      simp [cellsS, SlotA.cells]
    | succ k =>
      have := ih k (by simpa using hk)
      simp only [List.set_cons_succ]
      have e : cellsS (s :: r) = [.bool s.v.has, .int .i64 s.v.o.kind, .slice s.aI s.v.o.ints.length s.cI, .slice s.aR s.v.o.refs.length s.cR] ++ cellsS r := by simp [cellsS, SlotA.cells]
      have e2 : cellsS (s :: r.set k t) = [.bool s.v.has, .int .i64 s.v.o.kind, .slice s.aI s.v.o.ints.length s.cI, .slice s.aR s.v.o.refs.length s.cR] ++ cellsS (r.set k t) := by simp [cellsS, SlotA.cells]
      rw [e, e2, ← this]
      rw [show (k + 1) * 4 = k * 4 + 4 by omega]
      simp [List.set]

/-- The facts that a walk wants of slot k of a row of slots that lies in block B from cell o on. -/
theorem Box.slot {w : World} {B : Nat} {ss : List SlotA} {t : TypeId} (b : Box w B (cellsS ss) t) (k : Nat) (hk : k < ss.length) :
    w.cell? ⟨B, k * 4, none⟩ = some (.bool (ss.getD k zeroS).v.has) ∧ w.cell? ⟨B, k * 4 + 1, none⟩ = some (.int .i64 (ss.getD k zeroS).v.o.kind) ∧
    w.cell? ⟨B, k * 4 + 2, none⟩ = some (.slice (ss.getD k zeroS).aI (ss.getD k zeroS).v.o.ints.length (ss.getD k zeroS).cI) ∧ w.cell? ⟨B, k * 4 + 3, none⟩ = some (.slice (ss.getD k zeroS).aR (ss.getD k zeroS).v.o.refs.length (ss.getD k zeroS).cR) ∧
    (∀ i, w.frozen? ⟨B, i, none⟩ = false) :=
  ⟨b.cell _ _ (cellsS_at ss k 0 hk (by omega)), b.cell _ _ (cellsS_at ss k 1 hk (by omega)), b.cell _ _ (cellsS_at ss k 2 hk (by omega)), b.cell _ _ (cellsS_at ss k 3 hk (by omega)), fun i => b.frozen i⟩
theorem slot_fill {w : World} {B : Nat} {ss : List SlotA} {ty : TypeId} (b : Box w B (cellsS ss) ty) (k : Nat) (hk : k < ss.length) (t : SlotA) :
    ∃ W, Hid ((((w.setCell ⟨B, k * 4, none⟩ (.bool t.v.has)).setCell ⟨B, k * 4 + 1, none⟩ (.int .i64 t.v.o.kind)).setCell ⟨B, k * 4 + 2, none⟩ (.slice t.aI t.v.o.ints.length t.cI)).setCell ⟨B, k * 4 + 3, none⟩ (.slice t.aR t.v.o.refs.length t.cR) = W) ∧ Box W B (cellsS (ss.set k t)) ty ∧ Within B (B + 1) w W ∧ W.heap.size = w.heap.size := by
  refine ⟨_, rfl, ?_, ?_, ?_⟩
  · have := (((b.set (k * 4) (.bool t.v.has)).set (k * 4 + 1) (.int .i64 t.v.o.kind)).set (k * 4 + 2) (.slice t.aI t.v.o.ints.length t.cI)).set (k * 4 + 3) (.slice t.aR t.v.o.refs.length t.cR)
    rw [cellsS_set ss k hk t] at this
    exact this
  · exact (((within_set w B _ _ (by omega)).trans (within_set _ B _ _ (by omega))).trans (within_set _ B _ _ (by omega))).trans (within_set _ B _ _ (by omega))
  · simp

/-- The blocks that a slot's lists own. -/
def SlotA.blocks (s : SlotA) : List Nat := (Value.slice s.aI s.v.o.ints.length s.cI).ownBlock.toList ++ (Value.slice s.aR s.v.o.refs.length s.cR).ownBlock.toList
/-- The slots own their lists; no two of them share a row. -/
structure OwnS (w : World) (lo hi : Nat) (ss : List SlotA) : Prop where
  each : ∀ s ∈ ss, s.own w lo hi
  apart : (ss.flatMap SlotA.blocks).Nodup

theorem SlotA.blocks_lt {w : World} {lo hi : Nat} {s : SlotA} (h : s.own w lo hi) : ∀ k ∈ s.blocks, lo ≤ k ∧ k < hi := by
  intro k hk
  rcases List.mem_append.1 hk with h1 | h1
  · exact h.ints.lt k (Option.mem_toList.1 h1)
  · exact h.refs.lt k (Option.mem_toList.1 h1)
theorem SlotA.blocks_nodup {w : World} {lo hi : Nat} {s : SlotA} (h : s.own w lo hi) : s.blocks.Nodup := by
  unfold SlotA.blocks
  cases h1 : (Value.slice s.aI s.v.o.ints.length s.cI).ownBlock with
  | none => cases h2 : (Value.slice s.aR s.v.o.refs.length s.cR).ownBlock <;> simp
  | some a =>
    cases h2 : (Value.slice s.aR s.v.o.refs.length s.cR).ownBlock with
    | none => simp
    | some b =>
      have := h.apart a h1
      rw [h2] at this
      have hne : b ≠ a := fun e => this (by rw [e])
      simp [Ne.symm hne]
theorem OwnS.nil (w : World) (lo hi : Nat) : OwnS w lo hi [] := ⟨by simp, by simp⟩
theorem OwnS.below {w w' : World} {lo hi : Nat} {ss : List SlotA} (h : OwnS w lo hi ss) (hb : Below w.heap.size w w') : OwnS w' lo hi ss := ⟨fun s hs => (h.each s hs).below hb, h.apart⟩
theorem OwnS.within {w w' : World} {lo hi l r : Nat} {ss : List SlotA} (h : OwnS w lo hi ss) (hw : Within l r w w') (hd : hi ≤ l ∨ r ≤ lo) : OwnS w' lo hi ss := ⟨fun s hs => (h.each s hs).within hw hd, h.apart⟩
theorem OwnS.widen {w : World} {lo hi lo' hi' : Nat} {ss : List SlotA} (h : OwnS w lo hi ss) (h1 : lo' ≤ lo) (h2 : hi ≤ hi') (h3 : hi' ≤ w.heap.size) : OwnS w lo' hi' ss := ⟨fun s hs => (h.each s hs).widen h1 h2 h3, h.apart⟩
theorem OwnS.blocks_lt {w : World} {lo hi : Nat} {ss : List SlotA} (h : OwnS w lo hi ss) : ∀ k ∈ ss.flatMap SlotA.blocks, lo ≤ k ∧ k < hi := by
  intro k hk
  obtain ⟨s, hs, hk'⟩ := List.mem_flatMap.1 hk
  exact SlotA.blocks_lt (h.each s hs) k hk'
/-- One more, behind them. -/
theorem OwnS.snoc {w : World} {lo mid hi : Nat} {ss : List SlotA} {t : SlotA} (h : OwnS w lo mid ss) (ht : t.own w mid hi) (h1 : lo ≤ mid) (h2 : mid ≤ hi) (h3 : hi ≤ w.heap.size) : OwnS w lo hi (ss ++ [t]) := by
  refine ⟨fun s hs => ?_, ?_⟩
  · rcases List.mem_append.1 hs with h' | h'
    · exact (h.each s h').widen (Nat.le_refl _) h2 h3
    · obtain rfl := List.mem_singleton.1 h'
      exact OwnO.widen ht h1 (Nat.le_refl _) h3
  · rw [List.flatMap_append, List.nodup_append]
    refine ⟨h.apart, by simpa using SlotA.blocks_nodup ht, ?_⟩
    intro a ha b hb e
    have := (h.blocks_lt a ha).2
    have := (SlotA.blocks_lt ht b (by simpa using hb)).1
    omega
def ReadsS (w : World) (ss : List SlotA) : Prop := ∀ s ∈ ss, s.reads w
theorem OwnS.reads {w : World} {lo hi : Nat} {ss : List SlotA} (h : OwnS w lo hi ss) : ReadsS w ss := fun s hs => OwnO.reads (h.each s hs)
theorem ReadsS.below {w w' : World} {ss : List SlotA} (h : ReadsS w ss) (hb : Below w.heap.size w w') : ReadsS w' ss := fun s hs => ReadsO.below (h s hs) hb
end Go.Proofs.YtbaocehcnjdkkaaDoor

/- Plain mathematics of pages: when they are right, what their bytes are, that they come back of them, and of them alone. -/
namespace Go.Proofs.YtbaocehcnjdkkaaDoor
open Go.RowKit

/-- The lists of these slots are not beyond any machine. -/
def Fit (ss : List SlotA) : Prop := ∀ s ∈ ss, s.v.o.ints.length ≤ 1099511627776 ∧ s.v.o.refs.length ≤ 1099511627776

def noS : SlotV := ⟨false, noO⟩
def slotB (s : SlotV) : Bool := if s.has then okB s.o else (decide (s.o.kind = 0) && (decide (s.o.ints.length = 0) && decide (s.o.refs.length = 0)))
def okP (n : Int) (vs : List SlotV) : Bool := vs.all slotB && inB n 0 1000000
def putSlotOf (s : SlotV) : List Int := if s.has then putOf (putObjOf s.o).length ++ putObjOf s.o else putOf 0
def bodyOf (n : Int) (vs : List SlotV) : List Int := putOf n ++ vs.flatMap putSlotOf
def putPageOf (n : Int) (vs : List SlotV) : List Int := if okP n vs then frameOf (bodyOf n vs) else []

theorem slotB_has {s : SlotV} (h : s.has = true) : slotB s = okB s.o := by unfold slotB; rw [if_pos h]
theorem slotB_not {s : SlotV} (h : s.has = false) (hb : slotB s = true) : s = noS := by
  obtain ⟨b, k, i, r⟩ := s
  simp only at h
  subst h
  simp [slotB] at hb
  obtain ⟨rfl, rfl, rfl⟩ := hb
  rfl
theorem slotB_no : slotB noS = true := by rfl
theorem okB_no : okB noO = false := by rfl
theorem put_no : putObjOf noO = [] := by rfl
/-- One form for both: a slot that has nothing has no bytes, and that is told. -/
theorem putSlot_one {s : SlotV} (h : slotB s = true) : putSlotOf s = putOf (putObjOf s.o).length ++ putObjOf s.o := by
  unfold putSlotOf
  split
  · rfl
  · rename_i hh
    have e := slotB_not (by simpa using hh) h
    rw [e]
    simp [noS, put_no]

theorem putObj_len (o : ObjV) : (putObjOf o).length ≤ 1000 := by
  unfold putObjOf
  split
  · rename_i h
    obtain ⟨_, h5, h6, _, _⟩ := okB_bd h
    have h1 := putList_len o.ints
    have h2 := putList_len o.refs
    have h3 := (putOf_len o.kind).2
    rw [List.length_append, List.length_append]
    omega
  · simp
theorem putObj_byte (o : ObjV) : Bytes (putObjOf o) := by
  intro z hz
  unfold putObjOf at hz
  split at hz
  · simp only [putList, List.mem_append, List.mem_flatMap] at hz
    rcases hz with (h | h | ⟨x, _, h⟩) | h | ⟨x, _, h⟩ <;> exact putOf_byte _ z h
  · simp at hz
theorem putSlot_len (s : SlotV) : (putSlotOf s).length ≤ 1065 := by
  unfold putSlotOf
  have h1 := putObj_len s.o
  have h2 := (putOf_len ((putObjOf s.o).length : Int)).2
  have h3 := (putOf_len 0).2
  split
  · rw [List.length_append]; omega
  · omega
theorem putSlot_byte (s : SlotV) : Bytes (putSlotOf s) := by
  intro z hz
  unfold putSlotOf at hz
  split at hz
  · rcases List.mem_append.1 hz with h | h
    · exact putOf_byte _ z h
    · exact putObj_byte _ z h
  · exact putOf_byte _ z hz
theorem flatS_len (vs : List SlotV) : (vs.flatMap putSlotOf).length ≤ vs.length * 1065 := by
  induction vs with
  | nil => simp
  | cons s r ih => have := putSlot_len s; simp only [List.flatMap_cons, List.length_append, List.length_cons]; omega
theorem flatS_byte (vs : List SlotV) : Bytes (vs.flatMap putSlotOf) := by
  intro z hz
  obtain ⟨s, _, h⟩ := List.mem_flatMap.1 hz
  exact putSlot_byte s z h
theorem body_byte (n : Int) (vs : List SlotV) : Bytes (bodyOf n vs) := by
  intro z hz
  rcases List.mem_append.1 hz with h | h
  · exact putOf_byte _ z h
  · exact flatS_byte _ z h
theorem body_len (n : Int) (vs : List SlotV) : (bodyOf n vs).length ≤ 65 + vs.length * 1065 := by
  have h1 := (putOf_len n).2
  have h2 := flatS_len vs
  rw [bodyOf, List.length_append]; omega

/-- A frame comes back, alone. -/
theorem frame_back (y : List Int) (h : y.length ≤ 1000000) : unfOf (frameOf y) 0 = (y, ((frameOf y).length : Int), 0) := by
  have hc : clampI (y.length : Int) = y.length := by unfold clampI; rw [if_neg (by omega), if_neg (by omega)]
  have h4 : (four (crcOf y)).length = 4 := by simp [four, fourTo]
  have hg : getAt (frameOf y) 0 = some ((y.length : Int), (putOf y.length).length) := by
    have := back_int [] (y ++ four (crcOf y)) (y.length : Int)
    rw [hc] at this
    simpa [frameOf] using this
  have hl : (frameOf y).length = (putOf y.length).length + y.length + 4 := by simp only [frameOf, List.length_append, h4]
  have hd : (frameOf y).drop (putOf y.length).length = y ++ four (crcOf y) := by rw [frameOf, List.append_assoc, List.drop_left]
  have hd2 : (frameOf y).drop ((putOf y.length).length + y.length) = four (crcOf y) := by rw [frameOf, ← List.length_append, List.drop_left]
  rw [unf_good _ 0 y.length _ hg (by rw [hl]; omega) (by rw [hd, hd2, List.take_left, List.take_of_length_le (by omega)]), hd, List.take_left, hl]
  simp only [Prod.mk.injEq, true_and, and_true]
  omega
/-- What is a frame to its end is the frame of its body. -/
theorem frame_canon (zs : List Int) (hb : Bytes zs) (body : List Int) (h : unfOf zs 0 = (body, (zs.length : Int), 0)) : zs = frameOf body := by
  unfold unfOf at h
  cases hg : getAt zs 0 with
  | none =>
    rw [hg] at h
    simp only [Prod.mk.injEq] at h
    have h0 : zs = [] := List.length_eq_zero_iff.1 (by omega)
    subst h0
    exact absurd h.2.2 (by decide)
  | some r =>
    obtain ⟨n, q⟩ := r
    rw [hg] at h
    simp only at h
    obtain ⟨hd, h1, h2⟩ := getAt_canon zs hb 0 n q hg
    rw [List.drop_zero] at hd
    split at h
    · simp only [Prod.mk.injEq] at h; omega
    · split at h
      · simp only [Prod.mk.injEq] at h; omega
      · split at h
        · rename_i ha hb2 hc
          simp only [Prod.mk.injEq, and_true] at h
          obtain ⟨h3, h5⟩ := h
          obtain ⟨m, rfl⟩ : ∃ m : Nat, n = (m : Int) := ⟨n.toNat, by omega⟩
          rw [Int.toNat_natCast] at h3 hc
          have hbl : body.length = m := by rw [← h3, List.length_take, List.length_drop]; omega
          have hr : (zs.drop (q + m)).take 4 = zs.drop (q + m) := List.take_of_length_le (by rw [List.length_drop]; omega)
          rw [hr, h3] at hc
          unfold frameOf
          rw [hbl, ← hc, List.append_assoc]
          conv => lhs; rw [hd]
          congr 1
          rw [← h3, ← List.drop_drop, List.take_append_drop]
        · simp only [Prod.mk.injEq] at h; omega

/-- What a slot is at a place, and the place behind it. -/
def slotAt (zs : List Int) (p : Nat) : Option (SlotV × Nat) := match getAt zs (p : Int) with
  | none => none
  | some (n, q) => if n < 0 ∨ (zs.length : Int) - (q : Int) < n then none else
    if n = 0 then some (noS, q) else
    if (getPair ((zs.drop q).take n.toNat)).2 then some (⟨true, (getPair ((zs.drop q).take n.toNat)).1⟩, q + n.toNat) else none
def slotsAt (zs : List Int) : Nat → Nat → Option (List SlotV × Nat)
  | 0, p => some ([], p)
  | k + 1, p => match slotAt zs p with
    | none => none
    | some (s, q) => match slotsAt zs k q with
      | none => none
      | some (l, r) => some (s :: l, r)
def readP (zs : List Int) : Option (Int × List SlotV) := match getAt zs 0 with
  | none => none
  | some (n, p) => match slotsAt zs 4 p with
    | none => none
    | some (l, q) => if q = zs.length then some (n, l) else none

theorem getPair_true {zs : List Int} (h : (getPair zs).2 = true) : okB (getPair zs).1 = true ∧ putObjOf (getPair zs).1 = zs := by
  unfold getPair at h ⊢
  cases hg : getO zs with
  | none => rw [hg] at h; cases h
  | some o =>
    simp only
    refine ⟨getO_ok hg, ?_⟩
    unfold getO at hg
    split at hg
    · rename_i hh
      simp only [Option.some.injEq] at hg
      rw [← hg]; exact hh.2.2
    · cases hg
theorem getPair_put {o : ObjV} (h : okB o = true) : getPair (putObjOf o) = (o, true) := by unfold getPair; rw [getO_some h rfl]
theorem getPair_false {zs : List Int} (h : (getPair zs).2 = false) : (getPair zs).1 = noO := by
  unfold getPair at h ⊢
  cases hg : getO zs with
  | none => rfl
  | some o => rw [hg] at h; cases h

theorem slotAt_canon (zs : List Int) (hb : Bytes zs) (p : Nat) (s : SlotV) (q : Nat) (h : slotAt zs p = some (s, q)) : slotB s = true ∧ zs.drop p = putSlotOf s ++ zs.drop q ∧ q ≤ zs.length := by
  unfold slotAt at h
  cases hg : getAt zs (p : Int) with
  | none => rw [hg] at h; cases h
  | some r =>
    obtain ⟨n, q1⟩ := r
    rw [hg] at h
    simp only at h
    obtain ⟨hd, h1, h2⟩ := getAt_canon zs hb p n q1 hg
    split at h
    · cases h
    · split at h
      · rename_i hn
        simp only [Option.some.injEq, Prod.mk.injEq] at h
        obtain ⟨rfl, rfl⟩ := h
        subst hn
        exact ⟨slotB_no, by simpa [putSlotOf, noS] using hd, h2⟩
      · split at h
        · rename_i hn hz hp
          simp only [Option.some.injEq, Prod.mk.injEq] at h
          obtain ⟨rfl, rfl⟩ := h
          obtain ⟨g1, g2⟩ := getPair_true hp
          obtain ⟨m, rfl⟩ : ∃ m : Nat, n = (m : Int) := ⟨n.toNat, by omega⟩
          rw [Int.toNat_natCast] at *
          have hl : ((zs.drop q1).take m).length = m := by rw [List.length_take, List.length_drop]; omega
          refine ⟨by rw [slotB_has rfl]; exact g1, ?_, by omega⟩
          rw [hd]
          unfold putSlotOf
          rw [if_pos rfl]
          simp only
          rw [g2, hl, List.append_assoc]
          congr 1
          rw [← List.drop_drop, List.take_append_drop]
        · cases h
theorem slotsAt_canon (zs : List Int) (hb : Bytes zs) (k : Nat) : ∀ (p : Nat) (l : List SlotV) (q : Nat), slotsAt zs k p = some (l, q) → p ≤ zs.length → l.length = k ∧ zs.drop p = l.flatMap putSlotOf ++ zs.drop q ∧ q ≤ zs.length := by
  induction k with
  | zero =>
    intro p l q h hp
    simp only [slotsAt, Option.some.injEq, Prod.mk.injEq] at h
    obtain ⟨rfl, rfl⟩ := h
    exact ⟨rfl, by simp, hp⟩
  | succ k ih =>
    intro p l q h hp
    unfold slotsAt at h
    cases hg : slotAt zs p with
    | none => rw [hg] at h; cases h
    | some r =>
      obtain ⟨x, q1⟩ := r
      rw [hg] at h
      simp only at h
      obtain ⟨_, hd, h2⟩ := slotAt_canon zs hb p x q1 hg
      cases hn : slotsAt zs k q1 with
      | none => rw [hn] at h; cases h
      | some t =>
        obtain ⟨l1, q2⟩ := t
        rw [hn] at h
        simp only [Option.some.injEq, Prod.mk.injEq] at h
        obtain ⟨rfl, rfl⟩ := h
        obtain ⟨hl, hd2, h3⟩ := ih q1 l1 q2 hn h2
        exact ⟨by simp [hl], by rw [hd, hd2]; simp, h3⟩
theorem readP_canon (zs : List Int) (hb : Bytes zs) (n : Int) (l : List SlotV) (h : readP zs = some (n, l)) : zs = bodyOf n l ∧ l.length = 4 := by
  unfold readP at h
  cases hg : getAt zs 0 with
  | none => rw [hg] at h; cases h
  | some r =>
    obtain ⟨m, p⟩ := r
    rw [hg] at h
    simp only at h
    obtain ⟨hd, h1, h2⟩ := getAt_canon zs hb 0 m p hg
    rw [List.drop_zero] at hd
    cases hs : slotsAt zs 4 p with
    | none => rw [hs] at h; cases h
    | some t =>
      obtain ⟨l1, q⟩ := t
      rw [hs] at h
      simp only at h
      obtain ⟨hl, hd2, h3⟩ := slotsAt_canon zs hb 4 p l1 q hs h2
      split at h
      · rename_i hq
        simp only [Option.some.injEq, Prod.mk.injEq] at h
        obtain ⟨rfl, rfl⟩ := h
        refine ⟨?_, hl⟩
        conv => lhs; rw [hd, hd2, hq, List.drop_length]
        simp [bodyOf]
      · cases h

theorem slotAt_back (pre rest : List Int) (s : SlotV) (h : slotB s = true) : slotAt (pre ++ putSlotOf s ++ rest) pre.length = some (s, (pre ++ putSlotOf s).length) := by
  have hl := putObj_len s.o
  rw [putSlot_one h]
  have e : pre ++ (putOf (putObjOf s.o).length ++ putObjOf s.o) ++ rest = pre ++ putOf (putObjOf s.o).length ++ (putObjOf s.o ++ rest) := by simp
  have hn := getAt_back pre (putObjOf s.o ++ rest) ((putObjOf s.o).length : Int) (by omega)
  rw [← e] at hn
  unfold slotAt
  rw [hn]
  simp only
  have hd : (pre ++ (putOf (putObjOf s.o).length ++ putObjOf s.o) ++ rest).drop (pre ++ putOf (putObjOf s.o).length).length = putObjOf s.o ++ rest := by rw [e, List.drop_left]
  rw [if_neg (by simp only [List.length_append]; omega), hd, Int.toNat_natCast, List.take_left]
  cases hh : s.has with
  | false =>
    have es := slotB_not hh h
    have ep : putObjOf s.o = [] := by rw [es]; rfl
    rw [if_pos (by rw [ep]; rfl), ep, es]
    simp
  | true =>
    rw [slotB_has hh] at h
    have hp : 1 ≤ (putObjOf s.o).length := by
      have := (putOf_len s.o.kind).1
      rw [put_ok h, List.length_append, List.length_append]; omega
    rw [if_neg (by omega), getPair_put h]
    simp only [if_true]
    obtain ⟨b, o⟩ := s
    simp only at hh ⊢
    subst hh
    simp [Nat.add_assoc]
theorem slotsAt_back (l : List SlotV) : ∀ (pre rest : List Int), (∀ s ∈ l, slotB s = true) → slotsAt (pre ++ l.flatMap putSlotOf ++ rest) l.length pre.length = some (l, (pre ++ l.flatMap putSlotOf).length) := by
  induction l with
  | nil => intro pre rest _; simp [slotsAt]
  | cons z r ih =>
    intro pre rest h
    have hz := h z (by simp)
    have e : pre ++ (z :: r).flatMap putSlotOf ++ rest = (pre ++ putSlotOf z) ++ r.flatMap putSlotOf ++ rest := by simp
    have e2 : pre ++ (z :: r).flatMap putSlotOf ++ rest = pre ++ putSlotOf z ++ (r.flatMap putSlotOf ++ rest) := by simp
    rw [List.length_cons, slotsAt, e2, slotAt_back pre _ z hz]
    simp only
    rw [← e2, e, ih (pre ++ putSlotOf z) rest (fun y hy => h y (by simp [hy]))]
    simp
theorem okP_bd {n : Int} {l : List SlotV} (h : okP n l = true) : (∀ s ∈ l, slotB s = true) ∧ 0 ≤ n ∧ n ≤ 1000000 := by
  simp only [okP, Bool.and_eq_true, List.all_eq_true, inB, decide_eq_true_eq] at h
  exact ⟨h.1, h.2.1, h.2.2⟩
theorem readP_back (n : Int) (l : List SlotV) (h4 : l.length = 4) (h : okP n l = true) : readP (bodyOf n l) = some (n, l) := by
  obtain ⟨hs, h0, h1⟩ := okP_bd h
  have e0 : bodyOf n l = [] ++ putOf n ++ l.flatMap putSlotOf := by simp [bodyOf]
  have e1 : bodyOf n l = putOf n ++ l.flatMap putSlotOf ++ [] := by simp [bodyOf]
  have hg := getAt_back [] (l.flatMap putSlotOf) n (by omega)
  rw [← e0] at hg
  simp only [List.length_nil, List.nil_append, Int.natCast_zero] at hg
  have hsl := slotsAt_back l (putOf n) [] hs
  rw [← e1, h4] at hsl
  unfold readP
  rw [hg]
  simp only
  rw [hsl]
  simp only
  rw [if_pos (by simp [bodyOf])]

/-- What the model reads of a slot: the slot, and the reader behind it. -/
def nextSlotOf (zs : List Int) (s : Int × Bool) : SlotV × (Int × Bool) :=
  if (nextOf zs s).2.2 = true ∨ (nextOf zs s).1 = 0 then (noS, (nextOf zs s).2) else
  if (nextOf zs s).1 < 0 ∨ (zs.length : Int) - (nextOf zs s).2.1 < (nextOf zs s).1 then (noS, ((nextOf zs s).2.1, true)) else
  (⟨true, (getPair ((zs.drop (nextOf zs s).2.1.toNat).take (nextOf zs s).1.toNat)).1⟩, ((nextOf zs s).2.1 + (nextOf zs s).1, !(getPair ((zs.drop (nextOf zs s).2.1.toNat).take (nextOf zs s).1.toNat)).2))
def nextSlots (zs : List Int) : Nat → Int × Bool → List SlotV × (Int × Bool)
  | 0, s => ([], s)
  | k + 1, s => ((nextSlotOf zs s).1 :: (nextSlots zs k (nextSlotOf zs s).2).1, (nextSlots zs k (nextSlotOf zs s).2).2)
def readerP (zs : List Int) : (Int × List SlotV) × Bool :=
  (((nextOf zs (0, false)).1, (nextSlots zs 4 (nextOf zs (0, false)).2).1), (nextSlots zs 4 (nextOf zs (0, false)).2).2.2)

theorem nextSlot_back (pre rest : List Int) (s : SlotV) (h : slotB s = true) : nextSlotOf (pre ++ putSlotOf s ++ rest) ((pre.length : Int), false) = (s, (((pre ++ putSlotOf s).length : Int), false)) := by
  have hl := putObj_len s.o
  rw [putSlot_one h]
  have e : pre ++ (putOf (putObjOf s.o).length ++ putObjOf s.o) ++ rest = pre ++ putOf (putObjOf s.o).length ++ (putObjOf s.o ++ rest) := by simp
  have hn := next_back pre (putObjOf s.o ++ rest) ((putObjOf s.o).length : Int) (by omega)
  rw [← e] at hn
  have hd : (pre ++ (putOf (putObjOf s.o).length ++ putObjOf s.o) ++ rest).drop (pre ++ putOf (putObjOf s.o).length).length = putObjOf s.o ++ rest := by rw [e, List.drop_left]
  unfold nextSlotOf
  rw [hn]
  simp only [Int.toNat_natCast]
  rw [hd, List.take_left]
  cases hh : s.has with
  | false =>
    have es := slotB_not hh h
    have ep : putObjOf s.o = [] := by rw [es]; rfl
    rw [if_pos (by right; rw [ep]; rfl), ep, es]
    simp
  | true =>
    rw [slotB_has hh] at h
    have hp : 1 ≤ (putObjOf s.o).length := by
      have := (putOf_len s.o.kind).1
      rw [put_ok h, List.length_append, List.length_append]; omega
    rw [if_neg (fun hx => by rcases hx with hx | hx; exact absurd hx (by decide); omega), if_neg (by simp only [List.length_append]; omega), getPair_put h]
    obtain ⟨b, o⟩ := s
    simp only at hh ⊢
    subst hh
    simp
    omega
theorem nextSlots_back (l : List SlotV) : ∀ (pre rest : List Int), (∀ s ∈ l, slotB s = true) → nextSlots (pre ++ l.flatMap putSlotOf ++ rest) l.length ((pre.length : Int), false) = (l, (((pre ++ l.flatMap putSlotOf).length : Int), false)) := by
  induction l with
  | nil => intro pre rest _; simp [nextSlots]
  | cons z r ih =>
    intro pre rest h
    have hz := h z (by simp)
    have e : pre ++ (z :: r).flatMap putSlotOf ++ rest = (pre ++ putSlotOf z) ++ r.flatMap putSlotOf ++ rest := by simp
    have e2 : pre ++ (z :: r).flatMap putSlotOf ++ rest = pre ++ putSlotOf z ++ (r.flatMap putSlotOf ++ rest) := by simp
    rw [List.length_cons, nextSlots, e2, nextSlot_back pre _ z hz]
    simp only
    rw [← e2, e, ih (pre ++ putSlotOf z) rest (fun y hy => h y (by simp [hy]))]
    simp
theorem readerP_back (n : Int) (l : List SlotV) (h4 : l.length = 4) (h : okP n l = true) : readerP (bodyOf n l) = ((n, l), false) := by
  obtain ⟨hs, h0, h1⟩ := okP_bd h
  have e0 : bodyOf n l = [] ++ putOf n ++ l.flatMap putSlotOf := by simp [bodyOf]
  have e1 : bodyOf n l = putOf n ++ l.flatMap putSlotOf ++ [] := by simp [bodyOf]
  have hg := next_back [] (l.flatMap putSlotOf) n (by omega)
  rw [← e0] at hg
  simp only [List.length_nil, List.nil_append, Int.natCast_zero] at hg
  have hsl := nextSlots_back l (putOf n) [] hs
  rw [← e1, h4] at hsl
  unfold readerP
  rw [hg]
  simp only
  rw [hsl]
theorem nextSlots_len (zs : List Int) (k : Nat) : ∀ s, (nextSlots zs k s).1.length = k := by
  induction k with
  | zero => intro s; rfl
  | succ k ih => intro s; simp [nextSlots, ih]

/-- The page whose bytes these are, as the model finds it. -/
def getP (zs : List Int) : Option (Int × List SlotV) :=
  if (unfOf zs 0).2.2 = 0 ∧ (unfOf zs 0).2.1 = (zs.length : Int) ∧ (readerP (unfOf zs 0).1).2 = false ∧ okP (readerP (unfOf zs 0).1).1.1 (readerP (unfOf zs 0).1).1.2 = true ∧ putPageOf (readerP (unfOf zs 0).1).1.1 (readerP (unfOf zs 0).1).1.2 = zs
  then some (readerP (unfOf zs 0).1).1 else none
theorem putP_ok {n : Int} {l : List SlotV} (h : okP n l = true) : putPageOf n l = frameOf (bodyOf n l) := by unfold putPageOf; rw [if_pos h]
theorem unf_put {n : Int} {l : List SlotV} (h4 : l.length = 4) (h : okP n l = true) : unfOf (putPageOf n l) 0 = (bodyOf n l, ((putPageOf n l).length : Int), 0) := by
  rw [putP_ok h, frame_back _ (by have := body_len n l; omega)]
theorem getP_some {zs : List Int} {n : Int} {l : List SlotV} (h4 : l.length = 4) (h1 : okP n l = true) (h2 : putPageOf n l = zs) : getP zs = some (n, l) := by
  have hu := unf_put h4 h1
  rw [h2] at hu
  unfold getP
  rw [hu]
  simp only
  rw [readerP_back n l h4 h1]
  simp only
  rw [if_pos (by simp [h1, h2])]
theorem getP_none {zs : List Int} (h : ¬ ∃ n l, l.length = 4 ∧ okP n l = true ∧ putPageOf n l = zs) : getP zs = none := by
  unfold getP
  rw [if_neg]
  rintro ⟨_, _, _, h1, h2⟩
  exact h ⟨_, _, nextSlots_len _ 4 _, h1, h2⟩
theorem getP_ok {zs : List Int} {n : Int} {l : List SlotV} (h : getP zs = some (n, l)) : okP n l = true ∧ l.length = 4 ∧ putPageOf n l = zs := by
  unfold getP at h
  split at h
  · rename_i hh
    simp only [Option.some.injEq] at h
    have h1 : (readerP (unfOf zs 0).1).1.1 = n := by rw [h]
    have h2 : (readerP (unfOf zs 0).1).1.2 = l := by rw [h]
    rw [h1, h2] at hh
    exact ⟨hh.2.2.2.1, by rw [← h2]; exact nextSlots_len _ 4 _, hh.2.2.2.2⟩
  · cases h
def noP : Int × List SlotV := (0, [noS, noS, noS, noS])
def pairP (zs : List Int) : (Int × List SlotV) × Bool := match getP zs with
  | some x => (x, true)
  | none => (noP, false)
/-- The landed code finds the same. -/
theorem pairP_unf (zs : List Int) (h : ¬ ((unfOf zs 0).2.2 = 0 ∧ (unfOf zs 0).2.1 = (zs.length : Int))) : pairP zs = (noP, false) := by
  have : getP zs = none := by
    unfold getP
    rw [if_neg]
    rintro ⟨h1, h2, _⟩
    exact h ⟨h1, h2⟩
  unfold pairP; rw [this]
theorem pairP_none (zs : List Int) (h : readP (unfOf zs 0).1 = none) : pairP zs = (noP, false) := by
  have : getP zs = none := getP_none (by
    rintro ⟨n, l, h4, h1, h2⟩
    have hu := unf_put h4 h1
    rw [h2] at hu
    rw [hu] at h
    simp only at h
    rw [readP_back n l h4 h1] at h
    cases h)
  unfold pairP; rw [this]
theorem pairP_bad (zs : List Int) (n : Int) (l : List SlotV) (h : readP (unfOf zs 0).1 = some (n, l)) (hok : okP n l = false) : pairP zs = (noP, false) := by
  have : getP zs = none := getP_none (by
    rintro ⟨n', l', h4, h1, h2⟩
    have hu := unf_put h4 h1
    rw [h2] at hu
    rw [hu] at h
    simp only at h
    rw [readP_back n' l' h4 h1] at h
    simp only [Option.some.injEq, Prod.mk.injEq] at h
    obtain ⟨rfl, rfl⟩ := h
    rw [h1] at hok
    cases hok)
  unfold pairP; rw [this]
theorem pairP_some (zs : List Int) (hb : Bytes zs) (hu : (unfOf zs 0).2.2 = 0 ∧ (unfOf zs 0).2.1 = (zs.length : Int)) (n : Int) (l : List SlotV) (hbb : Bytes (unfOf zs 0).1) (h : readP (unfOf zs 0).1 = some (n, l)) (hok : okP n l = true) : pairP zs = ((n, l), true) := by
  obtain ⟨hc, h4⟩ := readP_canon _ hbb n l h
  have hz := frame_canon zs hb (unfOf zs 0).1 (by obtain ⟨e1, e2⟩ := hu; generalize unfOf zs 0 = U at *; obtain ⟨u1, u2, u3⟩ := U; simp only at *; rw [e1, e2])
  have : getP zs = some (n, l) := getP_some h4 hok (by rw [putP_ok hok, ← hc]; exact hz.symm)
  unfold pairP; rw [this]
theorem pairP_len (zs : List Int) (n : Int) (l : List SlotV) (ok : Bool) (h : pairP zs = ((n, l), ok)) : l.length = 4 ∧ ∀ s ∈ l, s.o.ints.length ≤ 5 ∧ s.o.refs.length ≤ 5 := by
  unfold pairP at h
  split at h
  · rename_i x hx
    have e : x = (n, l) := (Prod.mk.inj h).1
    subst e
    obtain ⟨h1, h4, _⟩ := getP_ok hx
    refine ⟨h4, fun s hs => ?_⟩
    have hb := (okP_bd h1).1 s hs
    cases hh : s.has with
    | true =>
      rw [slotB_has hh] at hb
      have := okB_bd hb
      exact ⟨this.2.1, this.2.2.1⟩
    | false =>
      rw [slotB_not hh hb]
      simp [noS, noO]
  · have e : noP = (n, l) := (Prod.mk.inj h).1
    have e2 : l = [noS, noS, noS, noS] := (Prod.mk.inj e).2.symm
    subst e2
    refine ⟨rfl, fun s hs => ?_⟩
    simp only [List.mem_cons, List.not_mem_nil, or_false] at hs
    rcases hs with rfl | rfl | rfl | rfl <;> simp [noS, noO]
end Go.Proofs.YtbaocehcnjdkkaaDoor

/- The walk of laws.toSlotA4. -/
namespace Go.Proofs.YtbaocehcnjdkkaaDoor
open Go.RowKit

def zero4 : List SlotA := [zeroS, zeroS, zeroS, zeroS]
theorem within_setCells (B o : Nat) (vs : List Value) (w : World) : Within B (B + 1) w (w.setCells B o vs) := by
  induction vs generalizing o w with
  | nil => exact Within.refl _ _ _
  | cons v r ih => exact (within_set w B o v (by omega)).trans (ih (o + 1) _)
theorem set_snoc (ts : List SlotA) (n : Nat) (t : SlotA) : (ts ++ List.replicate (n + 1) zeroS).set ts.length t = (ts ++ [t]) ++ List.replicate n zeroS := by
  rw [List.set_append_right _ _ (Nat.le_refl _)]
  simp [List.replicate_succ]
theorem getD_mem {ss : List SlotA} {k : Nat} (h : k < ss.length) : ss.getD k zeroS ∈ ss := by simp [List.getD, h]

set_option maxHeartbeats 1000000 in
set_option maxRecDepth 100000 in
theorem toSlotA4_own (ss : List SlotA) (h4 : ss.length = 4) (w : World) (hr : ReadsS w ss) (hl : ∀ s ∈ ss, s.v.o.ints.length ≤ 1099511627776 ∧ s.v.o.refs.length ≤ 1099511627776) :
    Calls Tryd.prog 56 #[.agg (cellsS ss).toArray] w fun e w' => ∃ ts : List SlotA, e = .returned (.agg (cellsS ts).toArray) ∧ Hid (ts.map (·.v) = ss.map (·.v)) ∧ OwnS w' w.heap.size w'.heap.size ts ∧ Below w.heap.size w w' := by
  obtain ⟨W, hW, b0, b1, b2, hbW, hsW⟩ := boxes3 w (cellsS ss) [.bool false, .int .i64 0, .slice none 0 0, .slice none 0 0, .bool false, .int .i64 0, .slice none 0 0, .slice none 0 0, .bool false, .int .i64 0, .slice none 0 0, .slice none 0 0, .bool false, .int .i64 0, .slice none 0 0, .slice none 0 0] [.bool false, .int .i64 0, .slice none 0 0, .slice none 0 0, .bool false, .int .i64 0, .slice none 0 0, .slice none 0 0, .bool false, .int .i64 0, .slice none 0 0, .slice none 0 0, .bool false, .int .i64 0, .slice none 0 0, .slice none 0 0] 45 29 29
  have b1' : Box W (w.heap.size + 1) (cellsS zero4) 29 := b1
  have b2' : Box W (w.heap.size + 1 + 1) (cellsS zero4) 29 := b2
  have hsW' : w.heap.size + 1 + 1 < W.heap.size := by omega
  clear b1 b2 hsW
  go_enter Tryd.func56, Tryd.ntmps56
  go_wp2_with fail
  rw [hW.out]
  clear hW
  have H4 : Hid (ss.length = 4) := h4
  clear h4
  go_loopw [4] (fun i wr => ∃ (k : Nat) (ts : List SlotA), i = .int .i64 k ∧ k ≤ 4 ∧ Hid (ts.length = k ∧ ts.map (·.v) = (ss.take k).map (·.v)) ∧ OwnS wr W.heap.size wr.heap.size ts ∧ Box wr (w.heap.size + 1 + 1) (cellsS (ts ++ List.replicate (4 - k) zeroS)) 29 ∧ Below (w.heap.size + 1 + 1) W wr)
    (fun i _ => 4 - (intOf i).toNat)
  case atStart => exact ⟨0, [], rfl, by omega, ⟨rfl, rfl⟩, OwnS.nil _ _ _, b2', Below.refl _ _⟩
  case round =>
    obtain ⟨k, ts, rfl, hk, hts, hown, hbox, hbl⟩ := hrel
    clear b2'
    have b0r := b0.below hbl (by omega)
    have b1r := b1'.below hbl (by omega)
    have hsr := hbl.size
    by_cases hlt : k < 4
    · have hkl : k < ss.length := by rw [H4.out]; exact hlt
      obtain ⟨c0, c1, c2, c3, _⟩ := b0r.slot k hkl
      have hrk := (hr _ (getD_mem hkl)).below (hbW.trans (hbl.mono (by omega)))
      have hlk := hl _ (getD_mem hkl)
      have HV : Hid ((ss.take (k + 1)).map (·.v) = (ss.take k).map (·.v) ++ [(ss.getD k zeroS).v]) := by
        rw [Hid, List.take_add_one, List.map_append]
        simp [List.getD, hkl]
      generalize ss.getD k zeroS = s at *
      go_wp2_with fail
      refine (toSlot_own s wr hrk hlk.1 hlk.2).mono ?_
      clear hrk hlk c0 c1 c2 c3
      rintro e w1 ⟨t, rfl, hv, ho, hb1⟩
      have hs1 := hb1.size
      have hbx := hbox.below hb1 hbox.lt
      have hkt : k < (ts ++ List.replicate (4 - k) zeroS).length := by have := hts.out.1; simp; omega
      obtain ⟨W2, hW2, b2, hw2, hs2⟩ := slot_fill hbx k hkt t
      obtain ⟨x0, x1, x2, x3, hfz⟩ := hbx.slot k hkt
      have f0 := hfz (k * 4)
      have f1 := hfz (k * 4 + 1)
      have f2 := hfz (k * 4 + 2)
      have f3 := hfz (k * 4 + 3)
      generalize (ts ++ List.replicate (4 - k) zeroS).getD k zeroS = old at *
      have b2' : Box W2 (w.heap.size + 1 + 1) (cellsS ((ts ++ [t]) ++ List.replicate (4 - (k + 1)) zeroS)) 29 := by
        rw [show 4 - k = (4 - (k + 1)) + 1 by omega] at b2
        have e := set_snoc ts (4 - (k + 1)) t
        rw [hts.out.1] at e
        rw [e] at b2
        exact b2
      have hO1 : OwnS w1 W.heap.size w1.heap.size (ts ++ [t]) := (hown.below hb1).snoc ho hsr hs1 (Nat.le_refl _)
      have hO2 : OwnS W2 W.heap.size W2.heap.size (ts ++ [t]) := (hO1.within hw2 (.inr (by omega))).widen (Nat.le_refl _) (by omega) (Nat.le_refl _)
      have hB2 : Below (w.heap.size + 1 + 1) W W2 := (hbl.trans (hb1.mono (by omega))).trans (hw2.below (Nat.le_refl _) (by omega))
      have HT : Hid ((ts ++ [t]).length = k + 1 ∧ (ts ++ [t]).map (·.v) = (ss.take (k + 1)).map (·.v)) := by
        refine ⟨by have := hts.out.1; simp; omega, ?_⟩
        rw [HV.out, List.map_append, hts.out.2, ← hv.out]
        rfl
      clear hfz hs2 hw2 b2 hO1 hown hbox hbx hts HV hkt hb1 ho
      simp only [SlotA.cells]
      go_wp2_with fail
      rw [hW2.out]
      go_roundw
      case rel => exact ⟨k + 1, ts ++ [t], by go_num, by omega, HT, hO2, b2', hB2⟩
      case measure => simp [intOf]; omega
    · obtain rfl : k = 4 := by omega
      have hrp : ts ++ List.replicate (4 - 4) zeroS = ts := by simp
      rw [hrp] at hbox
      have htl : ts.length = 4 := hts.out.1
      have hmv : ts.map (·.v) = ss.map (·.v) := by rw [hts.out.2, List.take_of_length_le (by rw [H4.out]; omega)]
      have hrg : wr.rangeAt (w.heap.size + 1 + 1) 0 (cellsS ts) := fun j v hv => by rw [Nat.zero_add]; exact hbox.cell j v hv
      have hth : wr.there (w.heap.size + 1) 0 (cellsS ts).toArray.size := by
        intro j hj
        rw [Nat.zero_add]
        have hj16 : j < (cellsS zero4).length := by simp only [List.size_toArray, cellsS_len] at hj ⊢; rw [htl] at hj; exact hj
        exact ⟨by rw [b1r.cell j _ (List.getElem?_eq_getElem hj16)]; rfl, b1r.frozen j⟩
      have hone : (cellsS ts).toArray.all (·.oneCell') = true := by
        apply all_oneCell_toArray
        intro v hv
        obtain ⟨s, _, hs⟩ := List.mem_flatMap.1 hv
        simp only [SlotA.cells, List.mem_cons, List.not_mem_nil, or_false] at hs
        rcases hs with rfl | rfl | rfl | rfl <;> rfl
      have hsz : (cellsS ts).toArray.size = 16 := by simp [cellsS_len, htl]
      have hi : (Tryd.prog.info? 29).map (·.size) = some (cellsS ts).toArray.size := by rw [hsz]; kernel_rfl
      have hi' : (Tryd.prog.info? 29).map (·.size) = some (cellsS ts).length := by rw [hi]; simp
      clear hsz htl hrp
      go_wp2_with (first | (guard_target = wpList _ _ _ (Oper.mk (some 15) _ _ _ _ _ :: _) _ _; refine wpList_load_mid rfl 29 (.tmp 3) rfl (w.heap.size + 1 + 1) 0 rfl (cellsS ts) _ hrg Tryd.underlying29 rfl hi' ?_) | (guard_target = wpList _ _ _ (Oper.mk none (Op.store _ (Operand.tmp 2) _) _ _ _ _ :: _) _ _; refine wpList_store_mid rfl 29 (.tmp 2) (.tmp 15) rfl (w.heap.size + 1) 0 (cellsS ts).toArray rfl rfl hth hi hone ?_) | fail)
      have hgs : Within (w.heap.size + 1) (w.heap.size + 1 + 1) wr (wr.setCells (w.heap.size + 1) 0 (cellsS ts)) := within_setCells _ _ _ _
      have hrF : (wr.setCells (w.heap.size + 1) 0 (cellsS ts)).rangeAt (w.heap.size + 1) 0 (cellsS ts) := World.rangeAt_setCells_same _ _ _ _ (by simpa using hth)
      have hlF := run_loadVar_mid (P := Tryd.prog) _ (w.heap.size + 1) 0 29 (cellsS ts) _ hrF Tryd.underlying29 rfl hi'
      have hsF := hgs.size
      exact bodyPost_ret (v := .agg (cellsS ts).toArray) (results_one Tryd.results56 rfl hlF) rfl ⟨ts, rfl, hmv, (hown.within hgs (.inr (by omega))).widen (by omega) (by omega) (Nat.le_refl _), (hbW.trans (hbl.mono (by omega))).trans (hgs.below (by omega) (by omega))⟩
end Go.Proofs.YtbaocehcnjdkkaaDoor

/- Ranges of cells in a box: read, and written, whole. -/
namespace Go.Proofs.YtbaocehcnjdkkaaDoor
open Go.RowKit

theorem Box.range {w : World} {B : Nat} {t : TypeId} (pre cs post : List Value) (b : Box w B (pre ++ (cs ++ post)) t) : w.rangeAt B pre.length cs := by
  intro j v hv
  have hj : j < cs.length := (List.getElem?_eq_some_iff.1 hv).1
  refine b.cell _ v ?_
  rw [List.getElem?_append_right (by omega), List.getElem?_append_left (by omega)]
  rw [show pre.length + j - pre.length = j by omega]
  exact hv
theorem Box.there {w : World} {B : Nat} {vs : List Value} {t : TypeId} (b : Box w B vs t) (o n : Nat) (h : o + n ≤ vs.length) : w.there B o n := fun j hj =>
  ⟨by rw [b.cell (o + j) _ (List.getElem?_eq_getElem (by omega))]; rfl, b.frozen _⟩
theorem set_range (pre post : List Value) : ∀ (old cs : List Value), old.length = cs.length → ∀ (w : World) (B : Nat) (t : TypeId), Box w B (pre ++ (old ++ post)) t → Box (w.setCells B pre.length cs) B (pre ++ (cs ++ post)) t := by
  intro old
  induction old generalizing pre with
  | nil => intro cs h w B t b; obtain rfl := List.length_eq_zero_iff.1 h.symm; exact b
  | cons x r ih =>
    intro cs h w B t b
    obtain ⟨c, cr, rfl⟩ : ∃ c cr, cs = c :: cr := by
      cases cs with
      | nil => simp at h
      | cons c cr => exact ⟨c, cr, rfl⟩
    have hb := b.set pre.length c
    rw [List.set_append_right _ _ (Nat.le_refl _), Nat.sub_self] at hb
    simp only [List.cons_append, List.set_cons_zero] at hb
    have hb' : Box (w.setCell ⟨B, pre.length, none⟩ c) B ((pre ++ [c]) ++ (r ++ post)) t := by simpa using hb
    have := ih (pre ++ [c]) cr (by simpa using h) _ B t hb'
    simp only [List.length_append, List.length_singleton] at this
    rw [World.setCells]
    simpa using this
theorem range_fill {w : World} {B : Nat} {t : TypeId} (pre old cs post : List Value) (b : Box w B (pre ++ (old ++ post)) t) (h : old.length = cs.length) :
    ∃ W, Hid (w.setCells B pre.length cs = W) ∧ Box W B (pre ++ (cs ++ post)) t ∧ Within B (B + 1) w W ∧ W.heap.size = w.heap.size := by
  refine ⟨_, rfl, set_range pre post old cs h w B t b, within_setCells _ _ _ _, ?_⟩
  have h1 := (within_setCells B pre.length cs w).size
  have : ∀ (vs : List Value) (o : Nat) (w : World), (w.setCells B o vs).heap.size = w.heap.size := by
    intro vs
    induction vs with
    | nil => intro o w; rfl
    | cons v r ih => intro o w; rw [World.setCells, ih]; simp
  exact this _ _ _
theorem oneS (ss : List SlotA) : ∀ v ∈ cellsS ss, v.oneCell' = true := by
  intro v hv
  obtain ⟨s, _, hs⟩ := List.mem_flatMap.1 hv
  simp only [SlotA.cells, List.mem_cons, List.not_mem_nil, or_false] at hs
  rcases hs with rfl | rfl | rfl | rfl <;> rfl

structure PageA where
  lsn : Int
  ss : List SlotA
def PageA.cells (p : PageA) : List Value := .int .i64 p.lsn :: cellsS p.ss
theorem oneP (p : PageA) : ∀ v ∈ p.cells, v.oneCell' = true := by
  intro v hv
  rcases List.mem_cons.1 hv with rfl | h
  · rfl
  · exact oneS _ v h
theorem page_len (p : PageA) (h : p.ss.length = 4) : p.cells.length = 17 := by simp [PageA.cells, cellsS_len, h]
end Go.Proofs.YtbaocehcnjdkkaaDoor

/- The walk of spec.FreeSlot. -/
namespace Go.Proofs.YtbaocehcnjdkkaaDoor
open Go.RowKit

/-- Where the first slot that has nothing is, from k on, among those that are left; -1 if there is none. -/
def freeFrom : List SlotV → Nat → Int
  | [], _ => -1
  | s :: r, k => if s.has then freeFrom r (k + 1) else (k : Int)
def freeOf (vs : List SlotV) : Int := freeFrom vs 0

theorem Box.pslot {w : World} {B : Nat} {v : Value} {ss : List SlotA} {t : TypeId} (b : Box w B (v :: cellsS ss) t) (k : Nat) (hk : k < ss.length) :
    w.cell? ⟨B, 1 + k * 4, none⟩ = some (.bool (ss.getD k zeroS).v.has) ∧ w.cell? ⟨B, 1 + k * 4 + 1, none⟩ = some (.int .i64 (ss.getD k zeroS).v.o.kind) ∧
    w.cell? ⟨B, 1 + k * 4 + 2, none⟩ = some (.slice (ss.getD k zeroS).aI (ss.getD k zeroS).v.o.ints.length (ss.getD k zeroS).cI) ∧ w.cell? ⟨B, 1 + k * 4 + 3, none⟩ = some (.slice (ss.getD k zeroS).aR (ss.getD k zeroS).v.o.refs.length (ss.getD k zeroS).cR) ∧
    (∀ i, w.frozen? ⟨B, i, none⟩ = false) := by
  have key : ∀ j, j < 4 → (v :: cellsS ss)[1 + k * 4 + j]? = (ss.getD k zeroS).cells[j]? := fun j hj => by
    rw [show 1 + k * 4 + j = (k * 4 + j) + 1 by omega, List.getElem?_cons_succ]
    exact cellsS_at ss k j hk hj
  exact ⟨b.cell _ _ (key 0 (by omega)), b.cell _ _ (key 1 (by omega)), b.cell _ _ (key 2 (by omega)), b.cell _ _ (key 3 (by omega)), fun i => b.frozen i⟩

theorem drop_at (ss : List SlotA) (k : Nat) (h : k < ss.length) : (ss.map (·.v)).drop k = (ss.getD k zeroS).v :: (ss.map (·.v)).drop (k + 1) := by
  rw [List.drop_eq_getElem_cons (by simpa using h)]
  simp [List.getD, h]

end Go.Proofs.YtbaocehcnjdkkaaDoor

/- A slot of a page stored. -/
namespace Go.Proofs.YtbaocehcnjdkkaaDoor
open Go.RowKit

theorem set_cons1 (v x : Value) (L : List Value) (i : Nat) : (v :: L).set (1 + i) x = v :: L.set i x := by rw [Nat.add_comm, List.set_cons_succ]
theorem pslot_fill {w : World} {B : Nat} {v : Value} {ss : List SlotA} {ty : TypeId} (b : Box w B (v :: cellsS ss) ty) (k : Nat) (hk : k < ss.length) (t : SlotA) :
    ∃ W, Hid ((((w.setCell ⟨B, 1 + k * 4, none⟩ (.bool t.v.has)).setCell ⟨B, 1 + k * 4 + 1, none⟩ (.int .i64 t.v.o.kind)).setCell ⟨B, 1 + k * 4 + 2, none⟩ (.slice t.aI t.v.o.ints.length t.cI)).setCell ⟨B, 1 + k * 4 + 3, none⟩ (.slice t.aR t.v.o.refs.length t.cR) = W) ∧ Box W B (v :: cellsS (ss.set k t)) ty ∧ Within B (B + 1) w W ∧ W.heap.size = w.heap.size := by
  refine ⟨_, rfl, ?_, ?_, ?_⟩
  · have := (((b.set (1 + k * 4) (.bool t.v.has)).set (1 + k * 4 + 1) (.int .i64 t.v.o.kind)).set (1 + k * 4 + 2) (.slice t.aI t.v.o.ints.length t.cI)).set (1 + k * 4 + 3) (.slice t.aR t.v.o.refs.length t.cR)
    rw [Nat.add_assoc, Nat.add_assoc 1 (k * 4) 2, Nat.add_assoc 1 (k * 4) 3, set_cons1, set_cons1, set_cons1, set_cons1, cellsS_set ss k hk t] at this
    rw [Nat.add_assoc, Nat.add_assoc 1 (k * 4) 2, Nat.add_assoc 1 (k * 4) 3]
    exact this
  · exact (((within_set w B _ _ (by omega)).trans (within_set _ B _ _ (by omega))).trans (within_set _ B _ _ (by omega))).trans (within_set _ B _ _ (by omega))
  · simp
/-- One of them is another, which lies behind them all. -/
theorem OwnS.set {w : World} {lo mid mid' hi : Nat} {ss : List SlotA} {t : SlotA} (h : OwnS w lo mid ss) (k : Nat) (ht : t.own w mid' hi) (h1 : lo ≤ mid') (h2 : mid ≤ mid') (h3 : mid' ≤ hi) : OwnS w lo hi (ss.set k t) := by
  have hhi : hi ≤ w.heap.size := ht.ints.2.1
  refine ⟨fun s hs => ?_, ?_⟩
  · rcases List.mem_or_eq_of_mem_set hs with h' | rfl
    · exact OwnO.widen (h.each s h') (Nat.le_refl _) (by omega) hhi
    · exact OwnO.widen ht h1 (Nat.le_refl _) hhi
  · have hb := SlotA.blocks_lt ht
    have hn := SlotA.blocks_nodup ht
    have hl := h.blocks_lt
    have ha := h.apart
    clear h ht
    induction ss generalizing k with
    | nil => exact ha
    | cons s r ih =>
      rw [List.flatMap_cons, List.nodup_append] at ha
      cases k with
      | zero =>
        rw [List.set_cons_zero, List.flatMap_cons, List.nodup_append]
        refine ⟨hn, ha.2.1, fun a ha' b hb' e => ?_⟩
        have h5 := (hb a ha').1
        have h6 := (hl b (by rw [List.flatMap_cons]; exact List.mem_append.2 (.inr hb'))).2
        omega
      | succ k =>
        rw [List.set_cons_succ, List.flatMap_cons, List.nodup_append]
        refine ⟨ha.1, ih k (fun x hx => hl x (by rw [List.flatMap_cons]; exact List.mem_append.2 (.inr hx))) ha.2.1, fun a ha' b hb' e => ?_⟩
        subst e
        obtain ⟨x, hx, hbx⟩ := List.mem_flatMap.1 hb'
        rcases List.mem_or_eq_of_mem_set hx with h' | rfl
        · exact ha.2.2 a ha' a (List.mem_flatMap.2 ⟨x, h', hbx⟩) rfl
        · have h5 := (hb a hbx).1
          have h6 := (hl a (by rw [List.flatMap_cons]; exact List.mem_append.2 (.inl ha'))).2
          omega
end Go.Proofs.YtbaocehcnjdkkaaDoor

/- Plain mathematics of SetSlot; results that are a page and a flag. -/
namespace Go.Proofs.YtbaocehcnjdkkaaDoor
open Go.RowKit

def setOk (n : Int) (vs : List SlotV) (slot : Int) (s : SlotV) (lsn : Int) : Bool := okP n vs && (inB slot 0 3 && (slotB s && inB lsn n 1000000))
def setOf (n : Int) (vs : List SlotV) (slot : Int) (s : SlotV) (lsn : Int) : Int × List SlotV := if setOk n vs slot s lsn then (lsn, vs.set slot.toNat s) else (n, vs)
theorem setOf_no {n : Int} {vs : List SlotV} {slot : Int} {s : SlotV} {lsn : Int} (h : setOk n vs slot s lsn = false) : setOf n vs slot s lsn = (n, vs) := by unfold setOf; rw [if_neg (by rw [h]; decide)]
theorem setOf_ok {n : Int} {vs : List SlotV} {slot : Int} {s : SlotV} {lsn : Int} (h : setOk n vs slot s lsn = true) : setOf n vs slot s lsn = (lsn, vs.set slot.toNat s) := by unfold setOf; rw [if_pos h]
theorem setOk_p {n : Int} {vs : List SlotV} {slot : Int} {s : SlotV} {lsn : Int} (h : okP n vs = false) : setOk n vs slot s lsn = false := by simp [setOk, h]
theorem setOk_slot {n : Int} {vs : List SlotV} {slot : Int} {s : SlotV} {lsn : Int} (h : inB slot 0 3 = false) : setOk n vs slot s lsn = false := by simp [setOk, h]
theorem setOk_s {n : Int} {vs : List SlotV} {slot : Int} {s : SlotV} {lsn : Int} (h : slotB s = false) : setOk n vs slot s lsn = false := by simp [setOk, h]
theorem setOk_lsn {n : Int} {vs : List SlotV} {slot : Int} {s : SlotV} {lsn : Int} (h : inB lsn n 1000000 = false) : setOk n vs slot s lsn = false := by simp [setOk, h]
theorem setOk_all {n : Int} {vs : List SlotV} {slot : Int} {s : SlotV} {lsn : Int} (h1 : okP n vs = true) (h2 : inB slot 0 3 = true) (h3 : slotB s = true) (h4 : inB lsn n 1000000 = true) : setOk n vs slot s lsn = true := by simp [setOk, h1, h2, h3, h4]

theorem results_cell_flag {P : Program} {fn : Func} {s t : Nat} {ty : TypeId} {tmps : Array Value} {w : World} {v b : Value} {ad : Addr} (hf : fn.results = #[.cell s ty, .tmp t]) (ht : tmps[s]?.getD undef = .pointer (some ad)) (hl : (loadVar ty ad).run P w = .ok v w) (hb : tmps[t]?.getD undef = b) : (results fn tmps).run P w = .ok (.tuple #[v, b]) w := by
  unfold results
  rw [hf]
  simp [ht, asAddr, hl, hb]

/-- A whole value loaded where a guard stands ahead of it that lets it by. -/
theorem wpList_load_mid_if {ops : Array Oper} {rest : List Oper} {op : Oper} {a : Act} {w : World} {Q : Exit → Act → World → Prop} {P : Program} (hw : Region.wanted op (yielded ops a.tmps) = true) (ty : TypeId) (x : Operand) (ho : op.op = .load ty x)
    (b o : Nat) (hx : a.eval x = .pointer (some ⟨b, o, none⟩)) (cs : List Value) (d : TypeDesc) (hc : w.rangeAt b o cs)
    (hu : P.underlying ty = some d) (hd : d.isRow = true) (hi : (P.info? ty).map (·.size) = some cs.length)
    (h : wpList P ops Q rest (a.put op.dst (.agg cs.toArray)) w) : wpList P ops Q (op :: rest) a w :=
  wpList_step fun _ hK => by
    simp only [hw, if_true]
    exact wp_load_mid ty x ho b o hx cs d hc hu hd hi (hK _ _ h)

def zero17 : List Value := [.int .i64 0, .bool false, .int .i64 0, .slice none 0 0, .slice none 0 0, .bool false, .int .i64 0, .slice none 0 0, .slice none 0 0, .bool false, .int .i64 0, .slice none 0 0, .slice none 0 0, .bool false, .int .i64 0, .slice none 0 0, .slice none 0 0]

/-- A page at B is stored at C, which holds a page: what is there then, and what the result reads. -/
theorem page_out {w : World} {C : Nat} {T : TypeId} {d : TypeDesc} (q : PageA) (hq : q.ss.length = 4) (old : List Value) (ho : old.length = 17) (bC : Box w C old T) (hu : Tryd.prog.underlying T = some d) (hd : d.isRow = true) (hi : (Tryd.prog.info? T).map (·.size) = some 17) :
    ∃ WF, Hid (w.setCells C 0 q.cells = WF) ∧ Within C (C + 1) w WF ∧ WF.heap.size = w.heap.size ∧ Hid (w.there C 0 q.cells.toArray.size) ∧ Hid ((loadVar T ⟨C, 0, none⟩).run Tryd.prog WF = .ok (.agg q.cells.toArray) WF) ∧ Box WF C q.cells T := by
  have hl : q.cells.length = 17 := page_len q hq
  obtain ⟨WF, hWF, bF, hwF, hsF⟩ := range_fill [] old q.cells [] (by simpa using bC) (by rw [hl, ho])
  have bF' : Box WF C q.cells T := by simpa using bF
  refine ⟨WF, hWF, hwF, hsF, bC.there 0 _ (by rw [List.size_toArray, hl, ho]; omega), ?_, bF'⟩
  exact run_loadVar_mid (P := Tryd.prog) WF C 0 T q.cells d (Box.range [] q.cells [] (by simpa using bF')) hu hd (by rw [hi, hl])
end Go.Proofs.YtbaocehcnjdkkaaDoor
