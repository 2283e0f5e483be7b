/- Several texts in one, in their order. -/
import Derived.Test.YtnnehpimkdoeoaaPChainx2
import Derived.Test.YtnnehpimkdoeoaaPChainx1
/- The walk of laws.toObj. -/
namespace Go.Proofs.Ytnnehpimkdoeoaa
open Go.RowKit

set_option maxHeartbeats 400000 in
set_option maxRecDepth 100000 in
theorem toObj_own (o : ObjV) (aI : Option Addr) (cI : Nat) (aR : Option Addr) (cR : Nat) (w : World) (hr : ReadsO w aI cI aR cR o) (hlI : o.ints.length ≤ 1099511627776) (hlR : o.refs.length ≤ 1099511627776) :
    Calls Try.prog 30 #[.agg #[.int .i64 o.kind, .slice aI o.ints.length cI, .slice aR o.refs.length cR]] w fun e w' => ∃ aI' cI' aR' cR', e = .returned (.agg #[.int .i64 o.kind, .slice aI' o.ints.length cI', .slice aR' o.refs.length cR']) ∧
      OwnO w' w.heap.size w'.heap.size aI' cI' aR' cR' o ∧ Below w.heap.size w w' := by
  obtain ⟨k, ints, refs⟩ := o
  obtain ⟨hI, hR, _, _⟩ := hr
  simp only at *
  go_enter Try.func30, Try.ntmps30
  go_wp2_with fail
  obtain ⟨W, hW, b0, b1, b2, hbW, hsW⟩ := boxes3 w [.int .i64 k, .slice aI ints.length cI, .slice aR refs.length cR] [.int .i64 0, .slice none 0 0, .slice none 0 0] [.int .i64 k, .slice none 0 0, .slice none 0 0] 52 39 39
  rw [hW.out]
  clear hW
  refine (toIntS_own aI cI ints W (hI.below hbW) hlI).mono ?_
  rintro e w1 ⟨a1, c1, rfl, ho1, hb1⟩
  have b0' := b0.below hb1 b0.lt
  have b1' := b1.below hb1 b1.lt
  have b2' := b2.below hb1 b2.lt
  have h02 := b0'.cell 2 _ rfl
  have h21 := b2'.cell 1 _ rfl
  have f21 := b2'.frozen 1
  go_wp2_with fail
  obtain ⟨W2, hW2, b2s, hw2, hs2⟩ := box_set b2' 1 (.slice a1 ints.length c1)
  rw [hW2.out]
  clear hW2
  have hWb : Below w.heap.size w W2 := (hbW.trans (hb1.mono (by omega))).trans (hw2.below (by omega) (by have := hb1.size; omega))
  have ho1' : OwnI W2 W.heap.size w1.heap.size a1 c1 ints := ho1.within hw2 (.inr (by omega))
  refine (toIntS_own aR cR refs W2 (hR.below hWb) hlR).mono ?_
  rintro e w3 ⟨a3, c3, rfl, ho3, hb3⟩
  have ho13 := ho1'.below hb3
  have b23 := b2s.below hb3 b2s.lt
  have b13 := (b1'.within hw2 (by omega)).below hb3 (by have := (b1'.within hw2 (by omega)).lt; exact this)
  simp only [List.set] at b23
  have g22 := b23.cell 2 _ rfl
  have e22 := b23.frozen 2
  have bS := b23.set 2 (.slice a3 refs.length c3)
  have bT := b13.other (C := w.heap.size + 1 + 1) (i := 2) (v := .slice a3 refs.length c3) (by omega)
  simp only [List.set] at bS
  have s0 := bS.cell 0 _ rfl
  have s1 := bS.cell 1 _ rfl
  have s2 := bS.cell 2 _ rfl
  have t0 := bT.cell 0 _ rfl
  have t1 := bT.cell 1 _ rfl
  have t2 := bT.cell 2 _ rfl
  have u0 := bT.frozen 0
  have u1 := bT.frozen 1
  have u2 := bT.frozen 2
  have bF := ((bT.set 0 (.int .i64 k)).set 1 (.slice a1 ints.length c1)).set 2 (.slice a3 refs.length c3)
  simp only [List.set] at bF
  have hwF : Within (w.heap.size + 1) (w.heap.size + 3) w3 _ := (((within_set w3 (w.heap.size + 1 + 1) 2 (.slice a3 refs.length c3) (by omega)).trans (within_set _ (w.heap.size + 1) 0 (.int .i64 k) (by omega))).trans (within_set _ (w.heap.size + 1) 1 (.slice a1 ints.length c1) (by omega))).trans (within_set _ (w.heap.size + 1) 2 (.slice a3 refs.length c3) (by omega))
  have HF : Hid (_ ∧ _ ∧ _ ∧ _) := ⟨bF.cell 0 _ rfl, bF.cell 1 _ rfl, bF.cell 2 _ rfl, hwF⟩
  clear bF hwF
  go_wp2
  obtain ⟨f0, f1, f2, hwF⟩ := HF.out
  generalize (((w3.setCell ⟨w.heap.size + 1 + 1, 2, none⟩ (.slice a3 refs.length c3)).setCell ⟨w.heap.size + 1, 0, none⟩ (.int .i64 k)).setCell ⟨w.heap.size + 1, 1, none⟩ (.slice a1 ints.length c1)).setCell ⟨w.heap.size + 1, 2, none⟩ (.slice a3 refs.length c3) = WF at *
  have hs3 := hb3.size
  have hs1 := hb1.size
  have hsF := hwF.size
  refine bodyPost_ret (v := .agg #[.int .i64 k, .slice a1 ints.length c1, .slice a3 refs.length c3]) (by simp [results, Try.results30, go_sem, f0, f1, f2]) rfl ⟨a1, c1, a3, c3, rfl, ⟨(ho13.within hwF (.inr (by omega))).widen (by omega) (by omega) (Nat.le_refl _), (ho3.within hwF (.inr (by omega))).widen (by omega) (by omega) (Nat.le_refl _), fun j hj hj' => by have := (ho1.lt j hj).2; have := (ho3.lt j hj').1; omega⟩, (hWb.trans (hb3.mono (by omega))).trans (hwF.below (by omega) (by omega))⟩
end Go.Proofs.Ytnnehpimkdoeoaa

/- A box of three cells, filled. -/
namespace Go.Proofs.Ytnnehpimkdoeoaa
open Go.RowKit

/-- The facts that a walk wants of a box of three cells. -/
theorem Box.three {w : World} {B : Nat} {x0 x1 x2 : Value} {t : TypeId} (b : Box w B [x0, x1, x2] t) :
    w.cell? ⟨B, 0, none⟩ = some x0 ∧ w.cell? ⟨B, 1, none⟩ = some x1 ∧ w.cell? ⟨B, 2, none⟩ = some x2 ∧ w.frozen? ⟨B, 0, none⟩ = false ∧ w.frozen? ⟨B, 1, none⟩ = false ∧ w.frozen? ⟨B, 2, none⟩ = false :=
  ⟨b.cell 0 _ rfl, b.cell 1 _ rfl, b.cell 2 _ rfl, b.frozen 0, b.frozen 1, b.frozen 2⟩

theorem box3_fill {w : World} {B : Nat} {x0 x1 x2 : Value} {t : TypeId} (b : Box w B [x0, x1, x2] t) (v0 v1 v2 : Value) :
    ∃ W, Hid (((w.setCell ⟨B, 0, none⟩ v0).setCell ⟨B, 1, none⟩ v1).setCell ⟨B, 2, none⟩ v2 = W) ∧ Box W B [v0, v1, v2] t ∧ Within B (B + 1) w W ∧ W.heap.size = w.heap.size := by
  refine ⟨_, rfl, ?_, ?_, ?_⟩
  · have := ((b.set 0 v0).set 1 v1).set 2 v2
    simpa only [List.set] using this
  · exact ((within_set w B 0 v0 (by omega)).trans (within_set _ B 1 v1 (by omega))).trans (within_set _ B 2 v2 (by omega))
  · simp
end Go.Proofs.Ytnnehpimkdoeoaa

/- Slots: what they are, what a walk reads and owns of them; the walk of laws.toSlot. -/
namespace Go.Proofs.Ytnnehpimkdoeoaa
open Go.RowKit

structure SlotV where
  has : Bool
  o : ObjV

/-- A slot, and where its object's lists lie. -/
structure SlotA where
  v : SlotV
  aI : Option Addr
  cI : Nat
  aR : Option Addr
  cR : Nat

def SlotA.cells (s : SlotA) : List Value := [.bool s.v.has, .int .i64 s.v.o.kind, .slice s.aI s.v.o.ints.length s.cI, .slice s.aR s.v.o.refs.length s.cR]
def SlotA.reads (w : World) (s : SlotA) : Prop := ReadsO w s.aI s.cI s.aR s.cR s.v.o
def SlotA.own (w : World) (lo hi : Nat) (s : SlotA) : Prop := OwnO w lo hi s.aI s.cI s.aR s.cR s.v.o

theorem Box.four {w : World} {B : Nat} {x0 x1 x2 x3 : Value} {t : TypeId} (b : Box w B [x0, x1, x2, x3] t) :
    w.cell? ⟨B, 0, none⟩ = some x0 ∧ w.cell? ⟨B, 1, none⟩ = some x1 ∧ w.cell? ⟨B, 2, none⟩ = some x2 ∧ w.cell? ⟨B, 3, none⟩ = some x3 ∧ w.frozen? ⟨B, 0, none⟩ = false ∧ w.frozen? ⟨B, 1, none⟩ = false ∧ w.frozen? ⟨B, 2, none⟩ = false ∧ w.frozen? ⟨B, 3, none⟩ = false :=
  ⟨b.cell 0 _ rfl, b.cell 1 _ rfl, b.cell 2 _ rfl, b.cell 3 _ rfl, b.frozen 0, b.frozen 1, b.frozen 2, b.frozen 3⟩
theorem box4_fill3 {w : World} {B : Nat} {x0 x1 x2 x3 : Value} {t : TypeId} (b : Box w B [x0, x1, x2, x3] t) (v1 v2 v3 : Value) :
    ∃ W, Hid (((w.setCell ⟨B, 1, none⟩ v1).setCell ⟨B, 2, none⟩ v2).setCell ⟨B, 3, none⟩ v3 = W) ∧ Box W B [x0, v1, v2, v3] t ∧ Within B (B + 1) w W ∧ W.heap.size = w.heap.size := by
  refine ⟨_, rfl, ?_, ?_, ?_⟩
  · have := ((b.set 1 v1).set 2 v2).set 3 v3
    simpa only [List.set] using this
  · exact ((within_set w B 1 v1 (by omega)).trans (within_set _ B 2 v2 (by omega))).trans (within_set _ B 3 v3 (by omega))
  · simp
theorem box4_fill {w : World} {B : Nat} {x0 x1 x2 x3 : Value} {t : TypeId} (b : Box w B [x0, x1, x2, x3] t) (v0 v1 v2 v3 : Value) :
    ∃ W, Hid ((((w.setCell ⟨B, 0, none⟩ v0).setCell ⟨B, 1, none⟩ v1).setCell ⟨B, 2, none⟩ v2).setCell ⟨B, 3, none⟩ v3 = W) ∧ Box W B [v0, v1, v2, v3] t ∧ Within B (B + 1) w W ∧ W.heap.size = w.heap.size := by
  refine ⟨_, rfl, ?_, ?_, ?_⟩
  · have := (((b.set 0 v0).set 1 v1).set 2 v2).set 3 v3
    simpa only [List.set] using this
  · exact (((within_set w B 0 v0 (by omega)).trans (within_set _ B 1 v1 (by omega))).trans (within_set _ B 2 v2 (by omega))).trans (within_set _ B 3 v3 (by omega))
  · simp

set_option maxHeartbeats 1000000 in
set_option maxRecDepth 100000 in
theorem toSlot_own (s : SlotA) (w : World) (hr : s.reads w) (hlI : s.v.o.ints.length ≤ 1099511627776) (hlR : s.v.o.refs.length ≤ 1099511627776) :
    Calls Try.prog 25 #[.agg s.cells.toArray] w fun e w' => ∃ t : SlotA, e = .returned (.agg t.cells.toArray) ∧ Hid (t.v = s.v) ∧ t.own w' w.heap.size w'.heap.size ∧ Below w.heap.size w w' := by
  obtain ⟨⟨h, ⟨k, ints, refs⟩⟩, aI, cI, aR, cR⟩ := s
  simp only [SlotA.cells, SlotA.reads, SlotA.own] at *
  obtain ⟨W, hW, b0, b1, b2, hbW, hsW⟩ := boxes3 w [.bool h, .int .i64 k, .slice aI ints.length cI, .slice aR refs.length cR] [.bool false, .int .i64 0, .slice none 0 0, .slice none 0 0] [.bool h, .int .i64 0, .slice none 0 0, .slice none 0 0] 54 41 41
  go_enter Try.func25, Try.ntmps25
  go_wp2_with fail
  rw [hW.out]
  clear hW
  have hs0 : w.heap.size + 1 + 1 < W.heap.size := by omega
  clear hsW
  refine (toObj_own ⟨k, ints, refs⟩ aI cI aR cR W (hr.below hbW) hlI hlR).mono ?_
  rintro e w1 ⟨pI, dI, pR, dR, rfl, ho1, hb1⟩
  simp only at *
  have hs1 := hb1.size
  have b11 := b1.below hb1 b1.lt
  have b21 := b2.below hb1 b2.lt
  obtain ⟨x0, x1, x2, x3, f0, f1, f2, f3⟩ := b21.four
  obtain ⟨y0, y1, y2, y3, g0, g1, g2, g3⟩ := b11.four
  obtain ⟨W2, hW2, b22, hw2, hs2⟩ := box4_fill3 b21 (.int .i64 k) (.slice pI ints.length dI) (.slice pR refs.length dR)
  have b12 : Box W2 (w.heap.size + 1) _ _ := b11.within hw2 (by omega)
  obtain ⟨WF, hWF, bF, hwF, hsF⟩ := box4_fill b12 (.bool h) (.int .i64 k) (.slice pI ints.length dI) (.slice pR refs.length dR)
  have hbF : Below w.heap.size w WF := ((hbW.trans (hb1.mono (by omega))).trans (hw2.below (by omega) (by omega))).trans (hwF.below (by omega) (by omega))
  have hoF : OwnO WF w.heap.size WF.heap.size pI dI pR dR ⟨k, ints, refs⟩ := ((ho1.within hw2 (.inr (by omega))).within hwF (.inr (by omega))).widen (by omega) (by omega) (Nat.le_refl _)
  clear hs2 hsF hw2 hwF hbW hb1
  go_wp2
  rw [hW2.out, hWF.out]
  obtain ⟨q0, q1, q2, q3, _⟩ := bF.four
  exact bodyPost_ret (v := .agg #[.bool h, .int .i64 k, .slice pI ints.length dI, .slice pR refs.length dR]) (by simp [results, Try.results25, go_sem, q0, q1, q2, q3]) rfl ⟨⟨⟨h, ⟨k, ints, refs⟩⟩, pI, dI, pR, dR⟩, rfl, rfl, hoF, hbF⟩
end Go.Proofs.Ytnnehpimkdoeoaa
