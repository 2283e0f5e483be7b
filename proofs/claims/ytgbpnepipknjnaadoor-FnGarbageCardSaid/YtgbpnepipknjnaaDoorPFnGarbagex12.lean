/- Several texts in one, in their order. -/
import Derived.Test.YtgbpnepipknjnaaDoorPFnGarbagex11
import Derived.Test.YtgbpnepipknjnaaDoorPFnGarbagex8
import Derived.Test.YtgbpnepipknjnaaDoorPFnGarbagex2
import Derived.Test.YtgbpnepipknjnaaDoorPFnGarbagex9
import Derived.Deep.RegionLaw
import Derived.Deep.DrawnRows
import Derived.Deep.RegionHeld3
import Derived.Test.YtgbpnepipknjnaaDoorPFnGarbagex4
import Derived.Deep.CutRange
/- Pairs of what is there and what it names that is not. -/
namespace Go.Proofs.YtgbpnepipknjnaaDoor
open Go.RowKit

def dangB (vs : List SlotV) (r : Int) : Bool := decide (0 < r) && !hasM vs r
def dangIn (vs : List SlotV) (i : Nat) (F : List Int) : List PairV := (F.filter (dangB vs)).map (fun r => ⟨(i : Int), r⟩)
def dangTo (vs : List SlotV) : Nat → List PairV
  | 0 => []
  | n + 1 => dangTo vs n ++ dangIn vs n (refsM vs n)
def dangV (vs : List SlotV) : List PairV := if viewB vs = true then dangTo vs 32 else []
theorem dangIn_step (vs : List SlotV) (i : Nat) (F : List Int) (k : Nat) (h : k < F.length) : dangIn vs i (F.take (k + 1)) = if dangB vs (F.getD k 0) = true then dangIn vs i (F.take k) ++ [⟨(i : Int), F.getD k 0⟩] else dangIn vs i (F.take k) := by
  unfold dangIn
  rw [take_step F 0 k h, List.filter_append, List.map_append]
  simp only [List.filter_cons, List.filter_nil]
  split
  · rfl
  · simp
theorem dangIn_len (vs : List SlotV) (i : Nat) (F : List Int) : (dangIn vs i F).length ≤ F.length := by
  unfold dangIn
  rw [List.length_map]
  exact List.length_filter_le _ _
theorem dangTo_len {vs : List SlotV} (h : ∀ i, (refsM vs i).length ≤ 5) : ∀ n, (dangTo vs n).length ≤ 5 * n := by
  intro n
  induction n with
  | zero => simp [dangTo]
  | succ n ih =>
    have h1 := dangIn_len vs n (refsM vs n)
    have h2 := h n
    simp only [dangTo, List.length_append]
    omega
theorem dangV_len (vs : List SlotV) : (dangV vs).length ≤ 160 := by
  unfold dangV
  split
  · rename_i h
    exact dangTo_len (viewB_refs h) 32
  · simp
theorem ownD2_lit0 (w : World) : OwnD2 (w.alloc (.cells #[] 64)) w.heap.size (w.heap.size + 1) (some ⟨w.heap.size, 0, none⟩) 0 [] := by
  refine ⟨⟨by simp [cellsD2], .inr ⟨w.heap.size, 0, #[], rfl, Nat.le_refl _, heap_alloc_new w _, Nat.le_refl _, by simp [maxLen], rfl, by simp [cellsD2]⟩⟩, by simp, fun k hk => by cases hk; simp⟩
def DangAns (w : World) (R : List PairV) (e : Ending) (w' : World) : Prop := ∃ a' c', e = .returned (.slice a' R.length c') ∧ OwnD2 w' w.heap.size w'.heap.size a' c' R ∧ Below w.heap.size w w'
/-- A row of pairs that the call makes. -/
structure DgI (w0 w : World) (a : Option Addr) (c : Nat) (L : List PairV) : Prop where
  own : OwnD2 w w0.heap.size w.heap.size a c L
  bel : Below w0.heap.size w0 w
theorem DgI.below {w0 w w' : World} {a : Option Addr} {c : Nat} {L : List PairV} (h : DgI w0 w a c L) (hb : Below w.heap.size w w') : DgI w0 w' a c L := ⟨(h.own.below hb).widen (Nat.le_refl _) hb.size (Nat.le_refl _), h.bel.trans (hb.mono h.bel.size)⟩
theorem DgI.push {w0 w w4 : World} {o : Obj} {a a4 : Option Addr} {c c4 : Nat} {L y4 : List PairV} (h : DgI w0 w a c L) (ho : OwnD2 w4 w0.heap.size w4.heap.size a4 c4 y4) (hg : (w.alloc o).grownBy w4 (Value.slice a L.length c).ownBlock) : DgI w0 w4 a4 c4 y4 := by
  have ha := (Below.refl w.heap.size w).alloc (Nat.le_refl _) o
  exact ⟨ho, (h.bel.trans (ha.mono h.bel.size)).grown hg (Nat.le_trans h.bel.size ha.size) (fun j hj => (h.own.lt j hj).1)⟩
end Go.Proofs.YtgbpnepipknjnaaDoor

/- The walk of laws.sameInts at two rows that read alike. -/
namespace Go.Proofs.YtgbpnepipknjnaaDoor
open Go.RowKit

set_option maxHeartbeats 400000 in
theorem sameInts_same (a b : Option Addr) (ca cb : Nat) (zs : List Int) (w : World) (ha : ReadsI w a zs) (hb : ReadsI w b zs) (hl : zs.length ≤ 1099511627776) :
    Calls Tryd.prog 17 #[.slice a zs.length ca, .slice b zs.length cb] w fun e w' => e = .returned (.bool true) ∧ ∃ n, w' = w.drewN n := by
  rcases ha.cases with rfl | ⟨b1, o1, rfl, hpos, hc1⟩
  · go_enter Tryd.func17, Tryd.ntmps17
    go_wp2
    refine wp_loop_rounds 1 ?_
    rw [rounds_succ]
    go_wp2
    go_ret
    exact ⟨rfl, 0, rfl⟩
  · rcases hb.cases with rfl | ⟨b2, o2, rfl, _, hc2⟩
    · simp at hpos
    · go_enter Tryd.func17, Tryd.ntmps17
      go_wp2
      go_loopw [5] (fun i wr => ∃ k : Nat, k ≤ zs.length ∧ i = .int .i64 k ∧ ∃ n, wr = w.drewN n) (fun i _ => zs.length - (intOf i).toNat)
      case atStart => exact ⟨0, Nat.zero_le _, rfl, 0, rfl⟩
      case round =>
        obtain ⟨k, hk, rfl, n, rfl⟩ := hrel
        by_cases hlt : k < zs.length
        · have h1 := hc1 k hlt
          have h2 := hc2 k hlt
          clear hc1 hc2
          generalize zs.getD k 0 = z at *
          go_wp2
          go_quiet (fail)
          go_wp2
          go_roundw
          case rel => exact ⟨k + 1, by omega, by go_num, _, rfl⟩
          case measure => simp [intOf]; omega
        · go_wp2
          go_ret
          exact ⟨rfl, n, rfl⟩
end Go.Proofs.YtgbpnepipknjnaaDoor

/- The walk of spec.l2Obj. -/
namespace Go.Proofs.YtgbpnepipknjnaaDoor
open Go.RowKit
attribute [local go_sem ↓] Go.wp_at_zero Go.wp_at_succ

end Go.Proofs.YtgbpnepipknjnaaDoor

/- The walk of spec.l2Copy. -/
namespace Go.Proofs.YtgbpnepipknjnaaDoor
open Go.RowKit

end Go.Proofs.YtgbpnepipknjnaaDoor

/- The walk of spec.l2Bend. -/
namespace Go.Proofs.YtgbpnepipknjnaaDoor
open Go.RowKit
attribute [local go_sem ↓] Go.wp_at_zero Go.wp_at_succ

end Go.Proofs.YtgbpnepipknjnaaDoor

/- The walks of spec.l1Once, l2ObjAny and DrawPutObj. -/
namespace Go.Proofs.YtgbpnepipknjnaaDoor
open Go.RowKit

theorem l1Once_any (B : Nat) (zs : List Int) (n : Int) (w : World) (hc : CurAt w B zs) (hl : zs.length ≤ 70368744177664) (hn : n ≤ 1000000000) :
    Calls Tryd.prog 49 #[.pointer (some ⟨B, 0, none⟩), .int .i64 n] w fun e w' => ∃ b : Bool, e = .returned (.bool b) ∧ CurAt w' B zs ∧ w.grownBy w' (some B) := by
  go_enter Tryd.func49, Tryd.ntmps49
  go_wp2_with fail
  refine (l1Below_any B zs n w hc hl hn).mono ?_
  rintro e w1 ⟨x, rfl, _, hc1, hg1⟩
  go_wp2
  go_ret
  exact ⟨_, rfl, hc1, hg1⟩

end Go.Proofs.YtgbpnepipknjnaaDoor

/- The walks of laws.markSlotS, heldSlotS: rows of slots with marks. -/
namespace Go.Proofs.YtgbpnepipknjnaaDoor
open Go.RowKit

def RowV (w : World) (base g n cap : Nat) (pre cs post : List Value) : Prop := w.ownsRow base 37 4 (.slice (some ⟨g, 0, none⟩) n cap) n (pre ++ (cs ++ post))
theorem RowV.cell {w : World} {base g n cap j : Nat} {pre cs post : List Value} (h : RowV w base g n cap pre cs post) (hp : pre.length = j * 4) (hc : cs.length = 4) (i : Nat) (v : Value) (hv : cs[i]? = some v) : w.cell? ⟨g, j * 4 + i, none⟩ = some v := by
  have hi : i < 4 := by have := (List.getElem?_eq_some_iff.1 hv).1; omega
  have hl := h.1
  rw [List.length_append, List.length_append] at hl
  rw [World.ownsRow.cellAt h (j * 4 + i) (by omega), List.getElem?_append_right (by omega), List.getElem?_append_left (by omega), show j * 4 + i - pre.length = i by omega]
  exact hv
theorem RowV.frozen {w : World} {base g n cap : Nat} {pre cs post : List Value} (h : RowV w base g n cap pre cs post) (i : Nat) : w.frozen? ⟨g, i, none⟩ = false := World.ownsRow.frozenAt h i
theorem RowV.set {w : World} {base g n cap j : Nat} {pre cs post : List Value} (h : RowV w base g n cap pre cs post) (hp : pre.length = j * 4) (hc : cs.length = 4) (i : Nat) (hi : i < 4) (v : Value) : RowV (w.setCell ⟨g, j * 4 + i, none⟩ v) base g n cap pre (cs.set i v) post ∧ w.grownBy (w.setCell ⟨g, j * 4 + i, none⟩ v) (some g) := by
  have := World.ownsRow.stored h (j * 4 + i) v
  rw [List.set_append_right _ _ (by omega), show j * 4 + i - pre.length = i by omega, List.set_append_left _ _ (by omega)] at this
  exact this
theorem RowV.block {w w' : World} {base g n cap : Nat} {pre cs post : List Value} (h : RowV w base g n cap pre cs post) (hb : w'.heap[g]? = w.heap[g]?) : RowV w' base g n cap pre cs post := ownsRow_block h (fun k hk => by cases hk; exact hb)
theorem RowV.keep {w w' : World} {base g n cap : Nat} {pre cs post : List Value} {bl : List Nat} (h : RowV w base g n cap pre cs post) (ht : Touch bl w w') (hd : g ∉ bl) : RowV w' base g n cap pre cs post := h.block (ht.block g (World.ownsRow.lt h g rfl).2 hd)

end Go.Proofs.YtgbpnepipknjnaaDoor
