/- Several texts in one, in their order. -/
import Derived.Test.YtajcffchopcamaaGreatDoorPFnPathsx3
import Derived.Deep.RegionHeld3
import Derived.Deep.RegionLaw
import Derived.Deep.DrawnRows
import Derived.Test.YtajcffchopcamaaGreatDoorPFnPathsx17
import Derived.Test.YtajcffchopcamaaGreatDoorPFnPathsx9
import Derived.Test.YtajcffchopcamaaGreatDoorPFnPathsx4
import Derived.Deep.CutRange
import Derived.Test.YtajcffchopcamaaGreatDoorPFnPathsx13
/- The walk of spec.l2Copy. -/
namespace Go.Proofs.YtajcffchopcamaaGreatDoor
open Go.RowKit

end Go.Proofs.YtajcffchopcamaaGreatDoor

/- The walk of spec.l2Bend. -/
namespace Go.Proofs.YtajcffchopcamaaGreatDoor
open Go.RowKit
attribute [local go_sem ↓] Go.wp_at_zero Go.wp_at_succ

end Go.Proofs.YtajcffchopcamaaGreatDoor

/- The walks of spec.l1Once, l2ObjAny and DrawPutObj. -/
namespace Go.Proofs.YtajcffchopcamaaGreatDoor
open Go.RowKit

theorem l1Once_any (B : Nat) (zs : List Int) (n : Int) (w : World) (hc : CurAt w B zs) (hl : zs.length ≤ 70368744177664) (hn : n ≤ 1000000000) :
    Calls Tryz.prog 51 #[.pointer (some ⟨B, 0, none⟩), .int .i64 n] w fun e w' => ∃ b : Bool, e = .returned (.bool b) ∧ CurAt w' B zs ∧ w.grownBy w' (some B) := by
  go_enter Tryz.func51, Tryz.ntmps51
  go_wp2_with fail
  refine (l1Below_any B zs n w hc hl hn).mono ?_
  rintro e w1 ⟨x, rfl, _, hc1, hg1⟩
  go_wp2
  go_ret
  exact ⟨_, rfl, hc1, hg1⟩

end Go.Proofs.YtajcffchopcamaaGreatDoor

/- The walks of laws.markSlotS, heldSlotS: rows of slots with marks. -/
namespace Go.Proofs.YtajcffchopcamaaGreatDoor
open Go.RowKit

def RowV (w : World) (base g n cap : Nat) (pre cs post : List Value) : Prop := w.ownsRow base 41 4 (.slice (some ⟨g, 0, none⟩) n cap) n (pre ++ (cs ++ post))
theorem RowV.cell {w : World} {base g n cap j : Nat} {pre cs post : List Value} (h : RowV w base g n cap pre cs post) (hp : pre.length = j * 4) (hc : cs.length = 4) (i : Nat) (v : Value) (hv : cs[i]? = some v) : w.cell? ⟨g, j * 4 + i, none⟩ = some v := by
  have hi : i < 4 := by have := (List.getElem?_eq_some_iff.1 hv).1; omega
  have hl := h.1
  rw [List.length_append, List.length_append] at hl
  rw [World.ownsRow.cellAt h (j * 4 + i) (by omega), List.getElem?_append_right (by omega), List.getElem?_append_left (by omega), show j * 4 + i - pre.length = i by omega]
  exact hv
theorem RowV.frozen {w : World} {base g n cap : Nat} {pre cs post : List Value} (h : RowV w base g n cap pre cs post) (i : Nat) : w.frozen? ⟨g, i, none⟩ = false := World.ownsRow.frozenAt h i
theorem RowV.set {w : World} {base g n cap j : Nat} {pre cs post : List Value} (h : RowV w base g n cap pre cs post) (hp : pre.length = j * 4) (hc : cs.length = 4) (i : Nat) (hi : i < 4) (v : Value) : RowV (w.setCell ⟨g, j * 4 + i, none⟩ v) base g n cap pre (cs.set i v) post ∧ w.grownBy (w.setCell ⟨g, j * 4 + i, none⟩ v) (some g) := by
  have := World.ownsRow.stored h (j * 4 + i) v
  rw [List.set_append_right _ _ (by omega), show j * 4 + i - pre.length = i by omega, List.set_append_left _ _ (by omega)] at this
  exact this
theorem RowV.block {w w' : World} {base g n cap : Nat} {pre cs post : List Value} (h : RowV w base g n cap pre cs post) (hb : w'.heap[g]? = w.heap[g]?) : RowV w' base g n cap pre cs post := ownsRow_block h (fun k hk => by cases hk; exact hb)
theorem RowV.keep {w w' : World} {base g n cap : Nat} {pre cs post : List Value} {bl : List Nat} (h : RowV w base g n cap pre cs post) (ht : Touch bl w w') (hd : g ∉ bl) : RowV w' base g n cap pre cs post := h.block (ht.block g (World.ownsRow.lt h g rfl).2 hd)

theorem OwnVw.replace {w w' : World} {lo hi g c : Nat} {A B : List SlotA} {z y : SlotA} (h : OwnVw w lo hi (some ⟨g, 0, none⟩) c (A ++ z :: B)) (ht : Touch (g :: z.blocks) w w') (hrow : RowV w' lo g (A ++ z :: B).length c (cellsVw A) y.cells (cellsVw B)) (hy : y.own w' lo hi) (hb : y.blocks = z.blocks) : OwnVw w' lo hi (some ⟨g, 0, none⟩) c (A ++ y :: B) := by
  have hap := h.apart
  simp only [List.flatMap_append, List.flatMap_cons, Value.ownBlock, Option.toList, List.singleton_append, List.nodup_cons, List.nodup_append, List.mem_append, not_or] at hap
  obtain ⟨⟨n1, n2, n3⟩, a1, ⟨a2, a3, a4⟩, a5⟩ := hap
  refine ⟨?_, Nat.le_trans h.top ht.size, fun k hk => by cases hk; exact h.blk g rfl, fun r hr => ?_, ?_⟩
  · have e : (A ++ y :: B).length = (A ++ z :: B).length := by simp
    rw [e, cellsVw_app, cellsVw_cons]
    exact hrow
  · rcases List.mem_append.1 hr with hr | hr
    · refine SlotA.touch (h.each r (by simp [hr])) ht (fun k hk hk' => ?_)
      have hm : k ∈ A.flatMap SlotA.blocks := List.mem_flatMap.2 ⟨r, hr, hk⟩
      rcases List.mem_cons.1 hk' with rfl | hk'
      · exact n1 hm
      · exact a5 k hm k (.inl hk') rfl
    · rcases List.mem_cons.1 hr with rfl | hr
      · exact hy
      · refine SlotA.touch (h.each r (by simp [hr])) ht (fun k hk hk' => ?_)
        have hm : k ∈ B.flatMap SlotA.blocks := List.mem_flatMap.2 ⟨r, hr, hk⟩
        rcases List.mem_cons.1 hk' with rfl | hk'
        · exact n3 hm
        · exact a4 k hk' k hm rfl
  · have := h.apart
    simp only [List.flatMap_append, List.flatMap_cons] at this ⊢
    rw [hb]
    exact this

end Go.Proofs.YtajcffchopcamaaGreatDoor

/- The walks of spec.l11Draw, DrawHeap: a view that is right. -/
namespace Go.Proofs.YtajcffchopcamaaGreatDoor
open Go.RowKit
attribute [local go_sem ↓] Go.wp_at_zero Go.wp_at_succ

/-- An object in its box whose Refs are being drawn; what its Ints are stands aside. -/
structure ObjR (w : World) (lo Bo : Nat) (kd : Int) (vI : Value) (aR : Option Addr) (cR : Nat) (rs : List Int) : Prop where
  box : Box w Bo [.int .i64 kd, vI, .slice aR rs.length cR] 39
  own : OwnI w lo w.heap.size aR cR rs
  lt : Bo < lo
theorem ObjR.kept {w w' : World} {lo Bo B : Nat} {kd : Int} {vI : Value} {aR : Option Addr} {cR : Nat} {rs : List Int} (h : ObjR w lo Bo kd vI aR cR rs) (hg : w.grownBy w' (some B)) (hB : B < Bo) : ObjR w' lo Bo kd vI aR cR rs := by
  have hlt := h.lt
  have h2 := h.own.kept hg (fun k hk e => by have := (h.own.lt k hk).1; cases e; omega)
  exact ⟨h.box.block (hg.block Bo h.box.lt (fun e => by cases e; omega)), h2.widen (Nat.le_refl _) h2.2.1 (Nat.le_refl _), h.lt⟩
theorem ObjR.alloc {w : World} {lo Bo : Nat} {kd : Int} {vI : Value} {aR : Option Addr} {cR : Nat} {rs : List Int} (h : ObjR w lo Bo kd vI aR cR rs) (ob : Obj) : ObjR (w.alloc ob) lo Bo kd vI aR cR rs :=
  ⟨h.box.alloc ob, (h.own.below ((Below.refl _ _).alloc (Nat.le_refl _) ob)).widen (Nat.le_refl _) (by simp) (Nat.le_refl _), h.lt⟩
theorem ObjR.three {w : World} {lo Bo : Nat} {kd : Int} {vI : Value} {aR : Option Addr} {cR : Nat} {rs : List Int} (h : ObjR w lo Bo kd vI aR cR rs) : w.cell? ⟨Bo, 2, none⟩ = some (.slice aR rs.length cR) ∧ w.frozen? ⟨Bo, 2, none⟩ = false := ⟨h.box.cell 2 _ rfl, h.box.frozen 2⟩
theorem ObjR.push {w0 w w' : World} {lo Bo B : Nat} {kd : Int} {vI : Value} {aR : Option Addr} {cR : Nat} {rs : List Int} {zs : List Int} (h : ObjR w lo Bo kd vI aR cR rs) (hc : CurAt w B zs) (hB : B < Bo) (hg0 : w0.grownBy w (some B)) (h0 : w0.heap.size ≤ Bo)
    {a' : Option Addr} {c' : Nat} {ys : List Int} (ho : OwnI w' lo w'.heap.size a' c' ys) (hg : w.grownBy w' (Value.slice aR rs.length cR).ownBlock) :
    (w'.cell? ⟨Bo, 2, none⟩ = some (.slice aR rs.length cR) ∧ w'.frozen? ⟨Bo, 2, none⟩ = false) ∧
    ObjR (w'.setCell ⟨Bo, 2, none⟩ (.slice a' ys.length c')) lo Bo kd vI a' c' ys ∧ CurAt (w'.setCell ⟨Bo, 2, none⟩ (.slice a' ys.length c')) B zs ∧ w0.grownBy (w'.setCell ⟨Bo, 2, none⟩ (.slice a' ys.length c')) (some B) ∧ (∀ b, b < lo → b ≠ Bo → b < w.heap.size → (w'.setCell ⟨Bo, 2, none⟩ (.slice a' ys.length c')).heap[b]? = w.heap[b]?) := by
  have hlt := h.lt
  have hb' : Box w' Bo _ _ := h.box.block (hg.block Bo h.box.lt (fun e => by have := (h.own.lt Bo e.symm).1; omega))
  have hbs := hb'.set 2 (.slice a' ys.length c')
  simp only [List.set] at hbs
  have hgs := grown_set w' Bo 2 (.slice a' ys.length c')
  have hR2 := ho.kept hgs (fun k hk e => by have := (ho.lt k hk).1; cases e; omega)
  refine ⟨⟨hb'.cell 2 _ rfl, hb'.frozen 2⟩, ⟨hbs, hR2.widen (Nat.le_refl _) hR2.2.1 (Nat.le_refl _), hlt⟩, ?_, ?_, ?_⟩
  · exact (hc.kept hg (fun k e => by have := (h.own.lt k e).1; omega)).kept hgs (fun k e => by cases e; omega)
  · exact grownBy_new (grownBy_new hg0 hg (fun k e => by have := (h.own.lt k e).1; omega)) hgs (fun k e => by cases e; omega)
  · intro b hb hn hbl
    rw [hgs.block b (by have := hg.size; omega) (fun e => hn (Option.some.inj e))]
    exact hg.block b hbl (fun e => by have := (h.own.lt b e.symm).1; omega)
/-- Slots that are right, the first of them empty. -/
def HeapOk (ts : List SlotA) : Prop := (ts.getD 0 zeroS).v.has = false ∧ ∀ t ∈ ts, slotB t.v = true
theorem getD_rng {l : List Int} (h : ∀ z ∈ l, 0 ≤ z ∧ z ≤ 31) (j : Nat) : 0 ≤ l.getD j 0 ∧ l.getD j 0 ≤ 31 := by
  by_cases hj : j < l.length
  · exact h _ (by simp [List.getD, hj])
  · simp [List.getD, List.getElem?_eq_none (by omega : l.length ≤ j)]
theorem slotB_drawn (kd y : Int) (rs : List Int) (aI : Option Addr) (cI : Nat) (aR : Option Addr) (cR : Nat) (h1 : 1 ≤ kd ∧ kd ≤ 3) (h2 : 0 ≤ y ∧ y ≤ 8) (h3 : rs.length ≤ 3) (h4 : ∀ z ∈ rs, 0 ≤ z ∧ z ≤ 31) : slotB (⟨⟨true, ⟨kd, [y], rs⟩⟩, aI, cI, aR, cR⟩ : SlotA).v = true := by
  simp only [slotB, okB, if_true]
  simp only [Bool.and_eq_true, decide_eq_true_eq, List.all_eq_true]
  refine ⟨by simp [inB]; omega, by simp, by omega, fun z hz => ?_, fun z hz => ?_⟩
  · rw [List.mem_singleton.1 hz]; simp [inB]; omega
  · have := h4 z hz; simp [inB]; omega
end Go.Proofs.YtajcffchopcamaaGreatDoor
