/- Several texts in one, in their order. -/
import Derived.Test.YtgbpnepipknjnaaDoorPFnMarkedx5
import Derived.Deep.RegionHeld3
import Derived.Test.YtgbpnepipknjnaaDoorPFnMarkedx3
import Derived.Deep.CutRange
import Derived.WalkKit
import Derived.Test.YtgbpnepipknjnaaDoorProg
import Derived.Test.YtgbpnepipknjnaaDoorPFnMarkedx1
import Derived.Test.YtgbpnepipknjnaaDoorPFnMarkedx2
/- The walks of laws.toSlotS, szSlotS, eqSlotS. -/
namespace Go.Proofs.YtgbpnepipknjnaaDoor
open Go.RowKit

theorem Tryd.infoSlotV : (Tryd.prog.info? 37).map (fun i => (i.zero, i.size, i.bytes)) = some (some (.agg zeroS.cells.toArray), 4, 64) := by kernel_rfl
theorem slot_oneV (t : SlotA) : t.cells.toArray.all (·.oneCell') = true := all_oneCell_toArray (by intro v hv; simp only [SlotA.cells, List.mem_cons, List.not_mem_nil, or_false] at hv; rcases hv with rfl | rfl | rfl | rfl <;> rfl)
theorem rep_lenV (n : Nat) (r : SlotA) : (List.replicate n r).length = n := by simp
theorem zero_cellsVw (n : Nat) : (madeCells (Value.agg zeroS.cells.toArray).cells (n * 4)).toList = cellsVw (List.replicate n zeroS) := by
  apply List.ext_getElem?
  intro i
  by_cases h : i < n * 4
  · have e := cellsVw_at (List.replicate n zeroS) (i / 4) (i % 4) (by simp; omega) (Nat.mod_lt _ (by omega))
    rw [show i / 4 * 4 + i % 4 = i by omega] at e
    rw [e]
    have hg : (List.replicate n zeroS).getD (i / 4) zeroS = zeroS := by simp [List.getD, show i / 4 < n by omega]
    rw [hg]
    simp only [madeCells, Array.toList_map, List.getElem?_map, Array.toList_range, List.getElem?_range h, Option.map_some]
    have hm : i % 4 < 4 := Nat.mod_lt _ (by omega)
    have hz : ∀ j, j < 4 → some ((Value.agg zeroS.cells.toArray).cells[j]!) = zeroS.cells[j]? := by
      intro j hj
      rcases (by omega : j = 0 ∨ j = 1 ∨ j = 2 ∨ j = 3) with rfl | rfl | rfl | rfl <;> rfl
    exact hz _ hm
  · rw [List.getElem?_eq_none (by simp [size_madeCells]; omega), List.getElem?_eq_none (by rw [cellsVw_len]; simp; omega)]
theorem own_zeroVw {w : World} {lo hi g c : Nat} (n : Nat) (h : w.ownsRow lo 37 4 (.slice (some ⟨g, 0, none⟩) n c) n (cellsVw (List.replicate n zeroS))) (ht : hi ≤ w.heap.size) (hg : g < hi) : OwnVw w lo hi (some ⟨g, 0, none⟩) c (List.replicate n zeroS) := by
  refine ⟨by rw [rep_lenV]; exact h, ht, fun k hk => by cases hk; exact hg, fun r hr => ?_, ?_⟩
  · rw [(List.mem_replicate.1 hr).2]
    exact ⟨ownI_nil _ _ _ ht, ownI_nil _ _ _ ht, fun k hk => by cases hk⟩
  · have e : (List.replicate n zeroS).flatMap SlotA.blocks = [] := by
      rw [List.flatMap_eq_nil_iff]
      intro r hr
      rw [(List.mem_replicate.1 hr).2]
      rfl
    rw [e]
    simp [Value.ownBlock]

/-- The first k of a row have come. -/
def CameV (rs ts : List SlotA) (k : Nat) : Prop := ts.length = k ∧ ts.map SlotA.v = (rs.take k).map SlotA.v
theorem CameV.all {rs ts : List SlotA} (h : CameV rs ts rs.length) : ts.map SlotA.v = rs.map SlotA.v := by
  have := h.2
  rwa [List.take_length] at this
end Go.Proofs.YtgbpnepipknjnaaDoor

/- The walks of laws.markSlotS, heldSlotS: rows of slots with marks. -/
namespace Go.Proofs.YtgbpnepipknjnaaDoor
open Go.RowKit

def RowV (w : World) (base g n cap : Nat) (pre cs post : List Value) : Prop := w.ownsRow base 37 4 (.slice (some ⟨g, 0, none⟩) n cap) n (pre ++ (cs ++ post))
theorem RowV.cell {w : World} {base g n cap j : Nat} {pre cs post : List Value} (h : RowV w base g n cap pre cs post) (hp : pre.length = j * 4) (hc : cs.length = 4) (i : Nat) (v : Value) (hv : cs[i]? = some v) : w.cell? ⟨g, j * 4 + i, none⟩ = some v := by
  have hi : i < 4 := by have := (List.getElem?_eq_some_iff.1 hv).1; omega
  have hl := h.1
  rw [List.length_append, List.length_append] at hl
  rw [World.ownsRow.cellAt h (j * 4 + i) (by omega), List.getElem?_append_right (by omega), List.getElem?_append_left (by omega), show j * 4 + i - pre.length = i by omega]
  exact hv
theorem RowV.frozen {w : World} {base g n cap : Nat} {pre cs post : List Value} (h : RowV w base g n cap pre cs post) (i : Nat) : w.frozen? ⟨g, i, none⟩ = false := World.ownsRow.frozenAt h i
theorem RowV.set {w : World} {base g n cap j : Nat} {pre cs post : List Value} (h : RowV w base g n cap pre cs post) (hp : pre.length = j * 4) (hc : cs.length = 4) (i : Nat) (hi : i < 4) (v : Value) : RowV (w.setCell ⟨g, j * 4 + i, none⟩ v) base g n cap pre (cs.set i v) post ∧ w.grownBy (w.setCell ⟨g, j * 4 + i, none⟩ v) (some g) := by
  have := World.ownsRow.stored h (j * 4 + i) v
  rw [List.set_append_right _ _ (by omega), show j * 4 + i - pre.length = i by omega, List.set_append_left _ _ (by omega)] at this
  exact this
theorem RowV.block {w w' : World} {base g n cap : Nat} {pre cs post : List Value} (h : RowV w base g n cap pre cs post) (hb : w'.heap[g]? = w.heap[g]?) : RowV w' base g n cap pre cs post := ownsRow_block h (fun k hk => by cases hk; exact hb)
theorem RowV.keep {w w' : World} {base g n cap : Nat} {pre cs post : List Value} {bl : List Nat} (h : RowV w base g n cap pre cs post) (ht : Touch bl w w') (hd : g ∉ bl) : RowV w' base g n cap pre cs post := h.block (ht.block g (World.ownsRow.lt h g rfl).2 hd)

theorem OwnVw.replace {w w' : World} {lo hi g c : Nat} {A B : List SlotA} {z y : SlotA} (h : OwnVw w lo hi (some ⟨g, 0, none⟩) c (A ++ z :: B)) (ht : Touch (g :: z.blocks) w w') (hrow : RowV w' lo g (A ++ z :: B).length c (cellsVw A) y.cells (cellsVw B)) (hy : y.own w' lo hi) (hb : y.blocks = z.blocks) : OwnVw w' lo hi (some ⟨g, 0, none⟩) c (A ++ y :: B) := by
  have hap := h.apart
  simp only [List.flatMap_append, List.flatMap_cons, Value.ownBlock, Option.toList, List.singleton_append, List.nodup_cons, List.nodup_append, List.mem_append, not_or] at hap
  obtain ⟨⟨n1, n2, n3⟩, a1, ⟨a2, a3, a4⟩, a5⟩ := hap
  refine ⟨?_, Nat.le_trans h.top ht.size, fun k hk => by cases hk; exact h.blk g rfl, fun r hr => ?_, ?_⟩
  · have e : (A ++ y :: B).length = (A ++ z :: B).length := by simp
    rw [e, cellsVw_app, cellsVw_cons]
    exact hrow
  · rcases List.mem_append.1 hr with hr | hr
    · refine SlotA.touch (h.each r (by simp [hr])) ht (fun k hk hk' => ?_)
      have hm : k ∈ A.flatMap SlotA.blocks := List.mem_flatMap.2 ⟨r, hr, hk⟩
      rcases List.mem_cons.1 hk' with rfl | hk'
      · exact n1 hm
      · exact a5 k hm k (.inl hk') rfl
    · rcases List.mem_cons.1 hr with rfl | hr
      · exact hy
      · refine SlotA.touch (h.each r (by simp [hr])) ht (fun k hk hk' => ?_)
        have hm : k ∈ B.flatMap SlotA.blocks := List.mem_flatMap.2 ⟨r, hr, hk⟩
        rcases List.mem_cons.1 hk' with rfl | hk'
        · exact n3 hm
        · exact a4 k hk' k hm rfl
  · have := h.apart
    simp only [List.flatMap_append, List.flatMap_cons] at this ⊢
    rw [hb]
    exact this

end Go.Proofs.YtgbpnepipknjnaaDoor

/- Is a number within bounds? -/
namespace Go.Proofs.YtgbpnepipknjnaaDoor
def inB (x l m : Int) : Bool := decide (l ≤ x ∧ x ≤ m)
end Go.Proofs.YtgbpnepipknjnaaDoor

/- The walk of spec.l1In. -/
namespace Go.Proofs.YtgbpnepipknjnaaDoor
open Go.RowKit

end Go.Proofs.YtgbpnepipknjnaaDoor

/- When an object is right; the walk of spec.ObjOk. -/
namespace Go.Proofs.YtgbpnepipknjnaaDoor
open Go.RowKit

def okB (o : ObjV) : Bool := inB o.kind 1 99 && (decide (o.ints.length ≤ 5) && (decide (o.refs.length ≤ 5) && (o.ints.all (fun z => inB z (-1000000) 1000000) && o.refs.all (fun z => inB z 0 31))))

end Go.Proofs.YtgbpnepipknjnaaDoor

/- Plain mathematics of numbers in bytes: groups of seven bits, the lowest first. -/
namespace Go.Proofs.YtgbpnepipknjnaaDoor

def groupsN : Nat → Nat → List Int
  | 0, m => [(m : Int)]
  | f + 1, m => if m < 128 then [(m : Int)] else ((m % 128 + 128 : Nat) : Int) :: groupsN f (m / 128)
def groups (m : Nat) : List Int := groupsN 64 m

/-- A number beyond the greatest counts as that. -/
def clampI (n : Int) : Int := if n > 1000000000000 then 1000000000000 else if n < -1000000000000 then -1000000000000 else n
def zig (n : Int) : Nat := if 0 ≤ clampI n then (2 * clampI n).toNat else (-2 * clampI n - 1).toNat
def putOf (n : Int) : List Int := groups (zig n)

end Go.Proofs.YtgbpnepipknjnaaDoor

/- The walks of impl.appendGroups and impl.foldSign. -/
namespace Go.Proofs.YtgbpnepipknjnaaDoor
open Go.RowKit

end Go.Proofs.YtgbpnepipknjnaaDoor
