/- Several texts in one, in their order. -/
import Derived.Test.YtajcffchopcamaaGreatDoorPFnPathsx2
import Derived.Test.YtajcffchopcamaaGreatDoorPFnPathsx8
import Derived.Deep.RegionHeld3
import Derived.WalkKit
import Derived.Test.YtajcffchopcamaaGreatDoorPFnPathsx1
/- The walks of laws.szIntS and szObj. -/
namespace Go.Proofs.YtajcffchopcamaaGreatDoor
open Go.RowKit

end Go.Proofs.YtajcffchopcamaaGreatDoor

/- The walks of laws.szSlot, szSlotA4, szPage. -/
namespace Go.Proofs.YtajcffchopcamaaGreatDoor
open Go.RowKit

end Go.Proofs.YtajcffchopcamaaGreatDoor

/- The walks of laws.toSlotS, szSlotS, eqSlotS. -/
namespace Go.Proofs.YtajcffchopcamaaGreatDoor
open Go.RowKit

theorem Tryz.infoSlotV : (Tryz.prog.info? 41).map (fun i => (i.zero, i.size, i.bytes)) = some (some (.agg zeroS.cells.toArray), 4, 64) := by kernel_rfl
theorem slot_oneV (t : SlotA) : t.cells.toArray.all (·.oneCell') = true := all_oneCell_toArray (by intro v hv; simp only [SlotA.cells, List.mem_cons, List.not_mem_nil, or_false] at hv; rcases hv with rfl | rfl | rfl | rfl <;> rfl)
theorem rep_lenV (n : Nat) (r : SlotA) : (List.replicate n r).length = n := by simp
theorem zero_cellsVw (n : Nat) : (madeCells (Value.agg zeroS.cells.toArray).cells (n * 4)).toList = cellsVw (List.replicate n zeroS) := by
  apply List.ext_getElem?
  intro i
  by_cases h : i < n * 4
  · have e := cellsVw_at (List.replicate n zeroS) (i / 4) (i % 4) (by simp; omega) (Nat.mod_lt _ (by omega))
    rw [show i / 4 * 4 + i % 4 = i by omega] at e
    rw [e]
    have hg : (List.replicate n zeroS).getD (i / 4) zeroS = zeroS := by simp [List.getD, show i / 4 < n by omega]
    rw [hg]
    simp only [madeCells, Array.toList_map, List.getElem?_map, Array.toList_range, List.getElem?_range h, Option.map_some]
    have hm : i % 4 < 4 := Nat.mod_lt _ (by omega)
    have hz : ∀ j, j < 4 → some ((Value.agg zeroS.cells.toArray).cells[j]!) = zeroS.cells[j]? := by
      intro j hj
      rcases (by omega : j = 0 ∨ j = 1 ∨ j = 2 ∨ j = 3) with rfl | rfl | rfl | rfl <;> rfl
    exact hz _ hm
  · rw [List.getElem?_eq_none (by simp [size_madeCells]; omega), List.getElem?_eq_none (by rw [cellsVw_len]; simp; omega)]
theorem own_zeroVw {w : World} {lo hi g c : Nat} (n : Nat) (h : w.ownsRow lo 41 4 (.slice (some ⟨g, 0, none⟩) n c) n (cellsVw (List.replicate n zeroS))) (ht : hi ≤ w.heap.size) (hg : g < hi) : OwnVw w lo hi (some ⟨g, 0, none⟩) c (List.replicate n zeroS) := by
  refine ⟨by rw [rep_lenV]; exact h, ht, fun k hk => by cases hk; exact hg, fun r hr => ?_, ?_⟩
  · rw [(List.mem_replicate.1 hr).2]
    exact ⟨ownI_nil _ _ _ ht, ownI_nil _ _ _ ht, fun k hk => by cases hk⟩
  · have e : (List.replicate n zeroS).flatMap SlotA.blocks = [] := by
      rw [List.flatMap_eq_nil_iff]
      intro r hr
      rw [(List.mem_replicate.1 hr).2]
      rfl
    rw [e]
    simp [Value.ownBlock]

/-- The first k of a row have come. -/
def CameV (rs ts : List SlotA) (k : Nat) : Prop := ts.length = k ∧ ts.map SlotA.v = (rs.take k).map SlotA.v
theorem CameV.all {rs ts : List SlotA} (h : CameV rs ts rs.length) : ts.map SlotA.v = rs.map SlotA.v := by
  have := h.2
  rwa [List.take_length] at this
theorem range_belowV {w w' : World} {b o : Nat} {r : SlotA} (h : w.rangeAt b o r.cells) (hb : Below w.heap.size w w') : w'.rangeAt b o r.cells := rangeAt_belowV h hb (rangeV_lt h)

end Go.Proofs.YtajcffchopcamaaGreatDoor

/- Plain mathematics of numbers in bytes: groups of seven bits, the lowest first. -/
namespace Go.Proofs.YtajcffchopcamaaGreatDoor

def groupsN : Nat → Nat → List Int
  | 0, m => [(m : Int)]
  | f + 1, m => if m < 128 then [(m : Int)] else ((m % 128 + 128 : Nat) : Int) :: groupsN f (m / 128)
def groups (m : Nat) : List Int := groupsN 64 m

/-- A number beyond the greatest counts as that. -/
def clampI (n : Int) : Int := if n > 1000000000000 then 1000000000000 else if n < -1000000000000 then -1000000000000 else n
def zig (n : Int) : Nat := if 0 ≤ clampI n then (2 * clampI n).toNat else (-2 * clampI n - 1).toNat
def putOf (n : Int) : List Int := groups (zig n)

end Go.Proofs.YtajcffchopcamaaGreatDoor

/- The walks of impl.appendGroups and impl.foldSign. -/
namespace Go.Proofs.YtajcffchopcamaaGreatDoor
open Go.RowKit

end Go.Proofs.YtajcffchopcamaaGreatDoor
