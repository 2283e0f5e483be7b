/- What the row's condition gives the walk of ObjText; a law for its witness. -/
import Derived.Test.YtdibmepjbabnnacDoorRows
import Derived.Test.YtdibmepjbabnnacDoorLaid1
import Derived.Test.YtdibmepjbabnnacDoorItoa
import Derived.Lay
namespace Go.Proofs.YtdibmepjbabnnacDoor
open Go.ChangeShapes Go.WideShapes Go.RowKit

theorem laidMet_over {P : Program} {w0 : World} {laid : List (String × DataW Unit)} (args : Array Value) (hf : w0.layFits P laid [] = true) (hi : w0.layIfaces P laid (w0.layVars P laid) = true) :
    laidMet P laid ((w0.layVars P laid).forCall (fun _ _ => 0) ⟨#[], args, []⟩).memory := by
  have e1 : (laid.filter fun x => (laid.map (·.1)).contains x.1) = laid := List.filter_eq_self.2 fun x hx => List.contains_iff_mem.2 (List.mem_map.2 ⟨x, hx, rfl⟩)
  have e2 : (laid.filter fun x => !(laid.map (·.1)).contains x.1) = [] := List.filter_eq_nil_iff.2 fun x hx => by rw [List.contains_iff_mem.2 (List.mem_map.2 ⟨x, hx, rfl⟩)]; simp
  have h : laidMet P laid (w0.layVars P laid) := laidMet_layVars (w0 := w0) (laid.map (·.1)) [] (by rw [e1]) (by rw [e1]; exact hf) (by rw [e1]; exact hi) (by rw [e2]; exact LaidIn.none)
  exact h.of_heap (by simp [World.memory, World.forCall, Input.heap])

theorem Tryd.pow10Data : (Rows.laid_internal_strconv_uint64pow10 : DataW Unit) = Lib.tabData .u64 Lib.pow10Tab := by kernel_rfl

theorem pow_of_laid {W : World} {laid : List (String × DataW Unit)} {name : String} (hn : Tryd.prog.globalNamed name = some 1) (hl : laidMet Tryd.prog laid W) (hm : (name, Rows.laid_internal_strconv_uint64pow10) ∈ laid) :
    ∃ t f, W.heap[1]? = some (.cells (Lib.pow10Tab.map fun z => Value.int .u64 z).toArray t f) := by
  rw [Tryd.pow10Data] at hm
  exact tab_heap hl hm hn (by kernel_rfl) Tryd.underlying137 Tryd.underlying113 (by kernel_rfl) (by kernel_rfl)

theorem envT_of_laid {W : World} (hL : laidMetH Tryd.prog Rows.fnExactObjTextRow.laid W) : EnvT W := by
  obtain ⟨hd, hh⟩ : laidMet Tryd.prog _ W ∧ handlesMet Tryd.prog _ W := hL
  exact ⟨errT_of_handles (List.Mem.head _) hh, pow_of_laid (by kernel_rfl) hd (List.Mem.tail _ (List.Mem.tail _ (List.Mem.head _)))⟩
end Go.Proofs.YtdibmepjbabnnacDoor
