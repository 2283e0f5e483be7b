/- Several texts in one, in their order. -/
import Derived.Test.YtajcffchopcamaaDoorRows
import Derived.Test.YtajcffchopcamaaDoorPPathTextx16
import Derived.LaidLaws
import Derived.LaidHandle
import Derived.Stop.Joined
import Derived.ChangeVars
import Derived.Lay
import Derived.Shelf.Vars
/- What a row's condition on the library's table of powers and its two errors gives; a law for a witness. -/
namespace Go.Proofs.YtajcffchopcamaaDoor
open Go.ChangeShapes Go.WideShapes Go.RowKit

theorem laidMet_overN {P : Program} {w0 : World} {laid : List (String × DataW Unit)} (args : Array Value) (hf : w0.layFits P laid [] = true) (hi : w0.layIfaces P laid (w0.layVars P laid) = true) :
    laidMet P laid ((w0.layVars P laid).forCall (fun _ _ => 0) ⟨#[], args, []⟩).memory := by
  have e1 : (laid.filter fun x => (laid.map (·.1)).contains x.1) = laid := List.filter_eq_self.2 fun x hx => List.contains_iff_mem.2 (List.mem_map.2 ⟨x, hx, rfl⟩)
  have e2 : (laid.filter fun x => !(laid.map (·.1)).contains x.1) = [] := List.filter_eq_nil_iff.2 fun x hx => by rw [List.contains_iff_mem.2 (List.mem_map.2 ⟨x, hx, rfl⟩)]; simp
  have h : laidMet P laid (w0.layVars P laid) := laidMet_layVars (w0 := w0) (laid.map (·.1)) [] (by rw [e1]) (by rw [e1]; exact hf) (by rw [e1]; exact hi) (by rw [e2]; exact LaidIn.none)
  exact h.of_heap (by simp [World.memory, World.forCall, Input.heap])

theorem Tryd.pow10DataN : (Rows.laid_internal_strconv_uint64pow10 : DataW Unit) = Lib.tabData .u64 Lib.pow10Tab := by kernel_rfl

theorem powT_of {W : World} {laid : List (String × DataW Unit)} {name : String} (hn : Tryd.prog.globalNamed name = some 0) (hl : laidMet Tryd.prog laid W) (hm : (name, Rows.laid_internal_strconv_uint64pow10) ∈ laid) : PowT W := by
  rw [Tryd.pow10DataN] at hm
  exact tab_heap hl hm hn (by kernel_rfl) Tryd.underlying81 Tryd.underlying71 (by kernel_rfl) (by kernel_rfl)

end Go.Proofs.YtajcffchopcamaaDoor

/- What the row's condition gives the walk of PathText. -/
namespace Go.Proofs.YtajcffchopcamaaDoor
open Go.ChangeShapes Go.WideShapes Go.RowKit

theorem powT_of_laid {W : World} (hL : laidMetH Tryd.prog Rows.fnExactPathTextRow.laid W) : PowT W := by
  have hd : laidMet Tryd.prog Rows.fnExactPathTextRow.laid W := hL
  exact powT_of (by kernel_rfl) hd (List.Mem.tail _ (List.Mem.tail _ (List.Mem.head _)))
end Go.Proofs.YtajcffchopcamaaDoor
