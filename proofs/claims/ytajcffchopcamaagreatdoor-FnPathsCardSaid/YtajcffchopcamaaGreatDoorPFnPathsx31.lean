/- Several texts in one, in their order. -/
import Derived.Test.YtajcffchopcamaaGreatDoorPFnPathsx30
/- What the row's condition gives the walk of FnPaths. -/
namespace Go.Proofs.YtajcffchopcamaaGreatDoor
open Go.ChangeShapes Go.WideShapes Go.RowKit

theorem envQ_of_laid {W : World} (hL : laidMetH Tryz.prog Rows.fnPathsRow.laid W) : ErrT W ∧ EnvN W := by
  obtain ⟨hd, hh⟩ : laidMet Tryz.prog _ W ∧ handlesMet Tryz.prog _ W := hL
  exact ⟨errT_of_handles (List.Mem.head _) hh, envN_of hd (by kernel_rfl) (List.Mem.tail _ (List.Mem.tail _ (List.Mem.head _)))
    (by kernel_rfl) (List.Mem.tail _ (List.Mem.tail _ (List.Mem.tail _ (List.Mem.head _))))
    (by kernel_rfl) (List.Mem.tail _ (List.Mem.tail _ (List.Mem.tail _ (List.Mem.tail _ (List.Mem.head _)))))⟩
end Go.Proofs.YtajcffchopcamaaGreatDoor
