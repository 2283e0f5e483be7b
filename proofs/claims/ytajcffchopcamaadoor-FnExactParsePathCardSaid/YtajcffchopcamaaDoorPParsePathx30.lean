/- Several texts in one, in their order. -/
import Derived.Test.YtajcffchopcamaaDoorPParsePathx29
/- What the row's condition gives the walk of ParsePath. -/
namespace Go.Proofs.YtajcffchopcamaaDoor
open Go.ChangeShapes Go.WideShapes Go.RowKit

theorem envN_of_laid {W : World} (hL : laidMetH Tryd.prog Rows.fnExactParsePathRow.laid W) : EnvN W := by
  have hd : laidMet Tryd.prog Rows.fnExactParsePathRow.laid W := hL
  exact envN_of hd (by kernel_rfl) (List.Mem.tail _ (List.Mem.tail _ (List.Mem.head _)))
    (by kernel_rfl) (List.Mem.tail _ (List.Mem.tail _ (List.Mem.tail _ (List.Mem.head _))))
    (by kernel_rfl) (List.Mem.tail _ (List.Mem.tail _ (List.Mem.tail _ (List.Mem.tail _ (List.Mem.head _)))))
end Go.Proofs.YtajcffchopcamaaDoor
