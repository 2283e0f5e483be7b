/- Several texts in one, in their order. -/
import Derived.Test.YtnnehpimkdoeoaaPChainx9
import Derived.Test.YtnnehpimkdoeoaaPChainx10
import Derived.Test.YtnnehpimkdoeoaaPChainx24
/- The walks of laws.markRec and laws.heldRec. -/
namespace Go.Proofs.Ytnnehpimkdoeoaa
open Go.RowKit

def RecA.mark (r : RecA) (k : Int) : RecA := { r with bf := r.bf.mark k, af := r.af.mark (k + r.bf.count), txs := marksL (k + r.bf.count + r.af.count) r.txs.length }
def RecA.count (r : RecA) : Nat := r.bf.count + r.af.count + 3 * r.txs.length
theorem markR_blocks (r : RecA) (k : Int) : (r.mark k).blocks = r.blocks := by simp [RecA.mark, RecA.blocks, mark_blocks, marksL_len]
theorem markR_cells (r : RecA) (k : Int) : (r.mark k).cells = r.cells := by simp [RecA.mark, RecA.cells, SlotA.mark, markO, marksI_len, marksL_len]

end Go.Proofs.Ytnnehpimkdoeoaa
