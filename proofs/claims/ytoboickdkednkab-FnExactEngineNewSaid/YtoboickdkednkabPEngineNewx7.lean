/- Several texts in one, in their order. -/
import Derived.Test.YtoboickdkednkabPEngineNewx5
import Derived.Test.YtoboickdkednkabPEngineNewx6
import Derived.Test.YtoboickdkednkabPEngineNewx2
import Derived.Test.YtoboickdkednkabPEngineNewx4
import Derived.Deep.QuietTactic
import Derived.BigQuiet
import Derived.Test.YtoboickdkednkabPEngineNewx3
/- Plain mathematics of pages: when they are right, what their bytes are, that they come back of them, and of them alone. -/
namespace Go.Proofs.Ytoboickdkednkab
open Go.RowKit

/-- The lists of these slots are not beyond any machine. -/
def Fit (ss : List SlotA) : Prop := ∀ s ∈ ss, s.v.o.ints.length ≤ 1099511627776 ∧ s.v.o.refs.length ≤ 1099511627776

end Go.Proofs.Ytoboickdkednkab

/- The walks of spec.l3SameSlot (with no slot) and spec.l4Zero. -/
namespace Go.Proofs.Ytoboickdkednkab
open Go.RowKit

end Go.Proofs.Ytoboickdkednkab

/- The walk of spec.l4Lives. -/
namespace Go.Proofs.Ytoboickdkednkab
open Go.RowKit

end Go.Proofs.Ytoboickdkednkab

/- The walk of spec.FreeSlot. -/
namespace Go.Proofs.Ytoboickdkednkab
open Go.RowKit

end Go.Proofs.Ytoboickdkednkab

/- The walks of spec.l3Slot and spec.PageOk. -/
namespace Go.Proofs.Ytoboickdkednkab
open Go.RowKit

end Go.Proofs.Ytoboickdkednkab

/- The walk of spec.RecOk. -/
namespace Go.Proofs.Ytoboickdkednkab
open Go.RowKit

end Go.Proofs.Ytoboickdkednkab

/- The walk of spec.Crc: it comes to crcOf. -/
namespace Go.Proofs.Ytoboickdkednkab
open Go.RowKit

end Go.Proofs.Ytoboickdkednkab

/- The walk of spec.l1Four. -/
namespace Go.Proofs.Ytoboickdkednkab
open Go.RowKit

end Go.Proofs.Ytoboickdkednkab

/- The walk of spec.Frame: it comes to frameOf. -/
namespace Go.Proofs.Ytoboickdkednkab
open Go.RowKit

end Go.Proofs.Ytoboickdkednkab
