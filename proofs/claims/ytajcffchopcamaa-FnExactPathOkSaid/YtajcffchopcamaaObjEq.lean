/- The walks of laws.eqObj, markObj, heldObj. -/
import Derived.Test.YtajcffchopcamaaObjV
import Derived.Test.YtajcffchopcamaaEqI
import Derived.Test.YtajcffchopcamaaMarkI
namespace Go.Proofs.Ytajcffchopcamaa
open Go.RowKit

def markO (o : ObjV) (k0 : Int) : ObjV := ⟨o.kind, marksI k0 o.ints.length, marksI (k0 + o.ints.length) o.refs.length⟩

end Go.Proofs.Ytajcffchopcamaa
