/- The walks of laws.eqObj, markObj, heldObj. -/
import Derived.Test.YtekljhabjkmhpaaDoorObjV
import Derived.Test.YtekljhabjkmhpaaDoorEqI
import Derived.Test.YtekljhabjkmhpaaDoorMarkI
namespace Go.Proofs.YtekljhabjkmhpaaDoor
open Go.RowKit

def markO (o : ObjV) (k0 : Int) : ObjV := ⟨o.kind, marksI k0 o.ints.length, marksI (k0 + o.ints.length) o.refs.length⟩

end Go.Proofs.YtekljhabjkmhpaaDoor
