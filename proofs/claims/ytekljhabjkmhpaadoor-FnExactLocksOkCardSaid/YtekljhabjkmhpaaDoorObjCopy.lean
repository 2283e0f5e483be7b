/- The walk of laws.toObj. -/
import Derived.Test.YtekljhabjkmhpaaDoorCopyI
import Derived.Test.YtekljhabjkmhpaaDoorObjV
namespace Go.Proofs.YtekljhabjkmhpaaDoor
open Go.RowKit

end Go.Proofs.YtekljhabjkmhpaaDoor
