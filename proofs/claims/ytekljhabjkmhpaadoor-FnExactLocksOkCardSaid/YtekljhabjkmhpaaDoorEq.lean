/- The walk of laws.eqByteS. -/
import Derived.Test.YtekljhabjkmhpaaDoorProg
import Derived.Test.YtekljhabjkmhpaaDoorReads
import Derived.Deep.QuietTactic
import Derived.BigQuiet
namespace Go.Proofs.YtekljhabjkmhpaaDoor
open Go.RowKit

end Go.Proofs.YtekljhabjkmhpaaDoor
