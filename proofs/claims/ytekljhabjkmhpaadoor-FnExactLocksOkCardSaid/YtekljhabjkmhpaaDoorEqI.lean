/- The walk of laws.eqIntS. -/
import Derived.Test.YtekljhabjkmhpaaDoorProg
import Derived.Test.YtekljhabjkmhpaaDoorInts
import Derived.Deep.QuietTactic
import Derived.BigQuiet
namespace Go.Proofs.YtekljhabjkmhpaaDoor
open Go.RowKit

end Go.Proofs.YtekljhabjkmhpaaDoor
