/- Texts. -/
import Derived.Test.YtnfdccldabbobaaGreatDoorP10
set_option maxHeartbeats 8000000
set_option maxRecDepth 100000
namespace Go.Proofs.YtnfdccldabbobaaGreatDoor
open Go.RowKit Go.Proofs.Tryz
end Go.Proofs.YtnfdccldabbobaaGreatDoor
