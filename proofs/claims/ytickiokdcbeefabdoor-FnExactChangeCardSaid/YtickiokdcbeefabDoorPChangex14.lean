/- Several texts in one, in their order. -/
import Derived.Test.YtickiokdcbeefabDoorPChangex13
import Derived.Deep.RegionLaw
import Derived.Deep.DrawnRows
import Derived.Test.YtickiokdcbeefabDoorPChangex12
import Derived.Test.YtickiokdcbeefabDoorPChangex10
import Derived.Test.YtickiokdcbeefabDoorPChangex9
import Derived.Test.YtickiokdcbeefabDoorPChangex5
import Derived.Test.YtickiokdcbeefabDoorPChangex7
import Derived.Deep.QuietTactic
import Derived.BigQuiet
import Derived.Test.YtickiokdcbeefabDoorPChangex8
/- The walks of impl.copyRecs and impl.copyLog. -/
namespace Go.Proofs.YtickiokdcbeefabDoor
open Go.RowKit

end Go.Proofs.YtickiokdcbeefabDoor

/- Appending a record as a step of a region that draws its order. -/
namespace Go.Proofs.YtickiokdcbeefabDoor
open Go.RowKit

end Go.Proofs.YtickiokdcbeefabDoor

/- The walk of spec.l5Copy. -/
namespace Go.Proofs.YtickiokdcbeefabDoor
open Go.RowKit
attribute [local go_sem ↓] Go.wp_at_zero Go.wp_at_succ

end Go.Proofs.YtickiokdcbeefabDoor

/- Logs: when they are right, what is made of them. -/
namespace Go.Proofs.YtickiokdcbeefabDoor
open Go.RowKit

end Go.Proofs.YtickiokdcbeefabDoor

/- The walks of slices.Equal over what is under way, impl.sameSlot and impl.sameRec. -/
namespace Go.Proofs.YtickiokdcbeefabDoor
open Go.RowKit

end Go.Proofs.YtickiokdcbeefabDoor

/- The walk of impl.RecOk. -/
namespace Go.Proofs.YtickiokdcbeefabDoor
open Go.RowKit

end Go.Proofs.YtickiokdcbeefabDoor

/- The walk of impl.LogOk. -/
namespace Go.Proofs.YtickiokdcbeefabDoor
open Go.RowKit

end Go.Proofs.YtickiokdcbeefabDoor

/- The walk of spec.LogOk. -/
namespace Go.Proofs.YtickiokdcbeefabDoor
open Go.RowKit

end Go.Proofs.YtickiokdcbeefabDoor
