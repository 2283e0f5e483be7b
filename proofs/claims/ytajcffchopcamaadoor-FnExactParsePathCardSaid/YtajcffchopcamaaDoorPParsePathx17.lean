/- Several texts in one, in their order. -/
import Derived.Test.YtajcffchopcamaaDoorPParsePathx15
import Derived.Test.YtajcffchopcamaaDoorPParsePathx16
import Derived.Test.YtajcffchopcamaaDoorProg
import Derived.Test.YtajcffchopcamaaDoorPParsePathx1
import Derived.WalkKit
/- Plain mathematics: an object comes back of its bytes, and of them alone. -/
namespace Go.Proofs.YtajcffchopcamaaDoor
open Go.RowKit

end Go.Proofs.YtajcffchopcamaaDoor

/- Plain mathematics of reading an object number by number: what is read is just what is put. -/
namespace Go.Proofs.YtajcffchopcamaaDoor
open Go.RowKit

def Bytes (zs : List Int) : Prop := ∀ z ∈ zs, 0 ≤ z ∧ z < 256
theorem Bytes.drop {zs : List Int} (h : Bytes zs) (p : Nat) : Bytes (zs.drop p) := fun z hz => h z (List.mem_of_mem_drop hz)

end Go.Proofs.YtajcffchopcamaaDoor

/- The walk of impl.crcByte. -/
namespace Go.Proofs.YtajcffchopcamaaDoor
open Go.RowKit



end Go.Proofs.YtajcffchopcamaaDoor
