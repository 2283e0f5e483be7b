/- Several texts in one, in their order. -/
import Derived.Test.YtajcffchopcamaaDoorPPathTextx10
import Derived.Test.YtajcffchopcamaaDoorPPathTextx11
import Derived.WalkKit
import Derived.Laws.Strings
/- Plain mathematics of numbers in texts: which texts are numbers, and what they are. -/
namespace Go.Proofs.YtajcffchopcamaaDoor

def signed (minus : Bool) (n : Nat) : Int := if minus then -(n : Int) else n
end Go.Proofs.YtajcffchopcamaaDoor

/- The bytes of a text. -/
namespace Go.Proofs.YtajcffchopcamaaDoor

end Go.Proofs.YtajcffchopcamaaDoor

/- The walk of spec.l2Number. -/
namespace Go.Proofs.YtajcffchopcamaaDoor
open Go.RowKit

end Go.Proofs.YtajcffchopcamaaDoor
