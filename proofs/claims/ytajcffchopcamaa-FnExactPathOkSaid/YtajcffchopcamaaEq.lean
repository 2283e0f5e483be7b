/- The walk of laws.eqByteS. -/
import Derived.Test.YtajcffchopcamaaProg
import Derived.Test.YtajcffchopcamaaReads
import Derived.Deep.QuietTactic
import Derived.BigQuiet
namespace Go.Proofs.Ytajcffchopcamaa
open Go.RowKit

end Go.Proofs.Ytajcffchopcamaa
