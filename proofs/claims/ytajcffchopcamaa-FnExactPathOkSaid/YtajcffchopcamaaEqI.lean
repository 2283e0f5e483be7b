/- The walk of laws.eqIntS. -/
import Derived.Test.YtajcffchopcamaaProg
import Derived.Test.YtajcffchopcamaaInts
import Derived.Deep.QuietTactic
import Derived.BigQuiet
namespace Go.Proofs.Ytajcffchopcamaa
open Go.RowKit

end Go.Proofs.Ytajcffchopcamaa
