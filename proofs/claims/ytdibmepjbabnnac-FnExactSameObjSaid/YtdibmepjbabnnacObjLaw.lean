/- What the laws do with objects, together. -/
import Derived.Test.YtdibmepjbabnnacObjCopy
import Derived.Test.YtdibmepjbabnnacObjEq
import Derived.Test.YtdibmepjbabnnacObjSz
