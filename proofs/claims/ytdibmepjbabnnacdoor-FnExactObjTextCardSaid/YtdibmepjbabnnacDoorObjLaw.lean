/- What the laws do with objects, together. -/
import Derived.Test.YtdibmepjbabnnacDoorObjCopy
import Derived.Test.YtdibmepjbabnnacDoorObjEq
import Derived.Test.YtdibmepjbabnnacDoorObjSz
