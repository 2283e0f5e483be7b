/- What the laws do with objects, together. -/
import Derived.Test.YtdibmepjbabnnabDoorObjCopy
import Derived.Test.YtdibmepjbabnnabDoorObjEq
import Derived.Test.YtdibmepjbabnnabDoorObjSz
