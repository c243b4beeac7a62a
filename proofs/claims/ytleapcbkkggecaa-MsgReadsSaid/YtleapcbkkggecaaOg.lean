/-
  Rows of elements of any size: where they stand for messages.
-/
import Derived.Test.YtleapcbkkggecaaAp
import Derived.Test.YtleapcbkkggecaaMb
import Derived.Test.YtleapcbkkggecaaGr
