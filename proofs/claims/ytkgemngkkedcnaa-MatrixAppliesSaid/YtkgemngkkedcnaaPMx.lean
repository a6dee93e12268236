/- What the program's matrices do. -/
import Derived.Test.YtkgemngkkedcnaaPInv
import Derived.Test.YtkgemngkkedcnaaPMul2
