/- What the laws of layer 6 lean on. -/
import Derived.Test.YthndmoipemnllaaFenceH
import Derived.Test.YthndmoipemnllaaWalkRefA
import Derived.Test.YthndmoipemnllaaWalkRefN
