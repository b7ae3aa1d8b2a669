/- What the laws of layer 9 lean on. -/
import Derived.Test.YtapdndldfgnhdaaCrcC
import Derived.Test.YtapdndldfgnhdaaPackRefA
import Derived.Deep.RegionHeld3
import Derived.Deep.DeepCutAuto
