/- What the laws of layer 8 lean on. -/
import Derived.Test.YtpbihplnaaojlaaPackF
import Derived.Deep.RegionHeld3
import Derived.Deep.DeepCutAuto
