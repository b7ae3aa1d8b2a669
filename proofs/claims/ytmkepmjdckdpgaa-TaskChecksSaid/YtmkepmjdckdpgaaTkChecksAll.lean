/- Stage 22: what the frame of TaskChecks wants. -/
import Derived.Test.YtmkepmjdckdpgaaTkLawT
import Derived.Test.YtmkepmjdckdpgaaBun14
