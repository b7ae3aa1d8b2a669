/- The walks of package sat. -/
import Derived.Test.YtcdgclnlpfnglaaRows
import Derived.Test.YtcdgclnlpfnglaaLabels
import Derived.Test.YtcdgclnlpfnglaaIntsAt
import Derived.Test.YtcdgclnlpfnglaaSatMath
import Derived.WalkKit
import Derived.WalkSpells
import Derived.WalkLawsBesides
import Derived.Lib.Hide
import Derived.Lib.MinMax
import Derived.Below
namespace Go.Proofs.Ytcdgclnlpfnglaa
open Go.RowKit

theorem ret_int {k : IntKind} {a b : Int} (h : a = b) : Ending.returned (.int k a) = .returned (.int k b) := by rw [h]

end Go.Proofs.Ytcdgclnlpfnglaa
