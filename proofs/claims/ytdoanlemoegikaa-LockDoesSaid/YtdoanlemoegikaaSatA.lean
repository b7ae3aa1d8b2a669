/- The walks of package sat. -/
import Derived.Test.YtdoanlemoegikaaRows
import Derived.Test.YtdoanlemoegikaaLabels
import Derived.Test.YtdoanlemoegikaaIntsAt
import Derived.Test.YtdoanlemoegikaaSatMath
import Derived.WalkKit
import Derived.WalkSpells
import Derived.WalkLawsBesides
import Derived.Lib.Hide
import Derived.Lib.MinMax
import Derived.Below
namespace Go.Proofs.Ytdoanlemoegikaa
open Go.RowKit

theorem ret_int {k : IntKind} {a b : Int} (h : a = b) : Ending.returned (.int k a) = .returned (.int k b) := by rw [h]

end Go.Proofs.Ytdoanlemoegikaa
