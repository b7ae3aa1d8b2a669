/- The walks of package sat: what is exported. -/
import Derived.Test.YtcdgclnlpfnglaaSatA
namespace Go.Proofs.Ytcdgclnlpfnglaa
open Go.RowKit

def InI64 (l : List Int) : Prop := ∀ x ∈ l, -9223372036854775808 ≤ x ∧ x ≤ 9223372036854775807

end Go.Proofs.Ytcdgclnlpfnglaa
