/- The walks of package sat: what is exported. -/
import Derived.Test.YtdoanlemoegikaaSatA
namespace Go.Proofs.Ytdoanlemoegikaa
open Go.RowKit

def InI64 (l : List Int) : Prop := ∀ x ∈ l, -9223372036854775808 ≤ x ∧ x ≤ 9223372036854775807

end Go.Proofs.Ytdoanlemoegikaa
