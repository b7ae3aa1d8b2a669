/- Stage 16: the document's Order, Left. -/
import Derived.Test.YtgkhjnfkpodddaaRefSet
import Derived.Test.YtgkhjnfkpodddaaGraphMathC
namespace Go.Proofs.Ytgkhjnfkpodddaa
open Go.RowKit

def slen : Value → Nat
  | .slice _ n _ => n
  | _ => 0

end Go.Proofs.Ytgkhjnfkpodddaa
