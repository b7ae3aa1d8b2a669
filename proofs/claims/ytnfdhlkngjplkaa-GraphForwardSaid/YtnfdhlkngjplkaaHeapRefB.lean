/- Stage 13: the document's Put, Find, IDs. -/
import Derived.Test.YtnfdhlkngjplkaaHeapRefA
namespace Go.Proofs.Ytnfdhlkngjplkaa
open Go.RowKit

/-- what is still to be gathered -/
def restT (x : Th) (d : Bool) (l : List Th) : List Th := if d then l else insT x l
theorem restT_step (x r : Th) (l : List Th) (d : Bool) : restT x d (r :: l) = (if !d && ahead x r then [x] else []) ++ r :: restT x (d || ahead x r) l := by
  unfold restT
  cases d
  · cases h : ahead x r <;> simp [insT, h]
  · simp

end Go.Proofs.Ytnfdhlkngjplkaa
