/- The walks of the document's answers for layer 5: a walk the other way round. -/
import Derived.Test.YthndmoipemnllaaWalkRefB
import Derived.Test.YthndmoipemnllaaOwnPairs
namespace Go.Proofs.Ythndmoipemnllaa
open Go.RowKit

/-- a move the other way round -/
def rev1 (m : Int × Int) : Int × Int := (if m.1 = 1 then 2 else if m.1 = 2 then 1 else if m.1 = 3 then 4 else if m.1 = 4 then 3 else m.1, m.2)
def revw (l : List (Int × Int)) : List (Int × Int) := l.reverse.map rev1
theorem revw_drop (l : List (Int × Int)) (k : Nat) (h : k < l.length) : revw (l.drop k) = revw (l.drop (k + 1)) ++ [rev1 l[k]] := by
  unfold revw
  rw [List.drop_eq_getElem_cons h, List.reverse_cons, List.map_append]
  rfl

end Go.Proofs.Ythndmoipemnllaa
