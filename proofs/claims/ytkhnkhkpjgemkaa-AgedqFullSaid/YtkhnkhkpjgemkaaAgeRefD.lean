/- Stage 14: the document's Sort. -/
import Derived.Test.YtkhnkhkpjgemkaaAgeRefC
import Derived.Test.YtkhnkhkpjgemkaaBun2
namespace Go.Proofs.Ytkhnkhkpjgemkaa
open Go.RowKit

def idsA (l : List It) : List Int := l.map It.id
theorem idsA_take (l : List It) (k : Nat) (hk : k < l.length) : idsA (l.take (k + 1)) = idsA (l.take k) ++ [l[k].id] := by
  unfold idsA
  rw [List.take_succ_eq_append_getElem hk, List.map_append]
  rfl
theorem idsA_len (l : List It) : (idsA l).length = l.length := List.length_map ..

end Go.Proofs.Ytkhnkhkpjgemkaa
