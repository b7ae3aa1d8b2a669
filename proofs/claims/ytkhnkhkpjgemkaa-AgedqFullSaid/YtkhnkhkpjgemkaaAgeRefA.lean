/- Stage 14: the document's Tick, Rate, Fix, Of, Full, Ahead. -/
import Derived.Test.YtkhnkhkpjgemkaaAgeMath
import Derived.Test.YtkhnkhkpjgemkaaBun2
import Derived.Test.YtkhnkhkpjgemkaaSatRef
import Derived.Lib.MinMax
import Derived.Deep.DeepCutAuto
namespace Go.Proofs.Ytkhnkhkpjgemkaa
open Go.RowKit

def csI4 (x : It) : List Value := [.int .i64 x.id, .int .i64 x.prio, .int .i64 x.since, .int .i64 x.seq]
theorem csI4_len (x : It) : (csI4 x).length = 4 := rfl
theorem csI4_one (x : It) : ∀ u ∈ csI4 x, u.oneCell' = true := by
  intro u hu
  simp [csI4] at hu
  rcases hu with rfl | rfl | rfl | rfl <;> rfl
abbrev itv (x : It) : Value := .agg #[.int .i64 x.id, .int .i64 x.prio, .int .i64 x.since, .int .i64 x.seq]

end Go.Proofs.Ytkhnkhkpjgemkaa
