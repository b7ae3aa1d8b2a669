/- The walks of the document's answers for layer 5: what a move does, and the move that does so. -/
import Derived.Test.YthndmoipemnllaaWalkRefC
namespace Go.Proofs.Ythndmoipemnllaa
open Go.RowKit

/-- what a move does: steps on, and quarters to the left -/
def pln (m : Int × Int) : Int × Int := if m.1 = 1 then (cnt m, 0) else if m.1 = 2 then (-cnt m, 0) else if m.1 = 3 then (0, cnt m % 4) else if m.1 = 4 then (0, 3 * cnt m % 4) else (0, 0)

/-- the move that does so -/
def one1 (s q : Int) : List (Int × Int) := if 0 < s then [(1, s)] else if s < 0 then [(2, -s)] else if q = 3 then [(4, 1)] else if 0 < q then [(3, q)] else []
theorem own_lit (w : World) (e : TypeId) (x y : Int) : PairsAt (w.alloc (.cells #[.int .i64 x, .int .i64 y] e)) (.slice (some ⟨w.heap.size, 0, none⟩) 1 1) [(x, y)] := by
  have o : OwnP (w.alloc (.cells #[.int .i64 x, .int .i64 y] e)) w.heap.size e (.slice (some ⟨w.heap.size, 0, none⟩) 1 1) [(x, y)] :=
    ⟨rfl, .inr ⟨w.heap.size, 1, #[.int .i64 x, .int .i64 y], rfl, Nat.le_refl _, heap_alloc_new w _, Nat.le_refl _, by decide, rfl, rfl⟩⟩
  exact o.pairs

end Go.Proofs.Ythndmoipemnllaa
