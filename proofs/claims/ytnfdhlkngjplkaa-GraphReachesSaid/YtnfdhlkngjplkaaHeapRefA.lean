/- Stage 13: the document's Ahead, Drop, Put, Find, IDs. -/
import Derived.Test.YtnfdhlkngjplkaaHeapMath
import Derived.Test.YtnfdhlkngjplkaaOff
import Derived.Test.YtnfdhlkngjplkaaOwnInts
import Derived.Deep.DeepCutAuto
namespace Go.Proofs.Ytnfdhlkngjplkaa
open Go.RowKit

def csT (x : Th) : List Value := [.int .i64 x.id, .int .i64 x.key, .int .i64 x.seq]
theorem csT_len (x : Th) : (csT x).length = 3 := rfl
theorem csT_one (x : Th) : ∀ u ∈ csT x, u.oneCell' = true := by
  intro u hu
  simp [csT] at hu
  rcases hu with rfl | rfl | rfl <;> rfl
abbrev ThAt (w : World) (v : Value) (l : List Th) : Prop := RowsAt w 3 csT v l
theorem ThAt.at {w : World} {v : Value} {l : List Th} (h : ThAt w v l) (k : Nat) (hk : k < l.length) :
    ∃ g o c, v = .slice (some ⟨g, o, none⟩) l.length c ∧ l.length ≤ c ∧ g < w.heap.size ∧ w.cell? ⟨g, o + k * 3, none⟩ = some (.int .i64 l[k].id) ∧ w.cell? ⟨g, o + k * 3 + 1, none⟩ = some (.int .i64 l[k].key) ∧ w.cell? ⟨g, o + k * 3 + 2, none⟩ = some (.int .i64 l[k].seq) := by
  obtain ⟨g, o, c, e, hc, hg, hx⟩ := h.spot k hk
  exact ⟨g, o, c, e, hc, hg, hx 0 _ rfl, hx 1 _ rfl, hx 2 _ rfl⟩
end Go.Proofs.Ytnfdhlkngjplkaa
