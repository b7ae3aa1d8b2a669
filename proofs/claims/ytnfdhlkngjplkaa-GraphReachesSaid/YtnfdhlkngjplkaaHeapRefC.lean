/- Stage 13: the document's Find, IDs. -/
import Derived.Test.YtnfdhlkngjplkaaHeapRefB
import Derived.Test.YtnfdhlkngjplkaaOneI
namespace Go.Proofs.Ytnfdhlkngjplkaa
open Go.RowKit

theorem fndT_take (l : List Th) (id : Int) (k : Nat) (hk : k < l.length) (h : ∀ x ∈ l.take k, x.id ≠ id) : if l[k].id = id then fndT l id = (l[k], true) else ∀ x ∈ l.take (k + 1), x.id ≠ id := by
  split
  · rename_i he
    have e : l = l.take k ++ (l[k] :: l.drop (k + 1)) := by rw [← List.drop_eq_getElem_cons hk, List.take_append_drop]
    unfold fndT
    have h1 : l.find? (fun x => decide (x.id = id)) = some l[k] := by
      obtain ⟨y, hy⟩ : ∃ y, l[k] = y := ⟨_, rfl⟩
      rw [hy] at e he ⊢
      rw [e, List.find?_append]
      have : (l.take k).find? (fun x => decide (x.id = id)) = none := by
        rw [List.find?_eq_none]
        intro x hx
        simpa using h x hx
      rw [this, Option.none_or, List.find?_cons_of_pos (by simpa using he)]
    rw [h1]
  · rename_i he
    intro x hx
    rw [List.take_succ_eq_append_getElem hk, List.mem_append] at hx
    rcases hx with hx | hx
    · exact h x hx
    · simp at hx
      subst hx
      exact he
theorem fndT_none (l : List Th) (id : Int) (h : ∀ x ∈ l, x.id ≠ id) : fndT l id = (⟨0, 0, 0⟩, false) := by
  unfold fndT
  have : l.find? (fun x => decide (x.id = id)) = none := by
    rw [List.find?_eq_none]
    intro x hx
    simpa using h x hx
  rw [this]

def idsT (l : List Th) : List Int := l.map Th.id
theorem idsT_take (l : List Th) (k : Nat) (hk : k < l.length) : idsT (l.take (k + 1)) = idsT (l.take k) ++ [l[k].id] := by
  unfold idsT
  rw [List.take_succ_eq_append_getElem hk, List.map_append]
  rfl
theorem idsT_len (l : List Th) : (idsT l).length = l.length := List.length_map ..

end Go.Proofs.Ytnfdhlkngjplkaa
