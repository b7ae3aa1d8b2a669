/- Rows that a sort of structs works on, from and to lists of one's own. FOR ALL LATER STAGES. -/
import Derived.Test.YtoepodjpempcdaaOff
import Derived.Shelf.SlSortCmp.KitK
namespace Go.Proofs.Ytoepodjpempcdaa
open Go.RowKit Go.Shelf

/-- what a comparing function says and leaves -/
def CmpK {α : Type} (P : Program) (g : Nat) (cs : α → List Value) (cf : α → α → Int) : Prop :=
  ∀ x y w, Calls P g #[.agg (cs x).toArray, .agg (cs y).toArray] w fun e w' => e = .returned (.int .i64 (cf x y)) ∧ ∃ q os', w' = Sort.grow (w.drewN q) os'
theorem below_sortK {α : Type} [Inhabited α] {B blk off n K : Nat} {cs : α → List Value} {w : World} {d : Array α} {os : Array Obj} (hb : B ≤ blk) (hz : B ≤ w.heap.size) : Below B w (sortWorldK cs K w blk off n d os) := by
  refine ⟨rfl, rfl, rfl, ?_, fun k hk => ?_⟩
  · unfold sortWorldK
    rw [Sort.size_grow]
    simp [Sort.putRowK, Sort.putRow, Sort.mapBlock, Sort.ahead]
  · unfold sortWorldK
    rw [Sort.heap_grow_old _ _ (by simp [Sort.putRowK, Sort.putRow, Sort.mapBlock, Sort.ahead]; omega)]
    have : blk ≠ k := by omega
    simp [Sort.putRowK, Sort.putRow, Sort.mapBlock, Sort.ahead, Array.getElem?_modify, this]
theorem OwnR.holdsK {α : Type} [Inhabited α] {w : World} {B K : Nat} {e : TypeId} {cs : α → List Value} {v : Value} {l : List α} (hK : ∀ x, (cs x).length = K) (h : OwnR w B e K cs v l) (h0 : 0 < l.length) :
    ∃ g cap, v = .slice (some ⟨g, 0, none⟩) l.length cap ∧ B ≤ g ∧ g < w.heap.size ∧ l.length ≤ cap ∧ Sort.HoldsK cs K w g 0 l.toArray := by
  rcases h.2 with ⟨rfl, he⟩ | ⟨g, cap, cur, rfl, hg, hh, hnc, hcp, hcs, htake⟩
  · omega
  · refine ⟨g, cap, rfl, hg, (Array.getElem?_eq_some_iff.1 hh).1, hnc, fun j hj => ?_⟩
    have hj' : j < l.length * K := by simpa using hj
    refine ⟨?_, by simp [World.frozen?, hh]⟩
    have K0 : 0 < K := Nat.pos_of_ne_zero fun e => by subst e; simp at hj'
    have hq : j / K < l.length := (Nat.div_lt_iff_lt_mul K0).2 hj'
    have hr : j % K < K := Nat.mod_lt _ K0
    have hu : (cs l[j / K])[j % K]? = some ((cs l[j / K])[j % K]'(by rw [hK]; exact hr)) := List.getElem?_eq_getElem _
    have h1 := flats_at hK l (j / K) l[j / K] (List.getElem?_eq_getElem hq) (j % K) _ hu
    rw [Nat.mul_comm, Nat.div_add_mod, ← htake, List.getElem?_take_of_lt hj'] at h1
    simp only [World.cell?, hh, Nat.zero_add]
    rw [Sort.get_flatK _ _ _ _ (by simpa using hj')]
    have e1 : l.toArray[j / K]! = l[j / K] := by rw [getElem!_pos _ _ (by simpa using hq)]; simp
    rw [e1, getElem!_pos _ _ (by rw [hK]; exact hr)]
    simpa using h1
theorem rows_of_holdsK {α : Type} [Inhabited α] {w : World} {g cap K : Nat} {cs : α → List Value} {l : List α} (hK : ∀ x, (cs x).length = K) (hH : Sort.HoldsK cs K w g 0 l.toArray) (hg : g < w.heap.size) (hc : l.length ≤ cap) : RowsAt w K cs (.slice (some ⟨g, 0, none⟩) l.length cap) l := by
  refine ⟨_, cap, rfl, hc, fun _ => ⟨g, 0, rfl, hg, fun j x hj i u hu => ?_⟩⟩
  have hjl : j < l.length := (List.getElem?_eq_some_iff.1 hj).1
  have hi : i < K := by rw [← hK x]; exact (List.getElem?_eq_some_iff.1 hu).1
  have hlt : j * K + i < l.length * K := by
    have : (j + 1) * K ≤ l.length * K := Nat.mul_le_mul_right _ hjl
    rw [Nat.add_mul] at this
    omega
  have K0 : 0 < K := by omega
  have h1 := (hH (j * K + i) (by simpa using hlt)).1
  rw [Sort.get_flatK _ _ _ _ (by simpa using hlt)] at h1
  have e2 : (j * K + i) / K = j := by rw [Nat.mul_comm, Nat.mul_add_div K0, Nat.div_eq_of_lt hi, Nat.add_zero]
  have e3 : (j * K + i) % K = i := by rw [Nat.mul_comm, Nat.mul_add_mod, Nat.mod_eq_of_lt hi]
  have e1 : l.toArray[j]! = x := by
    rw [getElem!_pos _ _ (by simpa using hjl)]
    rw [List.getElem?_eq_getElem hjl] at hj
    simpa using Option.some.inj hj
  rw [e2, e3, e1] at h1
  rw [Nat.zero_add] at h1 ⊢
  rw [h1]
  have : (cs x)[i]! = u := by
    rw [getElem!_pos _ _ (by rw [hK]; exact hi)]
    rw [List.getElem?_eq_getElem (by rw [hK]; exact hi)] at hu
    exact Option.some.inj hu
  rw [← this]
  rfl
end Go.Proofs.Ytoepodjpempcdaa
