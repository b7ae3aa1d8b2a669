/- Stage 14's program: whoever sorts items, by whatever way, gathers the same IDs. -/
import Derived.Test.YtoepodjpempcdaaAqMath
import Derived.Test.YtoepodjpempcdaaAgeB
import Derived.Shelf.SlSortCmp.KitK
namespace Go.Proofs.Ytoepodjpempcdaa
open Go.Sort

theorem inA_perm (l : List It) (x : It) (now rate : Int) : (inA l x now rate).Perm (x :: l) := by
  unfold inA
  generalize stayA x l now rate l.length = s
  rw [List.append_assoc]
  refine List.perm_middle.trans ?_
  show (x :: (List.take s l ++ List.drop s l)).Perm _
  rw [List.take_append_drop]
theorem ordA_perm (l : List It) (now rate : Int) : (ordA l now rate).Perm l := by
  have key : ∀ (l out : List It), (l.foldl (fun out x => inA out x now rate) out).Perm (out ++ l) := by
    intro l
    induction l with
    | nil => intro out; simp
    | cons x t ih =>
      intro out
      rw [List.foldl_cons]
      refine (ih _).trans ?_
      refine (List.Perm.append_right t (inA_perm out x now rate)).trans ?_
      exact List.perm_middle.symm
  exact key l []
def key3 (now rate : Int) (x : It) : Int × Int × Int := (ofA x now rate, x.seq, x.id)
/-- the one is not behind the other -/
def le3 (p q : Int × Int × Int) : Prop := q.1 < p.1 ∨ (p.1 = q.1 ∧ (p.2.1 < q.2.1 ∨ (p.2.1 = q.2.1 ∧ p.2.2 ≤ q.2.2)))
theorem le3_of {now rate : Int} {x y : It} (h : ahA y x now rate = false) : le3 (key3 now rate x) (key3 now rate y) := by
  have e := ahA_iff y x now rate
  rw [h] at e
  simp only [Bool.false_eq_true, false_iff] at e
  unfold le3 key3
  simp only
  omega
theorem le3_eq {p q : Int × Int × Int} (h1 : le3 p q) (h2 : le3 q p) : p = q := by
  obtain ⟨a, b, c⟩ := p
  obtain ⟨d, e, f⟩ := q
  unfold le3 at *
  simp only at *
  have h3 : a = d ∧ b = e ∧ c = f := by omega
  obtain ⟨rfl, rfl, rfl⟩ := h3
  rfl
theorem ids_unique {now rate : Int} {T l : List It} (hp : T.Perm l) (hs : T.Pairwise fun x y => ahA y x now rate = false) : idsA T = idsA (ordA l now rate) := by
  have h1 : (T.map (key3 now rate)).Pairwise le3 := by
    rw [List.pairwise_map]
    exact hs.imp fun h => le3_of h
  have h2 : ((ordA l now rate).map (key3 now rate)).Pairwise le3 := by
    rw [List.pairwise_map]
    have : (ordA l now rate).Pairwise fun x y => ahA y x now rate = false := ordA_sort l now rate
    exact this.imp fun h => le3_of h
  have h3 : (T.map (key3 now rate)).Perm ((ordA l now rate).map (key3 now rate)) := (hp.trans (ordA_perm l now rate).symm).map _
  have h4 := List.Perm.eq_of_pairwise (fun a b _ _ h h' => le3_eq h h') h1 h2 h3
  have h5 : ∀ L : List It, idsA L = (L.map (key3 now rate)).map fun p => p.2.2 := fun L => by
    unfold idsA
    rw [List.map_map]
    rfl
  rw [h5, h5, h4]
theorem ordI_swo (now rate : Int) : SWO (ltOf (ordI now rate)) where
  irrefl x := by
    show decide (ordI now rate x x < 0) = false
    rw [ordI_ahead]
    have := ahA_iff x x now rate
    cases h : ahA x x now rate
    · rfl
    · rw [h] at this; simp only [true_iff] at this; omega
  trans x y z h1 h2 := by
    unfold ltOf at *
    rw [ordI_ahead] at *
    have e1 := ahA_iff x y now rate
    have e2 := ahA_iff y z now rate
    rw [h1] at e1
    rw [h2] at e2
    simp only [true_iff] at e1 e2
    rw [ahA_iff]
    omega
  ntrans x y z h1 h2 := by
    unfold ltOf at *
    rw [ordI_ahead] at *
    exact ahA_not_trans h2 h1
end Go.Proofs.Ytoepodjpempcdaa
