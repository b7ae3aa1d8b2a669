/- Lists of structs of two numbers that a call gathers by itself. -/
import Derived.Test.YthndmoipemnllaaPairsAt
import Derived.Test.YthndmoipemnllaaRegion
import Derived.Laws.AppendOwn
namespace Go.Proofs.Ythndmoipemnllaa
open Go.RowKit

/-- the cells of pairs -/
def flat : List (Int × Int) → List Value
  | [] => []
  | x :: l => .int .i64 x.1 :: .int .i64 x.2 :: flat l
theorem flat_length (l : List (Int × Int)) : (flat l).length = l.length * 2 := by
  induction l with
  | nil => rfl
  | cons x l ih => simp only [flat, List.length_cons, ih]; omega
theorem flat_append (a b : List (Int × Int)) : flat (a ++ b) = flat a ++ flat b := by
  induction a with
  | nil => rfl
  | cons x a ih => simp [flat, ih]
theorem flat_at (l : List (Int × Int)) (j : Nat) (x : Int × Int) (h : l[j]? = some x) : (flat l)[j * 2]? = some (.int .i64 x.1) ∧ (flat l)[j * 2 + 1]? = some (.int .i64 x.2) := by
  induction l generalizing j with
  | nil => simp at h
  | cons y l ih =>
    cases j with
    | zero => simp at h; subst h; simp [flat]
    | succ j =>
      have h' := ih j (by simpa using h)
      have e : (j + 1) * 2 = j * 2 + 1 + 1 := by omega
      rw [e]
      simpa [flat] using h'
/-- a list that the call gathers by itself, in memory from B on -/
def OwnP (w : World) (B : Nat) (e : TypeId) (v : Value) (l : List (Int × Int)) : Prop := w.ownsRow B e 2 v l.length (flat l)
theorem OwnP.nil (w : World) (B : Nat) (e : TypeId) : OwnP w B e (.slice none 0 0) [] := World.ownsRow_nil _ _ _ _
theorem OwnP.pairs {w : World} {B : Nat} {e : TypeId} {v : Value} {l : List (Int × Int)} (h : OwnP w B e v l) : PairsAt w v l := by
  rcases h.2 with ⟨rfl, h0⟩ | ⟨g, cap, cur, rfl, hg, hh, hnc, hcp, hcs, htake⟩
  · rw [List.eq_nil_of_length_eq_zero h0]
    exact PairsAt.nil w
  · refine ⟨_, cap, rfl, hnc, fun h0 => ⟨g, 0, rfl, lt_of_block hh, fun j x hj => ?_⟩⟩
    obtain ⟨h1, h2⟩ := flat_at l j x hj
    have hjl : j < l.length := (List.getElem?_eq_some_iff.1 hj).1
    have cell : ∀ i u, i < l.length * 2 → (flat l)[i]? = some u → w.cell? ⟨g, 0 + i, none⟩ = some u := by
      intro i u hi hu
      rw [← htake, List.getElem?_take_of_lt hi] at hu
      simp [World.cell?, hh]
      simpa using hu
    exact ⟨cell _ _ (by omega) h1, cell _ _ (by omega) h2⟩
theorem OwnP.below {w wq w1 : World} {B : Nat} {e : TypeId} {v : Value} {l : List (Int × Int)} {wr : World} (hown : OwnP wr B e v l) (hB : Below B w wq) (hz : B ≤ wq.heap.size) (hg : wq.grownBy w1 v.ownBlock) : Below B w w1 := by
  refine hB.grown hg hz fun k hk => ?_
  rcases hown.2 with ⟨rfl, _⟩ | ⟨g, cap, cur, rfl, hg, _⟩
  · simp [Value.ownBlock] at hk
  · simp [Value.ownBlock] at hk
    omega
theorem OwnP.alloc {w : World} {B : Nat} {e : TypeId} {v : Value} {l : List (Int × Int)} (h : OwnP w B e v l) (o : Obj) : OwnP (w.alloc o) B e v l := World.ownsRow.alloc h o
end Go.Proofs.Ythndmoipemnllaa
