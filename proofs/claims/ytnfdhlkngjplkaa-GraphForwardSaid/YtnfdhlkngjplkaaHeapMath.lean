/- Stage 13: rows of things in order: plain mathematics. -/
import Derived.Test.YtnfdhlkngjplkaaRows
namespace Go.Proofs.Ytnfdhlkngjplkaa

structure Th where
  id : Int
  key : Int
  seq : Int
deriving DecidableEq, Inhabited

def ahead (a b : Th) : Bool := if a.key ≠ b.key then decide (b.key < a.key) else if a.seq ≠ b.seq then decide (a.seq < b.seq) else decide (a.id < b.id)
theorem ahead_iff (a b : Th) : ahead a b = true ↔ b.key < a.key ∨ (a.key = b.key ∧ (a.seq < b.seq ∨ (a.seq = b.seq ∧ a.id < b.id))) := by
  unfold ahead
  by_cases h1 : a.key = b.key
  · rw [if_neg (by simpa using h1)]
    by_cases h2 : a.seq = b.seq
    · rw [if_neg (by simpa using h2), decide_eq_true_iff]
      omega
    · rw [if_pos h2, decide_eq_true_iff]
      omega
  · rw [if_pos h1, decide_eq_true_iff]
    omega
theorem ahead_trans {a b c : Th} (h1 : ahead a b = true) (h2 : ahead b c = true) : ahead a c = true := by
  rw [ahead_iff] at *
  omega
theorem ahead_else {a b : Th} (h : ahead a b = false) (hne : a.id ≠ b.id) : ahead b a = true := by
  have h' : ¬ ahead a b = true := by rw [h]; decide
  rw [ahead_iff] at *
  omega
theorem ahead_irr (a : Th) : ahead a a = false := by
  cases h : ahead a a with
  | false => rfl
  | true => rw [ahead_iff] at h; omega
theorem ahead_asym {a b : Th} (h : ahead a b = true) : ahead b a = false := by
  cases h2 : ahead b a with
  | false => rfl
  | true => rw [ahead_iff] at h h2; omega

/-- what is left without id -/
def dropT (l : List Th) (id : Int) : List Th := l.filter fun x => decide (x.id ≠ id)
theorem dropT_take (l : List Th) (id : Int) (k : Nat) (hk : k < l.length) : dropT (l.take (k + 1)) id = dropT (l.take k) id ++ (if l[k].id = id then [] else [l[k]]) := by
  rw [List.take_succ_eq_append_getElem hk]
  unfold dropT
  rw [List.filter_append]
  congr 1
  by_cases h : l[k].id = id <;> simp [h]
theorem dropT_len (l : List Th) (id : Int) : (dropT l id).length ≤ l.length := List.length_filter_le _ _
theorem dropT_mem (l : List Th) (id : Int) (x : Th) : x ∈ dropT l id ↔ x ∈ l ∧ x.id ≠ id := by simp [dropT]
/-- is there none of it -/
def hasT (l : List Th) (id : Int) : Bool := decide ((dropT l id).length < l.length)
/-- ahead of the first one that it is ahead of -/
def insT (x : Th) : List Th → List Th
  | [] => [x]
  | r :: t => if ahead x r then x :: r :: t else r :: insT x t
theorem insT_len (x : Th) : ∀ l, (insT x l).length = l.length + 1
  | [] => rfl
  | r :: t => by
    unfold insT
    split
    · rfl
    · rw [List.length_cons, insT_len x t, List.length_cons]
theorem insT_mem (x y : Th) : ∀ l, y ∈ insT x l ↔ y = x ∨ y ∈ l
  | [] => by simp [insT]
  | r :: t => by
    unfold insT
    split
    · simp
    · rw [List.mem_cons, insT_mem x y t, List.mem_cons]
      constructor
      · rintro (h | h | h)
        · exact .inr (.inl h)
        · exact .inl h
        · exact .inr (.inr h)
      · rintro (h | h | h)
        · exact .inr (.inl h)
        · exact .inl h
        · exact .inr (.inr h)
def putT (l : List Th) (x : Th) : List Th := insT x (dropT l x.id)
theorem putT_len (l : List Th) (x : Th) : (putT l x).length ≤ l.length + 1 := by
  unfold putT
  rw [insT_len]
  have := dropT_len l x.id
  omega
def fndT (l : List Th) (id : Int) : Th × Bool := match l.find? fun x => decide (x.id = id) with
  | some x => (x, true)
  | none => (⟨0, 0, 0⟩, false)
theorem fndT_head (x : Th) (l : List Th) : fndT (x :: l) x.id = (x, true) := by simp [fndT]

/-- in order -/
def srtT (l : List Th) : Prop := l.Pairwise fun a b => ahead a b = true
theorem srtT_nil : srtT [] := List.Pairwise.nil
theorem srtT_drop {l : List Th} (h : srtT l) (id : Int) : srtT (dropT l id) := List.Pairwise.filter _ h
theorem srtT_ins {l : List Th} {x : Th} (h : srtT l) (hne : ∀ y ∈ l, y.id ≠ x.id) : srtT (insT x l) := by
  induction l with
  | nil => exact List.pairwise_singleton _ _
  | cons r t ih =>
    have h1 := List.pairwise_cons.1 h
    unfold insT
    cases hx : ahead x r with
    | true =>
      refine List.pairwise_cons.2 ⟨fun y hy => ?_, h⟩
      rcases List.mem_cons.1 hy with rfl | hy
      · exact hx
      · exact ahead_trans hx (h1.1 y hy)
    | false =>
      refine List.pairwise_cons.2 ⟨fun y hy => ?_, ih h1.2 fun y hy => hne y (List.mem_cons_of_mem _ hy)⟩
      rcases (insT_mem x y t).1 hy with rfl | hy
      · exact ahead_else hx (Ne.symm (hne r List.mem_cons_self))
      · exact h1.1 y hy
theorem srtT_put {l : List Th} (h : srtT l) (x : Th) : srtT (putT l x) := srtT_ins (srtT_drop h x.id) fun _ hy => ((dropT_mem _ _ _).1 hy).2
theorem srtT_tail {l : List Th} (h : srtT l) (k : Nat) : srtT (l.drop k) := List.Pairwise.sublist (List.drop_sublist k l) h
theorem srtT_next {l : List Th} (h : srtT l) (k : Nat) (hk : k + 1 < l.length) : ahead l[k] l[k + 1] = true := List.pairwise_iff_getElem.1 h k (k + 1) (by omega) hk (by omega)
/-- rows in order of the same things are the same -/
theorem srtT_ids {l : List Th} (h : srtT l) : ∀ a ∈ l, ∀ b ∈ l, ahead a b = false → ahead b a = false → a = b := by
  intro a ha b hb h1 h2
  obtain ⟨i, hi, rfl⟩ := List.getElem_of_mem ha
  obtain ⟨j, hj, rfl⟩ := List.getElem_of_mem hb
  rcases Nat.lt_trichotomy i j with hij | rfl | hij
  · have := List.pairwise_iff_getElem.1 h i j hi hj hij
    rw [h1] at this; cases this
  · rfl
  · have := List.pairwise_iff_getElem.1 h j i hj hi hij
    rw [h2] at this; cases this
end Go.Proofs.Ytnfdhlkngjplkaa
