/- Plain facts on texts that are cut at blanks. -/
import Derived.Test.YtpfningdbmhonaaRows
import Derived.Lib.Join
import Derived.Lib.IndexMore
import Derived.Lib.Strings
namespace Go.Proofs.Ytpfningdbmhonaa

/-- The pieces of a text between its blanks. -/
def pcs : List UInt8 → List (List UInt8)
  | [] => [[]]
  | c :: l => if c = 32 then [] :: pcs l else match pcs l with
    | [] => [[c]]
    | p :: r => (c :: p) :: r

theorem pcs_ne (l : List UInt8) : pcs l ≠ [] := by
  cases l with
  | nil => simp [pcs]
  | cons c l =>
    rw [pcs]
    split
    · simp
    · split <;> simp

theorem pcs_word (a : List UInt8) (h : ∀ c ∈ a, c ≠ 32) : pcs a = [a] := by
  induction a with
  | nil => rfl
  | cons c a ih =>
    rw [pcs, if_neg (h c (by simp)), ih fun x hx => h x (by simp [hx])]

theorem pcs_cut (a r : List UInt8) (h : ∀ c ∈ a, c ≠ 32) : pcs (a ++ 32 :: r) = a :: pcs r := by
  induction a with
  | nil => simp [pcs]
  | cons c a ih =>
    rw [List.cons_append, pcs, if_neg (h c (by simp)), ih fun x hx => h x (by simp [hx])]

/-- The words of a text, if it is words with just one blank between two. -/
def sw (l : List UInt8) : Option (List (List UInt8)) := if l = [] then some [] else if (pcs l).all (fun p => !p.isEmpty) then some (pcs l) else none

theorem join_pcs (l : List UInt8) : Lib.join (pcs l) [32] = l := by
  induction l with
  | nil => rfl
  | cons c l ih =>
    rw [pcs]
    cases hp : pcs l with
    | nil => exact absurd hp (pcs_ne l)
    | cons p r =>
      rw [hp] at ih
      rw [Lib.join_cons] at ih
      split
      · rename_i hc
        rw [hc, ← ih]
        simp [Lib.join_cons, Lib.joinTail]
      · rw [Lib.join_cons, List.cons_append, ih]

theorem join_sw {l : List UInt8} {ws : List (List UInt8)} (h : sw l = some ws) : Lib.join ws [32] = l := by
  unfold sw at h
  split at h
  · rename_i h0
    rw [h0, ← Option.some.inj h]
    rfl
  · split at h
    · rw [← Option.some.inj h]
      exact join_pcs l
    · exact absurd h (by simp)

theorem pcs_length (l : List UInt8) : (pcs l).length ≤ l.length + 1 := by
  induction l with
  | nil => simp [pcs]
  | cons c l ih =>
    rw [pcs]
    split
    · simp; omega
    · cases hp : pcs l with
      | nil => simp
      | cons p r => rw [hp] at ih; simp at ih ⊢; omega

theorem sw_length {l : List UInt8} {ws : List (List UInt8)} (h : sw l = some ws) : ws.length ≤ l.length + 1 := by
  unfold sw at h
  split at h
  · rw [← Option.some.inj h]; simp
  · split at h
    · rw [← Option.some.inj h]; exact pcs_length l
    · exact absurd h (by simp)

/-- What is cut at the first blank. -/
theorem cut_blank (l : List UInt8) : ((Lib.cut l [32]).2.2 = false ∧ (Lib.cut l [32]).1 = l ∧ ∀ c ∈ l, c ≠ 32) ∨
    ((Lib.cut l [32]).2.2 = true ∧ l = (Lib.cut l [32]).1 ++ 32 :: (Lib.cut l [32]).2.1 ∧ ∀ c ∈ (Lib.cut l [32]).1, c ≠ 32) := by
  rcases Lib.index_spec l [32] with ⟨h1, h2⟩ | ⟨i, h1, h2, h3, h4⟩
  · have e : Lib.cut l [32] = (l, [], false) := by
      unfold Lib.cut
      rw [if_neg (by omega)]
    rw [e]
    refine .inl ⟨rfl, rfl, fun c hc e => ?_⟩
    obtain ⟨j, hj, hjc⟩ := List.getElem_of_mem hc
    have := h2 j (by omega)
    rw [Lib.occAt, List.drop_eq_getElem_cons hj, hjc, e] at this
    simp at this
  · have e : Lib.cut l [32] = (l.take i, l.drop (i + 1), true) := by
      unfold Lib.cut
      rw [if_pos (by omega), h1]
      simp
    rw [e]
    have hil : i < l.length := by
      rcases Nat.lt_or_ge i l.length with h | h
      · exact h
      · rw [Lib.occAt, List.drop_eq_nil_of_le h] at h3
        simp at h3
    have hi32 : l[i] = 32 := by
      rw [Lib.occAt, List.drop_eq_getElem_cons hil] at h3
      simp only [List.isPrefixOf, Bool.and_true, beq_iff_eq] at h3
      exact h3.symm
    refine .inr ⟨rfl, ?_, fun c hc e => ?_⟩
    · show l = l.take i ++ 32 :: l.drop (i + 1)
      rw [← hi32, ← List.drop_eq_getElem_cons hil, List.take_append_drop]
    · obtain ⟨j, hj, hjc⟩ := List.getElem_of_mem hc
      have hji : j < i := by simp at hj; omega
      have := h4 j hji
      rw [Lib.occAt, List.drop_eq_getElem_cons (by omega)] at this
      have hx : l[j]'(by omega) = 32 := by rw [← e, ← hjc, List.getElem_take]
      rw [hx] at this
      simp at this
end Go.Proofs.Ytpfningdbmhonaa
