/- Stable sorting by merging in place: blocks. -/
import Derived.Test.YtoepodjpempcdaaStabMathB
namespace Go.Proofs.Ytoepodjpempcdaa
open Go.Sort
variable {α : Type}

def Chunks (lt : α → α → Bool) (bs : Nat) (Bs : List (List α)) : Prop := ∀ B ∈ Bs, B.length = bs ∧ Ord lt B
theorem Chunks.len {lt : α → α → Bool} {bs : Nat} {Bs : List (List α)} (h : Chunks lt bs Bs) : Bs.flatten.length = Bs.length * bs := by
  induction Bs with
  | nil => simp
  | cons B Bs ih =>
    have := ih fun C hC => h C (by simp [hC])
    have h1 := (h B (by simp)).1
    simp only [List.flatten_cons, List.length_append, List.length_cons, this, h1, Nat.add_mul, Nat.one_mul]
    omega
theorem Chunks.snoc {lt : α → α → Bool} {bs : Nat} {Bs : List (List α)} {Z : List α} (h : Chunks lt bs Bs) (h1 : Z.length = bs) (h2 : Ord lt Z) : Chunks lt bs (Bs ++ [Z]) := by
  intro B hB
  rcases List.mem_append.1 hB with hB | hB
  · exact h B hB
  · rw [List.mem_singleton.1 hB]; exact ⟨h1, h2⟩
theorem Chunks.nil (lt : α → α → Bool) (bs : Nat) : Chunks lt bs [] := fun _ h => by cases h
theorem chunks_two {lt : α → α → Bool} {bs : Nat} {Bs : List (List α)} {R : List α} (h : Chunks lt bs Bs) (hR : R.length < bs) (hl : 2 * bs ≤ Bs.flatten.length + R.length) : ∃ B1 B2 Bs', Bs = B1 :: B2 :: Bs' := by
  have h1 := h.len
  match Bs with
  | [] => simp at hl; omega
  | [B] => simp at hl h1; omega
  | B1 :: B2 :: Bs' => exact ⟨B1, B2, Bs', rfl⟩
theorem chunks_one {lt : α → α → Bool} {bs : Nat} {Bs : List (List α)} {R : List α} (h : Chunks lt bs Bs) (hR : R.length < bs) (hl : bs < Bs.flatten.length + R.length) (hl2 : Bs.flatten.length + R.length < 2 * bs) : ∃ B, Bs = [B] ∧ 0 < R.length := by
  have h1 := h.len
  match Bs with
  | [] => simp at hl; omega
  | [B] => exact ⟨B, rfl, by simp at hl h1; omega⟩
  | B1 :: B2 :: Bs' =>
    simp only [List.length_cons, Nat.add_mul, Nat.one_mul] at h1
    omega
theorem chunks_none {lt : α → α → Bool} {bs : Nat} {Bs : List (List α)} {R : List α} (h : Chunks lt bs Bs) (h0 : 0 < bs) (hO : Ord lt R) (hl : Bs.flatten.length + R.length ≤ bs) : Ord lt (Bs.flatten ++ R) := by
  have h1 := h.len
  match Bs with
  | [] => simpa using hO
  | [B] =>
    have h2 := h B (by simp)
    have : R = [] := List.eq_nil_of_length_eq_zero (by simp at hl h1; omega)
    subst this
    simpa using h2.2
  | B1 :: B2 :: Bs' =>
    simp only [List.length_cons, Nat.add_mul, Nat.one_mul] at h1
    omega

/-- what stands once blocks of bs are in order -/
def Blocks (lt : α → α → Bool) (bs : Nat) (l0 l : List α) : Prop := ∃ Bs R, l = Bs.flatten ++ R ∧ l.Perm l0 ∧ Chunks lt bs Bs ∧ Ord lt R ∧ R.length < bs
/-- and while blocks are put together by two, up to a -/
def Pairing (lt : α → α → Bool) (bs a : Nat) (l0 l : List α) : Prop := ∃ Cs Bs R, l = Cs.flatten ++ (Bs.flatten ++ R) ∧ l.Perm l0 ∧ Chunks lt (2 * bs) Cs ∧ Chunks lt bs Bs ∧ Ord lt R ∧ R.length < bs ∧ Cs.flatten.length = a
theorem Blocks.pairing {lt : α → α → Bool} {bs : Nat} {l0 l : List α} (h : Blocks lt bs l0 l) : Pairing lt bs 0 l0 l := by
  obtain ⟨Bs, R, h1, h2, h3, h4, h5⟩ := h
  exact ⟨[], Bs, R, by simpa using h1, h2, Chunks.nil _ _, h3, h4, h5, rfl⟩
theorem Blocks.done {lt : α → α → Bool} {bs : Nat} {l0 l : List α} (h : Blocks lt bs l0 l) (h0 : l.length ≤ bs) : Ord lt l ∧ l.Perm l0 := by
  obtain ⟨Bs, R, h1, h2, h3, h4, h5⟩ := h
  rw [h1] at h0 ⊢
  exact ⟨chunks_none h3 (by omega) h4 (by simpa using h0), by rw [← h1]; exact h2⟩
theorem Pairing.two {lt : α → α → Bool} {bs a : Nat} {l0 l : List α} (h : Pairing lt bs a l0 l) (hl : a + 2 * bs ≤ l.length) :
    ∃ X U V Y, l = X ++ (U ++ (V ++ Y)) ∧ a = X.length ∧ U.length = bs ∧ V.length = bs ∧ Ord lt U ∧ Ord lt V ∧ 0 < bs ∧ ∀ l' Z, l' = X ++ (Z ++ Y) → Z.Perm (U ++ V) → Ord lt Z → Pairing lt bs (a + 2 * bs) l0 l' := by
  obtain ⟨Cs, Bs, R, h1, h2, h3, h4, h5, h6, h7⟩ := h
  rw [h1] at hl
  obtain ⟨B1, B2, Bs', rfl⟩ := chunks_two h4 h6 (by simp only [List.length_append] at hl; omega)
  have hb1 := h4 B1 (by simp)
  have hb2 := h4 B2 (by simp)
  refine ⟨Cs.flatten, B1, B2, Bs'.flatten ++ R, by rw [h1]; simp, h7.symm, hb1.1, hb2.1, hb1.2, hb2.2, by omega, fun l' Z e1 e2 e3 => ?_⟩
  have hz : Z.length = 2 * bs := by rw [e2.length_eq, List.length_append, hb1.1, hb2.1]; omega
  refine ⟨Cs ++ [Z], Bs', R, by rw [e1]; simp, ?_, h3.snoc hz e3, fun B hB => h4 B (by simp [hB]), h5, h6, ?_⟩
  · refine List.Perm.trans ?_ h2
    rw [e1, h1]
    refine List.Perm.append_left _ ?_
    simp only [List.flatten_cons, List.append_assoc]
    rw [← List.append_assoc B1]
    exact List.Perm.append_right _ e2
  · simp [h7, hz]
theorem Pairing.last {lt : α → α → Bool} {bs a : Nat} {l0 l : List α} (h : Pairing lt bs a l0 l) (hl : l.length < a + 2 * bs) (hl2 : a + bs < l.length) :
    ∃ X U V, l = X ++ (U ++ (V ++ [])) ∧ a = X.length ∧ U.length = bs ∧ l.length = a + bs + V.length ∧ 0 < V.length ∧ Ord lt U ∧ Ord lt V ∧ 0 < bs ∧ ∀ l' Z, l' = X ++ (Z ++ []) → Z.Perm (U ++ V) → Ord lt Z → Blocks lt (2 * bs) l0 l' := by
  obtain ⟨Cs, Bs, R, h1, h2, h3, h4, h5, h6, h7⟩ := h
  have hle : l.length = Cs.flatten.length + (Bs.flatten.length + R.length) := by rw [h1]; simp
  obtain ⟨B, rfl, hR⟩ := chunks_one h4 h6 (by omega) (by omega)
  have hb := h4 B (by simp)
  have hf : ([B].flatten).length = bs := by simp [hb.1]
  refine ⟨Cs.flatten, B, R, by rw [h1]; simp, h7.symm, hb.1, by omega, hR, hb.2, h5, by omega, fun l' Z e1 e2 e3 => ?_⟩
  have hz : Z.length = bs + R.length := by rw [e2.length_eq, List.length_append, hb.1]
  refine ⟨Cs, Z, by rw [e1]; simp, ?_, h3, e3, by omega⟩
  refine List.Perm.trans ?_ h2
  rw [e1, h1]
  refine List.Perm.append_left _ ?_
  simpa using e2
theorem Pairing.rest {lt : α → α → Bool} {bs a : Nat} {l0 l : List α} (h : Pairing lt bs a l0 l) (hl : l.length ≤ a + bs) (h0 : 0 < bs) : Blocks lt (2 * bs) l0 l := by
  obtain ⟨Cs, Bs, R, h1, h2, h3, h4, h5, h6, h7⟩ := h
  have hle : l.length = Cs.flatten.length + (Bs.flatten.length + R.length) := by rw [h1]; simp
  exact ⟨Cs, Bs.flatten ++ R, h1, h2, h3, chunks_none h4 h0 h5 (by omega), by rw [List.length_append]; omega⟩

/-- while the first blocks are put in order, up to a -/
def Firsts (lt : α → α → Bool) (bs a : Nat) (l0 l : List α) : Prop := ∃ Bs M, l = Bs.flatten ++ M ∧ l.Perm l0 ∧ Chunks lt bs Bs ∧ Bs.flatten.length = a
theorem Firsts.start (lt : α → α → Bool) (bs : Nat) (l : List α) : Firsts lt bs 0 l l := ⟨[], l, by simp, List.Perm.refl _, Chunks.nil _ _, rfl⟩
theorem Firsts.next {lt : α → α → Bool} {bs a : Nat} {l0 l : List α} (h : Firsts lt bs a l0 l) (hl : a + bs ≤ l.length) :
    ∃ X M Y, l = X ++ (M ++ Y) ∧ a = X.length ∧ M.length = bs ∧ ∀ l' Z, l' = X ++ (Z ++ Y) → Z.Perm M → Ord lt Z → Firsts lt bs (a + bs) l0 l' := by
  obtain ⟨Bs, M, h1, h2, h3, h4⟩ := h
  have hle : l.length = Bs.flatten.length + M.length := by rw [h1]; simp
  have hm : (M.take bs).length = bs := by simp; omega
  refine ⟨Bs.flatten, M.take bs, M.drop bs, by rw [h1, List.take_append_drop], h4.symm, hm, fun l' Z e1 e2 e3 => ?_⟩
  have hz : Z.length = bs := by rw [e2.length_eq, hm]
  refine ⟨Bs ++ [Z], M.drop bs, by rw [e1]; simp, ?_, h3.snoc hz e3, by simp [h4, hz]⟩
  refine List.Perm.trans ?_ h2
  rw [e1, h1]
  refine List.Perm.append_left _ ?_
  conv => rhs; rw [← List.take_append_drop bs M]
  exact List.Perm.append_right _ e2
theorem Firsts.done {lt : α → α → Bool} {bs a : Nat} {l0 l : List α} (h : Firsts lt bs a l0 l) (hl : l.length < a + bs) :
    ∃ X M, l = X ++ (M ++ []) ∧ a = X.length ∧ l.length = a + M.length ∧ ∀ l' Z, l' = X ++ (Z ++ []) → Z.Perm M → Ord lt Z → Blocks lt bs l0 l' := by
  obtain ⟨Bs, M, h1, h2, h3, h4⟩ := h
  have hle : l.length = Bs.flatten.length + M.length := by rw [h1]; simp
  refine ⟨Bs.flatten, M, by simpa using h1, h4.symm, by omega, fun l' Z e1 e2 e3 => ?_⟩
  refine ⟨Bs, Z, by simpa using e1, ?_, h3, e3, by rw [e2.length_eq]; omega⟩
  refine List.Perm.trans ?_ h2
  rw [e1, h1]
  refine List.Perm.append_left _ ?_
  simpa using e2
end Go.Proofs.Ytoepodjpempcdaa
