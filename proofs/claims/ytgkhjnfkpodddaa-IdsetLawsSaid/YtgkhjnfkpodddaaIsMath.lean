/- Stage 17's program: plain mathematics of what is asked and told, one number behind the other. -/
import Derived.Test.YtgkhjnfkpodddaaIdMath
import Derived.Test.YtgkhjnfkpodddaaSorted
namespace Go.Proofs.Ytgkhjnfkpodddaa

/-- one number behind the other is asked, till it is so of one -/
def runS {σ : Type} (f : σ → Int → σ × Bool) : σ → List Int → σ × Bool
  | s, [] => (s, false)
  | s, x :: l => if (f s x).2 then ((f s x).1, true) else runS f (f s x).1 l
theorem runS_cons {σ : Type} (f : σ → Int → σ × Bool) (s : σ) (x : Int) (l : List Int) : runS f s (x :: l) = if (f s x).2 then ((f s x).1, true) else runS f (f s x).1 l := rfl
theorem runS_no {σ : Type} (f : σ → Int → σ × Bool) (s : σ) (l : List Int) (k : Nat) (h : k < l.length) (hf : (f s l[k]).2 = false) : runS f s (l.drop k) = runS f (f s l[k]).1 (l.drop (k + 1)) := by
  rw [List.drop_eq_getElem_cons h, runS_cons, hf]
  simp
theorem runS_yes {σ : Type} (f : σ → Int → σ × Bool) (s : σ) (l : List Int) (k : Nat) (h : k < l.length) (hf : (f s l[k]).2 = true) : runS f s (l.drop k) = ((f s l[k]).1, true) := by
  rw [List.drop_eq_getElem_cons h, runS_cons, hf]
  simp
theorem runS_end {σ : Type} (f : σ → Int → σ × Bool) (s : σ) (l : List Int) : runS f s (l.drop l.length) = (s, false) := by
  rw [List.drop_length]
  rfl
theorem runS_each {σ : Type} (g : σ → Int → σ) : ∀ (l : List Int) (s : σ), runS (fun s x => (g s x, false)) s l = (l.foldl g s, false)
  | [], _ => rfl
  | x :: l, s => by
    have := runS_each g l (g s x)
    rw [runS_cons]
    simpa using this
theorem runS_any (p : Int → Bool) : ∀ (l : List Int), (runS (fun (_ : Unit) x => ((), p x)) () l).2 = l.any p
  | [] => rfl
  | x :: l => by
    have := runS_any p l
    rw [runS_cons]
    cases h : p x <;> simp_all
theorem any_in (l : List Int) (n : Int) : l.any (fun m => m == n) = inL l n := by
  unfold inL
  rw [Bool.eq_iff_iff, List.any_eq_true, decide_eq_true_iff]
  constructor
  · rintro ⟨x, h1, h2⟩
    have := eq_of_beq h2
    rwa [← this]
  · intro h
    exact ⟨n, h, by simp⟩
theorem any_not (a b : List Int) : (!a.any fun x => !inL b x) = withinB a b := by
  rw [Bool.eq_iff_iff, within_iff, List.not_any_eq_all_not, List.all_eq_true]
  constructor
  · intro h x hx
    have := h x hx
    rw [Bool.not_not] at this
    exact inL_iff.1 this
  · intro h x hx
    rw [Bool.not_not]
    exact inL_iff.2 (h x hx)
/-- does it not rise -/
def rgt (a n : Int) : Int × Bool := (n, !decide (a < n))
theorem ris_two {a x : Int} {l : List Int} : risL (a :: x :: l) ↔ a < x ∧ risL (x :: l) := by
  unfold risL
  rw [List.pairwise_cons]
  constructor
  · rintro ⟨h1, h2⟩
    exact ⟨h1 x (by simp), h2⟩
  · rintro ⟨h1, h2⟩
    refine ⟨fun y hy => ?_, h2⟩
    rcases List.mem_cons.1 hy with rfl | hy
    · exact h1
    · have := (List.pairwise_cons.1 h2).1 y hy
      omega
theorem runS_right : ∀ (l : List Int) (a : Int), (runS rgt a l).2 = !rightB (a :: l)
  | [], a => by
    have : risL [a] := List.pairwise_singleton _ _
    simp [runS, rightB, this]
  | x :: l, a => by
    have ih := runS_right l x
    rw [runS_cons]
    show (if (!decide (a < x)) = true then (x, true) else runS rgt x l).2 = _
    by_cases h : a < x
    · have e : rightB (a :: x :: l) = rightB (x :: l) := by
        unfold rightB
        exact decide_eq_decide.2 (ris_two.trans (and_iff_right h))
      rw [e, ← ih]
      simp [h]
    · have e : rightB (a :: x :: l) = false := by
        unfold rightB
        exact decide_eq_false fun hr => h (ris_two.1 hr).1
      rw [e]
      simp [h]
/-- the least above n of those that were told -/
def abS (n : Int) (s : Int × Bool) (m : Int) : Int × Bool := if n < m ∧ (s.2 = false ∨ m < s.1) then (m, true) else s
def AbI (n : Int) (p : List Int) (s : Int × Bool) : Prop := (s = (0, false) ∧ ∀ x ∈ p, x ≤ n) ∨ (s.2 = true ∧ s.1 ∈ p ∧ n < s.1 ∧ ∀ x ∈ p, n < x → s.1 ≤ x)
theorem AbI.step {n : Int} {p : List Int} {s : Int × Bool} (h : AbI n p s) (m : Int) : AbI n (p ++ [m]) (abS n s m) := by
  unfold abS
  obtain ⟨a, b⟩ := s
  by_cases hc : n < m ∧ (b = false ∨ m < a)
  · rw [if_pos hc]
    refine .inr ⟨rfl, by simp, hc.1, fun x hx hn => ?_⟩
    rcases List.mem_append.1 hx with hx | hx
    · rcases h with ⟨e, h⟩ | ⟨e, h1, h2, h3⟩
      · have := h x hx; omega
      · have h4 := h3 x hx hn
        have h5 : m < a := hc.2.resolve_left fun e2 => by simp only at e; rw [e2] at e; cases e
        simp only at h4 ⊢
        omega
    · rw [List.mem_singleton.1 hx]
      exact Int.le_refl _
  · rw [if_neg hc]
    rcases h with ⟨e, h⟩ | ⟨e, h1, h2, h3⟩
    · refine .inl ⟨e, fun x hx => ?_⟩
      rcases List.mem_append.1 hx with hx | hx
      · exact h x hx
      · rw [List.mem_singleton.1 hx]
        cases e
        exact Int.not_lt.1 fun h => hc ⟨h, .inl rfl⟩
    · refine .inr ⟨e, List.mem_append_left _ h1, h2, fun x hx hn => ?_⟩
      rcases List.mem_append.1 hx with hx | hx
      · exact h3 x hx hn
      · rw [List.mem_singleton.1 hx] at hn ⊢
        exact Int.not_lt.1 fun h => hc ⟨hn, .inr h⟩
theorem AbI.fold {n : Int} : ∀ (l p : List Int) (s : Int × Bool), AbI n p s → AbI n (p ++ l) (l.foldl (abS n) s)
  | [], p, s, h => by simpa using h
  | x :: l, p, s, h => by
    have := AbI.fold l (p ++ [x]) _ (h.step x)
    rw [List.append_assoc] at this
    exact this
theorem AbI.is {n : Int} {l : List Int} {s : Int × Bool} (h : AbI n l s) : s = abvL l n := by
  unfold abvL
  rcases h with ⟨e, h⟩ | ⟨e, h1, h2, h3⟩
  · have hf : (setL l).find? (fun x => decide (n < x)) = none := by
      rw [List.find?_eq_none]
      intro x hx
      have := h x ((setL_mem l x).1 hx)
      simp; omega
    rw [hf, e]
  · obtain ⟨a, b⟩ := s
    simp only at e h1 h2 h3
    subst e
    obtain ⟨k, hk, e⟩ := List.getElem_of_mem ((setL_mem l a).2 h1)
    have hr := setL_ris l
    have hf := ris_find (n := n) hr hk (by omega) fun i hi => by
      have h4 := List.pairwise_iff_getElem.1 hr i k (by omega) hk hi
      have h5 := h3 _ ((setL_mem l _).1 (List.getElem_mem (show i < (setL l).length by omega)))
      omega
    rw [hf, e]
theorem abv_fold (l : List Int) (n : Int) : l.foldl (abS n) (0, false) = abvL l n := (AbI.fold l [] (0, false) (.inl ⟨rfl, fun _ h => by cases h⟩)).is
/-- those that are wanted -/
def pkS (p : Int → Bool) (t : List Int) (x : Int) : List Int := if p x then t ++ [x] else t
theorem pk_fold (p : Int → Bool) : ∀ (l t : List Int), l.foldl (pkS p) t = t ++ l.filter p
  | [], t => by simp
  | x :: l, t => by
    have := pk_fold p l (pkS p t x)
    rw [List.foldl_cons, this]
    unfold pkS
    cases h : p x <;> simp [h]
theorem pick_pos (a b : List Int) : (setL a).filter (inL b) = andL a b := by
  unfold andL pickL
  congr 1
  funext x
  cases inL b x <;> rfl
theorem pick_neg (a b : List Int) : ((setL a).filter fun x => !inL b x) = lessL a b := by
  unfold lessL pickL
  congr 1
  funext x
  cases inL b x <;> rfl
theorem inL_set (b : List Int) (x : Int) : inL (setL b) x = inL b x := by
  unfold inL
  exact decide_eq_decide.2 (setL_mem b x)
theorem or_cat (a b : List Int) : setL ([a, b].flatten) = orL a b := by
  unfold orL
  simp
theorem set_sort (l : List Int) : Lib.compact (l.mergeSort fun x y => decide (x ≤ y)) = setL l := by
  refine rise_ext (compact_rise (sorted_ms l)) (setL_ris l) fun m => ?_
  rw [compact_mem, List.mem_mergeSort, setL_mem]
end Go.Proofs.Ytgkhjnfkpodddaa
