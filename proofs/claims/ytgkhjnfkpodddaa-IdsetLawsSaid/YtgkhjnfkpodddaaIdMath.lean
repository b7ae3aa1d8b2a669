/- Stage 17: sets of numbers as lists that rise: plain mathematics. -/
import Derived.Test.YtgkhjnfkpodddaaGraphMathB
namespace Go.Proofs.Ytgkhjnfkpodddaa

instance (l : List Int) : Decidable (risL l) := by unfold risL; infer_instance
/-- do they rise, each once -/
def rightB (l : List Int) : Bool := decide (risL l)
def pickL (a b : List Int) (is : Bool) : List Int := (setL a).filter fun x => inL b x == is
def orL (a b : List Int) : List Int := setL (a ++ b)
def andL (a b : List Int) : List Int := pickL a b true
def lessL (a b : List Int) : List Int := pickL a b false
def withinB (a b : List Int) : Bool := decide ((lessL a b).length = 0)
def abvL (l : List Int) (n : Int) : Int × Bool := match (setL l).find? fun x => decide (n < x) with
  | some x => (x, true)
  | none => (0, false)
theorem ris_adj : ∀ {l : List Int}, (∀ i (h : i + 1 < l.length), l[i] < l[i + 1]) → risL l := fun {l} h => by
  refine List.pairwise_iff_getElem.2 fun i j hi hj hij => ?_
  obtain ⟨k, rfl⟩ : ∃ k, j = i + 1 + k := ⟨j - i - 1, by omega⟩
  clear hij
  induction k with
  | zero => exact h i hj
  | succ k ih =>
    have h1 := ih (by omega)
    have h2 := h (i + 1 + k) (by omega)
    have e : l[i + 1 + (k + 1)] = l[i + 1 + k + 1] := rfl
    rw [e]
    omega
theorem ris_no {l : List Int} (i : Nat) (h : i + 1 < l.length) (hl : l[i + 1] ≤ l[i]) : ¬ risL l := fun hr => by
  have := List.pairwise_iff_getElem.1 hr i (i + 1) (by omega) h (by omega)
  omega
theorem pick_mem (a b : List Int) (is : Bool) (x : Int) : x ∈ pickL a b is ↔ x ∈ a ∧ inL b x = is := by
  unfold pickL
  rw [List.mem_filter, setL_mem]
  simp
theorem and_mem (a b : List Int) (x : Int) : x ∈ andL a b ↔ x ∈ a ∧ x ∈ b := by unfold andL; rw [pick_mem, inL_iff]
theorem less_mem (a b : List Int) (x : Int) : x ∈ lessL a b ↔ x ∈ a ∧ x ∉ b := by unfold lessL; rw [pick_mem, inL_not]
theorem or_mem (a b : List Int) (x : Int) : x ∈ orL a b ↔ x ∈ a ∨ x ∈ b := by unfold orL; rw [setL_mem, List.mem_append]
theorem pick_ris (a b : List Int) (is : Bool) : risL (pickL a b is) := List.Pairwise.filter _ (setL_ris a)
theorem pick_len (a b : List Int) (is : Bool) : (pickL a b is).length ≤ a.length := Nat.le_trans (List.length_filter_le _ _) (setL_le a)
theorem or_len (a b : List Int) : (orL a b).length ≤ a.length + b.length := Nat.le_trans (setL_le _) (by rw [List.length_append]; exact Nat.le_refl _)
theorem within_iff (a b : List Int) : withinB a b = true ↔ ∀ x ∈ a, x ∈ b := by
  unfold withinB
  rw [decide_eq_true_iff, List.length_eq_zero_iff, List.eq_nil_iff_forall_not_mem]
  constructor
  · intro h x hx
    exact Classical.byContradiction fun hn => h x ((less_mem _ _ _).2 ⟨hx, hn⟩)
  · intro h x hx
    obtain ⟨h1, h2⟩ := (less_mem _ _ _).1 hx
    exact h2 (h x h1)
/-- what is in one alone, in both, in the other one alone -/
theorem id_all (a b : List Int) : orL (orL (lessL a b) (andL a b)) (lessL b a) = orL a b := by
  refine (setL_ris _).eq (setL_ris _) fun x => ?_
  show x ∈ orL _ _ ↔ x ∈ orL _ _
  rw [or_mem, or_mem, or_mem, less_mem, and_mem, less_mem]
  by_cases h1 : x ∈ a <;> by_cases h2 : x ∈ b <;> simp [h1, h2]
theorem id_count (a b : List Int) : (orL a b).length = (lessL a b).length + (andL a b).length + (lessL b a).length := by
  have hr : risL (orL a b) := setL_ris _
  have h1 := filter_both (fun x => inL a x) (orL a b)
  have e1 : (orL a b).filter (fun x => inL a x) = setL a := by
    refine risL.eq (List.Pairwise.filter _ hr) (setL_ris a) fun x => ?_
    rw [List.mem_filter, or_mem, inL_iff, setL_mem]
    exact ⟨fun h => h.2, fun h => ⟨.inl h, h⟩⟩
  have e2 : (orL a b).filter (fun x => !inL a x) = lessL b a := by
    refine risL.eq (List.Pairwise.filter _ hr) (pick_ris _ _ _) fun x => ?_
    rw [List.mem_filter, or_mem, Bool.not_eq_true', inL_not, less_mem]
    constructor
    · rintro ⟨h | h, h2⟩
      · exact absurd h h2
      · exact ⟨h, h2⟩
    · rintro ⟨h, h2⟩
      exact ⟨.inr h, h2⟩
  have h2 := filter_both (fun x => inL b x) (setL a)
  have e3 : (setL a).filter (fun x => inL b x) = andL a b := by
    refine risL.eq (List.Pairwise.filter _ (setL_ris a)) (pick_ris _ _ _) fun x => ?_
    rw [List.mem_filter, setL_mem, inL_iff, and_mem]
  have e4 : (setL a).filter (fun x => !inL b x) = lessL a b := by
    refine risL.eq (List.Pairwise.filter _ (setL_ris a)) (pick_ris _ _ _) fun x => ?_
    rw [List.mem_filter, setL_mem, Bool.not_eq_true', inL_not, less_mem]
  rw [e1, e2] at h1
  rw [e3, e4] at h2
  omega
/-- being within one another is being the same set -/
theorem within_same {a b : List Int} (h : withinB a b = true) : withinB b a = decide (setL a = setL b) := by
  rw [within_iff] at h
  by_cases hb : withinB b a = true
  · rw [hb]
    rw [within_iff] at hb
    exact (decide_eq_true ((setL_ris a).eq (setL_ris b) fun x => by rw [setL_mem, setL_mem]; exact ⟨h x, hb x⟩)).symm
  · rw [Bool.not_eq_true] at hb
    rw [hb]
    refine (decide_eq_false fun e => ?_).symm
    have : withinB b a = true := (within_iff b a).2 fun x hx => by
      rw [← setL_mem a x, e, setL_mem]
      exact hx
    rw [hb] at this
    cases this
/-- what comes next, over and over: those above the least number -/
def nextA (s : List Int) (m : Int) (k : Nat) : Int := if k = 0 then m else (s.filter fun x => decide (m < x)).getD (k - 1) 0
theorem ris_find : ∀ {s : List Int} {n : Int} {k : Nat}, risL s → ∀ (hk : k < s.length), n < s[k] → (∀ i (hi : i < k), s[i]'(by omega) ≤ n) → s.find? (fun x => decide (n < x)) = some s[k] := fun {s n k} _ hk h1 h2 => by
  rw [List.find?_eq_some_iff_getElem]
  exact ⟨decide_eq_true h1, k, hk, rfl, fun j hj => by have := h2 j hj; simp; omega⟩
theorem find_filter (s : List Int) (m n : Int) (h : m ≤ n) : s.find? (fun x => decide (n < x)) = (s.filter fun x => decide (m < x)).find? (fun x => decide (n < x)) := by
  induction s with
  | nil => rfl
  | cons y t ih =>
    by_cases h1 : m < y
    · rw [List.filter_cons_of_pos (by simpa using h1), List.find?_cons, List.find?_cons, ih]
    · rw [List.filter_cons_of_neg (by simpa using h1), List.find?_cons_of_neg (by simp; omega), ih]
theorem abv_next {l : List Int} {m : Int} {k : Nat} (hk : k < ((setL l).filter fun x => decide (m < x)).length) :
    abvL l (nextA (setL l) m k) = (((setL l).filter fun x => decide (m < x))[k], true) := by
  have hr : risL ((setL l).filter fun x => decide (m < x)) := List.Pairwise.filter _ (setL_ris l)
  have hm : ∀ x ∈ (setL l).filter (fun x => decide (m < x)), m < x := fun x hx => by simpa using (List.mem_filter.1 hx).2
  unfold abvL nextA
  by_cases h0 : k = 0
  · subst h0
    rw [if_pos rfl, find_filter _ m m (Int.le_refl _), ris_find hr hk (hm _ (List.getElem_mem hk)) (fun i hi => by omega)]
  · rw [if_neg h0]
    obtain ⟨q, hq⟩ : ∃ q, k = q + 1 := ⟨k - 1, by omega⟩
    subst hq
    have hql : q < ((setL l).filter fun x => decide (m < x)).length := by omega
    have e : ((setL l).filter fun x => decide (m < x)).getD (q + 1 - 1) 0 = ((setL l).filter fun x => decide (m < x))[q] := by
      rw [Nat.add_sub_cancel, List.getD_eq_getElem?_getD, List.getElem?_eq_getElem hql]
      rfl
    rw [e]
    have hmq := hm _ (List.getElem_mem hql)
    rw [find_filter _ m _ (by omega), ris_find hr hk (List.pairwise_iff_getElem.1 hr q (q + 1) hql hk (by omega)) (fun i hi => by
      rcases Nat.lt_or_ge i q with h | h
      · have := List.pairwise_iff_getElem.1 hr i q (by omega) hql h
        omega
      · have : i = q := by omega
        subst this
        omega)]
theorem abv_end {l : List Int} {m : Int} : abvL l (nextA (setL l) m ((setL l).filter fun x => decide (m < x)).length) = (0, false) := by
  have hr : risL ((setL l).filter fun x => decide (m < x)) := List.Pairwise.filter _ (setL_ris l)
  have hm : ∀ x ∈ (setL l).filter (fun x => decide (m < x)), m < x := fun x hx => by simpa using (List.mem_filter.1 hx).2
  unfold abvL nextA
  by_cases h0 : ((setL l).filter fun x => decide (m < x)).length = 0
  · rw [if_pos h0, find_filter _ m m (Int.le_refl _), List.eq_nil_of_length_eq_zero h0]
    rfl
  · rw [if_neg h0]
    obtain ⟨q, hq⟩ : ∃ q, ((setL l).filter fun x => decide (m < x)).length = q + 1 := ⟨((setL l).filter fun x => decide (m < x)).length - 1, by omega⟩
    have hql : q < ((setL l).filter fun x => decide (m < x)).length := by omega
    have e : ((setL l).filter fun x => decide (m < x)).getD (((setL l).filter fun x => decide (m < x)).length - 1) 0 = ((setL l).filter fun x => decide (m < x))[q] := by
      rw [hq, Nat.add_sub_cancel, List.getD_eq_getElem?_getD, List.getElem?_eq_getElem hql]
      rfl
    rw [e]
    have hmq := hm _ (List.getElem_mem hql)
    rw [find_filter _ m _ (by omega)]
    have : ((setL l).filter fun x => decide (m < x)).find? (fun x => decide (((setL l).filter fun x => decide (m < x))[q] < x)) = none := by
      rw [List.find?_eq_none]
      intro x hx
      obtain ⟨j, hj, rfl⟩ := List.getElem_of_mem hx
      rcases Nat.lt_or_ge j q with h | h
      · have := List.pairwise_iff_getElem.1 hr j q hj hql h
        simp
        omega
      · have : j = q := by omega
        subst this
        simp
    rw [this]
theorem B64.pick {a b : List Int} (is : Bool) (h : B64 a) : B64 (pickL a b is) := fun x hx => h x ((pick_mem _ _ _ _).1 hx).1
theorem B64.or {a b : List Int} (h : B64 a) (h2 : B64 b) : B64 (orL a b) := fun x hx => ((or_mem _ _ _).1 hx).elim (h x) (h2 x)
theorem next_succ {s : List Int} {m : Int} {k : Nat} (hk : k < (s.filter fun x => decide (m < x)).length) : nextA s m (k + 1) = (s.filter fun x => decide (m < x))[k] := by
  unfold nextA
  rw [if_neg (by omega), Nat.add_sub_cancel, List.getD_eq_getElem?_getD, List.getElem?_eq_getElem hk]
  rfl
/-- all but the least number there is -/
theorem told_or {u : List Int} {m : Int} (h : ∀ x ∈ u, m ≤ x) (hn : m ∉ u) : (u.filter fun x => decide (m < x)) = u :=
  List.filter_eq_self.2 fun x hx => by
    have h1 := h x hx
    have h2 : x ≠ m := fun e => hn (e ▸ hx)
    simp
    omega
end Go.Proofs.Ytgkhjnfkpodddaa
