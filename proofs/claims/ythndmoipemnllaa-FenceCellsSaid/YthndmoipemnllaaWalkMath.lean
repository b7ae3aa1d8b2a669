/- What moves do, put together: one way to be short. Plain mathematics. -/
import Derived.Test.YthndmoipemnllaaRows
namespace Go.Proofs.Ythndmoipemnllaa

/-- steps on, or quarters to the left -/
abbrev P2 := Int × Int
def sort2 (x : P2) : Bool := decide (x.1 ≠ 0)
def Gd (x : P2) : Prop := (x.2 = 0 ∨ x.1 = 0) ∧ 0 ≤ x.2 ∧ x.2 ≤ 3
def comb (x y : P2) : P2 := (x.1 + y.1, (x.2 + y.2) % 4)
theorem comb_gd {x y : P2} (hx : Gd x) (hy : Gd y) (h : sort2 x = sort2 y) : Gd (comb x y) := by
  obtain ⟨a, b⟩ := x
  obtain ⟨c, d⟩ := y
  unfold Gd comb sort2 at *
  simp only [decide_eq_decide] at *
  omega
theorem comb_sort {x y : P2} (hx : Gd x) (hy : Gd y) (h : sort2 x = sort2 y) (h0 : comb x y ≠ (0, 0)) : sort2 (comb x y) = sort2 x := by
  obtain ⟨a, b⟩ := x
  obtain ⟨c, d⟩ := y
  unfold Gd comb sort2 at *
  simp only [decide_eq_decide, ne_eq, Prod.mk.injEq] at *
  omega

/-- one of the first things to do: none of nothing -/
def mrg1 : List P2 → Option (List P2)
  | [] => none
  | [x] => if x = (0, 0) then some [] else none
  | x :: y :: l => if x = (0, 0) then some (y :: l) else if sort2 x = sort2 y ∧ y ≠ (0, 0) then some (comb x y :: l) else (mrg1 (y :: l)).map (x :: ·)

/-- what is put on what stands on top -/
def psh (s : List P2) (x : P2) : List P2 :=
  if x = (0, 0) then s else
  match s with
  | [] => [x]
  | t :: s' => if sort2 t = sort2 x then (if comb t x = (0, 0) then s' else comb t x :: s') else x :: t :: s'
def nfs (l : List P2) : List P2 := l.foldl psh []

/-- sorts in turn, nothing of nothing -/
def Alt : List P2 → Prop
  | [] => True
  | [x] => Gd x ∧ x ≠ (0, 0)
  | x :: y :: l => Gd x ∧ x ≠ (0, 0) ∧ sort2 x ≠ sort2 y ∧ Alt (y :: l)
theorem Alt.tail {x : P2} {l : List P2} (h : Alt (x :: l)) : Alt l := by
  cases l with
  | nil => trivial
  | cons y l => exact h.2.2.2
theorem Alt.head {x : P2} {l : List P2} (h : Alt (x :: l)) : Gd x ∧ x ≠ (0, 0) := by
  cases l with
  | nil => exact h
  | cons y l => exact ⟨h.1, h.2.1⟩
theorem Alt.swap {x c : P2} {l : List P2} (h : Alt (x :: l)) (hg : Gd c) (h0 : c ≠ (0, 0)) (hs : sort2 c = sort2 x) : Alt (c :: l) := by
  cases l with
  | nil => exact ⟨hg, h0⟩
  | cons y l => exact ⟨hg, h0, by rw [hs]; exact h.2.2.1, h.2.2.2⟩
theorem psh_alt {s : List P2} {x : P2} (hs : Alt s) (hx : Gd x) : Alt (psh s x) := by
  unfold psh
  by_cases h0 : x = (0, 0)
  · rw [if_pos h0]; exact hs
  · rw [if_neg h0]
    cases s with
    | nil => exact ⟨hx, h0⟩
    | cons t s' =>
      simp only
      by_cases h1 : sort2 t = sort2 x
      · rw [if_pos h1]
        by_cases h2 : comb t x = (0, 0)
        · rw [if_pos h2]; exact hs.tail
        · rw [if_neg h2]
          exact hs.swap (comb_gd hs.head.1 hx h1) h2 (comb_sort hs.head.1 hx h1 h2)
      · rw [if_neg h1]
        exact ⟨hx, h0, fun e => h1 e.symm, hs⟩
theorem comb_assoc (x y z : P2) : comb (comb x y) z = comb x (comb y z) := by
  unfold comb
  refine Prod.ext ?_ ?_
  · simp only; omega
  · simp only; omega
theorem comb_undo {t x y : P2} (hx : Gd y) (h : comb t x = (0, 0)) : comb t (comb x y) = y := by
  rw [← comb_assoc, h]
  obtain ⟨c, d⟩ := y
  unfold comb Gd at *
  refine Prod.ext ?_ ?_
  · simp only at *; omega
  · simp only at *; omega
theorem comb_back {t x y : P2} (ht : Gd t) (hy : Gd y) (h : comb t x = (0, 0)) (h' : comb x y = (0, 0)) : y = t := by
  have e := comb_undo hy h
  rw [h'] at e
  rw [← e]
  obtain ⟨c, d⟩ := t
  unfold comb Gd at *
  refine Prod.ext ?_ ?_
  · simp only at *; omega
  · simp only at *; omega

/-- two of one sort, one behind the other, are one -/
theorem psh_two {s : List P2} {x y : P2} (hs : Alt s) (hx : Gd x) (hy : Gd y) (x0 : x ≠ (0, 0)) (y0 : y ≠ (0, 0)) (h : sort2 x = sort2 y) : psh (psh s x) y = psh s (comb x y) := by
  have pn : ∀ {s : List P2}, psh s (0, 0) = s := fun {s} => by unfold psh; rw [if_pos rfl]
  cases s with
  | nil =>
    have e : psh [] x = [x] := by unfold psh; rw [if_neg x0]
    rw [e]
    by_cases hc : comb x y = (0, 0)
    · rw [hc, pn]
      unfold psh
      rw [if_neg y0]
      simp only
      rw [if_pos h, if_pos hc]
    · unfold psh
      rw [if_neg y0, if_neg hc]
      simp only
      rw [if_pos h, if_neg hc]
  | cons t s' =>
    have ht := hs.head
    by_cases h1 : sort2 t = sort2 x
    · by_cases h2 : comb t x = (0, 0)
      · -- x takes the top away
        have e : psh (t :: s') x = s' := by unfold psh; rw [if_neg x0]; simp only; rw [if_pos h1, if_pos h2]
        rw [e]
        have e2 : psh s' y = y :: s' := by
          unfold psh
          rw [if_neg y0]
          cases s' with
          | nil => rfl
          | cons r s'' =>
            simp only
            rw [if_neg (fun e => hs.2.2.1 (by rw [h1, h, e]))]
        rw [e2]
        by_cases hc : comb x y = (0, 0)
        · rw [hc, pn, comb_back ht.1 hy h2 hc]
        · have h3 : sort2 t = sort2 (comb x y) := by rw [comb_sort hx hy h hc, h1]
          have e3 := comb_undo hy h2
          unfold psh
          rw [if_neg hc]
          simp only
          rw [if_pos h3, e3, if_neg y0]
      · have e : psh (t :: s') x = comb t x :: s' := by unfold psh; rw [if_neg x0]; simp only; rw [if_pos h1, if_neg h2]
        have h4 : sort2 (comb t x) = sort2 y := by rw [comb_sort ht.1 hx h1 h2, h1, h]
        rw [e]
        by_cases hc : comb x y = (0, 0)
        · rw [hc, pn]
          have e5 : comb (comb t x) y = t := by
            rw [comb_assoc, hc]
            obtain ⟨c, d⟩ := t
            have := ht.1
            unfold comb Gd at *
            refine Prod.ext ?_ ?_
            · simp only at *; omega
            · simp only at *; omega
          unfold psh
          rw [if_neg y0]
          simp only
          rw [if_pos h4, e5, if_neg ht.2]
        · have h3 : sort2 t = sort2 (comb x y) := by rw [comb_sort hx hy h hc, h1]
          unfold psh
          rw [if_neg y0, if_neg hc]
          simp only
          rw [if_pos h4, if_pos h3, comb_assoc]
    · have e : psh (t :: s') x = x :: t :: s' := by unfold psh; rw [if_neg x0]; simp only; rw [if_neg h1]
      rw [e]
      by_cases hc : comb x y = (0, 0)
      · rw [hc, pn]
        unfold psh
        rw [if_neg y0]
        simp only
        rw [if_pos h, if_pos hc]
      · have h3 : sort2 t ≠ sort2 (comb x y) := by rw [comb_sort hx hy h hc]; exact h1
        unfold psh
        rw [if_neg y0, if_neg hc]
        simp only
        rw [if_pos h, if_neg hc, if_neg h3]

/-- a thing done changes nothing of what comes out -/
theorem mrg_nf {l l' : List P2} (hl : ∀ x ∈ l, Gd x) (h : mrg1 l = some l') : (∀ x ∈ l', Gd x) ∧ l'.length + 1 = l.length ∧ ∀ s, Alt s → l.foldl psh s = l'.foldl psh s := by
  induction l generalizing l' with
  | nil => simp [mrg1] at h
  | cons x l ih =>
    have gx := hl x (by simp)
    cases l with
    | nil =>
      unfold mrg1 at h
      split at h
      · rename_i e
        cases h
        refine ⟨by simp, rfl, fun s _ => ?_⟩
        subst e
        simp [psh]
      · cases h
    | cons y l =>
      have gy := hl y (by simp)
      unfold mrg1 at h
      by_cases h0 : x = (0, 0)
      · rw [if_pos h0] at h
        cases h
        refine ⟨fun z hz => hl z (by simp at hz ⊢; exact .inr hz), rfl, fun s _ => ?_⟩
        subst h0
        simp [psh]
      · rw [if_neg h0] at h
        by_cases h1 : sort2 x = sort2 y ∧ y ≠ (0, 0)
        · rw [if_pos h1] at h
          cases h
          refine ⟨fun z hz => ?_, rfl, fun s hs => ?_⟩
          · simp at hz
            rcases hz with rfl | hz
            · exact comb_gd gx gy h1.1
            · exact hl z (by simp; exact .inr (.inr hz))
          · simp only [List.foldl_cons]
            rw [psh_two hs gx gy h0 h1.2 h1.1]
        · rw [if_neg h1] at h
          cases hm : mrg1 (y :: l) with
          | none => rw [hm] at h; cases h
          | some t =>
            rw [hm] at h
            cases h
            obtain ⟨a, b, c⟩ := ih (fun z hz => hl z (List.mem_cons_of_mem _ hz)) hm
            refine ⟨fun z hz => ?_, by simp only [List.length_cons] at b ⊢; omega, fun s hs => ?_⟩
            · simp at hz
              rcases hz with rfl | hz
              · exact gx
              · exact a z hz
            · rw [List.foldl_cons, List.foldl_cons]
              exact c _ (psh_alt hs gx)
/-- what nothing is to be done to: sorts in turn -/
theorem mrg_none {l : List P2} (hl : ∀ x ∈ l, Gd x) (h : mrg1 l = none) : Alt l := by
  induction l with
  | nil => trivial
  | cons x l ih =>
    have gx := hl x (by simp)
    cases l with
    | nil =>
      unfold mrg1 at h
      split at h
      · cases h
      · rename_i e; exact ⟨gx, e⟩
    | cons y l =>
      unfold mrg1 at h
      by_cases h0 : x = (0, 0)
      · rw [if_pos h0] at h; cases h
      · rw [if_neg h0] at h
        by_cases h1 : sort2 x = sort2 y ∧ y ≠ (0, 0)
        · rw [if_pos h1] at h; cases h
        · rw [if_neg h1] at h
          have hm : mrg1 (y :: l) = none := by
            cases hm : mrg1 (y :: l) with
            | none => rfl
            | some t => rw [hm] at h; cases h
          have ha := ih (fun z hz => hl z (List.mem_cons_of_mem _ hz)) hm
          exact ⟨gx, h0, fun e => h1 ⟨e, ha.head.2⟩, ha⟩
theorem foldl_alt {a s : List P2} (h : Alt (a.reverse ++ s)) : a.foldl psh s = a.reverse ++ s := by
  induction a generalizing s with
  | nil => rfl
  | cons x a ih =>
    rw [List.reverse_cons, List.append_assoc] at h ⊢
    rw [List.foldl_cons]
    have h1 : Alt (x :: s) := by
      clear ih
      generalize a.reverse = r at h
      induction r with
      | nil => exact h
      | cons y r ihr => exact ihr (Alt.tail h)
    have e : psh s x = x :: s := by
      unfold psh
      rw [if_neg h1.head.2]
      cases s with
      | nil => rfl
      | cons t s' => simp only; rw [if_neg (fun e => h1.2.2.1 e.symm)]
    rw [e]
    exact ih h
theorem Alt.reverse_aux {l s : List P2} (h : Alt l) (hs : Alt s) (hj : ∀ x y, l.head? = some x → s.head? = some y → sort2 x ≠ sort2 y) : Alt (l.reverse ++ s) := by
  induction l generalizing s with
  | nil => exact hs
  | cons x l ih =>
    rw [List.reverse_cons, List.append_assoc]
    have hx : Alt (x :: s) := by
      cases s with
      | nil => exact h.head
      | cons y s => exact ⟨h.head.1, h.head.2, hj x y rfl rfl, hs⟩
    refine ih h.tail hx ?_
    intro a b ha hb
    simp at hb
    subst hb
    cases l with
    | nil => simp at ha
    | cons z l => simp at ha; subst ha; exact fun e => h.2.2.1 e.symm
theorem Alt.reverse {l : List P2} (h : Alt l) : Alt l.reverse := by
  have := h.reverse_aux (s := []) trivial (by simp)
  simpa using this
/-- what is short comes out as it is -/
theorem nfs_alt {l : List P2} (h : Alt l) : nfs l = l.reverse := by
  unfold nfs
  have := foldl_alt (a := l) (s := []) (by simpa using h.reverse)
  simpa using this
theorem nfs_is {l l' : List P2} (hl : ∀ x ∈ l, Gd x) (h : mrg1 l = some l') : nfs l = nfs l' := (mrg_nf hl h).2.2 [] trivial
theorem alt_nfs {l : List P2} (hl : ∀ x ∈ l, Gd x) : Alt (nfs l) := by
  unfold nfs
  have : ∀ s, Alt s → Alt (l.foldl psh s) := by
    induction l with
    | nil => exact fun s h => h
    | cons x l ih => exact fun s h => ih (fun z hz => hl z (List.mem_cons_of_mem _ hz)) _ (psh_alt h (hl x (by simp)))
  exact this [] trivial
end Go.Proofs.Ythndmoipemnllaa
