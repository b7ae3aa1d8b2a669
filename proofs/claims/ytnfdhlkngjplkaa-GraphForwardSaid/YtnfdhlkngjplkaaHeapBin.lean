/- Stage 13's program: rows of things in the order of a heap; bringing up and down; places by id: plain mathematics. -/
import Derived.Test.YtnfdhlkngjplkaaHeapMath
import Derived.Test.YtnfdhlkngjplkaaMapN
namespace Go.Proofs.Ytnfdhlkngjplkaa

theorem nah_trans {a b c : Th} (h1 : ahead b a = false) (h2 : ahead c b = false) : ahead c a = false := by
  have h1' : ¬ ahead b a = true := by rw [h1]; decide
  have h2' : ¬ ahead c b = true := by rw [h2]; decide
  cases h : ahead c a with
  | false => rfl
  | true => rw [ahead_iff] at *; omega
theorem nah_of {x p c : Th} (h1 : ahead x p = true) (h2 : ahead c p = false) : ahead c x = false := nah_trans (ahead_asym h1) h2

/-- the thing at a place -/
def tg (T : List Th) (i : Nat) : Th := T.getD i ⟨0, 0, 0⟩
theorem tg_get (T : List Th) (i : Nat) (h : i < T.length) : tg T i = T[i] := by simp [tg, h]
theorem tg_set (T : List Th) (i j : Nat) (x : Th) (h : i < T.length) : tg (T.set i x) j = if j = i then x else tg T j := by
  unfold tg
  rw [List.getD_eq_getElem?_getD, List.getD_eq_getElem?_getD, List.getElem?_set]
  by_cases e : j = i
  · subst e; simp [h]
  · rw [if_neg (fun h => e h.symm), if_neg e]
theorem tg_snoc (T : List Th) (x : Th) (j : Nat) : tg (T ++ [x]) j = if j = T.length then x else tg T j := by
  unfold tg
  rw [List.getD_eq_getElem?_getD, List.getD_eq_getElem?_getD]
  by_cases e : j = T.length
  · subst e; simp
  · rw [if_neg e]
    by_cases hj : j < T.length
    · rw [List.getElem?_append_left hj]
    · rw [List.getElem?_append_right (by omega), List.getElem?_eq_none (by simp; omega), List.getElem?_eq_none (by omega)]
theorem tg_pop (T : List Th) (j : Nat) (h : j < T.length - 1) : tg T.dropLast j = tg T j := by
  rw [tg_get _ _ (by rw [List.length_dropLast]; exact h), tg_get _ _ (by omega), List.getElem_dropLast]
def swapT (T : List Th) (i j : Nat) : List Th := (T.set i (tg T j)).set j (tg T i)
theorem swapT_len (T : List Th) (i j : Nat) : (swapT T i j).length = T.length := by simp [swapT]
theorem tg_swap (T : List Th) (i j k : Nat) (hi : i < T.length) (hj : j < T.length) : tg (swapT T i j) k = if k = j then tg T i else if k = i then tg T j else tg T k := by
  unfold swapT
  rw [tg_set _ _ _ _ (by simpa using hj), tg_set _ _ _ _ hi]
theorem swapT_perm (T : List Th) (i j : Nat) (hi : i < T.length) (hj : j < T.length) : (swapT T i j).Perm T := by
  unfold swapT
  rw [tg_get _ _ hi, tg_get _ _ hj]
  exact List.set_set_perm hi hj

/-! ### The order of a heap -/
def par (k : Nat) : Nat := (k - 1) / 2
/-- no thing is ahead of the one above it -/
def hp (T : List Th) : Prop := ∀ k, 0 < k → k < T.length → ahead (tg T k) (tg T (par k)) = false
/-- all is in order but the thing at i and what is about it -/
structure fixI (T : List Th) (i : Nat) : Prop where
  rest : ∀ k, 0 < k → k < T.length → k ≠ i → par k ≠ i → ahead (tg T k) (tg T (par k)) = false
  kids : ∀ k, 0 < k → k < T.length → par k = i → 0 < i → ahead (tg T k) (tg T (par i)) = false
/-- .. but that the thing at i may be ahead of the one above it -/
structure upI (T : List Th) (i : Nat) : Prop where
  rest : ∀ k, 0 < k → k < T.length → k ≠ i → ahead (tg T k) (tg T (par k)) = false
  kids : ∀ k, 0 < k → k < T.length → par k = i → 0 < i → ahead (tg T k) (tg T (par i)) = false
/-- .. but that one below i may be ahead of the one at i -/
structure dnI (T : List Th) (i : Nat) : Prop where
  rest : ∀ k, 0 < k → k < T.length → par k ≠ i → ahead (tg T k) (tg T (par k)) = false
  kids : ∀ k, 0 < k → k < T.length → par k = i → 0 < i → ahead (tg T k) (tg T (par i)) = false
theorem hp.up {T : List Th} (h : hp T) {i : Nat} (hi : i < T.length) : upI T i :=
  ⟨fun k h0 hk _ => h k h0 hk, fun k h0 hk e h1 => nah_trans (h i h1 hi) (e ▸ h k h0 hk)⟩
theorem hp.dn {T : List Th} (h : hp T) {i : Nat} (hi : i < T.length) : dnI T i := ⟨fun k h0 hk _ => h k h0 hk, (h.up hi).kids⟩
theorem upI.done {T : List Th} {i : Nat} (h : upI T i) (hn : i = 0 ∨ ahead (tg T i) (tg T (par i)) = false) : hp T := fun k h0 hk => by
  by_cases e : k = i
  · subst e
    rcases hn with hn | hn
    · omega
    · exact hn
  · exact h.rest k h0 hk e
theorem upI.step {T : List Th} {i : Nat} (h : upI T i) (h0 : 0 < i) (hi : i < T.length) (ha : ahead (tg T i) (tg T (par i)) = true) : upI (swapT T i (par i)) (par i) := by
  have hp1 : par i < i := by unfold par; omega
  have hpl : par i < T.length := by omega
  refine ⟨fun k k0 hk hne => ?_, fun k k0 hk e p0 => ?_⟩
  · rw [swapT_len] at hk
    rw [tg_swap _ _ _ _ hi hpl, tg_swap _ _ _ _ hi hpl, if_neg hne]
    by_cases ki : k = i
    · subst ki
      rw [if_pos rfl, if_pos rfl]
      exact ahead_asym ha
    · rw [if_neg ki]
      by_cases kp : par k = par i
      · rw [if_pos kp]
        have := h.rest k k0 hk ki
        rw [kp] at this
        exact nah_of ha this
      · rw [if_neg kp]
        by_cases kpi : par k = i
        · rw [if_pos kpi]
          exact h.kids k k0 hk kpi h0
        · rw [if_neg kpi]
          exact h.rest k k0 hk ki
  · rw [swapT_len] at hk
    have hq : par (par i) < par i := by unfold par at *; omega
    rw [tg_swap _ _ _ _ hi hpl, tg_swap _ _ _ _ hi hpl, if_neg (show par (par i) ≠ par i by omega), if_neg (show par (par i) ≠ i by omega)]
    have hup := h.rest (par i) p0 hpl (by omega)
    have hkp : k ≠ par i := fun e2 => by rw [e2] at e; omega
    rw [if_neg hkp]
    by_cases ki : k = i
    · rw [if_pos ki]
      exact hup
    · rw [if_neg ki]
      have := h.rest k k0 hk ki
      rw [e] at this
      exact nah_trans hup this
theorem dnI.done {T : List Th} {i : Nat} (h : dnI T i) (hn : ∀ k, 0 < k → k < T.length → par k = i → ahead (tg T k) (tg T i) = false) : hp T := fun k h0 hk => by
  by_cases e : par k = i
  · rw [e]; exact hn k h0 hk e
  · exact h.rest k h0 hk e
theorem dnI.step {T : List Th} {i c : Nat} (h : dnI T i) (c0 : 0 < c) (hc : c < T.length) (hpc : par c = i) (hb : ∀ k, 0 < k → k < T.length → par k = i → ahead (tg T k) (tg T c) = false) (ha : ahead (tg T c) (tg T i) = true) : dnI (swapT T i c) c := by
  have hic : i < c := by rw [← hpc]; unfold par; omega
  have hi : i < T.length := by omega
  refine ⟨fun k k0 hk hne => ?_, fun k k0 hk e _ => ?_⟩
  · rw [swapT_len] at hk
    rw [tg_swap _ _ _ _ hi hc, tg_swap _ _ _ _ hi hc, if_neg hne]
    by_cases kc : k = c
    · subst kc
      rw [if_pos rfl, hpc, if_pos rfl]
      exact ahead_asym ha
    · rw [if_neg kc]
      by_cases ki : k = i
      · rw [if_pos ki, if_neg (show par k ≠ i by rw [ki]; unfold par; omega), ki]
        exact h.kids c c0 hc hpc (by omega)
      · rw [if_neg ki]
        by_cases kp : par k = i
        · rw [if_pos kp]
          exact hb k k0 hk kp
        · rw [if_neg kp]
          exact h.rest k k0 hk kp
  · rw [swapT_len] at hk
    have hkc : c < k := by rw [← e]; unfold par; omega
    rw [tg_swap _ _ _ _ hi hc, tg_swap _ _ _ _ hi hc, if_neg (by omega), if_neg (by omega), hpc, if_neg (by omega), if_pos rfl]
    have := h.rest k k0 hk (by omega)
    rwa [e] at this
theorem fixI.up {T : List Th} {i : Nat} (h : fixI T i) (h0 : 0 < i) (ha : ahead (tg T i) (tg T (par i)) = true) : upI T i :=
  ⟨fun k k0 hk hne => by
    by_cases e : par k = i
    · rw [e]; exact nah_of ha (h.kids k k0 hk e h0)
    · exact h.rest k k0 hk hne e, h.kids⟩
theorem fixI.dn {T : List Th} {i : Nat} (h : fixI T i) (hn : i = 0 ∨ ahead (tg T i) (tg T (par i)) = false) : dnI T i :=
  ⟨fun k k0 hk hne => by
    by_cases e : k = i
    · subst e
      rcases hn with hn | hn
      · omega
      · exact hn
    · exact h.rest k k0 hk e hne, h.kids⟩
theorem fixI.upD {T : List Th} {i : Nat} (h : fixI T i) (hn : ∀ k, 0 < k → k < T.length → par k = i → ahead (tg T k) (tg T i) = false) : upI T i :=
  ⟨fun k k0 hk hne => by
    by_cases e : par k = i
    · rw [e]; exact hn k k0 hk e
    · exact h.rest k k0 hk hne e, h.kids⟩
theorem hp.set {T : List Th} (h : hp T) {i : Nat} (hi : i < T.length) (x : Th) : fixI (T.set i x) i := by
  have hpi : 0 < i → par i ≠ i := fun _ => by unfold par; omega
  refine ⟨fun k k0 hk hne hne2 => ?_, fun k k0 hk e h0 => ?_⟩
  · rw [List.length_set] at hk
    rw [tg_set _ _ _ _ hi, tg_set _ _ _ _ hi, if_neg hne, if_neg hne2]
    exact h k k0 hk
  · rw [List.length_set] at hk
    have hk2 : k ≠ i := fun e2 => by rw [e2] at e; exact hpi h0 e
    rw [tg_set _ _ _ _ hi, tg_set _ _ _ _ hi, if_neg hk2, if_neg (hpi h0)]
    exact nah_trans (h i h0 hi) (e ▸ h k k0 hk)
theorem hp.snoc {T : List Th} (h : hp T) (x : Th) : upI (T ++ [x]) T.length := by
  refine ⟨fun k k0 hk hne => ?_, fun k k0 hk e h0 => ?_⟩
  · rw [List.length_append, List.length_singleton] at hk
    have : par k ≠ T.length := by unfold par; omega
    rw [tg_snoc, tg_snoc, if_neg hne, if_neg this]
    exact h k k0 (by omega)
  · rw [List.length_append, List.length_singleton] at hk
    unfold par at e
    omega
theorem hp.pop {T : List Th} (h : hp T) : hp T.dropLast := fun k k0 hk => by
  rw [List.length_dropLast] at hk
  rw [tg_pop _ _ hk, tg_pop _ _ (by unfold par; omega)]
  exact h k k0 (by omega)
theorem fixI.pop {T : List Th} {i : Nat} (h : fixI T i) : fixI T.dropLast i := by
  refine ⟨fun k k0 hk hne hne2 => ?_, fun k k0 hk e h0 => ?_⟩
  · rw [List.length_dropLast] at hk
    rw [tg_pop _ _ hk, tg_pop _ _ (by unfold par; omega)]
    exact h.rest k k0 (by omega) hne hne2
  · rw [List.length_dropLast] at hk
    have hik : par i < T.length - 1 := by rw [← e]; unfold par; omega
    rw [tg_pop _ _ hk, tg_pop _ _ hik]
    exact h.kids k k0 (by omega) e h0
/-- the first one is ahead of all, or is it -/
theorem hp.first {T : List Th} (h : hp T) : ∀ n, ∀ k, k ≤ n → k < T.length → ahead (tg T k) (tg T 0) = false
  | 0, k, hk, _ => by
    have : k = 0 := by omega
    subst this
    exact ahead_irr _
  | n + 1, k, hk, hl => by
    by_cases k0 : k = 0
    · subst k0; exact ahead_irr _
    · have h1 := h.first n (par k) (by unfold par; omega) (by unfold par; omega)
      exact nah_trans h1 (h k (by omega) hl)

/-! ### The same things in order -/
theorem cons_erase : ∀ (T : List Th) (i : Nat) (h : i < T.length), (T[i] :: T.eraseIdx i).Perm T
  | x :: t, 0, _ => List.Perm.refl _
  | x :: t, i + 1, h => by
    have hi : i < t.length := by simpa using h
    have := cons_erase t i hi
    simp only [List.getElem_cons_succ, List.eraseIdx_cons_succ]
    exact (List.Perm.swap x (t[i]'hi) _).trans (this.cons x)
theorem set_erase (x : Th) : ∀ (T : List Th) (i : Nat), i < T.length → (T.set i x).Perm (x :: T.eraseIdx i)
  | y :: t, 0, _ => List.Perm.refl _
  | y :: t, i + 1, h => by
    have := set_erase x t i (by simpa using h)
    simp only [List.set_cons_succ, List.eraseIdx_cons_succ]
    exact (this.cons y).trans (List.Perm.swap x y _)
def Dst (T : List Th) : Prop := (T.map Th.id).Nodup
theorem Dst.perm {T S : List Th} (h : Dst T) (hp : T.Perm S) : Dst S := (hp.map Th.id).nodup_iff.1 h
theorem Dst.inj {T : List Th} (h : Dst T) {i j : Nat} (hi : i < T.length) (hj : j < T.length) (e : (tg T i).id = (tg T j).id) : i = j := by
  rw [tg_get _ _ hi, tg_get _ _ hj] at e
  have h1 := List.pairwise_iff_getElem.1 h
  rcases Nat.lt_trichotomy i j with h2 | h2 | h2
  · exact absurd (by rw [List.getElem_map, List.getElem_map]; exact e) (h1 i j (by simpa using hi) (by simpa using hj) h2)
  · exact h2
  · exact absurd (by rw [List.getElem_map, List.getElem_map]; exact e.symm) (h1 j i (by simpa using hj) (by simpa using hi) h2)
/-- what is left without the thing at i -/
theorem drop_perm {T : List Th} (h : Dst T) {i : Nat} (hi : i < T.length) : (dropT T (tg T i).id).Perm (T.eraseIdx i) := by
  have hp : (T[i] :: T.eraseIdx i).Perm T := cons_erase T i hi
  have hd := h.perm hp.symm
  rw [tg_get _ _ hi]
  have h1 : (dropT T T[i].id).Perm (dropT (T[i] :: T.eraseIdx i) T[i].id) := hp.symm.filter _
  refine h1.trans ?_
  unfold dropT
  rw [List.filter_cons_of_neg (by simp)]
  have h2 : ∀ y ∈ T.eraseIdx i, y.id ≠ T[i].id := fun y hy e => by
    unfold Dst at hd
    rw [List.map_cons, List.nodup_cons] at hd
    exact hd.1 (e ▸ List.mem_map_of_mem hy)
  rw [List.filter_eq_self.2 fun y hy => by simpa using h2 y hy]
theorem dropT_perm {T S : List Th} (h : T.Perm S) (id : Int) : (dropT T id).Perm (dropT S id) := h.filter _
theorem insT_perm (x : Th) : ∀ l, (insT x l).Perm (x :: l)
  | [] => List.Perm.refl _
  | r :: t => by
    unfold insT
    split
    · exact List.Perm.refl _
    · exact ((insT_perm x t).cons r).trans (List.Perm.swap x r t)
theorem dropT_no {T : List Th} {id : Int} (h : ∀ y ∈ T, y.id ≠ id) : dropT T id = T := List.filter_eq_self.2 fun y hy => by simpa using h y hy
/-- a thing laid in for the one of its id -/
theorem put_in {T S : List Th} (hd : Dst T) (hp : T.Perm S) {i : Nat} (hi : i < T.length) {x : Th} (hx : (tg T i).id = x.id) : (T.set i x).Perm (putT S x) := by
  have h1 : (T.set i x).Perm (x :: T.eraseIdx i) := set_erase x T i hi
  have h2 := (drop_perm hd hi).symm
  rw [hx] at h2
  exact h1.trans ((h2.cons x).trans (((dropT_perm hp x.id).cons x).trans (insT_perm x _).symm))
theorem put_new {T S : List Th} (hp : T.Perm S) {x : Th} (hx : ∀ y ∈ T, y.id ≠ x.id) : (T ++ [x]).Perm (putT S x) := by
  have h1 : (T ++ [x]).Perm (x :: T) := List.perm_append_singleton x T
  have h2 : dropT S x.id = S := dropT_no fun y hy => hx y (hp.mem_iff.2 hy)
  unfold putT
  rw [h2]
  exact h1.trans ((hp.cons x).trans (insT_perm x S).symm)
theorem hasT_iff {S : List Th} {id : Int} : hasT S id = true ↔ ∃ y ∈ S, y.id = id := by
  unfold hasT
  rw [decide_eq_true_iff]
  constructor
  · intro h
    refine Classical.byContradiction fun hn => ?_
    rw [dropT_no fun y hy e => hn ⟨y, hy, e⟩] at h
    omega
  · rintro ⟨y, hy, e⟩
    unfold dropT
    exact List.length_filter_lt_length_iff_exists.2 ⟨y, hy, by simp [e]⟩
/-- the last thing in the place of the one at i -/
theorem drop_last {T S : List Th} (hd : Dst T) (hp : T.Perm S) {i : Nat} (hi : i < T.length) : ((T.set i (tg T (T.length - 1))).dropLast).Perm (dropT S (tg T i).id) := by
  refine List.Perm.trans ?_ ((drop_perm hd hi).symm.trans (dropT_perm hp _))
  have hne : T ≠ [] := fun e => by rw [e] at hi; simp at hi
  by_cases hl : i = T.length - 1
  · subst hl
    rw [List.dropLast_eq_take, List.length_set, List.take_set_of_le (Nat.le_refl _), List.eraseIdx_eq_take_drop_succ, List.drop_of_length_le (by omega), List.append_nil]
  · have h1 : ((T.set i (tg T (T.length - 1))).dropLast) = T.dropLast.set i (tg T (T.length - 1)) := by
      rw [List.dropLast_eq_take, List.dropLast_eq_take, List.length_set, List.take_set]
    have hi2 : i < T.dropLast.length := by rw [List.length_dropLast]; omega
    rw [h1]
    refine (set_erase _ _ _ hi2).trans ?_
    have h2 : T = T.dropLast ++ [tg T (T.length - 1)] := by
      rw [tg_get _ _ (by omega), ← List.getLast_eq_getElem hne]
      exact (List.dropLast_concat_getLast hne).symm
    have h3 : T.eraseIdx i = T.dropLast.eraseIdx i ++ [tg T (T.length - 1)] := by
      conv => lhs; rw [h2]
      rw [List.eraseIdx_append_of_lt_length hi2]
    rw [h3]
    exact (List.perm_append_singleton _ _).symm
/-- rows in order of the same things are the same -/
theorem srtT_eq {T S : List Th} (h1 : srtT T) (h2 : srtT S) (hp : T.Perm S) : T = S :=
  hp.eq_of_pairwise (fun a b _ _ hab hba => by rw [ahead_asym hab] at hba; cases hba) h1 h2
theorem first_is {T S : List Th} (h : hp T) (hs : srtT S) (hp : T.Perm S) (h0 : 0 < T.length) : ∃ t, S = tg T 0 :: t := by
  cases S with
  | nil => have := hp.length_eq; simp at this; rw [this] at h0; simp at h0
  | cons y t =>
    refine ⟨t, ?_⟩
    have hm : tg T 0 ∈ y :: t := hp.mem_iff.1 (by rw [tg_get _ _ h0]; exact List.getElem_mem h0)
    rcases List.mem_cons.1 hm with e | hm
    · rw [e]
    · have h2 := (List.pairwise_cons.1 hs).1 _ hm
      obtain ⟨j, hj, e⟩ := List.getElem_of_mem (hp.mem_iff.2 (List.mem_cons_self (a := y) (l := t)))
      have h3 := h.first j j (Nat.le_refl _) hj
      rw [tg_get _ _ hj, e, h2] at h3
      cases h3

/-! ### Places -/
/-- where the thing of an id stands -/
def Pos (T : List Th) (g : Int → Option Nat) : Prop := ∀ id j, g id = some j ↔ j < T.length ∧ (tg T j).id = id
theorem Pos.dst {T : List Th} {g : Int → Option Nat} (h : Pos T g) : Dst T := by
  unfold Dst
  rw [List.Nodup, List.pairwise_iff_getElem]
  intro i j hi hj hij e
  rw [List.length_map] at hi hj
  have h1 := (h (tg T i).id i).2 ⟨hi, rfl⟩
  have h2 := (h (tg T i).id j).2 ⟨hj, by rw [tg_get _ _ hi, tg_get _ _ hj]; simpa using e.symm⟩
  rw [h1] at h2
  cases h2
  omega
theorem Pos.nil : Pos [] (fun _ => none) := by
  intro id j
  exact ⟨fun h => (by cases h), fun h => (by simp at h)⟩
theorem Pos.no {T : List Th} {g : Int → Option Nat} (h : Pos T g) {id : Int} (hg : g id = none) : ∀ y ∈ T, y.id ≠ id := fun y hy e => by
  obtain ⟨j, hj, ey⟩ := List.getElem_of_mem hy
  have := (h id j).2 ⟨hj, by rw [tg_get _ _ hj, ey, e]⟩
  rw [hg] at this
  cases this
theorem Pos.snoc {T : List Th} {g : Int → Option Nat} (h : Pos T g) {x : Th} (hg : g x.id = none) : Pos (T ++ [x]) (upd g x.id (some T.length)) := fun id j => by
  unfold upd
  rw [tg_snoc, List.length_append, List.length_singleton]
  by_cases e : id = x.id
  · rw [if_pos e, e]
    constructor
    · intro hj
      cases hj
      exact ⟨by omega, by rw [if_pos rfl]⟩
    · rintro ⟨hj, e2⟩
      by_cases hjl : j = T.length
      · rw [hjl]
      · rw [if_neg hjl] at e2
        have := (h x.id j).2 ⟨by omega, e2⟩
        rw [hg] at this
        cases this
  · rw [if_neg e, h id j]
    constructor
    · rintro ⟨hj, e2⟩
      exact ⟨by omega, by rw [if_neg (by omega)]; exact e2⟩
    · rintro ⟨hj, e2⟩
      by_cases hjl : j = T.length
      · rw [if_pos hjl] at e2
        exact absurd e2.symm e
      · rw [if_neg hjl] at e2
        exact ⟨by omega, e2⟩
theorem Pos.set {T : List Th} {g : Int → Option Nat} (h : Pos T g) {i : Nat} (hi : i < T.length) {x : Th} (hx : (tg T i).id = x.id) : Pos (T.set i x) g := fun id j => by
  rw [tg_set _ _ _ _ hi, List.length_set, h id j]
  by_cases e : j = i
  · subst e
    rw [if_pos rfl, hx]
  · rw [if_neg e]
theorem Pos.swap {T : List Th} {g : Int → Option Nat} (h : Pos T g) {i j : Nat} (hi : i < T.length) (hj : j < T.length) : Pos (swapT T i j) (upd (upd g (tg T j).id (some i)) (tg T i).id (some j)) := fun id k => by
  have hd := h.dst
  unfold upd
  rw [tg_swap _ _ _ _ hi hj, swapT_len]
  by_cases e1 : id = (tg T i).id
  · rw [if_pos e1]
    constructor
    · intro e
      cases e
      exact ⟨hj, by rw [if_pos rfl, e1]⟩
    · rintro ⟨hk, e⟩
      by_cases kj : k = j
      · rw [kj]
      · rw [if_neg kj] at e
        by_cases ki : k = i
        · rw [if_pos ki, e1] at e
          exact absurd (hd.inj hj hi e) (by omega)
        · rw [if_neg ki, e1] at e
          exact absurd (hd.inj hk hi e) ki
  · rw [if_neg e1]
    by_cases e2 : id = (tg T j).id
    · rw [if_pos e2]
      constructor
      · intro e
        cases e
        by_cases ij : i = j
        · rw [ij] at e1
          exact absurd e2 e1
        · exact ⟨hi, by rw [if_neg ij, if_pos rfl, e2]⟩
      · rintro ⟨hk, e⟩
        by_cases kj : k = j
        · rw [if_pos kj] at e
          exact absurd e.symm e1
        · rw [if_neg kj] at e
          by_cases ki : k = i
          · rw [ki]
          · rw [if_neg ki, e2] at e
            exact absurd (hd.inj hk hj e) kj
    · rw [if_neg e2, h id k]
      constructor
      · rintro ⟨hk, e⟩
        refine ⟨hk, ?_⟩
        rw [if_neg (fun kj => e2 (by rw [← e, kj])), if_neg (fun ki => e1 (by rw [← e, ki]))]
        exact e
      · rintro ⟨hk, e⟩
        refine ⟨hk, ?_⟩
        by_cases kj : k = j
        · rw [if_pos kj] at e; exact absurd e.symm e1
        · rw [if_neg kj] at e
          by_cases ki : k = i
          · rw [if_pos ki] at e; exact absurd e.symm e2
          · rwa [if_neg ki] at e
/-- the last thing goes -/
theorem Pos.pop {T : List Th} {g : Int → Option Nat} (h : Pos T g) (h0 : 0 < T.length) : Pos T.dropLast (upd g (tg T (T.length - 1)).id none) := fun id j => by
  have hd := h.dst
  unfold upd
  rw [List.length_dropLast]
  by_cases e : id = (tg T (T.length - 1)).id
  · rw [if_pos e]
    constructor
    · intro e; cases e
    · rintro ⟨hj, e2⟩
      rw [tg_pop _ _ hj, e] at e2
      have := hd.inj (show j < T.length by omega) (show T.length - 1 < T.length by omega) e2
      omega
  · rw [if_neg e, h id j]
    constructor
    · rintro ⟨hj, e2⟩
      have : j ≠ T.length - 1 := fun e3 => e (by rw [← e2, e3])
      exact ⟨by omega, by rw [tg_pop _ _ (by omega)]; exact e2⟩
    · rintro ⟨hj, e2⟩
      rw [tg_pop _ _ hj] at e2
      exact ⟨by omega, e2⟩
/-- the last thing comes to i, for the thing that goes -/
theorem Pos.over {T : List Th} {g : Int → Option Nat} (h : Pos T g) {i : Nat} (hi : i < T.length - 1) :
    Pos (T.set i (tg T (T.length - 1))).dropLast (upd (upd g (tg T (T.length - 1)).id (some i)) (tg T i).id none) := by
  have hT : i < T.length := by omega
  have h1 := (h.swap hT (show T.length - 1 < T.length by omega)).pop (by rw [swapT_len]; omega)
  have e1 : (swapT T i (T.length - 1)).dropLast = (T.set i (tg T (T.length - 1))).dropLast := by
    unfold swapT
    rw [List.dropLast_eq_take, List.dropLast_eq_take, List.length_set, List.length_set, List.take_set_of_le (Nat.le_refl _)]
  rw [e1, swapT_len, tg_swap _ _ _ _ hT (by omega), if_pos rfl] at h1
  have e2 : upd (upd (upd g (tg T (T.length - 1)).id (some i)) (tg T i).id (some (T.length - 1))) (tg T i).id none = upd (upd g (tg T (T.length - 1)).id (some i)) (tg T i).id none := by
    funext k
    unfold upd
    by_cases hk : k = (tg T i).id
    · rw [if_pos hk, if_pos hk]
    · rw [if_neg hk, if_neg hk, if_neg hk]
  rwa [e2] at h1
end Go.Proofs.Ytnfdhlkngjplkaa
