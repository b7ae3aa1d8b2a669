/- Texts of this proof, joined: HeapBin; OwnSet; HpA; HpB; HpC. -/
import Derived.Test.YthchkhgimnchcaaGreatBun17
import Derived.StillTailTactics
import Derived.Shelf.SlicesG.Cmp
/- Stage 13's program: rows of things in the order of a heap; bringing up and down; places by id: plain mathematics. -/
namespace Go.Proofs.YthchkhgimnchcaaGreat

theorem nah_trans {a b c : Th} (h1 : ahead b a = false) (h2 : ahead c b = false) : ahead c a = false := by
  have h1' : ¬ ahead b a = true := by rw [h1]; decide
  have h2' : ¬ ahead c b = true := by rw [h2]; decide
  cases h : ahead c a with
  | false => rfl
  | true => rw [ahead_iff] at *; omega
theorem nah_of {x p c : Th} (h1 : ahead x p = true) (h2 : ahead c p = false) : ahead c x = false := nah_trans (ahead_asym h1) h2

/-- the thing at a place -/
def tg (T : List Th) (i : Nat) : Th := T.getD i ⟨0, 0, 0⟩
theorem tg_get (T : List Th) (i : Nat) (h : i < T.length) : tg T i = T[i] := by simp [tg, h]
theorem tg_set (T : List Th) (i j : Nat) (x : Th) (h : i < T.length) : tg (T.set i x) j = if j = i then x else tg T j := by
  unfold tg
  rw [List.getD_eq_getElem?_getD, List.getD_eq_getElem?_getD, List.getElem?_set]
  by_cases e : j = i
  · subst e; simp [h]
  · rw [if_neg (fun h => e h.symm), if_neg e]
theorem tg_snoc (T : List Th) (x : Th) (j : Nat) : tg (T ++ [x]) j = if j = T.length then x else tg T j := by
  unfold tg
  rw [List.getD_eq_getElem?_getD, List.getD_eq_getElem?_getD]
  by_cases e : j = T.length
  · subst e; simp
  · rw [if_neg e]
    by_cases hj : j < T.length
    · rw [List.getElem?_append_left hj]
    · rw [List.getElem?_append_right (by omega), List.getElem?_eq_none (by simp; omega), List.getElem?_eq_none (by omega)]
theorem tg_pop (T : List Th) (j : Nat) (h : j < T.length - 1) : tg T.dropLast j = tg T j := by
  rw [tg_get _ _ (by rw [List.length_dropLast]; exact h), tg_get _ _ (by omega), List.getElem_dropLast]
def swapT (T : List Th) (i j : Nat) : List Th := (T.set i (tg T j)).set j (tg T i)
theorem swapT_len (T : List Th) (i j : Nat) : (swapT T i j).length = T.length := by simp [swapT]
theorem tg_swap (T : List Th) (i j k : Nat) (hi : i < T.length) (hj : j < T.length) : tg (swapT T i j) k = if k = j then tg T i else if k = i then tg T j else tg T k := by
  unfold swapT
  rw [tg_set _ _ _ _ (by simpa using hj), tg_set _ _ _ _ hi]
theorem swapT_perm (T : List Th) (i j : Nat) (hi : i < T.length) (hj : j < T.length) : (swapT T i j).Perm T := by
  unfold swapT
  rw [tg_get _ _ hi, tg_get _ _ hj]
  exact List.set_set_perm hi hj

/-! ### The order of a heap -/
def par (k : Nat) : Nat := (k - 1) / 2
/-- no thing is ahead of the one above it -/
def hp (T : List Th) : Prop := ∀ k, 0 < k → k < T.length → ahead (tg T k) (tg T (par k)) = false
/-- all is in order but the thing at i and what is about it -/
structure fixI (T : List Th) (i : Nat) : Prop where
  rest : ∀ k, 0 < k → k < T.length → k ≠ i → par k ≠ i → ahead (tg T k) (tg T (par k)) = false
  kids : ∀ k, 0 < k → k < T.length → par k = i → 0 < i → ahead (tg T k) (tg T (par i)) = false
/-- .. but that the thing at i may be ahead of the one above it -/
structure upI (T : List Th) (i : Nat) : Prop where
  rest : ∀ k, 0 < k → k < T.length → k ≠ i → ahead (tg T k) (tg T (par k)) = false
  kids : ∀ k, 0 < k → k < T.length → par k = i → 0 < i → ahead (tg T k) (tg T (par i)) = false
/-- .. but that one below i may be ahead of the one at i -/
structure dnI (T : List Th) (i : Nat) : Prop where
  rest : ∀ k, 0 < k → k < T.length → par k ≠ i → ahead (tg T k) (tg T (par k)) = false
  kids : ∀ k, 0 < k → k < T.length → par k = i → 0 < i → ahead (tg T k) (tg T (par i)) = false
theorem hp.up {T : List Th} (h : hp T) {i : Nat} (hi : i < T.length) : upI T i :=
  ⟨fun k h0 hk _ => h k h0 hk, fun k h0 hk e h1 => nah_trans (h i h1 hi) (e ▸ h k h0 hk)⟩
theorem hp.dn {T : List Th} (h : hp T) {i : Nat} (hi : i < T.length) : dnI T i := ⟨fun k h0 hk _ => h k h0 hk, (h.up hi).kids⟩
theorem upI.done {T : List Th} {i : Nat} (h : upI T i) (hn : i = 0 ∨ ahead (tg T i) (tg T (par i)) = false) : hp T := fun k h0 hk => by
  by_cases e : k = i
  · subst e
    rcases hn with hn | hn
    · omega
    · exact hn
  · exact h.rest k h0 hk e
theorem upI.step {T : List Th} {i : Nat} (h : upI T i) (h0 : 0 < i) (hi : i < T.length) (ha : ahead (tg T i) (tg T (par i)) = true) : upI (swapT T i (par i)) (par i) := by
  have hp1 : par i < i := by unfold par; omega
  have hpl : par i < T.length := by omega
  refine ⟨fun k k0 hk hne => ?_, fun k k0 hk e p0 => ?_⟩
  · rw [swapT_len] at hk
    rw [tg_swap _ _ _ _ hi hpl, tg_swap _ _ _ _ hi hpl, if_neg hne]
    by_cases ki : k = i
    · subst ki
      rw [if_pos rfl, if_pos rfl]
      exact ahead_asym ha
    · rw [if_neg ki]
      by_cases kp : par k = par i
      · rw [if_pos kp]
        have := h.rest k k0 hk ki
        rw [kp] at this
        exact nah_of ha this
      · rw [if_neg kp]
        by_cases kpi : par k = i
        · rw [if_pos kpi]
          exact h.kids k k0 hk kpi h0
        · rw [if_neg kpi]
          exact h.rest k k0 hk ki
  · rw [swapT_len] at hk
    have hq : par (par i) < par i := by unfold par at *; omega
    rw [tg_swap _ _ _ _ hi hpl, tg_swap _ _ _ _ hi hpl, if_neg (show par (par i) ≠ par i by omega), if_neg (show par (par i) ≠ i by omega)]
    have hup := h.rest (par i) p0 hpl (by omega)
    have hkp : k ≠ par i := fun e2 => by rw [e2] at e; omega
    rw [if_neg hkp]
    by_cases ki : k = i
    · rw [if_pos ki]
      exact hup
    · rw [if_neg ki]
      have := h.rest k k0 hk ki
      rw [e] at this
      exact nah_trans hup this
theorem dnI.done {T : List Th} {i : Nat} (h : dnI T i) (hn : ∀ k, 0 < k → k < T.length → par k = i → ahead (tg T k) (tg T i) = false) : hp T := fun k h0 hk => by
  by_cases e : par k = i
  · rw [e]; exact hn k h0 hk e
  · exact h.rest k h0 hk e
theorem dnI.step {T : List Th} {i c : Nat} (h : dnI T i) (c0 : 0 < c) (hc : c < T.length) (hpc : par c = i) (hb : ∀ k, 0 < k → k < T.length → par k = i → ahead (tg T k) (tg T c) = false) (ha : ahead (tg T c) (tg T i) = true) : dnI (swapT T i c) c := by
  have hic : i < c := by rw [← hpc]; unfold par; omega
  have hi : i < T.length := by omega
  refine ⟨fun k k0 hk hne => ?_, fun k k0 hk e _ => ?_⟩
  · rw [swapT_len] at hk
    rw [tg_swap _ _ _ _ hi hc, tg_swap _ _ _ _ hi hc, if_neg hne]
    by_cases kc : k = c
    · subst kc
      rw [if_pos rfl, hpc, if_pos rfl]
      exact ahead_asym ha
    · rw [if_neg kc]
      by_cases ki : k = i
      · rw [if_pos ki, if_neg (show par k ≠ i by rw [ki]; unfold par; omega), ki]
        exact h.kids c c0 hc hpc (by omega)
      · rw [if_neg ki]
        by_cases kp : par k = i
        · rw [if_pos kp]
          exact hb k k0 hk kp
        · rw [if_neg kp]
          exact h.rest k k0 hk kp
  · rw [swapT_len] at hk
    have hkc : c < k := by rw [← e]; unfold par; omega
    rw [tg_swap _ _ _ _ hi hc, tg_swap _ _ _ _ hi hc, if_neg (by omega), if_neg (by omega), hpc, if_neg (by omega), if_pos rfl]
    have := h.rest k k0 hk (by omega)
    rwa [e] at this
theorem fixI.up {T : List Th} {i : Nat} (h : fixI T i) (h0 : 0 < i) (ha : ahead (tg T i) (tg T (par i)) = true) : upI T i :=
  ⟨fun k k0 hk hne => by
    by_cases e : par k = i
    · rw [e]; exact nah_of ha (h.kids k k0 hk e h0)
    · exact h.rest k k0 hk hne e, h.kids⟩
theorem fixI.dn {T : List Th} {i : Nat} (h : fixI T i) (hn : i = 0 ∨ ahead (tg T i) (tg T (par i)) = false) : dnI T i :=
  ⟨fun k k0 hk hne => by
    by_cases e : k = i
    · subst e
      rcases hn with hn | hn
      · omega
      · exact hn
    · exact h.rest k k0 hk e hne, h.kids⟩
theorem fixI.upD {T : List Th} {i : Nat} (h : fixI T i) (hn : ∀ k, 0 < k → k < T.length → par k = i → ahead (tg T k) (tg T i) = false) : upI T i :=
  ⟨fun k k0 hk hne => by
    by_cases e : par k = i
    · rw [e]; exact hn k k0 hk e
    · exact h.rest k k0 hk hne e, h.kids⟩
theorem hp.set {T : List Th} (h : hp T) {i : Nat} (hi : i < T.length) (x : Th) : fixI (T.set i x) i := by
  have hpi : 0 < i → par i ≠ i := fun _ => by unfold par; omega
  refine ⟨fun k k0 hk hne hne2 => ?_, fun k k0 hk e h0 => ?_⟩
  · rw [List.length_set] at hk
    rw [tg_set _ _ _ _ hi, tg_set _ _ _ _ hi, if_neg hne, if_neg hne2]
    exact h k k0 hk
  · rw [List.length_set] at hk
    have hk2 : k ≠ i := fun e2 => by rw [e2] at e; exact hpi h0 e
    rw [tg_set _ _ _ _ hi, tg_set _ _ _ _ hi, if_neg hk2, if_neg (hpi h0)]
    exact nah_trans (h i h0 hi) (e ▸ h k k0 hk)
theorem hp.snoc {T : List Th} (h : hp T) (x : Th) : upI (T ++ [x]) T.length := by
  refine ⟨fun k k0 hk hne => ?_, fun k k0 hk e h0 => ?_⟩
  · rw [List.length_append, List.length_singleton] at hk
    have : par k ≠ T.length := by unfold par; omega
    rw [tg_snoc, tg_snoc, if_neg hne, if_neg this]
    exact h k k0 (by omega)
  · rw [List.length_append, List.length_singleton] at hk
    unfold par at e
    omega
theorem hp.pop {T : List Th} (h : hp T) : hp T.dropLast := fun k k0 hk => by
  rw [List.length_dropLast] at hk
  rw [tg_pop _ _ hk, tg_pop _ _ (by unfold par; omega)]
  exact h k k0 (by omega)
theorem fixI.pop {T : List Th} {i : Nat} (h : fixI T i) : fixI T.dropLast i := by
  refine ⟨fun k k0 hk hne hne2 => ?_, fun k k0 hk e h0 => ?_⟩
  · rw [List.length_dropLast] at hk
    rw [tg_pop _ _ hk, tg_pop _ _ (by unfold par; omega)]
    exact h.rest k k0 (by omega) hne hne2
  · rw [List.length_dropLast] at hk
    have hik : par i < T.length - 1 := by rw [← e]; unfold par; omega
    rw [tg_pop _ _ hk, tg_pop _ _ hik]
    exact h.kids k k0 (by omega) e h0
/-- the first one is ahead of all, or is it -/
theorem hp.first {T : List Th} (h : hp T) : ∀ n, ∀ k, k ≤ n → k < T.length → ahead (tg T k) (tg T 0) = false
  | 0, k, hk, _ => by
    have : k = 0 := by omega
    subst this
    exact ahead_irr _
  | n + 1, k, hk, hl => by
    by_cases k0 : k = 0
    · subst k0; exact ahead_irr _
    · have h1 := h.first n (par k) (by unfold par; omega) (by unfold par; omega)
      exact nah_trans h1 (h k (by omega) hl)

/-! ### The same things in order -/
theorem cons_erase : ∀ (T : List Th) (i : Nat) (h : i < T.length), (T[i] :: T.eraseIdx i).Perm T
  | x :: t, 0, _ => List.Perm.refl _
  | x :: t, i + 1, h => by
    have hi : i < t.length := by simpa using h
    have := cons_erase t i hi
    simp only [List.getElem_cons_succ, List.eraseIdx_cons_succ]
    exact (List.Perm.swap x (t[i]'hi) _).trans (this.cons x)
theorem set_erase (x : Th) : ∀ (T : List Th) (i : Nat), i < T.length → (T.set i x).Perm (x :: T.eraseIdx i)
  | y :: t, 0, _ => List.Perm.refl _
  | y :: t, i + 1, h => by
    have := set_erase x t i (by simpa using h)
    simp only [List.set_cons_succ, List.eraseIdx_cons_succ]
    exact (this.cons y).trans (List.Perm.swap x y _)
def Dst (T : List Th) : Prop := (T.map Th.id).Nodup
theorem Dst.perm {T S : List Th} (h : Dst T) (hp : T.Perm S) : Dst S := (hp.map Th.id).nodup_iff.1 h
theorem Dst.inj {T : List Th} (h : Dst T) {i j : Nat} (hi : i < T.length) (hj : j < T.length) (e : (tg T i).id = (tg T j).id) : i = j := by
  rw [tg_get _ _ hi, tg_get _ _ hj] at e
  have h1 := List.pairwise_iff_getElem.1 h
  rcases Nat.lt_trichotomy i j with h2 | h2 | h2
  · exact absurd (by rw [List.getElem_map, List.getElem_map]; exact e) (h1 i j (by simpa using hi) (by simpa using hj) h2)
  · exact h2
  · exact absurd (by rw [List.getElem_map, List.getElem_map]; exact e.symm) (h1 j i (by simpa using hj) (by simpa using hi) h2)
/-- what is left without the thing at i -/
theorem drop_perm {T : List Th} (h : Dst T) {i : Nat} (hi : i < T.length) : (dropT T (tg T i).id).Perm (T.eraseIdx i) := by
  have hp : (T[i] :: T.eraseIdx i).Perm T := cons_erase T i hi
  have hd := h.perm hp.symm
  rw [tg_get _ _ hi]
  have h1 : (dropT T T[i].id).Perm (dropT (T[i] :: T.eraseIdx i) T[i].id) := hp.symm.filter _
  refine h1.trans ?_
  unfold dropT
  rw [List.filter_cons_of_neg (by simp)]
  have h2 : ∀ y ∈ T.eraseIdx i, y.id ≠ T[i].id := fun y hy e => by
    unfold Dst at hd
    rw [List.map_cons, List.nodup_cons] at hd
    exact hd.1 (e ▸ List.mem_map_of_mem hy)
  rw [List.filter_eq_self.2 fun y hy => by simpa using h2 y hy]
theorem dropT_perm {T S : List Th} (h : T.Perm S) (id : Int) : (dropT T id).Perm (dropT S id) := h.filter _
theorem insT_perm (x : Th) : ∀ l, (insT x l).Perm (x :: l)
  | [] => List.Perm.refl _
  | r :: t => by
    unfold insT
    split
    · exact List.Perm.refl _
    · exact ((insT_perm x t).cons r).trans (List.Perm.swap x r t)
theorem dropT_no {T : List Th} {id : Int} (h : ∀ y ∈ T, y.id ≠ id) : dropT T id = T := List.filter_eq_self.2 fun y hy => by simpa using h y hy
/-- a thing laid in for the one of its id -/
theorem put_in {T S : List Th} (hd : Dst T) (hp : T.Perm S) {i : Nat} (hi : i < T.length) {x : Th} (hx : (tg T i).id = x.id) : (T.set i x).Perm (putT S x) := by
  have h1 : (T.set i x).Perm (x :: T.eraseIdx i) := set_erase x T i hi
  have h2 := (drop_perm hd hi).symm
  rw [hx] at h2
  exact h1.trans ((h2.cons x).trans (((dropT_perm hp x.id).cons x).trans (insT_perm x _).symm))
theorem put_new {T S : List Th} (hp : T.Perm S) {x : Th} (hx : ∀ y ∈ T, y.id ≠ x.id) : (T ++ [x]).Perm (putT S x) := by
  have h1 : (T ++ [x]).Perm (x :: T) := List.perm_append_singleton x T
  have h2 : dropT S x.id = S := dropT_no fun y hy => hx y (hp.mem_iff.2 hy)
  unfold putT
  rw [h2]
  exact h1.trans ((hp.cons x).trans (insT_perm x S).symm)
theorem hasT_iff {S : List Th} {id : Int} : hasT S id = true ↔ ∃ y ∈ S, y.id = id := by
  unfold hasT
  rw [decide_eq_true_iff]
  constructor
  · intro h
    refine Classical.byContradiction fun hn => ?_
    rw [dropT_no fun y hy e => hn ⟨y, hy, e⟩] at h
    omega
  · rintro ⟨y, hy, e⟩
    unfold dropT
    exact List.length_filter_lt_length_iff_exists.2 ⟨y, hy, by simp [e]⟩
/-- the last thing in the place of the one at i -/
theorem drop_last {T S : List Th} (hd : Dst T) (hp : T.Perm S) {i : Nat} (hi : i < T.length) : ((T.set i (tg T (T.length - 1))).dropLast).Perm (dropT S (tg T i).id) := by
  refine List.Perm.trans ?_ ((drop_perm hd hi).symm.trans (dropT_perm hp _))
  have hne : T ≠ [] := fun e => by rw [e] at hi; simp at hi
  by_cases hl : i = T.length - 1
  · subst hl
    rw [List.dropLast_eq_take, List.length_set, List.take_set_of_le (Nat.le_refl _), List.eraseIdx_eq_take_drop_succ, List.drop_of_length_le (by omega), List.append_nil]
  · have h1 : ((T.set i (tg T (T.length - 1))).dropLast) = T.dropLast.set i (tg T (T.length - 1)) := by
      rw [List.dropLast_eq_take, List.dropLast_eq_take, List.length_set, List.take_set]
    have hi2 : i < T.dropLast.length := by rw [List.length_dropLast]; omega
    rw [h1]
    refine (set_erase _ _ _ hi2).trans ?_
    have h2 : T = T.dropLast ++ [tg T (T.length - 1)] := by
      rw [tg_get _ _ (by omega), ← List.getLast_eq_getElem hne]
      exact (List.dropLast_concat_getLast hne).symm
    have h3 : T.eraseIdx i = T.dropLast.eraseIdx i ++ [tg T (T.length - 1)] := by
      conv => lhs; rw [h2]
      rw [List.eraseIdx_append_of_lt_length hi2]
    rw [h3]
    exact (List.perm_append_singleton _ _).symm
/-- rows in order of the same things are the same -/
theorem srtT_eq {T S : List Th} (h1 : srtT T) (h2 : srtT S) (hp : T.Perm S) : T = S :=
  hp.eq_of_pairwise (fun a b _ _ hab hba => by rw [ahead_asym hab] at hba; cases hba) h1 h2
theorem first_is {T S : List Th} (h : hp T) (hs : srtT S) (hp : T.Perm S) (h0 : 0 < T.length) : ∃ t, S = tg T 0 :: t := by
  cases S with
  | nil => have := hp.length_eq; simp at this; rw [this] at h0; simp at h0
  | cons y t =>
    refine ⟨t, ?_⟩
    have hm : tg T 0 ∈ y :: t := hp.mem_iff.1 (by rw [tg_get _ _ h0]; exact List.getElem_mem h0)
    rcases List.mem_cons.1 hm with e | hm
    · rw [e]
    · have h2 := (List.pairwise_cons.1 hs).1 _ hm
      obtain ⟨j, hj, e⟩ := List.getElem_of_mem (hp.mem_iff.2 (List.mem_cons_self (a := y) (l := t)))
      have h3 := h.first j j (Nat.le_refl _) hj
      rw [tg_get _ _ hj, e, h2] at h3
      cases h3

/-! ### Places -/
/-- where the thing of an id stands -/
def Pos (T : List Th) (g : Int → Option Nat) : Prop := ∀ id j, g id = some j ↔ j < T.length ∧ (tg T j).id = id
theorem Pos.dst {T : List Th} {g : Int → Option Nat} (h : Pos T g) : Dst T := by
  unfold Dst
  rw [List.Nodup, List.pairwise_iff_getElem]
  intro i j hi hj hij e
  rw [List.length_map] at hi hj
  have h1 := (h (tg T i).id i).2 ⟨hi, rfl⟩
  have h2 := (h (tg T i).id j).2 ⟨hj, by rw [tg_get _ _ hi, tg_get _ _ hj]; simpa using e.symm⟩
  rw [h1] at h2
  cases h2
  omega
theorem Pos.nil : Pos [] (fun _ => none) := by
  intro id j
  exact ⟨fun h => (by cases h), fun h => (by simp at h)⟩
theorem Pos.no {T : List Th} {g : Int → Option Nat} (h : Pos T g) {id : Int} (hg : g id = none) : ∀ y ∈ T, y.id ≠ id := fun y hy e => by
  obtain ⟨j, hj, ey⟩ := List.getElem_of_mem hy
  have := (h id j).2 ⟨hj, by rw [tg_get _ _ hj, ey, e]⟩
  rw [hg] at this
  cases this
theorem Pos.snoc {T : List Th} {g : Int → Option Nat} (h : Pos T g) {x : Th} (hg : g x.id = none) : Pos (T ++ [x]) (upd g x.id (some T.length)) := fun id j => by
  unfold upd
  rw [tg_snoc, List.length_append, List.length_singleton]
  by_cases e : id = x.id
  · rw [if_pos e, e]
    constructor
    · intro hj
      cases hj
      exact ⟨by omega, by rw [if_pos rfl]⟩
    · rintro ⟨hj, e2⟩
      by_cases hjl : j = T.length
      · rw [hjl]
      · rw [if_neg hjl] at e2
        have := (h x.id j).2 ⟨by omega, e2⟩
        rw [hg] at this
        cases this
  · rw [if_neg e, h id j]
    constructor
    · rintro ⟨hj, e2⟩
      exact ⟨by omega, by rw [if_neg (by omega)]; exact e2⟩
    · rintro ⟨hj, e2⟩
      by_cases hjl : j = T.length
      · rw [if_pos hjl] at e2
        exact absurd e2.symm e
      · rw [if_neg hjl] at e2
        exact ⟨by omega, e2⟩
theorem Pos.set {T : List Th} {g : Int → Option Nat} (h : Pos T g) {i : Nat} (hi : i < T.length) {x : Th} (hx : (tg T i).id = x.id) : Pos (T.set i x) g := fun id j => by
  rw [tg_set _ _ _ _ hi, List.length_set, h id j]
  by_cases e : j = i
  · subst e
    rw [if_pos rfl, hx]
  · rw [if_neg e]
theorem Pos.swap {T : List Th} {g : Int → Option Nat} (h : Pos T g) {i j : Nat} (hi : i < T.length) (hj : j < T.length) : Pos (swapT T i j) (upd (upd g (tg T j).id (some i)) (tg T i).id (some j)) := fun id k => by
  have hd := h.dst
  unfold upd
  rw [tg_swap _ _ _ _ hi hj, swapT_len]
  by_cases e1 : id = (tg T i).id
  · rw [if_pos e1]
    constructor
    · intro e
      cases e
      exact ⟨hj, by rw [if_pos rfl, e1]⟩
    · rintro ⟨hk, e⟩
      by_cases kj : k = j
      · rw [kj]
      · rw [if_neg kj] at e
        by_cases ki : k = i
        · rw [if_pos ki, e1] at e
          exact absurd (hd.inj hj hi e) (by omega)
        · rw [if_neg ki, e1] at e
          exact absurd (hd.inj hk hi e) ki
  · rw [if_neg e1]
    by_cases e2 : id = (tg T j).id
    · rw [if_pos e2]
      constructor
      · intro e
        cases e
        by_cases ij : i = j
        · rw [ij] at e1
          exact absurd e2 e1
        · exact ⟨hi, by rw [if_neg ij, if_pos rfl, e2]⟩
      · rintro ⟨hk, e⟩
        by_cases kj : k = j
        · rw [if_pos kj] at e
          exact absurd e.symm e1
        · rw [if_neg kj] at e
          by_cases ki : k = i
          · rw [ki]
          · rw [if_neg ki, e2] at e
            exact absurd (hd.inj hk hj e) kj
    · rw [if_neg e2, h id k]
      constructor
      · rintro ⟨hk, e⟩
        refine ⟨hk, ?_⟩
        rw [if_neg (fun kj => e2 (by rw [← e, kj])), if_neg (fun ki => e1 (by rw [← e, ki]))]
        exact e
      · rintro ⟨hk, e⟩
        refine ⟨hk, ?_⟩
        by_cases kj : k = j
        · rw [if_pos kj] at e; exact absurd e.symm e1
        · rw [if_neg kj] at e
          by_cases ki : k = i
          · rw [if_pos ki] at e; exact absurd e.symm e2
          · rwa [if_neg ki] at e
/-- the last thing goes -/
theorem Pos.pop {T : List Th} {g : Int → Option Nat} (h : Pos T g) (h0 : 0 < T.length) : Pos T.dropLast (upd g (tg T (T.length - 1)).id none) := fun id j => by
  have hd := h.dst
  unfold upd
  rw [List.length_dropLast]
  by_cases e : id = (tg T (T.length - 1)).id
  · rw [if_pos e]
    constructor
    · intro e; cases e
    · rintro ⟨hj, e2⟩
      rw [tg_pop _ _ hj, e] at e2
      have := hd.inj (show j < T.length by omega) (show T.length - 1 < T.length by omega) e2
      omega
  · rw [if_neg e, h id j]
    constructor
    · rintro ⟨hj, e2⟩
      have : j ≠ T.length - 1 := fun e3 => e (by rw [← e2, e3])
      exact ⟨by omega, by rw [tg_pop _ _ (by omega)]; exact e2⟩
    · rintro ⟨hj, e2⟩
      rw [tg_pop _ _ hj] at e2
      exact ⟨by omega, e2⟩
/-- the last thing comes to i, for the thing that goes -/
theorem Pos.over {T : List Th} {g : Int → Option Nat} (h : Pos T g) {i : Nat} (hi : i < T.length - 1) :
    Pos (T.set i (tg T (T.length - 1))).dropLast (upd (upd g (tg T (T.length - 1)).id (some i)) (tg T i).id none) := by
  have hT : i < T.length := by omega
  have h1 := (h.swap hT (show T.length - 1 < T.length by omega)).pop (by rw [swapT_len]; omega)
  have e1 : (swapT T i (T.length - 1)).dropLast = (T.set i (tg T (T.length - 1))).dropLast := by
    unfold swapT
    rw [List.dropLast_eq_take, List.dropLast_eq_take, List.length_set, List.length_set, List.take_set_of_le (Nat.le_refl _)]
  rw [e1, swapT_len, tg_swap _ _ _ _ hT (by omega), if_pos rfl] at h1
  have e2 : upd (upd (upd g (tg T (T.length - 1)).id (some i)) (tg T i).id (some (T.length - 1))) (tg T i).id none = upd (upd g (tg T (T.length - 1)).id (some i)) (tg T i).id none := by
    funext k
    unfold upd
    by_cases hk : k = (tg T i).id
    · rw [if_pos hk, if_pos hk]
    · rw [if_neg hk, if_neg hk, if_neg hk]
  rwa [e2] at h1
end Go.Proofs.YthchkhgimnchcaaGreat
/- Lists of one's own (XOwnO): a thing laid in place, the first ones alone, what stands at a place. FOR ALL STAGES WITH STATE. -/
namespace Go.Proofs.YthchkhgimnchcaaGreat
open Go.RowKit

section
variable {α : Type} {w w' : World} {K : Nat} {cs : α → List Value} {v : Value} {l : List α}
theorem OwnO.spot (hK : ∀ x, (cs x).length = K) (h : OwnO w K cs v l) (i : Nat) (hi : i < l.length) : ∃ g o cap, v = .slice (some ⟨g, o, none⟩) l.length cap ∧ g < w.heap.size ∧ l.length ≤ cap ∧
    ∀ j u, (cs l[i])[j]? = some u → w.cell? ⟨g, o + i * K + j, none⟩ = some u ∧ w.frozen? ⟨g, o + i * K + j, none⟩ = false := by
  have hr := h.rows hK
  rcases h with ⟨_, rfl⟩ | ⟨g, o, cap, rfl, hg, hl, hc, h1, h2⟩
  · simp at hi
  · obtain ⟨a, c, e, _, hx⟩ := hr
    cases e
    obtain ⟨g', o', e, _, hx⟩ := hx (by omega)
    cases e
    refine ⟨g, o, cap, rfl, hg, hl, fun j u hu => ⟨hx i l[i] (List.getElem?_eq_getElem hi) j u hu, ?_⟩⟩
    have hj : j < K := by rw [← hK l[i]]; exact (List.getElem?_eq_some_iff.1 hu).1
    have := (h2 (i * K + j) (by
      have h3 : (i + 1) * K ≤ cap * K := Nat.mul_le_mul_right K (by omega)
      rw [Nat.add_mul] at h3
      omega)).2
    rwa [← Nat.add_assoc] at this
theorem OwnO.put (hK : ∀ x, (cs x).length = K) {g o n cap : Nat} (h : OwnO w K cs (.slice (some ⟨g, o, none⟩) n cap) l) (i : Nat) (hi : i < l.length) (x : α) (hz : w.heap.size ≤ w'.heap.size)
    (hin : ∀ j, j < K → w'.cell? ⟨g, o + i * K + j, none⟩ = (cs x)[j]?)
    (hout : ∀ m, m < cap * K → ¬ (i * K ≤ m ∧ m < i * K + K) → w'.cell? ⟨g, o + m, none⟩ = w.cell? ⟨g, o + m, none⟩)
    (hfz : ∀ a, w'.frozen? a = w.frozen? a) : OwnO w' K cs (.slice (some ⟨g, o, none⟩) n cap) (l.set i x) := by
  rcases h with ⟨e, _⟩ | ⟨g', o', cap', e, hg, hl, hc, h1, h2⟩
  · cases e
  · cases e
    refine .inr ⟨g, o, cap, by rw [List.length_set], by omega, by rw [List.length_set]; exact hl, hc, fun m hm => ?_, fun m hm => ⟨?_, by rw [hfz]; exact (h2 m hm).2⟩⟩
    · rw [List.length_set] at hm
      have hK0 : 0 < K := Nat.pos_of_ne_zero fun e => by subst e; simp at hm
      have hq : m / K < l.length := (Nat.div_lt_iff_lt_mul hK0).2 hm
      have hr : m % K < K := Nat.mod_lt _ hK0
      have e : m / K * K + m % K = m := by rw [Nat.mul_comm]; exact Nat.div_add_mod m K
      have hmc : m < cap * K := Nat.lt_of_lt_of_le hm (Nat.mul_le_mul_right K hl)
      by_cases hqi : m / K = i
      · have hu : (cs x)[m % K]? = some ((cs x)[m % K]'(by rw [hK]; exact hr)) := List.getElem?_eq_getElem _
        have h3 := flats_at hK (l.set i x) (m / K) x (by rw [List.getElem?_set, if_pos hqi.symm, if_pos hi]) (m % K) _ hu
        rw [e] at h3
        rw [h3, ← hu, ← hin _ hr, ← hqi, Nat.add_assoc, e]
      · have hu : (cs l[m / K])[m % K]? = some ((cs l[m / K])[m % K]'(by rw [hK]; exact hr)) := List.getElem?_eq_getElem _
        have h3 := flats_at hK (l.set i x) (m / K) l[m / K] (by rw [List.getElem?_set, if_neg (fun h => hqi h.symm)]; exact List.getElem?_eq_getElem hq) (m % K) _ hu
        have h4 := flats_at hK l (m / K) l[m / K] (List.getElem?_eq_getElem hq) (m % K) _ hu
        rw [e] at h3 h4
        rw [h3, ← h4, ← h1 m hm]
        refine hout m hmc fun hh => hqi ?_
        have h5 : m / K < i + 1 := (Nat.div_lt_iff_lt_mul hK0).2 (by rw [Nat.add_mul]; omega)
        have h6 : i ≤ m / K := (Nat.le_div_iff_mul_le hK0).2 hh.1
        omega
    · by_cases hh : i * K ≤ m ∧ m < i * K + K
      · have := hin (m - i * K) (by omega)
        rw [Nat.add_assoc, show i * K + (m - i * K) = m by omega] at this
        rw [this, List.getElem?_eq_getElem (by rw [hK]; omega)]
        rfl
      · rw [hout m hm hh]
        exact (h2 m hm).1
/-- the first k of them -/
theorem OwnO.take {a : Option Addr} {n cap : Nat} (hK : ∀ x, (cs x).length = K) (h : OwnO w K cs (.slice a n cap) l) (k : Nat) (hk : k ≤ l.length) : OwnO w K cs (.slice a k cap) (l.take k) := by
  rcases h with ⟨e, rfl⟩ | ⟨g, o, cap', e, hg, hl, hc, h1, h2⟩
  · cases e
    have : k = 0 := by simpa using hk
    subst this
    exact .inl ⟨rfl, rfl⟩
  · cases e
    have hlen : (l.take k).length = k := by rw [List.length_take]; omega
    refine .inr ⟨g, o, cap, by rw [hlen], hg, by omega, hc, fun m hm => ?_, h2⟩
    rw [hlen] at hm
    have hm2 : m < l.length * K := Nat.lt_of_lt_of_le hm (Nat.mul_le_mul_right K hk)
    rw [h1 m hm2]
    have e : flats cs l = flats cs (l.take k) ++ flats cs (l.drop k) := by rw [← flats_append, List.take_append_drop]
    rw [e, List.getElem?_append_left (by rw [flats_length hK, hlen]; exact hm)]
/-- a struct of three cells is stored -/
theorem OwnO.put3 {g o n cap : Nat} (hK : ∀ x, (cs x).length = 3) (h : OwnO w 3 cs (.slice (some ⟨g, o, none⟩) n cap) l) (i : Nat) (hi : i < l.length) (x : α) (u0 u1 u2 : Value) (hx : cs x = [u0, u1, u2]) :
    OwnO (((w.setCell ⟨g, o + i * 3, none⟩ u0).setCell ⟨g, o + i * 3 + 1, none⟩ u1).setCell ⟨g, o + i * 3 + 2, none⟩ u2) 3 cs (.slice (some ⟨g, o, none⟩) n cap) (l.set i x) := by
  have hl : l.length ≤ cap := by
    rcases h with ⟨e, _⟩ | ⟨g', o', cap', e, hg, hl, _⟩
    · cases e
    · cases e; exact hl
  have hs : ∀ j, j < 3 → (w.cell? ⟨g, o + i * 3 + j, none⟩).isSome = true := by
    intro j hj
    rcases h with ⟨e, _⟩ | ⟨g', o', cap', e, hg, hl, hc, h1, h2⟩
    · cases e
    · cases e
      have := (h2 (i * 3 + j) (by omega)).1
      rwa [← Nat.add_assoc] at this
  refine OwnO.put hK h i hi x (by simp [World.setCell]) (fun j hj => ?_) (fun m hm hh => ?_) (fun a => by rw [World.frozen?_setCell, World.frozen?_setCell, World.frozen?_setCell])
  · rw [hx]
    have hs0 := hs 0 (by omega)
    have hs1 := hs 1 (by omega)
    have hs2 := hs 2 (by omega)
    rw [Nat.add_zero] at hs0
    match j, hj with
    | 0, _ =>
      rw [Nat.add_zero, World.cell?_setCell_other _ _ _ _ (by intro e; simp at e), World.cell?_setCell_other _ _ _ _ (by intro e; simp at e)]
      obtain ⟨y, hy⟩ := Option.isSome_iff_exists.1 hs0
      exact World.cell?_setCell_same _ _ _ (by rw [hy])
    | 1, _ =>
      rw [World.cell?_setCell_other _ _ _ _ (by intro e; simp at e)]
      obtain ⟨y, hy⟩ := Option.isSome_iff_exists.1 hs1
      exact World.cell?_setCell_same _ _ _ (by rw [World.cell?_setCell_other _ _ _ _ (by intro e; simp at e), hy])
    | 2, _ =>
      obtain ⟨y, hy⟩ := Option.isSome_iff_exists.1 hs2
      exact World.cell?_setCell_same _ _ _ (by rw [World.cell?_setCell_other _ _ _ _ (by intro e; simp at e), World.cell?_setCell_other _ _ _ _ (by intro e; simp at e), hy])
  · rw [World.cell?_setCell_other _ _ _ _ (by intro e; injection e; omega), World.cell?_setCell_other _ _ _ _ (by intro e; injection e; omega), World.cell?_setCell_other _ _ _ _ (by intro e; injection e; omega)]
end
end Go.Proofs.YthchkhgimnchcaaGreat
/- Stage 13's program: its state; what is laid at a place. -/
namespace Go.Proofs.YthchkhgimnchcaaGreat
open Go.RowKit

abbrev ptr13 (p : Nat) : Value := .pointer (some ⟨p, 0, none⟩)
/-- the heap's block, its row of things, its map of m places; all its blocks are of F -/
structure RawAt (F : Nat → Prop) (w : World) (p : Nat) (v : Value) (b : Nat) (T : List Th) (m : Nat) (g : Int → Option Nat) : Prop where
  blk : Blk w p [v, .map (some b)]
  own : OwnO w 3 csT v T
  map : MapN w b m g
  fp : F p
  fb : F b
  fv : ∀ k, v.ownBlock = some k → F k ∧ k ≠ p ∧ k ≠ b
  lt : ∀ k, F k → k < w.heap.size
theorem Only.drew {F : Nat → Prop} {w w' : World} (h : Only F w w') : Only F w w'.drew := ⟨h.os, h.tape, h.output, h.size, h.block⟩
theorem Blk.drew {w : World} {b : Nat} {vs : List Value} (h : Blk w b vs) : Blk w.drew b vs := h
theorem OwnO.drew {α : Type} {w : World} {K : Nat} {cs : α → List Value} {v : Value} {l : List α} (h : OwnO w K cs v l) : OwnO w.drew K cs v l := h.same (Nat.le_refl _) fun _ _ => rfl
section
variable {F : Nat → Prop} {w w' : World} {p : Nat} {v : Value} {b m : Nat} {T : List Th} {g : Int → Option Nat}
theorem RawAt.ne (h : RawAt F w p v b T m g) : b ≠ p := MapN.ne_cell h.map (h.blk.cell 0 rfl)
theorem RawAt.kept (h : RawAt F w p v b T m g) (hb : Below w.heap.size w w') : RawAt F w' p v b T m g :=
  ⟨h.blk.kept hb, h.own.kept hb, h.map.kept hb, h.fp, h.fb, h.fv, fun k hk => Nat.lt_of_lt_of_le (h.lt k hk) hb.size⟩
/-- a longer row, in new memory or where the old one was -/
theorem RawAt.grow {w1 w2 : World} {v' : Value} {T' : List Th} (h : RawAt F w p v b T m g) (hb : Below w.heap.size w w1) (ho : OwnO w2 3 csT v' T') (hg : w1.grownBy w2 v.ownBlock) (hv : v'.ownBlock = v.ownBlock ∨ v'.ownBlock = some w1.heap.size) :
    RawAt (fun k => F k ∨ v'.ownBlock = some k) (w2.setCell ⟨p, 0, none⟩ v') p v' b T' m g ∧ Mv F (fun k => F k ∨ v'.ownBlock = some k) w (w2.setCell ⟨p, 0, none⟩ v') := by
  have hsz := hb.size
  have hp := h.lt p h.fp
  have hbl := h.lt b h.fb
  have hpn : some p ≠ v.ownBlock := fun e => (h.fv p e.symm).2.1 rfl
  have hbn : some b ≠ v.ownBlock := fun e => (h.fv b e.symm).2.2 rfl
  have hk : ∀ k, v'.ownBlock = some k → k ≠ p ∧ k ≠ b ∧ (F k ∨ w.heap.size ≤ k) := fun k hk => by
    rcases hv with e | e
    · have := h.fv k (e ▸ hk)
      exact ⟨this.2.1, this.2.2, .inl this.1⟩
    · rw [e] at hk
      cases hk
      exact ⟨by omega, by omega, .inr hsz⟩
  refine ⟨⟨?_, ?_, ?_, .inl h.fp, .inl h.fb, fun k e => ⟨.inr e, (hk k e).1, (hk k e).2.1⟩, fun k e => ?_⟩, ⟨?_, fun k e => ?_⟩⟩
  · have := ((h.blk.kept hb).grown hg hpn).set 0 v'
    simpa using this
  · exact ho.away _ _ fun k e => (hk k e).1
  · exact ((h.map.kept hb).grown hg hbn).away _ _ fun e => h.ne e
  · have e1 : (w2.setCell ⟨p, 0, none⟩ v').heap.size = w2.heap.size := by simp [World.setCell]
    rw [e1]
    rcases e with e | e
    · exact Nat.lt_of_lt_of_le (h.lt k e) (Nat.le_trans hsz hg.size)
    · exact ho.lt k e
  · exact ((Only.of_below hb).trans (Only.grown hg fun k e => (h.fv k e).1)).set _ _ h.fp
  · rcases e with e | e
    · exact .inl e
    · exact (hk k e).2.2
end
theorem Pos.some {T : List Th} {g : Int → Option Nat} (h : Pos T g) {i : Nat} (hi : i < T.length) : g (tg T i).id = some i := (h _ _).2 ⟨hi, rfl⟩
/-- what stands at a place -/
theorem OwnO.th {w : World} {v : Value} {T : List Th} (h : OwnO w 3 csT v T) (i : Nat) (hi : i < T.length) : ∃ g o cap, v = .slice (some ⟨g, o, none⟩) T.length cap ∧ T.length ≤ cap ∧
    (w.cell? ⟨g, o + i * 3, none⟩ = some (.int .i64 (tg T i).id) ∧ w.cell? ⟨g, o + i * 3 + 1, none⟩ = some (.int .i64 (tg T i).key) ∧ w.cell? ⟨g, o + i * 3 + 2, none⟩ = some (.int .i64 (tg T i).seq)) ∧
    w.frozen? ⟨g, o + i * 3, none⟩ = false ∧ w.frozen? ⟨g, o + i * 3 + 1, none⟩ = false ∧ w.frozen? ⟨g, o + i * 3 + 2, none⟩ = false := by
  obtain ⟨g, o, cap, e, _, hl, hc⟩ := h.spot csT_len i hi
  rw [tg_get _ _ hi]
  have h0 := hc 0 _ rfl
  have h1 := hc 1 _ rfl
  have h2 := hc 2 _ rfl
  exact ⟨g, o, cap, e, hl, ⟨h0.1, h1.1, h2.1⟩, h0.2, h1.2, h2.2⟩

set_option maxHeartbeats 4000000 in
set_option maxRecDepth 100000 in
/-- set: y is laid at i -/
theorem hSet_any {F : Nat → Prop} {p : Nat} {v : Value} {b m : Nat} {T : List Th} {g : Int → Option Nat} (i : Nat) (y : Th) (w : World) (h : RawAt F w p v b T m g) (hi : i < T.length) (hn : T.length ≤ 1000000) (hm : m ≤ 1000000) (hy : I64 y.id) :
    Calls Tryz.prog 118 #[ptr13 p, .int .i64 (i : Int), .agg #[.int .i64 y.id, .int .i64 y.key, .int .i64 y.seq]] w fun e w' => e = .returned (.tuple #[]) ∧ RawAt F w' p v b (T.set i y) (if (g y.id).isSome then m else m + 1) (upd g y.id (some i)) ∧ Only F w w' := by
  obtain ⟨y1, y2, y3⟩ := y
  simp only at hy ⊢
  obtain ⟨m', hm'⟩ : ∃ m', (if (g y1).isSome then m else m + 1) = m' := ⟨_, rfl⟩
  rw [hm']
  have HME := Lib.hid hm'
  clear hm'
  have hal := (Below.refl w.heap.size w).alloc (Nat.le_refl _) (.cells #[.int .i64 y1, .int .i64 y2, .int .i64 y3] 150)
  have hbx := Blk.new w [.int .i64 y1, .int .i64 y2, .int .i64 y3] 150
  have ha := h.kept hal
  have hwa := Only.of_below (F := F) hal
  have hpx : w.heap.size ≠ p := fun e => by have := h.lt p h.fp; omega
  generalize hWA : w.alloc (.cells #[.int .i64 y1, .int .i64 y2, .int .i64 y3] 150) = wa at *
  obtain ⟨gb, o, cap, rfl, hl, ⟨i0, i1, i2⟩, z0, z1, z2⟩ := ha.own.th i hi
  have hgx : w.heap.size ≠ gb := fun e => by have := h.lt gb (h.fv gb rfl).1; omega
  have ho1 := OwnO.put3 csT_len ha.own i hi ⟨y1, y2, y3⟩ (.int .i64 y1) (.int .i64 y2) (.int .i64 y3) rfl
  have p0 := ha.blk.cell 0 rfl
  have x0 := hbx.cell 0 rfl
  have x1 := hbx.cell 1 rfl
  have x2 := hbx.cell 2 rfl
  have I0 : (0 : Int) ≤ (i : Int) := by omega
  have I1 : (i : Int) < (T.length : Int) := by omega
  have hgp : p ≠ gb := fun e => (h.fv gb rfl).2.1 e.symm
  have hgb : b ≠ gb := fun e => (h.fv gb rfl).2.2 e.symm
  have hbp : b ≠ p := h.ne
  have hfg : F gb := (h.fv gb rfl).1
  have HO1 := Lib.hid ho1.drew
  have HR0 := Lib.hid (((ha.blk.away ⟨gb, o + i * 3, none⟩ (.int .i64 y1) hgp).away ⟨gb, o + i * 3 + 1, none⟩ (.int .i64 y2) hgp).away ⟨gb, o + i * 3 + 2, none⟩ (.int .i64 y3) hgp).drew
  have HX0 := Lib.hid (((hbx.away ⟨gb, o + i * 3, none⟩ (.int .i64 y1) hgx).away ⟨gb, o + i * 3 + 1, none⟩ (.int .i64 y2) hgx).away ⟨gb, o + i * 3 + 2, none⟩ (.int .i64 y3) hgx).drew
  have HM0 := Lib.hid (MapN.drew (((MapN.away ha.map ⟨gb, o + i * 3, none⟩ (.int .i64 y1) hgb).away ⟨gb, o + i * 3 + 1, none⟩ (.int .i64 y2) hgb).away ⟨gb, o + i * 3 + 2, none⟩ (.int .i64 y3) hgb))
  have HY0 := Lib.hid (((hwa.set ⟨gb, o + i * 3, none⟩ (.int .i64 y1) hfg).set ⟨gb, o + i * 3 + 1, none⟩ (.int .i64 y2) hfg).set ⟨gb, o + i * 3 + 2, none⟩ (.int .i64 y3) hfg).drew
  have H := Lib.hid h
  have HY := Lib.hid hy
  have HWA := Lib.hid hWA
  clear ho1 h hi ha hwa hal hbx hy hWA
  go_enter Tryz.func118, Tryz.ntmps118
  go_wp2
  rw [HWA.out]
  go_wp2
  go_region
  clear i0 i1 i2 z0 z1 z2 p0 x0 x1 x2
  generalize World.drew _ = W1 at *
  have e0 := HR0.out.cell 1 rfl
  have x0 := HX0.out.cell 0 rfl
  go_wp2
  refine wp_region_calmT 7 (by kernel_rfl) (by simp) (by kernel_rfl) fun M => ?_
  simp only [List.take_succ_cons, List.take_zero, List.drop_succ_cons, List.drop_zero]
  have m0 := fun n : In M.w => n.cell (M.cell e0)
  have m1 := fun n : In M.w => n.cell (M.cell x0)
  repeat (go_big_quiet_step (fail))
  refine wpQuiet_nil ?_
  clear m0 m1 M
  intro w2 hb2
  have HR2 := Lib.hid (HR0.out.kept hb2)
  have HO3 := Lib.hid (HO1.out.kept hb2)
  have HM2 := Lib.hid (MapN.kept HM0.out hb2)
  have HY2 := Lib.hid (HY0.out.trans (Only.of_below hb2))
  clear hb2 HR0 HO1 HM0 HY0 e0 x0 HX0
  go_wp2_with (at_mapUpdate; refine wpList_putN rfl rfl _ _ _ rfl rfl HM2.out hm _ HY.out rfl i (by omega) rfl ?_; intro w3 hm3 hg3; rw [HME.out] at hm3)
  have hne3 : some p ≠ some b := fun e => hbp (by injection e with e; exact e.symm)
  have HY3 := HY2.out.trans (Only.grown hg3 (fun k e => by injection e with e; subst e; exact H.out.fb))
  have hfin : RawAt F w3 p (.slice (some ⟨gb, o, none⟩) T.length cap) b (T.set i ⟨y1, y2, y3⟩) m' (upd g y1 (some i)) :=
    ⟨HR2.out.grown hg3 hne3, HO3.out.grown hg3 (fun k hk e => by simp [Value.ownBlock] at hk; injection e with e; exact hgb (by omega)), hm3, H.out.fp, H.out.fb, H.out.fv, fun k hk => Nat.lt_of_lt_of_le (H.out.lt k hk) HY3.size⟩
  have HF := Lib.hid hfin
  have HZ := Lib.hid HY3
  clear hm3 hg3 HY3 hfin HR2 HO3 HM2 HY2
  go_wp2
  go_end0
  exact ⟨rfl, HF.out, HZ.out⟩
end Go.Proofs.YthchkhgimnchcaaGreat
/- Stage 13's program: the order, up. -/
namespace Go.Proofs.YthchkhgimnchcaaGreat
open Go.RowKit Go.Shelf

theorem cCmp_any (x y : Int) (w : World) : Calls Tryz.prog 123 #[.int .i64 x, .int .i64 y] w fun e w' => e = .returned (.int .i64 (Lib.compareInt x y)) ∧ w' = w := by
  have hn : ∀ x w, Calls Tryz.prog 95 #[.int .i64 x] w fun e w' => e = .returned (.bool false) ∧ w' = w := fun x w => by
    go_enter Tryz.func95, Tryz.ntmps95
    go_wp2
    go_ret
    exact ⟨by simp, rfl⟩
  go_enter Tryz.func123, Tryz.ntmps123
  go_wp2_with (go_at_call 95; refine (hn _ _).mono ?_; rintro e w' ⟨rfl, rfl⟩)
  all_goals (go_ret; refine ⟨?_, rfl⟩; unfold Lib.compareInt; (repeat' split) <;> first | rfl | (exfalso; omega))

/-- the first that is not zero -/
def orT : List Int → Int
  | [] => 0
  | x :: t => if x ≠ 0 then x else orT t
set_option maxHeartbeats 2000000 in
theorem cOr_any (b : Nat) (x y z : Int) (w : World) (h : Blk w b [.int .i64 x, .int .i64 y, .int .i64 z]) : Calls Tryz.prog 122 #[.slice (some ⟨b, 0, none⟩) 3 3] w fun e w' => e = .returned (.int .i64 (orT [x, y, z])) ∧ w' = w := by
  have e0 := h.cell 0 rfl
  have e1 := h.cell 1 rfl
  have e2 := h.cell 2 rfl
  obtain ⟨r, hr⟩ : ∃ r, orT [x, y, z] = r := ⟨_, rfl⟩
  rw [hr]
  unfold orT orT orT orT at hr
  clear h
  by_cases hx : x = 0
  · have x0 : (x != 0) = false := by simp [hx]
    rw [if_neg (by simp [hx])] at hr
    by_cases hy : y = 0
    · have y0 : (y != 0) = false := by simp [hy]
      rw [if_neg (by simp [hy])] at hr
      by_cases hz : z = 0
      · have z0 : (z != 0) = false := by simp [hz]
        rw [if_neg (by simp [hz])] at hr
        have HR := Lib.hid hr
        clear hx hy hz hr
        go_enter Tryz.func122, Tryz.ntmps122
        go_wp2
        refine wp_loop_rounds 4 ?_
        rw [rounds_succ]; go_wp2; rw [rounds_succ]; go_wp2; rw [rounds_succ]; go_wp2; rw [rounds_succ]; go_wp2
        go_ret
        exact ⟨by rw [← HR.out]; rfl, rfl⟩
      · have z0 : (z != 0) = true := by simp [hz]
        rw [if_pos hz] at hr
        subst hr
        clear hx hy hz
        go_enter Tryz.func122, Tryz.ntmps122
        go_wp2
        refine wp_loop_rounds 3 ?_
        rw [rounds_succ]; go_wp2; rw [rounds_succ]; go_wp2; rw [rounds_succ]; go_wp2
        go_ret
        exact ⟨rfl, rfl⟩
    · have y0 : (y != 0) = true := by simp [hy]
      rw [if_pos hy] at hr
      subst hr
      clear hx hy
      go_enter Tryz.func122, Tryz.ntmps122
      go_wp2
      refine wp_loop_rounds 2 ?_
      rw [rounds_succ]; go_wp2; rw [rounds_succ]; go_wp2
      go_ret
      exact ⟨rfl, rfl⟩
  · have x0 : (x != 0) = true := by simp [hx]
    rw [if_pos hx] at hr
    subst hr
    clear hx
    go_enter Tryz.func122, Tryz.ntmps122
    go_wp2
    refine wp_loop_rounds 1 ?_
    rw [rounds_succ]; go_wp2
    go_ret
    exact ⟨rfl, rfl⟩

/-- below 0: a is ahead of b; above 0: b of a -/
def ordT (a b : Th) : Int := orT [Lib.compareInt b.key a.key, Lib.compareInt a.seq b.seq, Lib.compareInt a.id b.id]
theorem ordT_ahead (a b : Th) : decide (ordT a b < 0) = ahead a b := by
  unfold ordT orT orT orT orT Lib.compareInt ahead
  (repeat' split) <;> simp <;> omega

set_option maxHeartbeats 4000000 in
set_option maxRecDepth 100000 in
theorem hOrder_any (a b : Th) (w : World) : Calls Tryz.prog 121 #[.agg #[.int .i64 a.id, .int .i64 a.key, .int .i64 a.seq], .agg #[.int .i64 b.id, .int .i64 b.key, .int .i64 b.seq]] w fun e w' => e = .returned (.int .i64 (ordT a b)) ∧ ∃ q os', w' = Sort.grow (w.drewN q) os' := by
  unfold ordT
  generalize hc1 : Lib.compareInt b.key a.key = c1
  generalize hc2 : Lib.compareInt a.seq b.seq = c2
  generalize hc3 : Lib.compareInt a.id b.id = c3
  obtain ⟨r, hr⟩ : ∃ r, orT [c1, c2, c3] = r := ⟨_, rfl⟩
  rw [hr]
  have G1 := fun w => cCmp_any b.key a.key w
  have G2 := fun w => cCmp_any a.seq b.seq w
  have G3 := fun w => cCmp_any a.id b.id w
  have GO := fun bl w (h : Blk w bl _) => cOr_any bl c1 c2 c3 w h
  rw [hc1] at G1
  rw [hc2] at G2
  rw [hc3] at G3
  rw [hr] at GO
  have H1 := Lib.hid G1
  have H2 := Lib.hid G2
  have H3 := Lib.hid G3
  have HO := Lib.hid GO
  obtain ⟨a1, a2, a3⟩ := a
  obtain ⟨b1, b2, b3⟩ := b
  simp only at H1 H2 H3 ⊢
  have hx := (((Blk.new w [.int .i64 a1, .int .i64 a2, .int .i64 a3] 150).kept ((Below.refl _ _).alloc (Nat.le_refl _) (.cells #[.int .i64 b1, .int .i64 b2, .int .i64 b3] 150)))).drew
  have hy := (Blk.new (w.alloc (.cells #[.int .i64 a1, .int .i64 a2, .int .i64 a3] 150)) [.int .i64 b1, .int .i64 b2, .int .i64 b3] 150).drew
  have hg : ∃ q os', ((w.alloc (.cells #[.int .i64 a1, .int .i64 a2, .int .i64 a3] 150)).alloc (.cells #[.int .i64 b1, .int .i64 b2, .int .i64 b3] 150)).drew.alloc (.cells #[.int .i64 c1, .int .i64 c2, .int .i64 c3] 3) = Sort.grow (w.drewN q) os' := ⟨1, _, by rw [Sort.alloc_eq_grow, Sort.alloc_eq_grow, Sort.alloc_eq_grow, Sort.drew_grow, Sort.drew_grow, Sort.grow_grow, Sort.grow_grow]; rfl⟩
  have x0 := hx.cell 0 rfl
  have x1 := hx.cell 1 rfl
  have x2 := hx.cell 2 rfl
  have y0 := hy.cell 0 rfl
  have y1 := hy.cell 1 rfl
  have y2 := hy.cell 2 rfl
  rw [show (w.alloc (.cells #[.int .i64 a1, .int .i64 a2, .int .i64 a3] 150)).heap.size = w.heap.size + 1 by simp] at y0 y1 y2
  clear G1 G2 G3 GO hc1 hc2 hc3 hr hx hy
  go_enter Tryz.func121, Tryz.ntmps121
  go_wp2
  refine wp_region_still_tail 15 (by kernel_rfl) (by kernel_rfl) ?_
  change wpStill _ _ (World.drew _) (fun a' => wpList _ _ _ _ a' (World.drew _)) _ _
  generalize World.drew _ = W3 at *
  have HG := Lib.hid hg
  have HB := Lib.hid (Blk.new W3 [.int .i64 c1, .int .i64 c2, .int .i64 c3] 3)
  clear hg
  simp only [List.take_succ_cons, List.take_zero, List.drop_succ_cons, List.drop_zero]
  iterate 4 still_step
  (refine wpStill_step (fun K hK => ?_); go_simp; with_reducible refine ⟨_, H1.out _, hK _ ?_⟩; clear hK K)
  iterate 4 still_step
  (refine wpStill_step (fun K hK => ?_); go_simp; with_reducible refine ⟨_, H2.out _, hK _ ?_⟩; clear hK K)
  iterate 4 still_step
  (refine wpStill_step (fun K hK => ?_); go_simp; with_reducible refine ⟨_, H3.out _, hK _ ?_⟩; clear hK K)
  refine wpStill_nil ?_
  clear H1 H2 H3 x0 x1 x2 y0 y1 y2
  go_wp2_with (go_at_call 122; (with_reducible refine (HO.out _ _ HB.out).mono ?_); rintro e w1 ⟨rfl, rfl⟩)
  go_ret
  exact ⟨rfl, HG.out⟩

theorem grow_below {w : World} {q : Nat} {os : Array Obj} : Below w.heap.size w (Sort.grow (w.drewN q) os) :=
  ⟨rfl, rfl, rfl, by rw [Sort.size_grow]; exact Nat.le_add_right _ _, fun k hk => by
    show (w.heap ++ os)[k]? = _
    exact Array.getElem?_append_left hk⟩
set_option maxHeartbeats 2000000 in
theorem hAhead_any (a b : Th) (w : World) : Calls Tryz.prog 120 #[.agg #[.int .i64 a.id, .int .i64 a.key, .int .i64 a.seq], .agg #[.int .i64 b.id, .int .i64 b.key, .int .i64 b.seq]] w fun e w' => e = .returned (.bool (ahead a b)) ∧ Below w.heap.size w w' := by
  rw [← ordT_ahead]
  have HO := Lib.hid fun w => hOrder_any a b w
  generalize ordT a b = r at *
  obtain ⟨a1, a2, a3⟩ := a
  obtain ⟨b1, b2, b3⟩ := b
  simp only at HO ⊢
  have HB := Lib.hid (((Below.refl w.heap.size w).alloc (Nat.le_refl _) (.cells #[.int .i64 a1, .int .i64 a2, .int .i64 a3] 150)).alloc (by simp) (.cells #[.int .i64 b1, .int .i64 b2, .int .i64 b3] 150))
  go_enter Tryz.func120, Tryz.ntmps120
  go_wp2_with (go_at_call 121; (with_reducible refine (HO.out _).mono ?_); rintro e w1 ⟨rfl, q, os, rfl⟩)
  have HB2 := HB.out.trans ((grow_below (q := q) (os := os)).mono HB.out.size)
  go_ret
  exact ⟨rfl, HB2⟩
end Go.Proofs.YthchkhgimnchcaaGreat
/- Stage 13's program: a row of things with a gap; up. -/
namespace Go.Proofs.YthchkhgimnchcaaGreat
open Go.RowKit

/-- the heap, but that x is to be laid at i -/
def GapAt (F : Nat → Prop) (w : World) (p : Nat) (v : Value) (b : Nat) (T : List Th) (g : Int → Option Nat) (i : Nat) (x : Th) : Prop :=
  ∃ m, RawAt F w p v b T m g ∧ (if (g x.id).isSome then m else m + 1) = T.length ∧ i < T.length ∧ Pos (T.set i x) (upd g x.id (some i)) ∧ ∀ y ∈ T.set i x, I64 y.id
section
variable {F : Nat → Prop} {w w' : World} {p : Nat} {v : Value} {b : Nat} {T : List Th} {g : Int → Option Nat} {i : Nat} {x : Th}
theorem GapAt.kept (h : GapAt F w p v b T g i x) (hb : Below w.heap.size w w') : GapAt F w' p v b T g i x := by
  obtain ⟨m, h1, h2⟩ := h
  exact ⟨m, h1.kept hb, h2⟩
theorem GapAt.raw (h : GapAt F w p v b T g i x) : ∃ m, RawAt F w p v b T m g := by
  obtain ⟨m, h1, h2⟩ := h
  exact ⟨m, h1⟩
theorem GapAt.lt (h : GapAt F w p v b T g i x) : i < T.length := by
  obtain ⟨m, h1, h2, h3, h4⟩ := h
  exact h3
theorem tg_in (T : List Th) (i : Nat) (x : Th) (h : i < T.length) : tg (T.set i x) i = x := by rw [tg_set _ _ _ _ h, if_pos rfl]
theorem tg_out (T : List Th) (i j : Nat) (x : Th) (h : i < T.length) (hj : j ≠ i) : tg (T.set i x) j = tg T j := by rw [tg_set _ _ _ _ h, if_neg hj]
/-- what is brought from j to the gap -/
theorem gap_swap {T : List Th} {i j : Nat} {x : Th} (hi : i < T.length) (hji : j ≠ i) : (T.set i (tg T j)).set j x = swapT (T.set i x) i j := by
  unfold swapT
  rw [tg_in _ _ _ hi, tg_out _ _ _ _ hi hji, List.set_set]

set_option maxHeartbeats 1000000 in
theorem hMove_any (j : Nat) (w : World) (h : GapAt F w p v b T g i x) (hj : j < T.length) (hji : j ≠ i) (hn : T.length ≤ 1000000) :
    Calls Tryz.prog 118 #[ptr13 p, .int .i64 (i : Int), .agg #[.int .i64 (tg T j).id, .int .i64 (tg T j).key, .int .i64 (tg T j).seq]] w fun e w' => e = .returned (.tuple #[]) ∧ GapAt F w' p v b (T.set i (tg T j)) (upd g (tg T j).id (some i)) j x ∧ Only F w w' := by
  obtain ⟨m, h1, h2, hi, h3, h4⟩ := h
  have e1 := tg_in T i x hi
  have e2 := tg_out T i j x hi hji
  have hl : (T.set i x).length = T.length := List.length_set ..
  have hne : (tg T j).id ≠ x.id := fun e => hji (h3.dst.inj (by rw [hl]; exact hj) (by rw [hl]; exact hi) (by rw [e1, e2]; exact e))
  have hg : g (tg T j).id = some j := by
    have := h3.some (show j < (T.set i x).length by rw [hl]; exact hj)
    rw [e2] at this
    unfold upd at this
    rwa [if_neg hne] at this
  have hy : I64 (tg T j).id := by
    rw [← e2, tg_get _ _ (by rw [hl]; exact hj)]
    exact h4 _ (List.getElem_mem _)
  have hm : m ≤ 1000000 := by
    split at h2 <;> omega
  refine (hSet_any i (tg T j) w h1 hi hn hm hy).mono ?_
  rintro e w' ⟨rfl, h5, h6⟩
  rw [hg, Option.isSome_some, if_pos rfl] at h5
  refine ⟨rfl, ⟨m, h5, ?_, by rw [List.length_set]; exact hj, ?_, ?_⟩, h6⟩
  · have e3 : upd g (tg T j).id (some i) x.id = g x.id := by unfold upd; rw [if_neg (Ne.symm hne)]
    rw [e3, List.length_set]
    exact h2
  · rw [gap_swap hi hji]
    have h7 := h3.swap (show i < (T.set i x).length by rw [hl]; exact hi) (show j < (T.set i x).length by rw [hl]; exact hj)
    rw [e1, e2] at h7
    have e4 : upd (upd (upd g x.id (some i)) (tg T j).id (some i)) x.id (some j) = upd (upd g (tg T j).id (some i)) x.id (some j) := by
      funext k
      unfold upd
      by_cases hk : k = x.id
      · rw [if_pos hk, if_pos hk]
      · rw [if_neg hk, if_neg hk, if_neg hk]
    rwa [e4] at h7
  · rw [gap_swap hi hji]
    exact fun y hy => h4 y ((swapT_perm _ i j (by rw [hl]; exact hi) (by rw [hl]; exact hj)).mem_iff.1 hy)
end
theorem par_int {i : Nat} (h : 0 < i) : Int.tdiv ((i : Int) - 1) 2 = (par i : Int) := by
  unfold par
  rw [Int.tdiv_eq_ediv_of_nonneg (by omega)]
  omega

/-- the gap has come to j, and all is in order but what is below it -/
def Moved (D : List Th → Nat → Prop) (F : Nat → Prop) (w w' : World) (p : Nat) (v : Value) (b : Nat) (L : List Th) (x : Th) (j : Nat) : Prop := ∃ T' g', GapAt F w' p v b T' g' j x ∧ D (T'.set j x) j ∧ (T'.set j x).Perm L ∧ T'.length = L.length ∧ Only F w w'

set_option maxHeartbeats 4000000 in
set_option maxRecDepth 100000 in
theorem hUp_any {F : Nat → Prop} {p : Nat} {v : Value} {b : Nat} {T : List Th} {g : Int → Option Nat} (i : Nat) (x : Th) (w : World) (h : GapAt F w p v b T g i x) (hu : fixI (T.set i x) i) (hn : T.length ≤ 1000000) :
    Calls Tryz.prog 117 #[ptr13 p, .int .i64 (i : Int), .agg #[.int .i64 x.id, .int .i64 x.key, .int .i64 x.seq]] w fun e w' => ∃ j : Nat, e = .returned (.int .i64 (j : Int)) ∧ Moved dnI F w w' p v b (T.set i x) x j := by
  have hal := (Below.refl w.heap.size w).alloc (Nat.le_refl _) (.cells #[.int .i64 x.id, .int .i64 x.key, .int .i64 x.seq] 150)
  have HX := Lib.hid (Blk.new w [.int .i64 x.id, .int .i64 x.key, .int .i64 x.seq] 150)
  have HWA := Lib.hid (Only.of_below (F := F) hal)
  have HF := Lib.hid (show ¬ F w.heap.size from fun hf => by obtain ⟨m, h1⟩ := h.raw; have := h1.lt _ hf; omega)
  have H0 := Lib.hid (h.kept hal)
  have U0 := Lib.hid hu
  have HN := Lib.hid hn
  have HXL : w.heap.size < (w.alloc (.cells #[.int .i64 x.id, .int .i64 x.key, .int .i64 x.seq] 150)).heap.size := by simp
  have HL0 := Lib.hid (show (T.set i x).length = T.length from List.length_set ..)
  clear h hu hal
  go_enter Tryz.func117, Tryz.ntmps117
  go_wp2
  refine wp_scope_goto 0 (fun n a' w' => ∃ (X : Int) (T' : List Th) (g' : Int → Option Nat), X = n ∧ T'.length = T.length ∧ GapAt F w' p v b T' g' n x ∧ fixI (T'.set n x) n ∧ (T'.set n x).Perm (T.set i x) ∧ Only F w w' ∧ Blk w' w.heap.size [.int .i64 x.id, .int .i64 x.key, .int .i64 x.seq] ∧ ∃ u2 u3 u4 u6 u7 u8 u9 u10 u11 u12 u13 u14 u15 u16 u17 u18 u19 u20 u21 u22 u23 u24 u25 u26 u27 u28 u29 u30 u31 u32 u33 u34 u35, a' = { tmps := #[ptr13 p, .int .i64 X, u2, u3, u4, .pointer (some ⟨w.heap.size, 0, none⟩), u6, u7, u8, u9, u10, u11, u12, u13, u14, u15, u16, u17, u18, u19, u20, u21, u22, u23, u24, u25, u26, u27, u28, u29, u30, u31, u32, u33, u34, u35], defers := [] }) rfl rfl ?_ ?_
  · rintro n a' w' ⟨X, T', g', hX, hlen, hH, hU, hP, hO, hBx, u2, u3, u4, u6, u7, u8, u9, u10, u11, u12, u13, u14, u15, u16, u17, u18, u19, u20, u21, u22, u23, u24, u25, u26, u27, u28, u29, u30, u31, u32, u33, u34, u35, rfl⟩ K hK
    have HK := Lib.hid hK
    have HH := Lib.hid hH
    have HU := Lib.hid hU
    have HP := Lib.hid hP
    have HO := Lib.hid hO
    have HL := Lib.hid hlen
    have HB := Lib.hid hBx
    have hnl := hH.lt
    clear hK hU hP hO
    by_cases hz : n = 0
    · subst hz
      subst hX
      have HD := Lib.hid (HU.out.dn (.inl rfl))
      clear hH hlen hBx
      go_wp2
      refine wp_region_calm0 (by kernel_rfl) (by kernel_rfl) fun M => ?_
      repeat (go_big_quiet_step (fail))
      refine wpQuiet_nil ?_
      clear M
      intro w1 hb
      have HF2 := Lib.hid (show Moved dnI F w w1 p v b (T.set i x) x 0 from ⟨T', g', HH.out.kept hb, HD.out, HP.out, by rw [HL0.out]; exact HL.out, HO.out.trans (Only.of_below hb)⟩)
      go_wp2
      simp only [Exit.jump]
      exact bodyPost_ret (v := .int .i64 0) (by simp [results, Tryz.results117, go_sem]) rfl ⟨0, rfl, HF2.out⟩
    · have n0 : 0 < n := by omega
      have hpn : par n < n := by unfold par; omega
      have hpl : par n < T'.length := by omega
      have hpi := par_int n0
      rw [← hX] at hpi
      obtain ⟨m, hraw⟩ := hH.raw
      obtain ⟨gb, o, cap, rfl, hlc, ⟨j0, j1, j2⟩, _⟩ := hraw.own.th (par n) hpl
      have p0 := hraw.blk.cell 0 rfl
      have i0 := hBx.cell 0 rfl
      have i1 := hBx.cell 1 rfl
      have i2 := hBx.cell 2 rfl
      have X0 : decide (0 < X) = true := by simp; omega
      have X4 : decide (0 < n) = true := by simp; omega
      have X5 : (T'.length : Int) ≤ 1000000 := by omega
      have X1 : X < (T'.length : Int) := by omega
      have X2 : (0 : Int) ≤ X := by omega
      have X3 : (0 : Int) < X := by omega
      have Y1 : (par n : Int) < (T'.length : Int) := by omega
      have Y2 : (0 : Int) ≤ (par n : Int) := by omega
      have GA := Lib.hid fun w1 => hAhead_any x (tg T' (par n)) w1
      have SW := Lib.hid fun w1 (h1 : GapAt F w1 p (.slice (some ⟨gb, o, none⟩) T'.length cap) b T' g' n x) => hMove_any (par n) w1 h1 hpl (by omega) (by omega)
      have e1 := tg_in T' n x hnl
      have e2 := tg_out T' n (par n) x hnl (by omega)
      have hsl : (T'.set n x).length = T'.length := List.length_set ..
      have HUP := Lib.hid fun ha => HU.out.up n0 (by rw [e1, e2]; exact ha)
      have ST := Lib.hid fun ha => (HUP.out ha).step n0 (by rw [hsl]; exact hnl) (by rw [e1, e2]; exact ha)
      have HDN := Lib.hid fun ha => HU.out.dn (.inr (by rw [e1, e2]; exact ha))
      have SG := Lib.hid (gap_swap (x := x) hnl (show par n ≠ n by omega))
      have SP := Lib.hid (swapT_perm (T'.set n x) n (par n) (by rw [hsl]; exact hnl) (by rw [hsl]; exact hpl))
      have HPN := Lib.hid hpn
      have HFI := Lib.hid (fun h : upI (swapT (T'.set n x) n (par n)) (par n) => (⟨fun k h0 hk hne _ => h.rest k h0 hk hne, h.kids⟩ : fixI _ _))
      clear hH hlen n0 hz hpn hnl hpl hraw hBx e1 e2 hsl HUP
      cases ha : ahead x (tg T' (par n)) with
      | false =>
        have HD := Lib.hid (HDN.out ha)
        rw [ha] at GA
        subst hX
        generalize tg T' (par n) = tp at *
        generalize par n = q at *
        clear ha HDN ST HFI
        go_wp2
        refine wp_region_calm0 (by kernel_rfl) (by kernel_rfl) fun M => ?_
        have e0 := fun n : In M.w => n.cell (M.cell p0)
        have m0 := fun n : In M.w => n.cell (M.cell i0)
        have m1 := fun n : In M.w => n.cell (M.cell i1)
        have m2 := fun n : In M.w => n.cell (M.cell i2)
        have k0 := fun n : In M.w => n.cell (M.cell j0)
        have k1 := fun n : In M.w => n.cell (M.cell j1)
        have k2 := fun n : In M.w => n.cell (M.cell j2)
        repeat (go_big_quiet_step ((go_at_call 120; with_reducible exact In.call (GA.out _))))
        refine wpQuiet_nil ?_
        clear e0 m0 m1 m2 k0 k1 k2 M
        intro w1 hb
        have HF2 := Lib.hid (show Moved dnI F w w1 p (.slice (some ⟨gb, o, none⟩) T'.length cap) b (T.set i x) x n from ⟨T', g', HH.out.kept hb, HD.out, HP.out, by rw [HL0.out]; exact HL.out, HO.out.trans (Only.of_below hb)⟩)
        go_wp2
        simp only [Exit.jump]
        exact bodyPost_ret (v := .int .i64 (n : Int)) (by simp [results, Tryz.results117, go_sem]) rfl ⟨n, rfl, HF2.out⟩
      | true =>
        have ST2 := Lib.hid (HFI.out (ST.out ha))
        rw [ha] at GA
        subst hX
        generalize tg T' (par n) = tp at *
        generalize par n = q at *
        clear ha HDN ST HFI
        go_wp2
        refine wp_region_calm0 (by kernel_rfl) (by kernel_rfl) fun M => ?_
        have e0 := fun n : In M.w => n.cell (M.cell p0)
        have m0 := fun n : In M.w => n.cell (M.cell i0)
        have m1 := fun n : In M.w => n.cell (M.cell i1)
        have m2 := fun n : In M.w => n.cell (M.cell i2)
        have k0 := fun n : In M.w => n.cell (M.cell j0)
        have k1 := fun n : In M.w => n.cell (M.cell j1)
        have k2 := fun n : In M.w => n.cell (M.cell j2)
        repeat (go_big_quiet_step ((go_at_call 120; with_reducible exact In.call (GA.out _))))
        refine wpQuiet_nil ?_
        clear e0 m0 m1 m2 k0 k1 k2 M i0 i1 i2
        intro w1 hb
        have HH1 := Lib.hid (HH.out.kept hb)
        have HO1 := Lib.hid (HO.out.trans (Only.of_below hb))
        have HB1 := Lib.hid (HB.out.kept hb)
        have c0 := (World.cell?_of_block (a := ⟨p, 0, none⟩) (hb.block p (World.block_lt_of_cell? _ _ p0))).trans p0
        have d0 := (World.cell?_of_block (a := ⟨gb, o + q * 3, none⟩) (hb.block gb (World.block_lt_of_cell? _ _ j0))).trans j0
        have d1 := (World.cell?_of_block (a := ⟨gb, o + q * 3 + 1, none⟩) (hb.block gb (World.block_lt_of_cell? _ _ j0))).trans j1
        have d2 := (World.cell?_of_block (a := ⟨gb, o + q * 3 + 2, none⟩) (hb.block gb (World.block_lt_of_cell? _ _ j0))).trans j2
        clear hb p0 j0 j1 j2
        go_wp2_with (go_at_call 118; (with_reducible refine (SW.out _ HH1.out).mono ?_); rintro e w2 ⟨rfl, h1, h2⟩; have HH2 := Lib.hid h1; have HB2 := Lib.hid (HB1.out.same (h2.block w.heap.size HB1.out.lt HF.out)); have HO2 := Lib.hid (HO1.out.trans h2); clear h1 h2 c0 d0 d1 d2)
        go_step3
        refine ⟨rfl, HK.out q _ _ HPN.out ⟨_, T'.set n tp, _, rfl, by rw [List.length_set]; exact HL.out, by rw [List.length_set] at *; exact HH2.out, by rw [SG.out]; exact ST2.out, by rw [SG.out]; exact SP.out.trans HP.out, HO2.out, HB2.out, _, _, _, _, _, _, _, _, _, _, _, _, _, _, _, _, _, _, _, _, _, _, _, _, _, _, _, _, _, _, _, _, _,  rfl⟩⟩
  · intro K hpass
    go_wp2
    go_step3
    rename_i hback
    exact hback _ _ (hpass i _ _ ⟨_, T, g, rfl, rfl, H0.out, U0.out, List.Perm.refl _, HWA.out, HX.out, _, _, _, _, _, _, _, _, _, _, _, _, _, _, _, _, _, _, _, _, _, _, _, _, _, _, _, _, _, _, _, _, _,  rfl⟩)
end Go.Proofs.YthchkhgimnchcaaGreat
