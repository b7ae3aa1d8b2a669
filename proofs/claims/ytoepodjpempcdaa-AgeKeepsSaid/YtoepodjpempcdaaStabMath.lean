/- Stable sorting by merging in place (slices.SortStableFunc): what each part does with a list, and that it comes out in order. -/
import Derived.Sort.LotA
namespace Go.Proofs.Ytoepodjpempcdaa
open Go.Sort
variable {α : Type}

theorem get_split [Inhabited α] {d : Array α} {A C : List α} {x : α} (h : d.toList = A ++ x :: C) {i : Nat} (hi : i = A.length) : d[i]! = x := by
  subst hi
  have : d.toList[A.length]? = some x := by rw [h]; simp
  rw [Array.getElem?_toList] at this
  simp [getElem!_def, this]
theorem size_split {d : Array α} {L : List α} (h : d.toList = L) : d.size = L.length := by rw [← h]; simp
theorem swp_split [Inhabited α] {d : Array α} {A B C : List α} {x y : α} (h : d.toList = A ++ x :: (B ++ y :: C)) {i j : Nat} (hi : i = A.length) (hj : j = A.length + 1 + B.length) : (swp d i j).toList = A ++ y :: (B ++ x :: C) := by
  have e1 := get_split h hi
  have h2 : d.toList = (A ++ x :: B) ++ y :: C := by rw [h]; simp
  have e2 := get_split h2 (i := j) (by rw [hj]; simp; omega)
  unfold swp
  rw [e1, e2, Array.toList_setIfInBounds, Array.toList_setIfInBounds, h, hi, List.set_append_right _ _ (Nat.le_refl _), Nat.sub_self, List.set_cons_zero]
  have h3 : A ++ y :: (B ++ y :: C) = (A ++ y :: B) ++ y :: C := by simp
  rw [h3, List.set_append_right _ _ (by rw [hj]; simp; omega)]
  have : j - (A ++ y :: B).length = 0 := by rw [hj]; simp; omega
  rw [this, List.set_cons_zero]
  simp
theorem swp_split' [Inhabited α] {d : Array α} {A B C : List α} {x y : α} (h : d.toList = A ++ x :: (B ++ y :: C)) {i j : Nat} (hi : i = A.length) (hj : j = A.length + 1 + B.length) : (swp d j i).toList = A ++ y :: (B ++ x :: C) := by
  have e1 := get_split h hi
  have h2 : d.toList = (A ++ x :: B) ++ y :: C := by rw [h]; simp
  have e2 := get_split h2 (i := j) (by rw [hj]; simp; omega)
  unfold swp
  rw [e1, e2, Array.toList_setIfInBounds, Array.toList_setIfInBounds, h]
  have h3 : A ++ x :: (B ++ y :: C) = (A ++ x :: B) ++ y :: C := by simp
  have : j - (A ++ x :: B).length = 0 := by rw [hj]; simp; omega
  rw [h3, List.set_append_right _ _ (by rw [hj]; simp; omega), this, List.set_cons_zero, List.append_assoc, hi, List.set_append_right _ _ (Nat.le_refl _), Nat.sub_self, List.cons_append, List.set_cons_zero]

/-- swapRange: what lies there once i have been exchanged -/
def rangeS (A U M V Z : List α) (i : Nat) : List α := A ++ (V.take i ++ (U.drop i ++ (M ++ (U.take i ++ (V.drop i ++ Z)))))
theorem rangeS_zero (A U M V Z : List α) : rangeS A U M V Z 0 = A ++ (U ++ (M ++ (V ++ Z))) := by simp [rangeS]
theorem rangeS_all (A U M V Z : List α) {n : Nat} (hu : U.length = n) (hv : V.length = n) : rangeS A U M V Z n = A ++ (V ++ (M ++ (U ++ Z))) := by
  subst hu
  unfold rangeS
  rw [List.drop_of_length_le (Nat.le_refl _), List.take_of_length_le (Nat.le_refl _), List.drop_of_length_le (by omega), List.take_of_length_le (by omega)]
  simp
theorem rangeS_len (A U M V Z : List α) {i n : Nat} (hu : U.length = n) (hv : V.length = n) (hi : i ≤ n) : (rangeS A U M V Z i).length = (A ++ (U ++ (M ++ (V ++ Z)))).length := by
  simp [rangeS]
  omega
theorem take_snoc {l : List α} {i : Nat} (h : i < l.length) : l.take (i + 1) = l.take i ++ [l[i]] := by
  rw [List.take_add_one, List.getElem?_eq_getElem h]; rfl
theorem rangeS_step [Inhabited α] {d : Array α} {A U M V Z : List α} {a b n i : Nat} (ha : a = A.length) (hb : b = a + n + M.length) (hu : U.length = n) (hv : V.length = n) (hi : i < n) (h : d.toList = rangeS A U M V Z i) : (swp d (a + i) (b + i)).toList = rangeS A U M V Z (i + 1) := by
  have hiu : i < U.length := by omega
  have hiv : i < V.length := by omega
  have h1 : d.toList = (A ++ V.take i) ++ U[i] :: ((U.drop (i + 1) ++ (M ++ U.take i)) ++ V[i] :: (V.drop (i + 1) ++ Z)) := by
    rw [h]; unfold rangeS
    rw [List.drop_eq_getElem_cons hiu, List.drop_eq_getElem_cons hiv]
    simp only [List.append_assoc, List.cons_append]
  rw [swp_split h1 (by simp; omega) (by simp; omega)]
  unfold rangeS
  rw [take_snoc hiu, take_snoc hiv]
  simp only [List.append_assoc, List.cons_append, List.nil_append]

/-! ### rotate -/
theorem rot_big {P U V Q : List α} {i j : Nat} (hu : U.length = i) (h : j < i) :
    P ++ (U ++ (V ++ Q)) = P ++ (U.take j ++ (U.drop j ++ (V ++ Q))) ∧ (U.take j).length = j ∧ (U.drop j).length = i - j ∧
    P ++ (V ++ (U.drop j ++ (U.take j ++ Q))) = (P ++ V) ++ (U.drop j ++ (U.take j ++ Q)) ∧ (P ++ V) ++ (U.take j ++ (U.drop j ++ Q)) = P ++ (V ++ (U ++ Q)) := by
  have e := List.take_append_drop j U
  refine ⟨?_, by simp; omega, by simp; omega, by simp, ?_⟩
  · rw [← List.append_assoc (U.take j), e]
  · rw [← List.append_assoc (U.take j), e, List.append_assoc]
theorem rot_small {P U V Q : List α} {i j : Nat} (hu : U.length = i) (hv : V.length = j) (h : i < j) :
    P ++ (U ++ (V ++ Q)) = P ++ (U ++ (V.take (j - i) ++ (V.drop (j - i) ++ Q))) ∧ (V.take (j - i)).length = j - i ∧ (V.drop (j - i)).length = i ∧
    P ++ (V.take (j - i) ++ (V.drop (j - i) ++ (U ++ Q))) = P ++ (V ++ (U ++ Q)) := by
  have e := List.take_append_drop (j - i) V
  refine ⟨?_, by simp; omega, by simp; omega, ?_⟩
  · rw [← List.append_assoc (V.take (j - i)), e]
  · rw [← List.append_assoc (V.take (j - i)), e]

/-! ### order -/
/-- in order: none behind is less than one ahead of it -/
def Ord (lt : α → α → Bool) (l : List α) : Prop := l.Pairwise fun x y => lt y x = false
/-- all of X are at most all of Y -/
def LeA (lt : α → α → Bool) (X Y : List α) : Prop := ∀ x ∈ X, ∀ y ∈ Y, lt y x = false
theorem Ord.app {lt : α → α → Bool} {X Y : List α} : Ord lt (X ++ Y) ↔ Ord lt X ∧ Ord lt Y ∧ LeA lt X Y := by
  unfold Ord LeA
  rw [List.pairwise_append]
theorem LeA.perm {lt : α → α → Bool} {X Y X' Y' : List α} (h : LeA lt X Y) (hx : X'.Perm X) (hy : Y'.Perm Y) : LeA lt X' Y' := fun x hxm y hym => h x (hx.mem_iff.1 hxm) y (hy.mem_iff.1 hym)
theorem LeA.split {lt : α → α → Bool} {X Y X' Y' : List α} (h1 : LeA lt X Y) (h2 : LeA lt X Y') (h3 : LeA lt X' Y) (h4 : LeA lt X' Y') : LeA lt (X ++ X') (Y ++ Y') := by
  intro x hx y hy
  rcases List.mem_append.1 hx with hx | hx <;> rcases List.mem_append.1 hy with hy | hy
  · exact h1 x hx y hy
  · exact h2 x hx y hy
  · exact h3 x hx y hy
  · exact h4 x hx y hy
theorem swo_le {lt : α → α → Bool} (O : SWO lt) {x y : α} (h : lt x y = true) : lt y x = false := by
  cases e : lt y x with
  | false => rfl
  | true => have := O.trans _ _ _ h e; rw [O.irrefl] at this; cases this
/-- the last of X is at most the first of Y: all are -/
theorem LeA.ends {lt : α → α → Bool} (O : SWO lt) {X Y : List α} {x y : α} (hX : Ord lt (X ++ [x])) (hY : Ord lt (y :: Y)) (h : lt y x = false) : LeA lt (X ++ [x]) (y :: Y) := by
  have hx := (Ord.app.1 hX).2.2
  have hy := (List.pairwise_cons.1 hY).1
  intro u hu v hv
  have h1 : lt x u = false := by
    rcases List.mem_append.1 hu with hu | hu
    · exact hx u hu x (by simp)
    · rw [List.mem_singleton.1 hu]; exact O.irrefl _
  have h2 : lt v y = false := by
    rcases List.mem_cons.1 hv with rfl | hv
    · exact O.irrefl _
    · exact hy v hv
  exact O.ntrans _ _ _ h2 (O.ntrans _ _ _ h h1)
theorem LeA.nil_left {lt : α → α → Bool} (Y : List α) : LeA lt [] Y := fun _ h => by cases h
theorem LeA.nil_right {lt : α → α → Bool} (X : List α) : LeA lt X [] := fun _ _ _ h => by cases h
theorem Ord.le_all {lt : α → α → Bool} (O : SWO lt) {S : List α} {y : α} (hS : Ord lt S) (h : S = [] ∨ ∃ S' s, S = S' ++ [s] ∧ lt y s = false) : LeA lt S [y] := by
  rcases h with rfl | ⟨S', s, rfl, hy⟩
  · exact LeA.nil_left _
  · exact LeA.ends O hS (by simp [Ord]) hy
/-- one put between those that are at most it and those that it is at most -/
theorem Ord.mid {lt : α → α → Bool} {S1 S2 : List α} {y : α} (h : Ord lt (S1 ++ S2)) (h1 : LeA lt S1 [y]) (h2 : LeA lt [y] S2) : Ord lt (S1 ++ y :: S2) := by
  obtain ⟨a, b, c⟩ := Ord.app.1 h
  have e : S1 ++ y :: S2 = S1 ++ ([y] ++ S2) := by simp
  rw [e]
  refine Ord.app.2 ⟨a, Ord.app.2 ⟨by simp [Ord], b, h2⟩, ?_⟩
  intro x hx z hz
  rcases List.mem_append.1 hz with hz | hz
  · exact h1 x hx z hz
  · exact c x hx z hz
theorem LeA.of_lt {lt : α → α → Bool} (O : SWO lt) {S : List α} {y : α} (h : ∀ s ∈ S, lt y s = true) : LeA lt [y] S := by
  intro x hx z hz
  rw [List.mem_singleton.1 hx]
  exact swo_le O (h z hz)
theorem LeA.of_gt {lt : α → α → Bool} (O : SWO lt) {S : List α} {y : α} (h : ∀ s ∈ S, lt s y = true) : LeA lt S [y] := by
  intro x hx z hz
  rw [List.mem_singleton.1 hz]
  exact swo_le O (h x hx)
theorem snoc_of {S : List α} (h : S ≠ []) : ∃ S' s, S = S' ++ [s] := ⟨S.dropLast, S.getLast h, (List.dropLast_concat_getLast h).symm⟩

/-! ### searching by halves -/
/-- lo to hi, where p holds up to i and not from j on -/
def BS (p : Nat → Bool) (lo hi i j : Nat) : Prop := lo ≤ i ∧ i ≤ j ∧ j ≤ hi ∧ (∀ c, lo ≤ c → c < i → p c = true) ∧ (∀ c, j ≤ c → c < hi → p c = false)
def Mono (p : Nat → Bool) (lo hi : Nat) : Prop := ∀ c c', lo ≤ c → c ≤ c' → c' < hi → p c' = true → p c = true
theorem BS.start (p : Nat → Bool) {lo hi : Nat} (h : lo ≤ hi) : BS p lo hi lo hi := ⟨Nat.le_refl _, h, Nat.le_refl _, fun c h1 h2 => by omega, fun c h1 h2 => by omega⟩
theorem BS.up {p : Nat → Bool} {lo hi i j c : Nat} (h : BS p lo hi i j) (hm : Mono p lo hi) (h1 : i ≤ c) (h2 : c < j) (hp : p c = true) : BS p lo hi (c + 1) j := by
  obtain ⟨a1, a2, a3, a4, a5⟩ := h
  exact ⟨by omega, by omega, a3, fun c' k1 k2 => hm c' c k1 (by omega) (by omega) hp, a5⟩
theorem BS.dn {p : Nat → Bool} {lo hi i j c : Nat} (h : BS p lo hi i j) (hm : Mono p lo hi) (h1 : i ≤ c) (h2 : c < j) (hp : p c = false) : BS p lo hi i c := by
  obtain ⟨a1, a2, a3, a4, a5⟩ := h
  refine ⟨a1, h1, by omega, a4, fun c' k1 k2 => ?_⟩
  cases e : p c' with
  | false => rfl
  | true => rw [hm c c' (by omega) k1 k2 e] at hp; cases hp
end Go.Proofs.Ytoepodjpempcdaa
