/- Stage 15: queues by aged priority: plain mathematics. -/
import Derived.Test.YtkhnkhkpjgemkaaAgeMath
import Derived.Test.YtkhnkhkpjgemkaaBun3
namespace Go.Proofs.Ytkhnkhkpjgemkaa

/-! ### In order: who stands where -/
theorem ahA_not_trans {a b c : It} {now rate : Int} (h1 : ahA b a now rate = false) (h2 : ahA c b now rate = false) : ahA c a now rate = false := by
  have e1 := ahA_iff b a now rate
  have e2 := ahA_iff c b now rate
  have e3 := ahA_iff c a now rate
  rw [h1] at e1
  rw [h2] at e2
  cases h : ahA c a now rate
  · rfl
  · rw [h] at e3
    simp only [Bool.false_eq_true, false_iff, true_iff] at e1 e2 e3
    omega
theorem ahA_asymm {a b : It} {now rate : Int} (h : ahA a b now rate = true) : ahA b a now rate = false := by
  have e1 := ahA_iff a b now rate
  have e2 := ahA_iff b a now rate
  rw [h] at e1
  cases h2 : ahA b a now rate
  · rfl
  · rw [h2] at e2
    simp only [true_iff] at e1 e2
    omega
/-- in order -/
def SortA (l : List It) (now rate : Int) : Prop := l.Pairwise fun a b => ahA b a now rate = false
theorem stayA_after (x : It) (l : List It) (now rate : Int) : ∀ k, k ≤ l.length → ∀ j (hj : j < l.length), stayA x l now rate k ≤ j → j < k → ahA x l[j] now rate = true
  | 0 => fun _ j _ _ h => absurd h (Nat.not_lt_zero j)
  | k + 1 => fun hk j hj h1 h2 => by
    have hs : stayA x l now rate (k + 1) = if ahA x l[k] now rate then stayA x l now rate k else k + 1 := by
      show (match l[k]? with | some y => if ahA x y now rate then stayA x l now rate k else k + 1 | none => k + 1) = _
      rw [List.getElem?_eq_getElem (by omega)]
    rw [hs] at h1
    split at h1
    · rename_i hc
      rcases Nat.lt_or_ge j k with h3 | h3
      · exact stayA_after x l now rate k (by omega) j hj h1 h3
      · have : j = k := by omega
        subst this
        exact hc
    · omega
theorem stayA_before (x : It) (l : List It) (now rate : Int) : ∀ k, k ≤ l.length → ∀ m (_ : stayA x l now rate k = m + 1) (hm : m < l.length), ahA x l[m] now rate = false
  | 0 => fun _ m h _ => by cases h
  | k + 1 => fun hk m h hm => by
    have hs : stayA x l now rate (k + 1) = if ahA x l[k] now rate then stayA x l now rate k else k + 1 := by
      show (match l[k]? with | some y => if ahA x y now rate then stayA x l now rate k else k + 1 | none => k + 1) = _
      rw [List.getElem?_eq_getElem (by omega)]
    rw [hs] at h
    split at h
    · exact stayA_before x l now rate k (by omega) m h hm
    · rename_i hc
      have : m = k := by omega
      subst this
      simpa using hc
theorem inA_sort (l : List It) (x : It) (now rate : Int) (h : SortA l now rate) : SortA (inA l x now rate) now rate := by
  have hle := stayA_le x l now rate l.length
  have hA := stayA_after x l now rate l.length (Nat.le_refl _)
  have hB := stayA_before x l now rate l.length (Nat.le_refl _)
  unfold inA
  generalize stayA x l now rate l.length = s at *
  have hp : ∀ i j (hi : i < l.length) (hj : j < l.length), i < j → ahA l[j] l[i] now rate = false := fun i j hi hj hij => List.pairwise_iff_getElem.1 h i j hi hj hij
  have hbef : ∀ j (hj : j < l.length), j < s → ahA x l[j] now rate = false := fun j hj hjs => by
    obtain ⟨m, rfl⟩ : ∃ m, s = m + 1 := ⟨s - 1, by omega⟩
    have h1 := hB m rfl (by omega)
    rcases Nat.lt_or_ge j m with h2 | h2
    · exact ahA_not_trans (hp j m hj (by omega) h2) h1
    · have : j = m := by omega
      subst this
      exact h1
  unfold SortA
  rw [List.append_assoc, List.pairwise_append, List.pairwise_append]
  refine ⟨h.sublist (List.take_sublist _ _), ⟨List.pairwise_singleton _ _, h.sublist (List.drop_sublist _ _), ?_⟩, ?_⟩
  · intro a ha b hb
    simp at ha
    subst ha
    obtain ⟨j, hj, rfl⟩ := List.getElem_of_mem hb
    rw [List.length_drop] at hj
    rw [List.getElem_drop]
    exact ahA_asymm (hA (s + j) (by omega) (by omega) (by omega))
  · intro a ha b hb
    obtain ⟨i, hi, rfl⟩ := List.getElem_of_mem ha
    rw [List.length_take] at hi
    rw [List.getElem_take]
    rcases List.mem_append.1 hb with h1 | h1
    · simp at h1
      subst h1
      exact hbef i (by omega) (by omega)
    · obtain ⟨j, hj, rfl⟩ := List.getElem_of_mem h1
      rw [List.length_drop] at hj
      rw [List.getElem_drop]
      exact hp i (s + j) (by omega) (by omega) (by omega)
theorem inA_mem (l : List It) (x y : It) (now rate : Int) : y ∈ inA l x now rate ↔ y = x ∨ y ∈ l := by
  unfold inA
  generalize stayA x l now rate l.length = s
  have h : y ∈ l ↔ y ∈ l.take s ∨ y ∈ l.drop s := by
    rw [← List.mem_append, List.take_append_drop]
  rw [h]
  simp
  constructor
  · rintro (h | h | h)
    · exact .inr (.inl h)
    · exact .inl h
    · exact .inr (.inr h)
  · rintro (h | h | h)
    · exact .inr (.inl h)
    · exact .inl h
    · exact .inr (.inr h)
theorem ordA_sort (l : List It) (now rate : Int) : SortA (ordA l now rate) now rate := by
  have key : ∀ (l out : List It), SortA out now rate → SortA (l.foldl (fun out x => inA out x now rate) out) now rate := by
    intro l
    induction l with
    | nil => intro out h; exact h
    | cons x t ih => intro out h; exact ih _ (inA_sort out x now rate h)
  exact key l [] List.Pairwise.nil
theorem ordA_mem (l : List It) (now rate : Int) (y : It) : y ∈ ordA l now rate ↔ y ∈ l := by
  have key : ∀ (l out : List It), y ∈ l.foldl (fun out x => inA out x now rate) out ↔ y ∈ out ∨ y ∈ l := by
    intro l
    induction l with
    | nil => intro out; simp
    | cons x t ih =>
      intro out
      rw [List.foldl_cons, ih, inA_mem]
      simp only [List.mem_cons]
      constructor
      · rintro ((h | h) | h)
        · exact .inr (.inl h)
        · exact .inl h
        · exact .inr (.inr h)
      · rintro (h | h | h)
        · exact .inl (.inr h)
        · exact .inl (.inl h)
        · exact .inr h
  unfold ordA
  rw [key]
  simp
/-- the rate counts as it counts -/
theorem rt_rt (r : Int) : rt (rt r) = rt r := by unfold rt iclip; split <;> split <;> omega
theorem ofA_rt (x : It) (now r : Int) : ofA x now (rt r) = ofA x now r := by unfold ofA; rw [rt_rt]

/-! ### Queues -/
structure Aq where
  rate : Int
  now : Int
  l : List It
deriving DecidableEq
def fixA (x : It) : It := ⟨x.id, pr x.prio, tk x.since, x.seq⟩
def findA : List It → Int → It × Bool
  | [], _ => (⟨0, 0, 0, 0⟩, false)
  | x :: l, id => if x.id = id then (x, true) else findA l id
theorem findA_is : ∀ (l : List It), (l.map It.id).Nodup → ∀ x ∈ l, findA l x.id = (x, true)
  | [], _, x, h => by simp at h
  | y :: l, hn, x, h => by
    rw [List.map_cons, List.nodup_cons] at hn
    unfold findA
    rcases List.mem_cons.1 h with rfl | h
    · rw [if_pos rfl]
    · have hne : ¬ y.id = x.id := fun e => hn.1 (by rw [e]; exact List.mem_map_of_mem h)
      rw [if_neg hne, findA_is l hn.2 x h]
theorem findA_no : ∀ (l : List It) (id : Int), (findA l id).2 = false → id ∉ l.map It.id
  | [], _, _ => by simp
  | y :: l, id, h => by
    unfold findA at h
    split at h
    · cases h
    · rename_i hne
      rw [List.map_cons, List.mem_cons]
      rintro (e | e)
      · exact hne e.symm
      · exact findA_no l id h e
def putA (q : Aq) (x : It) : Aq × Int := if q.now < tk x.since then (q, 12) else if (findA q.l x.id).2 then (q, 6) else (⟨q.rate, q.now, q.l ++ [fixA x]⟩, 0)
def listA (q : Aq) : List Int := (ordA q.l q.now q.rate).map It.id
theorem listA_len (q : Aq) : (listA q).length = q.l.length := by unfold listA; rw [List.length_map, ordA_len]
def toA (q : Aq) (n : Int) : Aq := ⟨q.rate, max q.now (tk n), q.l⟩
def dropA (q : Aq) (id : Int) : Aq := ⟨q.rate, q.now, q.l.filter fun x => decide (x.id ≠ id)⟩
def firstA (q : Aq) : Int × Bool := match listA q with
  | [] => (0, false)
  | i :: _ => (i, true)
/-- what a law knows of its queue -/
structure GoodA (q : Aq) (rate now : Int) (n : Nat) : Prop where
  rate : q.rate = rt rate
  now : q.now = now
  ids : (q.l.map It.id).Nodup
  len : q.l.length ≤ n
  i64 : ∀ x ∈ q.l, I64 x.id
theorem GoodA.put {q : Aq} {rate now : Int} {n : Nat} (h : GoodA q rate now n) (x : It) (hx : I64 x.id) : GoodA (putA q x).1 rate now (n + 1) := by
  unfold putA
  split
  · exact ⟨h.rate, h.now, h.ids, Nat.le_succ_of_le h.len, h.i64⟩
  · split
    · exact ⟨h.rate, h.now, h.ids, Nat.le_succ_of_le h.len, h.i64⟩
    · rename_i hf
      have hno := findA_no q.l x.id (by simpa using hf)
      refine ⟨h.rate, h.now, ?_, by simp; exact h.len, fun y hy => by
        rcases List.mem_append.1 hy with h1 | h1
        · exact h.i64 y h1
        · simp at h1
          subst h1
          exact hx⟩
      simp only [List.map_append, List.map_cons, List.map_nil]
      rw [List.nodup_append]
      refine ⟨h.ids, by simp, fun a ha b hb => ?_⟩
      simp [fixA] at hb
      subst hb
      intro e
      subst e
      exact hno ha
theorem GoodA.to {q : Aq} {rate now : Int} {n : Nat} (h : GoodA q rate now n) (m : Int) (h0 : now ≤ m) (h1 : 0 ≤ m) (h2 : m ≤ 2147483647) : GoodA (toA q m) rate m n :=
  ⟨h.rate, by show max q.now (tk m) = m; rw [h.now, tk_in ⟨h1, h2⟩]; omega, h.ids, h.len, h.i64⟩
theorem GoodA.i64A {q : Aq} {rate now : Int} {n : Nat} (h : GoodA q rate now n) (A : List Int) (hA : listA q = A) (k : Nat) (hk : k < A.length) : I64 A[k] := by
  subst hA
  have hm : (listA q)[k] ∈ listA q := List.getElem_mem _
  obtain ⟨x, hx, e⟩ := List.mem_map.1 (show (listA q)[k] ∈ (ordA q.l q.now q.rate).map It.id from hm)
  rw [← e]
  exact h.i64 x ((ordA_mem _ _ _ _).1 hx)
/-- no full one stands behind one that came later -/
theorem GoodA.full {q : Aq} {rate now : Int} {n : Nat} (h : GoodA q rate now n) (k i : Nat) (hki : k < i) (hi : i < (listA q).length) : ∃ x y : It, findA q.l ((listA q)[k]'(by omega)) = (x, true) ∧ findA q.l (listA q)[i] = (y, true) ∧ (ofA y now rate = 1048575 → x.seq ≤ y.seq) := by
  have hl := listA_len q
  have ho := ordA_len q.now q.rate q.l
  have e1 : (listA q)[k]'(by omega) = ((ordA q.l q.now q.rate)[k]'(by omega)).id := by simp [listA]
  have e2 : (listA q)[i] = ((ordA q.l q.now q.rate)[i]'(by omega)).id := by simp [listA]
  refine ⟨(ordA q.l q.now q.rate)[k]'(by omega), (ordA q.l q.now q.rate)[i]'(by omega), ?_, ?_, fun hf => ?_⟩
  · rw [e1]
    exact findA_is q.l h.ids _ ((ordA_mem _ _ _ _).1 (List.getElem_mem _))
  · rw [e2]
    exact findA_is q.l h.ids _ ((ordA_mem _ _ _ _).1 (List.getElem_mem _))
  · have hs := List.pairwise_iff_getElem.1 (ordA_sort q.l q.now q.rate) k i (by omega) (by omega) hki
    generalize (ordA q.l q.now q.rate)[k]'(by omega) = x at *
    generalize (ordA q.l q.now q.rate)[i]'(by omega) = y at *
    rw [h.now, h.rate] at hs
    have e := ahA_iff y x now (rt rate)
    rw [hs] at e
    rw [ofA_rt, ofA_rt] at e
    have hb := ofA_bd x now rate
    simp only [Bool.false_eq_true, false_iff] at e
    omega
end Go.Proofs.Ytkhnkhkpjgemkaa
