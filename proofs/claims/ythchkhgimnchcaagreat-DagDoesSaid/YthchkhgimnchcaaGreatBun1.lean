/- Texts of this proof, joined: GraphMath; GraphMathB; IdMath. -/
import Derived.Test.YthchkhgimnchcaaGreatRows
/- Stage 16: graphs by definition: plain definitions, with what the walks ask of them. -/
namespace Go.Proofs.YthchkhgimnchcaaGreat

structure Arc16 where
  src : Int
  dst : Int
deriving DecidableEq, Inhabited

/-- is it in the list -/
def inL (l : List Int) (n : Int) : Bool := decide (n ∈ l)

/-! ### Set -/
def stepS (x : Int) (s : List Int × Bool) (y : Int) : List Int × Bool :=
  let s1 := if !s.2 && decide (x ≤ y) then (s.1 ++ [x], true) else s
  (if y = x then s1.1 else s1.1 ++ [y], s1.2)
def insP (x : Int) (l : List Int) : List Int × Bool := l.foldl (stepS x) ([], false)
def insS (x : Int) (l : List Int) : List Int := if (insP x l).2 then (insP x l).1 else (insP x l).1 ++ [x]
def setL (l : List Int) : List Int := l.foldl (fun out x => insS x out) []
theorem insP_take (x : Int) (l : List Int) (k : Nat) (hk : k < l.length) : insP x (l.take (k + 1)) = stepS x (insP x (l.take k)) l[k] := by
  unfold insP
  rw [List.take_succ_eq_append_getElem hk, List.foldl_append]
  rfl
theorem setL_take (l : List Int) (k : Nat) (hk : k < l.length) : setL (l.take (k + 1)) = insS l[k] (setL (l.take k)) := by
  unfold setL
  rw [List.take_succ_eq_append_getElem hk, List.foldl_append]
  rfl
theorem stepS_len (x : Int) (s : List Int × Bool) (y : Int) : (stepS x s y).1.length + (if (stepS x s y).2 then 0 else 1) ≤ s.1.length + 1 + (if s.2 then 0 else 1) := by
  unfold stepS
  obtain ⟨a, d⟩ := s
  cases d <;> by_cases h : x ≤ y <;> by_cases h2 : y = x <;> simp [h, h2] <;> omega
theorem insP_len (x : Int) (l : List Int) : ∀ k, (insP x (l.take k)).1.length + (if (insP x (l.take k)).2 then 0 else 1) ≤ k + 1
  | 0 => by simp [insP]
  | k + 1 => by
    have ih := insP_len x l k
    by_cases hk : k < l.length
    · rw [insP_take x l k hk]
      have := stepS_len x (insP x (l.take k)) l[k]
      omega
    · rw [List.take_of_length_le (by omega), ← List.take_of_length_le (show l.length ≤ k by omega)]
      omega
theorem insS_len (x : Int) (l : List Int) : (insS x l).length ≤ l.length + 1 := by
  have h := insP_len x l l.length
  rw [List.take_length] at h
  unfold insS
  split
  · rename_i h2
    rw [if_pos h2] at h
    omega
  · rename_i h2
    rw [if_neg h2] at h
    rw [List.length_append]
    simp
    omega
theorem setL_len (l : List Int) : ∀ k, (setL (l.take k)).length ≤ k
  | 0 => by simp [setL]
  | k + 1 => by
    have ih := setL_len l k
    by_cases hk : k < l.length
    · rw [setL_take l k hk]
      have := insS_len l[k] (setL (l.take k))
      omega
    · rw [List.take_of_length_le (by omega), ← List.take_of_length_le (show l.length ≤ k by omega)]
      omega
theorem setL_le (l : List Int) : (setL l).length ≤ l.length := by
  have := setL_len l l.length
  rwa [List.take_length] at this
/-- rising -/
def risL (l : List Int) : Prop := l.Pairwise fun a b => a < b
theorem foldS_done (x : Int) : ∀ (l a : List Int), (∀ y ∈ l, y ≠ x) → l.foldl (stepS x) (a, true) = (a ++ l, true)
  | [], a, _ => by simp
  | y :: t, a, h => by
    have h1 : stepS x (a, true) y = (a ++ [y], true) := by simp [stepS, h y]
    rw [List.foldl_cons, h1, foldS_done x t _ fun z hz => h z (List.mem_cons_of_mem _ hz), List.append_assoc]
    rfl
theorem foldS (x : Int) : ∀ (l a : List Int), risL l → l.foldl (stepS x) (a, false) = if (∃ y ∈ l, x ≤ y) then (a ++ (l.filter (fun y => decide (y < x)) ++ x :: l.filter (fun y => decide (x < y))), true) else (a ++ l, false)
  | [], a, _ => by simp
  | y :: t, a, hl => by
    have h0 := List.pairwise_cons.1 hl
    rw [List.foldl_cons]
    by_cases hy : x ≤ y
    · have hd : ∀ z ∈ t, z ≠ x := fun z hz => by have := h0.1 z hz; omega
      have e1 : (y :: t).filter (fun y => decide (y < x)) = [] := List.filter_eq_nil_iff.2 fun z hz => by
        rcases List.mem_cons.1 hz with rfl | hz
        · simp; omega
        · have := h0.1 z hz; simp; omega
      have e2 : t.filter (fun y => decide (x < y)) = t := List.filter_eq_self.2 fun z hz => by have := h0.1 z hz; simp; omega
      rw [if_pos ⟨y, List.mem_cons_self, hy⟩, e1, List.nil_append]
      by_cases hyx : y = x
      · subst hyx
        have h1 : stepS y (a, false) y = (a ++ [y], true) := by simp [stepS]
        have e3 : (y :: t).filter (fun z => decide (y < z)) = t := by rw [List.filter_cons_of_neg (by simp), e2]
        rw [h1, foldS_done y t _ hd, e3, List.append_assoc]
        rfl
      · have h1 : stepS x (a, false) y = (a ++ [x] ++ [y], true) := by simp [stepS, hy, hyx]
        have e3 : (y :: t).filter (fun z => decide (x < z)) = y :: t := by rw [List.filter_cons_of_pos (by simp; omega), e2]
        rw [h1, foldS_done x t _ hd, e3]
        simp
    · have h1 : stepS x (a, false) y = (a ++ [y], false) := by
        have : y ≠ x := by omega
        simp [stepS, hy, this]
      rw [h1, foldS x t _ h0.2]
      by_cases hex : ∃ z ∈ t, x ≤ z
      · obtain ⟨z, hz, hxz⟩ := hex
        rw [if_pos ⟨z, hz, hxz⟩, if_pos ⟨z, List.mem_cons_of_mem _ hz, hxz⟩, List.filter_cons_of_pos (by simp; omega), List.filter_cons_of_neg (by simp; omega)]
        simp
      · rw [if_neg hex, if_neg (fun ⟨z, hz, hxz⟩ => by
          rcases List.mem_cons.1 hz with rfl | hz
          · exact hy hxz
          · exact hex ⟨z, hz, hxz⟩)]
        simp
theorem insS_is (x : Int) {l : List Int} (hl : risL l) : insS x l = l.filter (fun y => decide (y < x)) ++ x :: l.filter (fun y => decide (x < y)) := by
  unfold insS insP
  rw [foldS x l [] hl]
  by_cases hex : ∃ z ∈ l, x ≤ z
  · rw [if_pos hex]
    simp
  · rw [if_neg hex]
    have e1 : l.filter (fun y => decide (y < x)) = l := List.filter_eq_self.2 fun z hz => by
      have : ¬ x ≤ z := fun h => hex ⟨z, hz, h⟩
      simp; omega
    have e2 : l.filter (fun y => decide (x < y)) = [] := List.filter_eq_nil_iff.2 fun z hz => by
      have : ¬ x ≤ z := fun h => hex ⟨z, hz, h⟩
      simp; omega
    rw [e1, e2]
    simp
theorem insS_ris (x : Int) {l : List Int} (hl : risL l) : risL (insS x l) := by
  rw [insS_is x hl]
  refine List.pairwise_append.2 ⟨List.Pairwise.filter _ hl, List.pairwise_cons.2 ⟨fun y hy => by simpa using (List.mem_filter.1 hy).2, List.Pairwise.filter _ hl⟩, fun a ha b hb => ?_⟩
  have h1 : a < x := by simpa using (List.mem_filter.1 ha).2
  rcases List.mem_cons.1 hb with rfl | hb
  · exact h1
  · have h2 : x < b := by simpa using (List.mem_filter.1 hb).2
    omega
theorem insS_mem (x a : Int) {l : List Int} (hl : risL l) : a ∈ insS x l ↔ a = x ∨ a ∈ l := by
  rw [insS_is x hl, List.mem_append, List.mem_cons, List.mem_filter, List.mem_filter]
  constructor
  · rintro (h | h | h)
    · exact .inr h.1
    · exact .inl h
    · exact .inr h.1
  · rintro (h | h)
    · exact .inr (.inl h)
    · rcases Int.lt_trichotomy a x with h2 | h2 | h2
      · exact .inl ⟨h, by simpa using h2⟩
      · exact .inr (.inl h2)
      · exact .inr (.inr ⟨h, by simpa using h2⟩)
theorem setL_both (l : List Int) : ∀ k, risL (setL (l.take k)) ∧ ∀ a, a ∈ setL (l.take k) ↔ a ∈ l.take k
  | 0 => by simp [setL, risL]
  | k + 1 => by
    have ih := setL_both l k
    by_cases hk : k < l.length
    · rw [setL_take l k hk]
      refine ⟨insS_ris _ ih.1, fun a => ?_⟩
      rw [insS_mem _ _ ih.1, ih.2, List.take_succ_eq_append_getElem hk, List.mem_append, List.mem_singleton]
      exact or_comm
    · rw [List.take_of_length_le (by omega), ← List.take_of_length_le (show l.length ≤ k by omega)]
      exact ih
theorem setL_ris (l : List Int) : risL (setL l) := by
  have := (setL_both l l.length).1
  rwa [List.take_length] at this
theorem setL_mem (l : List Int) (a : Int) : a ∈ setL l ↔ a ∈ l := by
  have := (setL_both l l.length).2 a
  rwa [List.take_length] at this
theorem risL.nodup {l : List Int} (h : risL l) : l.Nodup := h.imp fun h e => by omega
/-- lists that rise and have the same are the same -/
theorem risL.eq {a b : List Int} (ha : risL a) (hb : risL b) (h : ∀ x, x ∈ a ↔ x ∈ b) : a = b := by
  have hp : a.Perm b := (List.perm_ext_iff_of_nodup ha.nodup hb.nodup).2 h
  exact hp.eq_of_pairwise (fun x y _ _ h1 h2 => by omega) ha hb
theorem setL_self {l : List Int} (h : risL l) : setL l = l := (setL_ris l).eq h fun x => setL_mem l x

/-! ### Order -/
/-- does no arrow lead to it from one that isn't told -/
def freeG (nodes : List Int) (arcs : List Arc16) (told : List Int) (n : Int) : Bool := arcs.all fun a => !(decide (a.dst = n) && inL nodes a.src && !inL told a.src)
theorem freeG_take (nodes : List Int) (arcs : List Arc16) (told : List Int) (n : Int) (k : Nat) (hk : k < arcs.length) : freeG nodes (arcs.take (k + 1)) told n = (freeG nodes (arcs.take k) told n && !(decide (arcs[k].dst = n) && inL nodes arcs[k].src && !inL told arcs[k].src)) := by
  unfold freeG
  rw [List.take_succ_eq_append_getElem hk, List.all_append]
  simp
theorem freeG_no {nodes : List Int} {arcs : List Arc16} {told : List Int} {n : Int} (k : Nat) (hk : k < arcs.length) (h : (decide (arcs[k].dst = n) && inL nodes arcs[k].src && !inL told arcs[k].src) = true) : freeG nodes arcs told n = false := by
  unfold freeG
  rw [List.all_eq_false]
  exact ⟨arcs[k], List.getElem_mem hk, by rw [h]; simp⟩
/-- can it be told next -/
def nextB (nodes : List Int) (arcs : List Arc16) (told : List Int) (n : Int) : Bool := !inL told n && freeG nodes arcs told n
/-- one behind the other, the first that can be -/
def ordG (nodes : List Int) (arcs : List Arc16) : Nat → List Int → List Int
  | 0, told => told
  | f + 1, told => match nodes.find? (nextB nodes arcs told) with
    | none => told
    | some n => ordG nodes arcs f (told ++ [n])
def ordL (ids : List Int) (arcs : List Arc16) : List Int := ordG (setL ids) arcs (setL ids).length []
def leftL (ids : List Int) (arcs : List Arc16) : List Int := (setL ids).filter fun n => !inL (ordL ids arcs) n
/-- told so far: of the nodes, each once -/
structure ToldI (nodes told : List Int) : Prop where
  sub : ∀ n ∈ told, n ∈ nodes
  nodup : told.Nodup
theorem len_of_sub : ∀ (a b : List Int), a.Nodup → (∀ x ∈ a, x ∈ b) → a.length ≤ b.length
  | [], _, _, _ => Nat.zero_le _
  | x :: t, b, hn, hs => by
    have h1 := List.nodup_cons.1 hn
    have hx := hs x List.mem_cons_self
    have h2 := len_of_sub t (b.erase x) h1.2 fun y hy => (List.mem_erase_of_ne (show y ≠ x from fun e => by subst e; exact h1.1 hy)).2 (hs y (List.mem_cons_of_mem _ hy))
    rw [List.length_erase_of_mem hx] at h2
    have := List.length_pos_of_mem hx
    rw [List.length_cons]
    omega
theorem ToldI.len {nodes told : List Int} (h : ToldI nodes told) : told.length ≤ nodes.length := len_of_sub _ _ h.nodup h.sub
theorem ToldI.next {nodes told : List Int} {arcs : List Arc16} {n : Int} (h : ToldI nodes told) (hn : n ∈ nodes) (hb : nextB nodes arcs told n = true) : ToldI nodes (told ++ [n]) := by
  unfold nextB inL at hb
  rw [Bool.and_eq_true] at hb
  have hnt : n ∉ told := by simpa using hb.1
  refine ⟨fun x hx => ?_, ?_⟩
  · rcases List.mem_append.1 hx with hx | hx
    · exact h.sub x hx
    · rw [List.mem_singleton.1 hx]; exact hn
  · exact List.nodup_append.2 ⟨h.nodup, by simp, fun a ha b hb e => by rw [List.mem_singleton.1 hb] at e; subst e; exact hnt ha⟩
theorem ToldI.lt {nodes told : List Int} {arcs : List Arc16} {n : Int} (h : ToldI nodes told) (hn : n ∈ nodes) (hb : nextB nodes arcs told n = true) : told.length < nodes.length := by
  have := (h.next hn hb).len
  rw [List.length_append] at this
  simp at this
  omega
theorem ToldI.nil (nodes : List Int) : ToldI nodes [] := ⟨fun _ h => (by cases h), List.nodup_nil⟩
/-- enough steps -/
theorem ordG_step {nodes told : List Int} {arcs : List Arc16} {n : Int} (i : Nat) (hi : i < nodes.length) (hn : nodes[i] = n) (hpre : ∀ j (h : j < i), nextB nodes arcs told (nodes[j]'(by omega)) = false) (hb : nextB nodes arcs told n = true) (f : Nat) :
    ordG nodes arcs (f + 1) told = ordG nodes arcs f (told ++ [n]) := by
  have : nodes.find? (nextB nodes arcs told) = some n := by
    rw [List.find?_eq_some_iff_getElem]
    exact ⟨hb, i, hi, hn, fun j hj => by rw [hpre j hj]; rfl⟩
  conv => lhs; unfold ordG
  rw [this]
theorem ordG_end {nodes told : List Int} {arcs : List Arc16} (hpre : ∀ n ∈ nodes, nextB nodes arcs told n = false) (f : Nat) : ordG nodes arcs f told = told := by
  cases f with
  | zero => rfl
  | succ f =>
    have : nodes.find? (nextB nodes arcs told) = none := by
      rw [List.find?_eq_none]
      intro n hn h
      rw [hpre n hn] at h
      cases h
    unfold ordG
    rw [this]
end Go.Proofs.YthchkhgimnchcaaGreat
/- Stage 16: what orders, levels and reaching keep: plain mathematics. -/
namespace Go.Proofs.YthchkhgimnchcaaGreat

/-- in the range of int -/
def B64 (l : List Int) : Prop := ∀ x ∈ l, -9223372036854775808 ≤ x ∧ x ≤ 9223372036854775807
def B64a (l : List Arc16) : Prop := ∀ a ∈ l, (-9223372036854775808 ≤ a.src ∧ a.src ≤ 9223372036854775807) ∧ -9223372036854775808 ≤ a.dst ∧ a.dst ≤ 9223372036854775807
theorem inL_iff {l : List Int} {n : Int} : inL l n = true ↔ n ∈ l := by unfold inL; exact decide_eq_true_iff
theorem inL_not {l : List Int} {n : Int} : inL l n = false ↔ n ∉ l := by unfold inL; exact decide_eq_false_iff_not

/-! ### Order -/
theorem freeG_iff {nodes : List Int} {arcs : List Arc16} {told : List Int} {n : Int} : freeG nodes arcs told n = true ↔ ∀ a ∈ arcs, a.dst = n → a.src ∈ nodes → a.src ∈ told := by
  unfold freeG
  rw [List.all_eq_true]
  constructor
  · intro h a ha h1 h2
    have := h a ha
    refine Classical.byContradiction fun hn => ?_
    simp [h1, inL_iff.2 h2, inL_not.2 hn] at this
  · intro h a ha
    by_cases h1 : a.dst = n
    · by_cases h2 : a.src ∈ nodes
      · simp [inL_iff.2 (h a ha h1 h2)]
      · simp [inL_not.2 h2]
    · simp [h1]
structure OrdI (nodes : List Int) (arcs : List Arc16) (told : List Int) : Prop where
  ti : ToldI nodes told
  pre : ∀ i (h : i < told.length), ∀ a ∈ arcs, a.dst = told[i] → a.src ∈ nodes → a.src ∈ told.take i
theorem OrdI.nil (nodes : List Int) (arcs : List Arc16) : OrdI nodes arcs [] := ⟨ToldI.nil _, fun i h => absurd h (by simp)⟩
theorem OrdI.next {nodes told : List Int} {arcs : List Arc16} {n : Int} (h : OrdI nodes arcs told) (hn : n ∈ nodes) (hb : nextB nodes arcs told n = true) : OrdI nodes arcs (told ++ [n]) := by
  refine ⟨h.ti.next hn hb, fun i hi a ha h1 h2 => ?_⟩
  by_cases hlt : i < told.length
  · rw [List.getElem_append_left hlt] at h1
    rw [List.take_append_of_le_length (by omega)]
    exact h.pre i hlt a ha h1 h2
  · have : i = told.length := by rw [List.length_append] at hi; simp at hi; omega
    subst this
    rw [List.getElem_append_right (Nat.le_refl _)] at h1
    simp at h1
    rw [List.take_append_of_le_length (Nat.le_refl _), List.take_length]
    unfold nextB at hb
    rw [Bool.and_eq_true] at hb
    exact freeG_iff.1 hb.2 a ha h1 h2
theorem ordG_inv {nodes : List Int} {arcs : List Arc16} : ∀ (f : Nat) (told : List Int), OrdI nodes arcs told → nodes.length - told.length ≤ f → OrdI nodes arcs (ordG nodes arcs f told) ∧ ∀ n ∈ nodes, nextB nodes arcs (ordG nodes arcs f told) n = false
  | 0, told, h, hf => by
    refine ⟨h, fun n hn => ?_⟩
    cases hb : nextB nodes arcs (ordG nodes arcs 0 told) n with
    | false => rfl
    | true =>
      have := h.ti.lt hn (show nextB nodes arcs told n = true from hb)
      omega
  | f + 1, told, h, hf => by
    unfold ordG
    cases hfd : nodes.find? (nextB nodes arcs told) with
    | none =>
      refine ⟨h, fun n hn => ?_⟩
      have := List.find?_eq_none.1 hfd n hn
      simpa using this
    | some n =>
      have hb := List.find?_some hfd
      have hn := List.mem_of_find?_eq_some hfd
      exact ordG_inv f (told ++ [n]) (h.next hn hb) (by rw [List.length_append]; simp; omega)
theorem ordL_inv (ids : List Int) (arcs : List Arc16) : OrdI (setL ids) arcs (ordL ids arcs) ∧ ∀ n ∈ setL ids, nextB (setL ids) arcs (ordL ids arcs) n = false :=
  ordG_inv _ _ (OrdI.nil _ _) (by simp)
theorem left_mem (ids : List Int) (arcs : List Arc16) (n : Int) : n ∈ leftL ids arcs ↔ n ∈ setL ids ∧ n ∉ ordL ids arcs := by
  unfold leftL
  rw [List.mem_filter]
  simp [inL]
theorem filter_in_len : ∀ (a b : List Int), a.Nodup → b.Nodup → (∀ x ∈ b, x ∈ a) → (a.filter fun x => inL b x).length = b.length := fun a b ha hb h => by
  have h1 : (a.filter fun x => inL b x).length ≤ b.length := len_of_sub _ _ (ha.filter _) fun x hx => inL_iff.1 (List.mem_filter.1 hx).2
  have h2 : b.length ≤ (a.filter fun x => inL b x).length := len_of_sub _ _ hb fun x hx => List.mem_filter.2 ⟨h x hx, inL_iff.2 hx⟩
  omega
theorem filter_both {α : Type} (p : α → Bool) : ∀ l : List α, (l.filter p).length + (l.filter fun x => !p x).length = l.length
  | [] => rfl
  | x :: t => by
    have ih := filter_both p t
    cases h : p x with
    | true =>
      rw [List.filter_cons_of_pos h, List.filter_cons_of_neg (by simp [h])]
      simp
      omega
    | false =>
      rw [List.filter_cons_of_neg (by simp [h]), List.filter_cons_of_pos (by simp [h])]
      simp
      omega
theorem snoc_ind {α : Type} {P : List α → Prop} (h0 : P []) (h1 : ∀ l x, P l → P (l ++ [x])) : ∀ l, P l := fun l => by
  have : ∀ r : List α, P r.reverse := fun r => by
    induction r with
    | nil => exact h0
    | cons x t ih => rw [List.reverse_cons]; exact h1 _ _ ih
  have h := this l.reverse
  rwa [List.reverse_reverse] at h
theorem left_len (ids : List Int) (arcs : List Arc16) : (ordL ids arcs).length + (leftL ids arcs).length = (setL ids).length := by
  have h := (ordL_inv ids arcs).1.ti
  have h1 := filter_in_len (setL ids) (ordL ids arcs) (setL_ris ids).nodup h.nodup h.sub
  have h2 := filter_both (fun x => inL (ordL ids arcs) x) (setL ids)
  unfold leftL
  omega
/-- an arrow to one that is told comes from one that was told ahead -/
theorem ord_pre {ids : List Int} {arcs : List Arc16} {a : Arc16} (ha : a ∈ arcs) (hs : a.src ∈ setL ids) {i : Nat} (hi : i < (ordL ids arcs).length) (hd : a.dst = (ordL ids arcs)[i]) : a.src ∈ (ordL ids arcs).take i :=
  (ordL_inv ids arcs).1.pre i hi a ha hd hs
/-- to each that is left an arrow leads from one that is left -/
theorem left_arc {ids : List Int} {arcs : List Arc16} {n : Int} (h : n ∈ leftL ids arcs) : ∃ a ∈ arcs, a.dst = n ∧ a.src ∈ leftL ids arcs := by
  obtain ⟨h1, h2⟩ := (left_mem _ _ _).1 h
  have hb := (ordL_inv ids arcs).2 n h1
  unfold nextB at hb
  rw [inL_not.2 h2] at hb
  have hf : ¬ freeG (setL ids) arcs (ordL ids arcs) n = true := by simpa using hb
  rw [freeG_iff] at hf
  refine Classical.byContradiction fun hn => hf fun a ha hd hs => Classical.byContradiction fun hno => hn ⟨a, ha, hd, (left_mem _ _ _).2 ⟨hs, hno⟩⟩

/-! ### Levels -/
def lvA (arcs : List Arc16) (x : Int) (p : Int × Int) (m : Int) : Int := arcs.foldl (fun m a => if a.src = p.1 ∧ a.dst = x then max m (p.2 + 1) else m) m
def lvP (arcs : List Arc16) (x : Int) (acc : List (Int × Int)) : Int := acc.foldl (fun m p => lvA arcs x p m) 0
def levP (arcs : List Arc16) (told : List Int) : List (Int × Int) := told.foldl (fun acc x => acc ++ [(x, lvP arcs x acc)]) []
def levOf (P : List (Int × Int)) (n : Int) : Int := P.foldl (fun m p => if p.1 = n then p.2 else m) (-1)
def levL (ids : List Int) (arcs : List Arc16) : List Int := (setL ids).map (levOf (levP arcs (ordL ids arcs)))
theorem lvA_take (arcs : List Arc16) (x : Int) (p : Int × Int) (m : Int) (k : Nat) (hk : k < arcs.length) : lvA (arcs.take (k + 1)) x p m = if arcs[k].src = p.1 ∧ arcs[k].dst = x then max (lvA (arcs.take k) x p m) (p.2 + 1) else lvA (arcs.take k) x p m := by
  unfold lvA
  rw [List.take_succ_eq_append_getElem hk, List.foldl_append]
  rfl
theorem lvP_take (arcs : List Arc16) (x : Int) (P : List (Int × Int)) (k : Nat) (hk : k < P.length) : lvP arcs x (P.take (k + 1)) = lvA arcs x P[k] (lvP arcs x (P.take k)) := by
  unfold lvP
  rw [List.take_succ_eq_append_getElem hk, List.foldl_append]
  rfl
theorem levP_take (arcs : List Arc16) (told : List Int) (k : Nat) (hk : k < told.length) : levP arcs (told.take (k + 1)) = levP arcs (told.take k) ++ [(told[k], lvP arcs told[k] (levP arcs (told.take k)))] := by
  unfold levP
  rw [List.take_succ_eq_append_getElem hk, List.foldl_append]
  rfl
theorem levOf_take (P : List (Int × Int)) (n : Int) (k : Nat) (hk : k < P.length) : levOf (P.take (k + 1)) n = if P[k].1 = n then P[k].2 else levOf (P.take k) n := by
  unfold levOf
  rw [List.take_succ_eq_append_getElem hk, List.foldl_append]
  rfl
theorem levP_snoc (arcs : List Arc16) (told : List Int) (x : Int) : levP arcs (told ++ [x]) = levP arcs told ++ [(x, lvP arcs x (levP arcs told))] := by
  unfold levP
  rw [List.foldl_append]
  rfl
theorem levP_fst (arcs : List Arc16) (told : List Int) : (levP arcs told).map Prod.fst = told := by
  refine snoc_ind (P := fun told => (levP arcs told).map Prod.fst = told) rfl (fun l x ih => ?_) told
  rw [levP_snoc, List.map_append, ih]
  rfl
theorem levP_len (arcs : List Arc16) (told : List Int) : (levP arcs told).length = told.length := by
  have := congrArg List.length (levP_fst arcs told)
  simpa using this
/-- a front of the levels is the front's -/
theorem levP_front (arcs : List Arc16) (told : List Int) : ∀ k, k ≤ told.length → (levP arcs told).take k = levP arcs (told.take k) := by
  refine snoc_ind (P := fun told => ∀ k, k ≤ told.length → (levP arcs told).take k = levP arcs (told.take k)) (fun k _ => by simp [levP]) (fun l x ih => ?_) told
  intro k hk
  rw [levP_snoc]
  by_cases hkl : k ≤ l.length
  · rw [List.take_append_of_le_length (by rw [levP_len]; exact hkl), List.take_append_of_le_length hkl]
    exact ih k hkl
  · have : k = l.length + 1 := by rw [List.length_append] at hk; simp at hk; omega
    subst this
    rw [List.take_of_length_le (by simp [levP_len]), List.take_of_length_le (by simp), levP_snoc]
theorem levP_at (arcs : List Arc16) (told : List Int) (k : Nat) (hk : k < told.length) : (levP arcs told)[k]'(by rw [levP_len]; exact hk) = (told[k], lvP arcs told[k] ((levP arcs told).take k)) := by
  have h1 := levP_front arcs told (k + 1) (by omega)
  rw [levP_take _ _ _ hk, ← levP_front arcs told k (by omega)] at h1
  have h2 : ((levP arcs told).take (k + 1))[k]'(by rw [List.length_take, levP_len]; omega) = (levP arcs told)[k]'(by rw [levP_len]; exact hk) := by rw [List.getElem_take]
  rw [← h2]
  have hlen : ((levP arcs told).take k).length = k := by rw [List.length_take, levP_len]; omega
  simp only [h1]
  rw [List.getElem_append_right (by omega)]
  simp [hlen]
theorem lvA_mono (arcs : List Arc16) (x : Int) (p : Int × Int) : ∀ m, m ≤ lvA arcs x p m := by
  unfold lvA
  induction arcs with
  | nil => intro m; exact Int.le_refl _
  | cons a t ih =>
    intro m
    simp only [List.foldl_cons]
    split
    · exact Int.le_trans (Int.le_max_left _ _) (ih _)
    · exact ih m
theorem lvA_ge {arcs : List Arc16} {x : Int} {p : Int × Int} {a : Arc16} (ha : a ∈ arcs) (h1 : a.src = p.1) (h2 : a.dst = x) : ∀ m, p.2 + 1 ≤ lvA arcs x p m := by
  induction arcs with
  | nil => cases ha
  | cons b t ih =>
    intro m
    have e : lvA (b :: t) x p m = lvA t x p (if b.src = p.1 ∧ b.dst = x then max m (p.2 + 1) else m) := rfl
    rw [e]
    rcases List.mem_cons.1 ha with rfl | hm
    · rw [if_pos ⟨h1, h2⟩]
      exact Int.le_trans (Int.le_max_right _ _) (lvA_mono t x p _)
    · exact ih hm _
theorem lvP_from (arcs : List Arc16) (x : Int) : ∀ (P : List (Int × Int)) (m : Int), m ≤ P.foldl (fun m p => lvA arcs x p m) m
  | [], m => Int.le_refl _
  | p :: t, m => by
    rw [List.foldl_cons]
    exact Int.le_trans (lvA_mono arcs x p m) (lvP_from arcs x t _)
theorem lvP_nonneg (arcs : List Arc16) (x : Int) (P : List (Int × Int)) : 0 ≤ lvP arcs x P := lvP_from arcs x P 0
theorem lvP_ge {arcs : List Arc16} {x : Int} {p : Int × Int} {a : Arc16} (ha : a ∈ arcs) (h1 : a.src = p.1) (h2 : a.dst = x) : ∀ (P : List (Int × Int)), p ∈ P → ∀ m, p.2 + 1 ≤ P.foldl (fun m p => lvA arcs x p m) m
  | [], hp => by cases hp
  | q :: t, hp => fun m => by
    rw [List.foldl_cons]
    rcases List.mem_cons.1 hp with rfl | hm
    · exact Int.le_trans (lvA_ge ha h1 h2 m) (lvP_from arcs x t _)
    · exact lvP_ge ha h1 h2 t hm _
theorem levOf_no : ∀ (P : List (Int × Int)) (n : Int) (m : Int), n ∉ P.map Prod.fst → P.foldl (fun m p => if p.1 = n then p.2 else m) m = m
  | [], _, _, _ => rfl
  | p :: t, n, m, h => by
    rw [List.map_cons, List.mem_cons] at h
    rw [List.foldl_cons, if_neg fun e => h (.inl e.symm)]
    exact levOf_no t n m fun h2 => h (.inr h2)
theorem levOf_at : ∀ (P : List (Int × Int)) (m : Int) (k : Nat) (hk : k < P.length), (P.map Prod.fst).Nodup → P.foldl (fun m p => if p.1 = P[k].1 then p.2 else m) m = P[k].2
  | p :: t, m, 0, _, h => by
    rw [List.map_cons, List.nodup_cons] at h
    rw [List.foldl_cons]
    simp only [List.getElem_cons_zero, if_true]
    exact levOf_no t p.1 p.2 h.1
  | p :: t, m, k + 1, hk, h => by
    rw [List.map_cons, List.nodup_cons] at h
    rw [List.foldl_cons]
    simp only [List.getElem_cons_succ]
    exact levOf_at t _ k (by simpa using hk) h.2
theorem lev_told {ids : List Int} {arcs : List Arc16} {i : Nat} (hi : i < (ordL ids arcs).length) : levOf (levP arcs (ordL ids arcs)) (ordL ids arcs)[i] = lvP arcs (ordL ids arcs)[i] ((levP arcs (ordL ids arcs)).take i) := by
  have h1 := levOf_at (levP arcs (ordL ids arcs)) (-1) i (by rw [levP_len]; exact hi) (by rw [levP_fst]; exact (ordL_inv ids arcs).1.ti.nodup)
  rw [levP_at _ _ _ hi] at h1
  exact h1
theorem lev_no {ids : List Int} {arcs : List Arc16} {n : Int} (h : n ∉ ordL ids arcs) : levOf (levP arcs (ordL ids arcs)) n = -1 := levOf_no _ _ _ (by rw [levP_fst]; exact h)
theorem lev_ge {ids : List Int} {arcs : List Arc16} {n : Int} : 0 ≤ levOf (levP arcs (ordL ids arcs)) n ↔ n ∈ ordL ids arcs := by
  constructor
  · intro h
    refine Classical.byContradiction fun hn => ?_
    rw [lev_no hn] at h
    omega
  · intro h
    obtain ⟨i, hi, rfl⟩ := List.getElem_of_mem h
    rw [lev_told hi]
    exact lvP_nonneg _ _ _
/-- arrows lead to greater levels -/
theorem lev_arc {ids : List Int} {arcs : List Arc16} {a : Arc16} (ha : a ∈ arcs) (hs : a.src ∈ setL ids) (hd : a.dst ∈ ordL ids arcs) :
    levOf (levP arcs (ordL ids arcs)) a.src < levOf (levP arcs (ordL ids arcs)) a.dst ∧ (ordL ids arcs).idxOf a.src < (ordL ids arcs).idxOf a.dst ∧ a.src ∈ ordL ids arcs := by
  obtain ⟨i, hi, hdi⟩ := List.getElem_of_mem hd
  have hp := ord_pre ha hs hi hdi.symm
  obtain ⟨k, hk, hsk⟩ := List.getElem_of_mem hp
  rw [List.length_take] at hk
  rw [List.getElem_take] at hsk
  have hkl : k < (ordL ids arcs).length := by omega
  have hnd := (ordL_inv ids arcs).1.ti.nodup
  refine ⟨?_, ?_, List.mem_of_mem_take hp⟩
  · rw [← hdi, ← hsk, lev_told hi, lev_told hkl]
    have hm : (levP arcs (ordL ids arcs))[k]'(by rw [levP_len]; exact hkl) ∈ (levP arcs (ordL ids arcs)).take i := List.mem_take_iff_getElem.2 ⟨k, by rw [levP_len]; omega, rfl⟩
    have h1 := levP_at arcs _ k hkl
    have := lvP_ge (x := (ordL ids arcs)[i]) ha (by rw [h1]; exact hsk.symm) hdi.symm _ hm 0
    rw [h1] at this
    show _ < lvP _ _ _
    unfold lvP at *
    simp only at this
    omega
  · rw [← hdi, ← hsk, hnd.idxOf_getElem, hnd.idxOf_getElem]
    omega
end Go.Proofs.YthchkhgimnchcaaGreat
/- Stage 17: sets of numbers as lists that rise: plain mathematics. -/
namespace Go.Proofs.YthchkhgimnchcaaGreat

instance (l : List Int) : Decidable (risL l) := by unfold risL; infer_instance
/-- do they rise, each once -/
def rightB (l : List Int) : Bool := decide (risL l)
def pickL (a b : List Int) (is : Bool) : List Int := (setL a).filter fun x => inL b x == is
def orL (a b : List Int) : List Int := setL (a ++ b)
def andL (a b : List Int) : List Int := pickL a b true
def lessL (a b : List Int) : List Int := pickL a b false
def withinB (a b : List Int) : Bool := decide ((lessL a b).length = 0)
def abvL (l : List Int) (n : Int) : Int × Bool := match (setL l).find? fun x => decide (n < x) with
  | some x => (x, true)
  | none => (0, false)
theorem ris_adj : ∀ {l : List Int}, (∀ i (h : i + 1 < l.length), l[i] < l[i + 1]) → risL l := fun {l} h => by
  refine List.pairwise_iff_getElem.2 fun i j hi hj hij => ?_
  obtain ⟨k, rfl⟩ : ∃ k, j = i + 1 + k := ⟨j - i - 1, by omega⟩
  clear hij
  induction k with
  | zero => exact h i hj
  | succ k ih =>
    have h1 := ih (by omega)
    have h2 := h (i + 1 + k) (by omega)
    have e : l[i + 1 + (k + 1)] = l[i + 1 + k + 1] := rfl
    rw [e]
    omega
theorem ris_no {l : List Int} (i : Nat) (h : i + 1 < l.length) (hl : l[i + 1] ≤ l[i]) : ¬ risL l := fun hr => by
  have := List.pairwise_iff_getElem.1 hr i (i + 1) (by omega) h (by omega)
  omega
theorem pick_mem (a b : List Int) (is : Bool) (x : Int) : x ∈ pickL a b is ↔ x ∈ a ∧ inL b x = is := by
  unfold pickL
  rw [List.mem_filter, setL_mem]
  simp
theorem and_mem (a b : List Int) (x : Int) : x ∈ andL a b ↔ x ∈ a ∧ x ∈ b := by unfold andL; rw [pick_mem, inL_iff]
theorem less_mem (a b : List Int) (x : Int) : x ∈ lessL a b ↔ x ∈ a ∧ x ∉ b := by unfold lessL; rw [pick_mem, inL_not]
theorem or_mem (a b : List Int) (x : Int) : x ∈ orL a b ↔ x ∈ a ∨ x ∈ b := by unfold orL; rw [setL_mem, List.mem_append]
theorem pick_ris (a b : List Int) (is : Bool) : risL (pickL a b is) := List.Pairwise.filter _ (setL_ris a)
theorem pick_len (a b : List Int) (is : Bool) : (pickL a b is).length ≤ a.length := Nat.le_trans (List.length_filter_le _ _) (setL_le a)
theorem or_len (a b : List Int) : (orL a b).length ≤ a.length + b.length := Nat.le_trans (setL_le _) (by rw [List.length_append]; exact Nat.le_refl _)
theorem within_iff (a b : List Int) : withinB a b = true ↔ ∀ x ∈ a, x ∈ b := by
  unfold withinB
  rw [decide_eq_true_iff, List.length_eq_zero_iff, List.eq_nil_iff_forall_not_mem]
  constructor
  · intro h x hx
    exact Classical.byContradiction fun hn => h x ((less_mem _ _ _).2 ⟨hx, hn⟩)
  · intro h x hx
    obtain ⟨h1, h2⟩ := (less_mem _ _ _).1 hx
    exact h2 (h x h1)
/-- what is in one alone, in both, in the other one alone -/
theorem id_all (a b : List Int) : orL (orL (lessL a b) (andL a b)) (lessL b a) = orL a b := by
  refine (setL_ris _).eq (setL_ris _) fun x => ?_
  show x ∈ orL _ _ ↔ x ∈ orL _ _
  rw [or_mem, or_mem, or_mem, less_mem, and_mem, less_mem]
  by_cases h1 : x ∈ a <;> by_cases h2 : x ∈ b <;> simp [h1, h2]
theorem id_count (a b : List Int) : (orL a b).length = (lessL a b).length + (andL a b).length + (lessL b a).length := by
  have hr : risL (orL a b) := setL_ris _
  have h1 := filter_both (fun x => inL a x) (orL a b)
  have e1 : (orL a b).filter (fun x => inL a x) = setL a := by
    refine risL.eq (List.Pairwise.filter _ hr) (setL_ris a) fun x => ?_
    rw [List.mem_filter, or_mem, inL_iff, setL_mem]
    exact ⟨fun h => h.2, fun h => ⟨.inl h, h⟩⟩
  have e2 : (orL a b).filter (fun x => !inL a x) = lessL b a := by
    refine risL.eq (List.Pairwise.filter _ hr) (pick_ris _ _ _) fun x => ?_
    rw [List.mem_filter, or_mem, Bool.not_eq_true', inL_not, less_mem]
    constructor
    · rintro ⟨h | h, h2⟩
      · exact absurd h h2
      · exact ⟨h, h2⟩
    · rintro ⟨h, h2⟩
      exact ⟨.inr h, h2⟩
  have h2 := filter_both (fun x => inL b x) (setL a)
  have e3 : (setL a).filter (fun x => inL b x) = andL a b := by
    refine risL.eq (List.Pairwise.filter _ (setL_ris a)) (pick_ris _ _ _) fun x => ?_
    rw [List.mem_filter, setL_mem, inL_iff, and_mem]
  have e4 : (setL a).filter (fun x => !inL b x) = lessL a b := by
    refine risL.eq (List.Pairwise.filter _ (setL_ris a)) (pick_ris _ _ _) fun x => ?_
    rw [List.mem_filter, setL_mem, Bool.not_eq_true', inL_not, less_mem]
  rw [e1, e2] at h1
  rw [e3, e4] at h2
  omega
/-- being within one another is being the same set -/
theorem within_same {a b : List Int} (h : withinB a b = true) : withinB b a = decide (setL a = setL b) := by
  rw [within_iff] at h
  by_cases hb : withinB b a = true
  · rw [hb]
    rw [within_iff] at hb
    exact (decide_eq_true ((setL_ris a).eq (setL_ris b) fun x => by rw [setL_mem, setL_mem]; exact ⟨h x, hb x⟩)).symm
  · rw [Bool.not_eq_true] at hb
    rw [hb]
    refine (decide_eq_false fun e => ?_).symm
    have : withinB b a = true := (within_iff b a).2 fun x hx => by
      rw [← setL_mem a x, e, setL_mem]
      exact hx
    rw [hb] at this
    cases this
/-- what comes next, over and over: those above the least number -/
def nextA (s : List Int) (m : Int) (k : Nat) : Int := if k = 0 then m else (s.filter fun x => decide (m < x)).getD (k - 1) 0
theorem ris_find : ∀ {s : List Int} {n : Int} {k : Nat}, risL s → ∀ (hk : k < s.length), n < s[k] → (∀ i (hi : i < k), s[i]'(by omega) ≤ n) → s.find? (fun x => decide (n < x)) = some s[k] := fun {s n k} _ hk h1 h2 => by
  rw [List.find?_eq_some_iff_getElem]
  exact ⟨decide_eq_true h1, k, hk, rfl, fun j hj => by have := h2 j hj; simp; omega⟩
theorem find_filter (s : List Int) (m n : Int) (h : m ≤ n) : s.find? (fun x => decide (n < x)) = (s.filter fun x => decide (m < x)).find? (fun x => decide (n < x)) := by
  induction s with
  | nil => rfl
  | cons y t ih =>
    by_cases h1 : m < y
    · rw [List.filter_cons_of_pos (by simpa using h1), List.find?_cons, List.find?_cons, ih]
    · rw [List.filter_cons_of_neg (by simpa using h1), List.find?_cons_of_neg (by simp; omega), ih]
theorem abv_next {l : List Int} {m : Int} {k : Nat} (hk : k < ((setL l).filter fun x => decide (m < x)).length) :
    abvL l (nextA (setL l) m k) = (((setL l).filter fun x => decide (m < x))[k], true) := by
  have hr : risL ((setL l).filter fun x => decide (m < x)) := List.Pairwise.filter _ (setL_ris l)
  have hm : ∀ x ∈ (setL l).filter (fun x => decide (m < x)), m < x := fun x hx => by simpa using (List.mem_filter.1 hx).2
  unfold abvL nextA
  by_cases h0 : k = 0
  · subst h0
    rw [if_pos rfl, find_filter _ m m (Int.le_refl _), ris_find hr hk (hm _ (List.getElem_mem hk)) (fun i hi => by omega)]
  · rw [if_neg h0]
    obtain ⟨q, hq⟩ : ∃ q, k = q + 1 := ⟨k - 1, by omega⟩
    subst hq
    have hql : q < ((setL l).filter fun x => decide (m < x)).length := by omega
    have e : ((setL l).filter fun x => decide (m < x)).getD (q + 1 - 1) 0 = ((setL l).filter fun x => decide (m < x))[q] := by
      rw [Nat.add_sub_cancel, List.getD_eq_getElem?_getD, List.getElem?_eq_getElem hql]
      rfl
    rw [e]
    have hmq := hm _ (List.getElem_mem hql)
    rw [find_filter _ m _ (by omega), ris_find hr hk (List.pairwise_iff_getElem.1 hr q (q + 1) hql hk (by omega)) (fun i hi => by
      rcases Nat.lt_or_ge i q with h | h
      · have := List.pairwise_iff_getElem.1 hr i q (by omega) hql h
        omega
      · have : i = q := by omega
        subst this
        omega)]
theorem abv_end {l : List Int} {m : Int} : abvL l (nextA (setL l) m ((setL l).filter fun x => decide (m < x)).length) = (0, false) := by
  have hr : risL ((setL l).filter fun x => decide (m < x)) := List.Pairwise.filter _ (setL_ris l)
  have hm : ∀ x ∈ (setL l).filter (fun x => decide (m < x)), m < x := fun x hx => by simpa using (List.mem_filter.1 hx).2
  unfold abvL nextA
  by_cases h0 : ((setL l).filter fun x => decide (m < x)).length = 0
  · rw [if_pos h0, find_filter _ m m (Int.le_refl _), List.eq_nil_of_length_eq_zero h0]
    rfl
  · rw [if_neg h0]
    obtain ⟨q, hq⟩ : ∃ q, ((setL l).filter fun x => decide (m < x)).length = q + 1 := ⟨((setL l).filter fun x => decide (m < x)).length - 1, by omega⟩
    have hql : q < ((setL l).filter fun x => decide (m < x)).length := by omega
    have e : ((setL l).filter fun x => decide (m < x)).getD (((setL l).filter fun x => decide (m < x)).length - 1) 0 = ((setL l).filter fun x => decide (m < x))[q] := by
      rw [hq, Nat.add_sub_cancel, List.getD_eq_getElem?_getD, List.getElem?_eq_getElem hql]
      rfl
    rw [e]
    have hmq := hm _ (List.getElem_mem hql)
    rw [find_filter _ m _ (by omega)]
    have : ((setL l).filter fun x => decide (m < x)).find? (fun x => decide (((setL l).filter fun x => decide (m < x))[q] < x)) = none := by
      rw [List.find?_eq_none]
      intro x hx
      obtain ⟨j, hj, rfl⟩ := List.getElem_of_mem hx
      rcases Nat.lt_or_ge j q with h | h
      · have := List.pairwise_iff_getElem.1 hr j q hj hql h
        simp
        omega
      · have : j = q := by omega
        subst this
        simp
    rw [this]
theorem B64.pick {a b : List Int} (is : Bool) (h : B64 a) : B64 (pickL a b is) := fun x hx => h x ((pick_mem _ _ _ _).1 hx).1
theorem B64.or {a b : List Int} (h : B64 a) (h2 : B64 b) : B64 (orL a b) := fun x hx => ((or_mem _ _ _).1 hx).elim (h x) (h2 x)
theorem next_succ {s : List Int} {m : Int} {k : Nat} (hk : k < (s.filter fun x => decide (m < x)).length) : nextA s m (k + 1) = (s.filter fun x => decide (m < x))[k] := by
  unfold nextA
  rw [if_neg (by omega), Nat.add_sub_cancel, List.getD_eq_getElem?_getD, List.getElem?_eq_getElem hk]
  rfl
/-- all but the least number there is -/
theorem told_or {u : List Int} {m : Int} (h : ∀ x ∈ u, m ≤ x) (hn : m ∉ u) : (u.filter fun x => decide (m < x)) = u :=
  List.filter_eq_self.2 fun x hx => by
    have h1 := h x hx
    have h2 : x ≠ m := fun e => hn (e ▸ hx)
    simp
    omega
end Go.Proofs.YthchkhgimnchcaaGreat
