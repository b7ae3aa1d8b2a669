/- Stage 16: graphs by definition: plain definitions, with what the walks ask of them. -/
import Derived.Test.YtlgemfgikdaelaaRows
namespace Go.Proofs.Ytlgemfgikdaelaa

structure Arc16 where
  src : Int
  dst : Int
deriving DecidableEq, Inhabited

/-- is it in the list -/
def inL (l : List Int) (n : Int) : Bool := decide (n ∈ l)

/-! ### Set -/
def stepS (x : Int) (s : List Int × Bool) (y : Int) : List Int × Bool :=
  let s1 := if !s.2 && decide (x ≤ y) then (s.1 ++ [x], true) else s
  (if y = x then s1.1 else s1.1 ++ [y], s1.2)
def insP (x : Int) (l : List Int) : List Int × Bool := l.foldl (stepS x) ([], false)
def insS (x : Int) (l : List Int) : List Int := if (insP x l).2 then (insP x l).1 else (insP x l).1 ++ [x]
def setL (l : List Int) : List Int := l.foldl (fun out x => insS x out) []
theorem insP_take (x : Int) (l : List Int) (k : Nat) (hk : k < l.length) : insP x (l.take (k + 1)) = stepS x (insP x (l.take k)) l[k] := by
  unfold insP
  rw [List.take_succ_eq_append_getElem hk, List.foldl_append]
  rfl
theorem setL_take (l : List Int) (k : Nat) (hk : k < l.length) : setL (l.take (k + 1)) = insS l[k] (setL (l.take k)) := by
  unfold setL
  rw [List.take_succ_eq_append_getElem hk, List.foldl_append]
  rfl
theorem stepS_len (x : Int) (s : List Int × Bool) (y : Int) : (stepS x s y).1.length + (if (stepS x s y).2 then 0 else 1) ≤ s.1.length + 1 + (if s.2 then 0 else 1) := by
  unfold stepS
  obtain ⟨a, d⟩ := s
  cases d <;> by_cases h : x ≤ y <;> by_cases h2 : y = x <;> simp [h, h2] <;> omega
theorem insP_len (x : Int) (l : List Int) : ∀ k, (insP x (l.take k)).1.length + (if (insP x (l.take k)).2 then 0 else 1) ≤ k + 1
  | 0 => by simp [insP]
  | k + 1 => by
    have ih := insP_len x l k
    by_cases hk : k < l.length
    · rw [insP_take x l k hk]
      have := stepS_len x (insP x (l.take k)) l[k]
      omega
    · rw [List.take_of_length_le (by omega), ← List.take_of_length_le (show l.length ≤ k by omega)]
      omega
theorem insS_len (x : Int) (l : List Int) : (insS x l).length ≤ l.length + 1 := by
  have h := insP_len x l l.length
  rw [List.take_length] at h
  unfold insS
  split
  · rename_i h2
    rw [if_pos h2] at h
    omega
  · rename_i h2
    rw [if_neg h2] at h
    rw [List.length_append]
    simp
    omega
theorem setL_len (l : List Int) : ∀ k, (setL (l.take k)).length ≤ k
  | 0 => by simp [setL]
  | k + 1 => by
    have ih := setL_len l k
    by_cases hk : k < l.length
    · rw [setL_take l k hk]
      have := insS_len l[k] (setL (l.take k))
      omega
    · rw [List.take_of_length_le (by omega), ← List.take_of_length_le (show l.length ≤ k by omega)]
      omega
theorem setL_le (l : List Int) : (setL l).length ≤ l.length := by
  have := setL_len l l.length
  rwa [List.take_length] at this
/-- rising -/
def risL (l : List Int) : Prop := l.Pairwise fun a b => a < b
theorem foldS_done (x : Int) : ∀ (l a : List Int), (∀ y ∈ l, y ≠ x) → l.foldl (stepS x) (a, true) = (a ++ l, true)
  | [], a, _ => by simp
  | y :: t, a, h => by
    have h1 : stepS x (a, true) y = (a ++ [y], true) := by simp [stepS, h y]
    rw [List.foldl_cons, h1, foldS_done x t _ fun z hz => h z (List.mem_cons_of_mem _ hz), List.append_assoc]
    rfl
theorem foldS (x : Int) : ∀ (l a : List Int), risL l → l.foldl (stepS x) (a, false) = if (∃ y ∈ l, x ≤ y) then (a ++ (l.filter (fun y => decide (y < x)) ++ x :: l.filter (fun y => decide (x < y))), true) else (a ++ l, false)
  | [], a, _ => by simp
  | y :: t, a, hl => by
    have h0 := List.pairwise_cons.1 hl
    rw [List.foldl_cons]
    by_cases hy : x ≤ y
    · have hd : ∀ z ∈ t, z ≠ x := fun z hz => by have := h0.1 z hz; omega
      have e1 : (y :: t).filter (fun y => decide (y < x)) = [] := List.filter_eq_nil_iff.2 fun z hz => by
        rcases List.mem_cons.1 hz with rfl | hz
        · simp; omega
        · have := h0.1 z hz; simp; omega
      have e2 : t.filter (fun y => decide (x < y)) = t := List.filter_eq_self.2 fun z hz => by have := h0.1 z hz; simp; omega
      rw [if_pos ⟨y, List.mem_cons_self, hy⟩, e1, List.nil_append]
      by_cases hyx : y = x
      · subst hyx
        have h1 : stepS y (a, false) y = (a ++ [y], true) := by simp [stepS]
        have e3 : (y :: t).filter (fun z => decide (y < z)) = t := by rw [List.filter_cons_of_neg (by simp), e2]
        rw [h1, foldS_done y t _ hd, e3, List.append_assoc]
        rfl
      · have h1 : stepS x (a, false) y = (a ++ [x] ++ [y], true) := by simp [stepS, hy, hyx]
        have e3 : (y :: t).filter (fun z => decide (x < z)) = y :: t := by rw [List.filter_cons_of_pos (by simp; omega), e2]
        rw [h1, foldS_done x t _ hd, e3]
        simp
    · have h1 : stepS x (a, false) y = (a ++ [y], false) := by
        have : y ≠ x := by omega
        simp [stepS, hy, this]
      rw [h1, foldS x t _ h0.2]
      by_cases hex : ∃ z ∈ t, x ≤ z
      · obtain ⟨z, hz, hxz⟩ := hex
        rw [if_pos ⟨z, hz, hxz⟩, if_pos ⟨z, List.mem_cons_of_mem _ hz, hxz⟩, List.filter_cons_of_pos (by simp; omega), List.filter_cons_of_neg (by simp; omega)]
        simp
      · rw [if_neg hex, if_neg (fun ⟨z, hz, hxz⟩ => by
          rcases List.mem_cons.1 hz with rfl | hz
          · exact hy hxz
          · exact hex ⟨z, hz, hxz⟩)]
        simp
theorem insS_is (x : Int) {l : List Int} (hl : risL l) : insS x l = l.filter (fun y => decide (y < x)) ++ x :: l.filter (fun y => decide (x < y)) := by
  unfold insS insP
  rw [foldS x l [] hl]
  by_cases hex : ∃ z ∈ l, x ≤ z
  · rw [if_pos hex]
    simp
  · rw [if_neg hex]
    have e1 : l.filter (fun y => decide (y < x)) = l := List.filter_eq_self.2 fun z hz => by
      have : ¬ x ≤ z := fun h => hex ⟨z, hz, h⟩
      simp; omega
    have e2 : l.filter (fun y => decide (x < y)) = [] := List.filter_eq_nil_iff.2 fun z hz => by
      have : ¬ x ≤ z := fun h => hex ⟨z, hz, h⟩
      simp; omega
    rw [e1, e2]
    simp
theorem insS_ris (x : Int) {l : List Int} (hl : risL l) : risL (insS x l) := by
  rw [insS_is x hl]
  refine List.pairwise_append.2 ⟨List.Pairwise.filter _ hl, List.pairwise_cons.2 ⟨fun y hy => by simpa using (List.mem_filter.1 hy).2, List.Pairwise.filter _ hl⟩, fun a ha b hb => ?_⟩
  have h1 : a < x := by simpa using (List.mem_filter.1 ha).2
  rcases List.mem_cons.1 hb with rfl | hb
  · exact h1
  · have h2 : x < b := by simpa using (List.mem_filter.1 hb).2
    omega
theorem insS_mem (x a : Int) {l : List Int} (hl : risL l) : a ∈ insS x l ↔ a = x ∨ a ∈ l := by
  rw [insS_is x hl, List.mem_append, List.mem_cons, List.mem_filter, List.mem_filter]
  constructor
  · rintro (h | h | h)
    · exact .inr h.1
    · exact .inl h
    · exact .inr h.1
  · rintro (h | h)
    · exact .inr (.inl h)
    · rcases Int.lt_trichotomy a x with h2 | h2 | h2
      · exact .inl ⟨h, by simpa using h2⟩
      · exact .inr (.inl h2)
      · exact .inr (.inr ⟨h, by simpa using h2⟩)
theorem setL_both (l : List Int) : ∀ k, risL (setL (l.take k)) ∧ ∀ a, a ∈ setL (l.take k) ↔ a ∈ l.take k
  | 0 => by simp [setL, risL]
  | k + 1 => by
    have ih := setL_both l k
    by_cases hk : k < l.length
    · rw [setL_take l k hk]
      refine ⟨insS_ris _ ih.1, fun a => ?_⟩
      rw [insS_mem _ _ ih.1, ih.2, List.take_succ_eq_append_getElem hk, List.mem_append, List.mem_singleton]
      exact or_comm
    · rw [List.take_of_length_le (by omega), ← List.take_of_length_le (show l.length ≤ k by omega)]
      exact ih
theorem setL_ris (l : List Int) : risL (setL l) := by
  have := (setL_both l l.length).1
  rwa [List.take_length] at this
theorem setL_mem (l : List Int) (a : Int) : a ∈ setL l ↔ a ∈ l := by
  have := (setL_both l l.length).2 a
  rwa [List.take_length] at this
theorem risL.nodup {l : List Int} (h : risL l) : l.Nodup := h.imp fun h e => by omega
/-- lists that rise and have the same are the same -/
theorem risL.eq {a b : List Int} (ha : risL a) (hb : risL b) (h : ∀ x, x ∈ a ↔ x ∈ b) : a = b := by
  have hp : a.Perm b := (List.perm_ext_iff_of_nodup ha.nodup hb.nodup).2 h
  exact hp.eq_of_pairwise (fun x y _ _ h1 h2 => by omega) ha hb
theorem setL_self {l : List Int} (h : risL l) : setL l = l := (setL_ris l).eq h fun x => setL_mem l x

/-! ### Order -/
/-- does no arrow lead to it from one that isn't told -/
def freeG (nodes : List Int) (arcs : List Arc16) (told : List Int) (n : Int) : Bool := arcs.all fun a => !(decide (a.dst = n) && inL nodes a.src && !inL told a.src)
theorem freeG_take (nodes : List Int) (arcs : List Arc16) (told : List Int) (n : Int) (k : Nat) (hk : k < arcs.length) : freeG nodes (arcs.take (k + 1)) told n = (freeG nodes (arcs.take k) told n && !(decide (arcs[k].dst = n) && inL nodes arcs[k].src && !inL told arcs[k].src)) := by
  unfold freeG
  rw [List.take_succ_eq_append_getElem hk, List.all_append]
  simp
theorem freeG_no {nodes : List Int} {arcs : List Arc16} {told : List Int} {n : Int} (k : Nat) (hk : k < arcs.length) (h : (decide (arcs[k].dst = n) && inL nodes arcs[k].src && !inL told arcs[k].src) = true) : freeG nodes arcs told n = false := by
  unfold freeG
  rw [List.all_eq_false]
  exact ⟨arcs[k], List.getElem_mem hk, by rw [h]; simp⟩
/-- can it be told next -/
def nextB (nodes : List Int) (arcs : List Arc16) (told : List Int) (n : Int) : Bool := !inL told n && freeG nodes arcs told n
/-- one behind the other, the first that can be -/
def ordG (nodes : List Int) (arcs : List Arc16) : Nat → List Int → List Int
  | 0, told => told
  | f + 1, told => match nodes.find? (nextB nodes arcs told) with
    | none => told
    | some n => ordG nodes arcs f (told ++ [n])
def ordL (ids : List Int) (arcs : List Arc16) : List Int := ordG (setL ids) arcs (setL ids).length []
def leftL (ids : List Int) (arcs : List Arc16) : List Int := (setL ids).filter fun n => !inL (ordL ids arcs) n
/-- told so far: of the nodes, each once -/
structure ToldI (nodes told : List Int) : Prop where
  sub : ∀ n ∈ told, n ∈ nodes
  nodup : told.Nodup
theorem len_of_sub : ∀ (a b : List Int), a.Nodup → (∀ x ∈ a, x ∈ b) → a.length ≤ b.length
  | [], _, _, _ => Nat.zero_le _
  | x :: t, b, hn, hs => by
    have h1 := List.nodup_cons.1 hn
    have hx := hs x List.mem_cons_self
    have h2 := len_of_sub t (b.erase x) h1.2 fun y hy => (List.mem_erase_of_ne (show y ≠ x from fun e => by subst e; exact h1.1 hy)).2 (hs y (List.mem_cons_of_mem _ hy))
    rw [List.length_erase_of_mem hx] at h2
    have := List.length_pos_of_mem hx
    rw [List.length_cons]
    omega
theorem ToldI.len {nodes told : List Int} (h : ToldI nodes told) : told.length ≤ nodes.length := len_of_sub _ _ h.nodup h.sub
theorem ToldI.next {nodes told : List Int} {arcs : List Arc16} {n : Int} (h : ToldI nodes told) (hn : n ∈ nodes) (hb : nextB nodes arcs told n = true) : ToldI nodes (told ++ [n]) := by
  unfold nextB inL at hb
  rw [Bool.and_eq_true] at hb
  have hnt : n ∉ told := by simpa using hb.1
  refine ⟨fun x hx => ?_, ?_⟩
  · rcases List.mem_append.1 hx with hx | hx
    · exact h.sub x hx
    · rw [List.mem_singleton.1 hx]; exact hn
  · exact List.nodup_append.2 ⟨h.nodup, by simp, fun a ha b hb e => by rw [List.mem_singleton.1 hb] at e; subst e; exact hnt ha⟩
theorem ToldI.lt {nodes told : List Int} {arcs : List Arc16} {n : Int} (h : ToldI nodes told) (hn : n ∈ nodes) (hb : nextB nodes arcs told n = true) : told.length < nodes.length := by
  have := (h.next hn hb).len
  rw [List.length_append] at this
  simp at this
  omega
theorem ToldI.nil (nodes : List Int) : ToldI nodes [] := ⟨fun _ h => (by cases h), List.nodup_nil⟩
/-- enough steps -/
theorem ordG_step {nodes told : List Int} {arcs : List Arc16} {n : Int} (i : Nat) (hi : i < nodes.length) (hn : nodes[i] = n) (hpre : ∀ j (h : j < i), nextB nodes arcs told (nodes[j]'(by omega)) = false) (hb : nextB nodes arcs told n = true) (f : Nat) :
    ordG nodes arcs (f + 1) told = ordG nodes arcs f (told ++ [n]) := by
  have : nodes.find? (nextB nodes arcs told) = some n := by
    rw [List.find?_eq_some_iff_getElem]
    exact ⟨hb, i, hi, hn, fun j hj => by rw [hpre j hj]; rfl⟩
  conv => lhs; unfold ordG
  rw [this]
theorem ordG_end {nodes told : List Int} {arcs : List Arc16} (hpre : ∀ n ∈ nodes, nextB nodes arcs told n = false) (f : Nat) : ordG nodes arcs f told = told := by
  cases f with
  | zero => rfl
  | succ f =>
    have : nodes.find? (nextB nodes arcs told) = none := by
      rw [List.find?_eq_none]
      intro n hn h
      rw [hpre n hn] at h
      cases h
    unfold ordG
    rw [this]
end Go.Proofs.Ytlgemfgikdaelaa
