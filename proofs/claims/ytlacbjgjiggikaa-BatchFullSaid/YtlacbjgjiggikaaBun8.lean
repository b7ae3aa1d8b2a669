/- Texts of this proof, joined: GraphMathC; HeapMath; GrMath; MapN; MapB. -/
import Derived.Test.YtlacbjgjiggikaaBun7
import Derived.Test.YtlacbjgjiggikaaRows
/- Stage 16: reaching: plain mathematics; where a number stands. -/
namespace Go.Proofs.Ytlacbjgjiggikaa

def stepR (nodes out : List Int) (a : Arc16) : List Int := if inL out a.src && inL nodes a.dst && !inL out a.dst then out ++ [a.dst] else out
def rowR (nodes : List Int) (arcs : List Arc16) (out : List Int) : List Int := arcs.foldl (stepR nodes) out
def itR (nodes : List Int) (arcs : List Arc16) : Nat → List Int → List Int
  | 0, o => o
  | n + 1, o => rowR nodes arcs (itR nodes arcs n o)
def startR (ids frm : List Int) : List Int := (setL ids).filter fun n => inL frm n
def reachL (ids : List Int) (arcs : List Arc16) (frm : List Int) : List Int := setL (itR (setL ids) arcs (setL ids).length (startR ids frm))
theorem rowR_take (nodes : List Int) (arcs : List Arc16) (out : List Int) (k : Nat) (hk : k < arcs.length) : rowR nodes (arcs.take (k + 1)) out = stepR nodes (rowR nodes (arcs.take k) out) arcs[k] := by
  unfold rowR
  rw [List.take_succ_eq_append_getElem hk, List.foldl_append]
  rfl
theorem stepR_told {nodes out : List Int} (h : ToldI nodes out) (a : Arc16) : ToldI nodes (stepR nodes out a) := by
  unfold stepR
  split
  · rename_i hc
    simp only [Bool.and_eq_true, Bool.not_eq_true'] at hc
    obtain ⟨⟨_, h2⟩, h3⟩ := hc
    refine ⟨fun x hx => ?_, List.nodup_append.2 ⟨h.nodup, by simp, fun x hx y hy e => ?_⟩⟩
    · rcases List.mem_append.1 hx with hx | hx
      · exact h.sub x hx
      · rw [List.mem_singleton.1 hx]; exact inL_iff.1 h2
    · rw [List.mem_singleton.1 hy] at e
      exact inL_not.1 h3 (e ▸ hx)
  · exact h
theorem stepR_len (nodes out : List Int) (a : Arc16) : out.length ≤ (stepR nodes out a).length := by
  unfold stepR
  split
  · simp
  · exact Nat.le_refl _
theorem rowR_told {nodes : List Int} : ∀ (arcs : List Arc16) (out : List Int), ToldI nodes out → ToldI nodes (rowR nodes arcs out)
  | [], _, h => h
  | a :: t, _, h => rowR_told t _ (stepR_told h a)
theorem rowR_len (nodes : List Int) : ∀ (arcs : List Arc16) (out : List Int), out.length ≤ (rowR nodes arcs out).length
  | [], _ => Nat.le_refl _
  | a :: t, out => Nat.le_trans (stepR_len nodes out a) (rowR_len nodes t _)
def ClosedR (nodes : List Int) (arcs : List Arc16) (out : List Int) : Prop := ∀ a ∈ arcs, a.src ∈ out → a.dst ∈ nodes → a.dst ∈ out
theorem stepR_same {nodes out : List Int} {a : Arc16} (h : a.src ∈ out → a.dst ∈ nodes → a.dst ∈ out) : stepR nodes out a = out := by
  unfold stepR
  split
  · rename_i hc
    simp only [Bool.and_eq_true, Bool.not_eq_true'] at hc
    exact absurd (h (inL_iff.1 hc.1.1) (inL_iff.1 hc.1.2)) (inL_not.1 hc.2)
  · rfl
theorem rowR_same {nodes : List Int} : ∀ (arcs : List Arc16) (out : List Int), ClosedR nodes arcs out → rowR nodes arcs out = out
  | [], _, _ => rfl
  | a :: t, out, h => by
    unfold rowR
    rw [List.foldl_cons, stepR_same (h a List.mem_cons_self)]
    exact rowR_same t out fun b hb => h b (List.mem_cons_of_mem _ hb)
theorem rowR_closed {nodes : List Int} : ∀ (arcs : List Arc16) (out : List Int), (rowR nodes arcs out).length = out.length → ClosedR nodes arcs out
  | [], _, _ => fun _ h => (by cases h)
  | a :: t, out, h => by
    have h1 := stepR_len nodes out a
    have h2 := rowR_len nodes t (stepR nodes out a)
    have e : rowR nodes (a :: t) out = rowR nodes t (stepR nodes out a) := rfl
    rw [e] at h
    have hs : stepR nodes out a = out := by
      unfold stepR
      split
      · rename_i hc
        unfold stepR at h1 h2 h
        rw [if_pos hc, List.length_append] at h2
        rw [if_pos hc] at h
        simp at h2
        omega
      · rfl
    have hc : a.src ∈ out → a.dst ∈ nodes → a.dst ∈ out := fun hs1 hn => Classical.byContradiction fun hno => by
      unfold stepR at hs
      rw [if_pos (by simp [inL_iff.2 hs1, inL_iff.2 hn, inL_not.2 hno])] at hs
      have := congrArg List.length hs
      simp at this
    rw [hs] at h
    have ih := rowR_closed t out h
    intro b hb
    rcases List.mem_cons.1 hb with rfl | hb
    · exact hc
    · exact ih b hb
theorem itR_told {nodes : List Int} {arcs : List Arc16} {o : List Int} (h : ToldI nodes o) : ∀ n, ToldI nodes (itR nodes arcs n o)
  | 0 => h
  | n + 1 => rowR_told arcs _ (itR_told h n)
theorem itR_same {nodes : List Int} {arcs : List Arc16} {o : List Int} (h : ClosedR nodes arcs o) : ∀ n, itR nodes arcs n o = o
  | 0 => rfl
  | n + 1 => by
    show rowR nodes arcs (itR nodes arcs n o) = o
    rw [itR_same h n]
    exact rowR_same arcs o h
theorem itR_more {nodes : List Int} {arcs : List Arc16} {o : List Int} : ∀ n, ClosedR nodes arcs (itR nodes arcs n o) ∨ o.length + n ≤ (itR nodes arcs n o).length
  | 0 => .inr (Nat.le_refl _)
  | n + 1 => by
    have h1 := rowR_len nodes arcs (itR nodes arcs n o)
    by_cases hc : (rowR nodes arcs (itR nodes arcs n o)).length = (itR nodes arcs n o).length
    · have hcl := rowR_closed arcs _ hc
      left
      show ClosedR nodes arcs (rowR nodes arcs (itR nodes arcs n o))
      rwa [rowR_same arcs _ hcl]
    · rcases itR_more (nodes := nodes) (arcs := arcs) (o := o) n with h | h
      · rw [rowR_same arcs _ h] at hc
        exact absurd rfl hc
      · right
        show _ ≤ (rowR nodes arcs (itR nodes arcs n o)).length
        omega
theorem itR_closed {nodes : List Int} {arcs : List Arc16} {o : List Int} (h : ToldI nodes o) : ClosedR nodes arcs (itR nodes arcs nodes.length o) := by
  rcases itR_more (nodes := nodes) (arcs := arcs) (o := o) nodes.length with h1 | h1
  · exact h1
  · have h2 := (itR_told (arcs := arcs) h nodes.length).len
    have h3 : o = [] := List.eq_nil_of_length_eq_zero (by omega)
    subst h3
    have h4 : ClosedR nodes arcs [] := fun a _ hs => (by cases hs)
    rw [itR_same h4]
    exact h4
theorem startR_told (ids frm : List Int) : ToldI (setL ids) (startR ids frm) := ⟨fun _ h => (List.mem_filter.1 h).1, (setL_ris ids).nodup.filter _⟩
/-- what is reached from what is reached is that -/
theorem reach_again (ids : List Int) (arcs : List Arc16) (frm : List Int) : reachL ids arcs (reachL ids arcs frm) = reachL ids arcs frm := by
  have ht := itR_told (arcs := arcs) (startR_told ids frm) (setL ids).length
  have hc := itR_closed (arcs := arcs) (startR_told ids frm)
  have hm : ∀ x, x ∈ reachL ids arcs frm ↔ x ∈ itR (setL ids) arcs (setL ids).length (startR ids frm) := fun x => setL_mem _ x
  have hr : risL (reachL ids arcs frm) := setL_ris _
  have hs : startR ids (reachL ids arcs frm) = reachL ids arcs frm := by
    refine risL.eq ?_ hr fun x => ?_
    · exact List.Pairwise.filter _ (setL_ris ids)
    · unfold startR
      rw [List.mem_filter, inL_iff]
      exact ⟨fun h => h.2, fun h => ⟨ht.sub x ((hm x).1 h), h⟩⟩
  have hcl : ClosedR (setL ids) arcs (reachL ids arcs frm) := fun a ha h1 h2 => (hm _).2 (hc a ha ((hm _).1 h1) h2)
  have e : reachL ids arcs (reachL ids arcs frm) = setL (itR (setL ids) arcs (setL ids).length (startR ids (reachL ids arcs frm))) := rfl
  rw [e, hs, itR_same hcl, setL_self hr]

/-! ### How great levels are -/
theorem lvA_le (x : Int) (p : Int × Int) (b : Int) (hp : p.2 + 1 ≤ b) : ∀ (arcs : List Arc16) (m : Int), m ≤ b → lvA arcs x p m ≤ b
  | [], _, h => h
  | a :: t, m, h => by
    have e : lvA (a :: t) x p m = lvA t x p (if a.src = p.1 ∧ a.dst = x then max m (p.2 + 1) else m) := rfl
    rw [e]
    refine lvA_le x p b hp t _ ?_
    split
    · exact Int.max_le.2 ⟨h, hp⟩
    · exact h
theorem lvP_le (arcs : List Arc16) (x : Int) (P : List (Int × Int)) (h : ∀ j (hj : j < P.length), P[j].2 ≤ (j : Int)) : ∀ k, k ≤ P.length → lvP arcs x (P.take k) ≤ (k : Int)
  | 0, _ => by simp [lvP]
  | k + 1, hk => by
    rw [lvP_take _ _ _ _ (by omega)]
    have h1 := lvP_le arcs x P h k (by omega)
    have h2 := h k (by omega)
    exact lvA_le x P[k] _ (by omega) arcs _ (by omega)
theorem levP_le (arcs : List Arc16) (told : List Int) : ∀ j (hj : j < (levP arcs told).length), (levP arcs told)[j].2 ≤ (j : Int) := by
  refine snoc_ind (P := fun told => ∀ j (hj : j < (levP arcs told).length), (levP arcs told)[j].2 ≤ (j : Int)) (fun j hj => by simp [levP] at hj) (fun l x ih => ?_) told
  intro j hj
  have hl := levP_len arcs l
  by_cases hjl : j < (levP arcs l).length
  · have := ih j hjl
    simp only [levP_snoc]
    rw [List.getElem_append_left hjl]
    exact this
  · have hje : j = (levP arcs l).length := by rw [levP_snoc, List.length_append] at hj; simp at hj; omega
    subst hje
    simp only [levP_snoc]
    rw [List.getElem_append_right (Nat.le_refl _)]
    simp only [Nat.sub_self, List.getElem_cons_zero]
    have := lvP_le arcs x (levP arcs l) ih _ (Nat.le_refl _)
    rwa [List.take_length] at this
/-- the levels so far, the one that is reckoned, and zeros -/
def lvRow (P : List (Int × Int)) (n i : Nat) (m : Int) : List Int := (P.take i).map Prod.snd ++ m :: List.replicate (n - i - 1) 0
def lvHead (P : List (Int × Int)) (n i : Nat) : List Int := (P.take i).map Prod.snd ++ List.replicate (n - i) 0
theorem lvHead_row {P : List (Int × Int)} {n i : Nat} (h : i < n) : lvHead P n i = lvRow P n i 0 := by
  unfold lvHead lvRow
  rw [show n - i = (n - i - 1) + 1 by omega, List.replicate_succ]
  rfl
theorem lvRow_len {P : List (Int × Int)} {n i : Nat} (hP : P.length = n) (h : i < n) (m : Int) : (lvRow P n i m).length = n := by
  unfold lvRow
  rw [List.length_append, List.length_map, List.length_take, List.length_cons, List.length_replicate]
  omega
theorem lvRow_set {P : List (Int × Int)} {n i : Nat} (hP : P.length = n) (h : i < n) (m x : Int) : (lvRow P n i m).set i x = lvRow P n i x := by
  unfold lvRow
  have hl : ((P.take i).map Prod.snd).length = i := by rw [List.length_map, List.length_take]; omega
  rw [List.set_append_right _ _ (by omega), hl, Nat.sub_self, List.set_cons_zero]
theorem lvRow_at {P : List (Int × Int)} {n i : Nat} (hP : P.length = n) (h : i < n) (m : Int) : (lvRow P n i m)[i]'(by rw [lvRow_len hP h]; exact h) = m := by
  unfold lvRow
  have hl : ((P.take i).map Prod.snd).length = i := by rw [List.length_map, List.length_take]; omega
  rw [List.getElem_append_right (by omega)]
  simp only [hl, Nat.sub_self, List.getElem_cons_zero]
theorem lvRow_old {P : List (Int × Int)} {n i : Nat} (hP : P.length = n) (h : i < n) (m : Int) (k : Nat) (hk : k < i) : (lvRow P n i m)[k]'(by rw [lvRow_len hP h]; omega) = (P[k]'(by omega)).2 := by
  unfold lvRow
  have hl : ((P.take i).map Prod.snd).length = i := by rw [List.length_map, List.length_take]; omega
  rw [List.getElem_append_left (by omega), List.getElem_map, List.getElem_take]
theorem lvRow_next {P : List (Int × Int)} {n i : Nat} (hP : P.length = n) (h : i < n) : lvRow P n i (P[i]'(by omega)).2 = lvHead P n (i + 1) := by
  unfold lvRow lvHead
  rw [List.take_succ_eq_append_getElem (by omega), List.map_append, show n - (i + 1) = n - i - 1 by omega, List.append_assoc]
  rfl
theorem lvHead_all {P : List (Int × Int)} {n : Nat} (hP : P.length = n) : lvHead P n n = P.map Prod.snd := by
  unfold lvHead
  rw [List.take_of_length_le (by omega), Nat.sub_self]
  simp

/-! ### Where a number stands -/
def plcL (l : List Int) (n : Int) : Int := if n ∈ l then ((l.idxOf n : Nat) : Int) else -1
theorem plc_found {l : List Int} {n : Int} {k : Nat} (hk : k < l.length) (he : l[k] = n) (hno : n ∉ l.take k) : plcL l n = k := by
  unfold plcL
  rw [if_pos (he ▸ List.getElem_mem hk)]
  have h1 : l.idxOf n = k := by
    have e : l = l.take k ++ l[k] :: l.drop (k + 1) := by rw [← List.drop_eq_getElem_cons hk, List.take_append_drop]
    have h2 : (l.take k ++ l[k] :: l.drop (k + 1)).idxOf n = (l.take k).length + (l[k] :: l.drop (k + 1)).idxOf n := by
      rw [List.idxOf_append, if_neg hno]
      omega
    rw [← e] at h2
    rw [h2, he, List.idxOf_cons_self, List.length_take]
    omega
  rw [h1]
theorem plc_none {l : List Int} {n : Int} (h : n ∉ l) : plcL l n = -1 := if_neg h
theorem plc_ge {l : List Int} {n : Int} : 0 ≤ plcL l n ↔ n ∈ l := by
  unfold plcL
  split <;> rename_i h
  · exact ⟨fun _ => h, fun _ => by omega⟩
  · exact ⟨fun h2 => by omega, fun h2 => absurd h2 h⟩
theorem plc_at {l : List Int} {n : Int} (h : n ∈ l) : plcL l n = ((l.idxOf n : Nat) : Int) ∧ l.idxOf n < l.length ∧ l[l.idxOf n]? = some n := by
  refine ⟨if_pos h, List.idxOf_lt_length_of_mem h, ?_⟩
  rw [List.getElem?_eq_getElem (List.idxOf_lt_length_of_mem h), List.getElem_idxOf]
end Go.Proofs.Ytlacbjgjiggikaa
/- Stage 13: rows of things in order: plain mathematics. -/
namespace Go.Proofs.Ytlacbjgjiggikaa

structure Th where
  id : Int
  key : Int
  seq : Int
deriving DecidableEq, Inhabited

def ahead (a b : Th) : Bool := if a.key ≠ b.key then decide (b.key < a.key) else if a.seq ≠ b.seq then decide (a.seq < b.seq) else decide (a.id < b.id)
theorem ahead_iff (a b : Th) : ahead a b = true ↔ b.key < a.key ∨ (a.key = b.key ∧ (a.seq < b.seq ∨ (a.seq = b.seq ∧ a.id < b.id))) := by
  unfold ahead
  by_cases h1 : a.key = b.key
  · rw [if_neg (by simpa using h1)]
    by_cases h2 : a.seq = b.seq
    · rw [if_neg (by simpa using h2), decide_eq_true_iff]
      omega
    · rw [if_pos h2, decide_eq_true_iff]
      omega
  · rw [if_pos h1, decide_eq_true_iff]
    omega
theorem ahead_trans {a b c : Th} (h1 : ahead a b = true) (h2 : ahead b c = true) : ahead a c = true := by
  rw [ahead_iff] at *
  omega
theorem ahead_else {a b : Th} (h : ahead a b = false) (hne : a.id ≠ b.id) : ahead b a = true := by
  have h' : ¬ ahead a b = true := by rw [h]; decide
  rw [ahead_iff] at *
  omega
theorem ahead_irr (a : Th) : ahead a a = false := by
  cases h : ahead a a with
  | false => rfl
  | true => rw [ahead_iff] at h; omega
theorem ahead_asym {a b : Th} (h : ahead a b = true) : ahead b a = false := by
  cases h2 : ahead b a with
  | false => rfl
  | true => rw [ahead_iff] at h h2; omega

/-- what is left without id -/
def dropT (l : List Th) (id : Int) : List Th := l.filter fun x => decide (x.id ≠ id)
theorem dropT_take (l : List Th) (id : Int) (k : Nat) (hk : k < l.length) : dropT (l.take (k + 1)) id = dropT (l.take k) id ++ (if l[k].id = id then [] else [l[k]]) := by
  rw [List.take_succ_eq_append_getElem hk]
  unfold dropT
  rw [List.filter_append]
  congr 1
  by_cases h : l[k].id = id <;> simp [h]
theorem dropT_len (l : List Th) (id : Int) : (dropT l id).length ≤ l.length := List.length_filter_le _ _
theorem dropT_mem (l : List Th) (id : Int) (x : Th) : x ∈ dropT l id ↔ x ∈ l ∧ x.id ≠ id := by simp [dropT]
/-- is there none of it -/
def hasT (l : List Th) (id : Int) : Bool := decide ((dropT l id).length < l.length)
/-- ahead of the first one that it is ahead of -/
def insT (x : Th) : List Th → List Th
  | [] => [x]
  | r :: t => if ahead x r then x :: r :: t else r :: insT x t
theorem insT_len (x : Th) : ∀ l, (insT x l).length = l.length + 1
  | [] => rfl
  | r :: t => by
    unfold insT
    split
    · rfl
    · rw [List.length_cons, insT_len x t, List.length_cons]
theorem insT_mem (x y : Th) : ∀ l, y ∈ insT x l ↔ y = x ∨ y ∈ l
  | [] => by simp [insT]
  | r :: t => by
    unfold insT
    split
    · simp
    · rw [List.mem_cons, insT_mem x y t, List.mem_cons]
      constructor
      · rintro (h | h | h)
        · exact .inr (.inl h)
        · exact .inl h
        · exact .inr (.inr h)
      · rintro (h | h | h)
        · exact .inr (.inl h)
        · exact .inl h
        · exact .inr (.inr h)
def putT (l : List Th) (x : Th) : List Th := insT x (dropT l x.id)
theorem putT_len (l : List Th) (x : Th) : (putT l x).length ≤ l.length + 1 := by
  unfold putT
  rw [insT_len]
  have := dropT_len l x.id
  omega
def fndT (l : List Th) (id : Int) : Th × Bool := match l.find? fun x => decide (x.id = id) with
  | some x => (x, true)
  | none => (⟨0, 0, 0⟩, false)
theorem fndT_head (x : Th) (l : List Th) : fndT (x :: l) x.id = (x, true) := by simp [fndT]

/-- in order -/
def srtT (l : List Th) : Prop := l.Pairwise fun a b => ahead a b = true
theorem srtT_nil : srtT [] := List.Pairwise.nil
theorem srtT_drop {l : List Th} (h : srtT l) (id : Int) : srtT (dropT l id) := List.Pairwise.filter _ h
theorem srtT_ins {l : List Th} {x : Th} (h : srtT l) (hne : ∀ y ∈ l, y.id ≠ x.id) : srtT (insT x l) := by
  induction l with
  | nil => exact List.pairwise_singleton _ _
  | cons r t ih =>
    have h1 := List.pairwise_cons.1 h
    unfold insT
    cases hx : ahead x r with
    | true =>
      refine List.pairwise_cons.2 ⟨fun y hy => ?_, h⟩
      rcases List.mem_cons.1 hy with rfl | hy
      · exact hx
      · exact ahead_trans hx (h1.1 y hy)
    | false =>
      refine List.pairwise_cons.2 ⟨fun y hy => ?_, ih h1.2 fun y hy => hne y (List.mem_cons_of_mem _ hy)⟩
      rcases (insT_mem x y t).1 hy with rfl | hy
      · exact ahead_else hx (Ne.symm (hne r List.mem_cons_self))
      · exact h1.1 y hy
theorem srtT_put {l : List Th} (h : srtT l) (x : Th) : srtT (putT l x) := srtT_ins (srtT_drop h x.id) fun _ hy => ((dropT_mem _ _ _).1 hy).2
theorem srtT_tail {l : List Th} (h : srtT l) (k : Nat) : srtT (l.drop k) := List.Pairwise.sublist (List.drop_sublist k l) h
theorem srtT_next {l : List Th} (h : srtT l) (k : Nat) (hk : k + 1 < l.length) : ahead l[k] l[k + 1] = true := List.pairwise_iff_getElem.1 h k (k + 1) (by omega) hk (by omega)
/-- rows in order of the same things are the same -/
theorem srtT_ids {l : List Th} (h : srtT l) : ∀ a ∈ l, ∀ b ∈ l, ahead a b = false → ahead b a = false → a = b := by
  intro a ha b hb h1 h2
  obtain ⟨i, hi, rfl⟩ := List.getElem_of_mem ha
  obtain ⟨j, hj, rfl⟩ := List.getElem_of_mem hb
  rcases Nat.lt_trichotomy i j with hij | rfl | hij
  · have := List.pairwise_iff_getElem.1 h i j hi hj hij
    rw [h1] at this; cases this
  · rfl
  · have := List.pairwise_iff_getElem.1 h j i hj hi hij
    rw [h2] at this; cases this
end Go.Proofs.Ytlacbjgjiggikaa
/- Stage 16's program: what it keeps of a graph: plain mathematics. -/
namespace Go.Proofs.Ytlacbjgjiggikaa

/-! ### Arrows that count -/
def vaB (nodes : List Int) (a : Arc16) : Bool := inL nodes a.src && inL nodes a.dst
def vaL (nodes : List Int) (arcs : List Arc16) : List Arc16 := arcs.filter (vaB nodes)
/-- to where they lead from it -/
def hdsL (nodes : List Int) (arcs : List Arc16) (n : Int) : List Int := ((vaL nodes arcs).filter fun a => decide (a.src = n)).map Arc16.dst
/-- how many lead to it from those that aren't told -/
def cnA (told : List Int) (n : Int) (l : List Arc16) : Nat := (l.filter fun a => decide (a.dst = n) && !inL told a.src).length
def awL (nodes : List Int) (arcs : List Arc16) (told : List Int) (n : Int) : Nat := cnA told n (vaL nodes arcs)
theorem vaL_take (nodes : List Int) (arcs : List Arc16) (k : Nat) (hk : k < arcs.length) : vaL nodes (arcs.take (k + 1)) = vaL nodes (arcs.take k) ++ (if vaB nodes arcs[k] then [arcs[k]] else []) := by
  unfold vaL
  rw [List.take_succ_eq_append_getElem hk, List.filter_append]
  congr 1
  by_cases h : vaB nodes arcs[k] <;> simp [h]
theorem vaL_len (nodes : List Int) (arcs : List Arc16) : (vaL nodes arcs).length ≤ arcs.length := List.length_filter_le _ _
theorem hdL_len (nodes : List Int) (arcs : List Arc16) (n : Int) : (hdsL nodes arcs n).length ≤ arcs.length := by
  unfold hdsL
  rw [List.length_map]
  exact Nat.le_trans (List.length_filter_le _ _) (vaL_len nodes arcs)
theorem awL_len (nodes : List Int) (arcs : List Arc16) (told : List Int) (n : Int) : awL nodes arcs told n ≤ arcs.length :=
  Nat.le_trans (List.length_filter_le _ _) (vaL_len nodes arcs)
theorem hdL_yes {nodes : List Int} {arcs : List Arc16} {k : Nat} (hk : k < arcs.length) (h : vaB nodes arcs[k] = true) (n : Int) :
    hdsL nodes (arcs.take (k + 1)) n = if n = arcs[k].src then hdsL nodes (arcs.take k) n ++ [arcs[k].dst] else hdsL nodes (arcs.take k) n := by
  unfold hdsL
  rw [vaL_take _ _ _ hk, if_pos h, List.filter_append, List.map_append]
  by_cases hn : n = arcs[k].src
  · rw [if_pos hn]; simp [hn]
  · rw [if_neg hn]; simp [Ne.symm hn]
theorem hdL_not {nodes : List Int} {arcs : List Arc16} {k : Nat} (hk : k < arcs.length) (h : vaB nodes arcs[k] = false) (n : Int) : hdsL nodes (arcs.take (k + 1)) n = hdsL nodes (arcs.take k) n := by
  unfold hdsL
  rw [vaL_take _ _ _ hk, h]
  simp
theorem awL_yes {nodes : List Int} {arcs : List Arc16} {k : Nat} (hk : k < arcs.length) (h : vaB nodes arcs[k] = true) (n : Int) :
    awL nodes (arcs.take (k + 1)) [] n = if n = arcs[k].dst then awL nodes (arcs.take k) [] n + 1 else awL nodes (arcs.take k) [] n := by
  unfold awL cnA
  rw [vaL_take _ _ _ hk, if_pos h, List.filter_append, List.length_append]
  by_cases hn : n = arcs[k].dst
  · rw [if_pos hn]; simp [hn, inL]
  · rw [if_neg hn]; simp [Ne.symm hn]
theorem awL_not {nodes : List Int} {arcs : List Arc16} {k : Nat} (hk : k < arcs.length) (h : vaB nodes arcs[k] = false) (n : Int) : awL nodes (arcs.take (k + 1)) [] n = awL nodes (arcs.take k) [] n := by
  unfold awL cnA
  rw [vaL_take _ _ _ hk, h]
  simp
theorem vaL_mem {nodes : List Int} {arcs : List Arc16} {a : Arc16} : a ∈ vaL nodes arcs ↔ a ∈ arcs ∧ a.src ∈ nodes ∧ a.dst ∈ nodes := by
  unfold vaL vaB
  rw [List.mem_filter, Bool.and_eq_true, inL_iff, inL_iff]
theorem hdL_mem {nodes : List Int} {arcs : List Arc16} {n m : Int} : m ∈ hdsL nodes arcs n ↔ ∃ a ∈ arcs, a.src = n ∧ a.dst = m ∧ n ∈ nodes ∧ m ∈ nodes := by
  unfold hdsL
  rw [List.mem_map]
  constructor
  · rintro ⟨a, h1, h2⟩
    obtain ⟨h3, h4⟩ := List.mem_filter.1 h1
    obtain ⟨h5, h6, h7⟩ := vaL_mem.1 h3
    have h8 : a.src = n := by simpa using h4
    exact ⟨a, h5, h8, h2, h8 ▸ h6, h2 ▸ h7⟩
  · rintro ⟨a, h1, rfl, rfl, h4, h5⟩
    exact ⟨a, List.mem_filter.2 ⟨vaL_mem.2 ⟨h1, h4, h5⟩, by simp⟩, rfl⟩
theorem hdL_none {nodes : List Int} {arcs : List Arc16} {n : Int} (h : n ∉ nodes) : hdsL nodes arcs n = [] := List.eq_nil_iff_forall_not_mem.2 fun m hm => by
  obtain ⟨a, h1, h2, h3, h4, h5⟩ := hdL_mem.1 hm
  exact h h4
theorem free_aw {nodes : List Int} {arcs : List Arc16} {told : List Int} {n : Int} (hn : n ∈ nodes) : freeG nodes arcs told n = true ↔ awL nodes arcs told n = 0 := by
  rw [freeG_iff]
  unfold awL cnA
  rw [List.length_eq_zero_iff, List.filter_eq_nil_iff]
  constructor
  · intro h a ha
    obtain ⟨h1, h2, h3⟩ := vaL_mem.1 ha
    simp only [Bool.and_eq_true, decide_eq_true_eq, Bool.not_eq_true', not_and]
    intro h4
    rw [inL_iff.2 (h a h1 h4 h2)]
    simp
  · intro h a ha h1 h2
    have := h a (vaL_mem.2 ⟨ha, h2, h1 ▸ hn⟩)
    simp only [Bool.and_eq_true, decide_eq_true_eq, Bool.not_eq_true', not_and] at this
    have := this h1
    exact inL_iff.1 (by simpa using this)
theorem cnA_cons (told : List Int) (n : Int) (a : Arc16) (V : List Arc16) : cnA told n (a :: V) = (if a.dst = n ∧ a.src ∉ told then 1 else 0) + cnA told n V := by
  unfold cnA
  by_cases h : a.dst = n ∧ a.src ∉ told
  · rw [if_pos h, List.filter_cons_of_pos (by simp [h.1, inL_not.2 h.2]), List.length_cons]
    omega
  · rw [if_neg h, List.filter_cons_of_neg (by
      simp only [Bool.and_eq_true, decide_eq_true_eq, Bool.not_eq_true', inL_not]
      exact h)]
    omega
theorem count_cons (x n : Int) (a : Arc16) (V : List Arc16) : (((a :: V).filter fun a => decide (a.src = x)).map Arc16.dst).count n = (if a.src = x ∧ a.dst = n then 1 else 0) + ((V.filter fun a => decide (a.src = x)).map Arc16.dst).count n := by
  by_cases h : a.src = x
  · rw [List.filter_cons_of_pos (by simpa using h), List.map_cons, List.count_cons]
    by_cases h2 : a.dst = n
    · rw [if_pos (show (a.dst == n) = true by simpa using h2), if_pos ⟨h, h2⟩]
      omega
    · rw [if_neg (show ¬ (a.dst == n) = true by simpa using h2), if_neg fun e => h2 e.2]
      omega
  · rw [List.filter_cons_of_neg (by simpa using h), if_neg fun e => h e.1]
    omega
theorem cnA_step (told : List Int) (x n : Int) (hx : x ∉ told) : ∀ V : List Arc16, cnA (told ++ [x]) n V + ((V.filter fun a => decide (a.src = x)).map Arc16.dst).count n = cnA told n V
  | [] => rfl
  | a :: V => by
    have ih := cnA_step told x n hx V
    rw [cnA_cons, cnA_cons, count_cons]
    have hm : a.src ∉ told ++ [x] ↔ a.src ∉ told ∧ a.src ≠ x := by simp
    by_cases h1 : a.dst = n
    · by_cases h2 : a.src = x
      · rw [if_neg (fun e => (hm.1 e.2).2 h2), if_pos ⟨h2, h1⟩, if_pos ⟨h1, by rw [h2]; exact hx⟩]
        omega
      · rw [if_neg (c := a.src = x ∧ a.dst = n) (fun e => h2 e.1)]
        by_cases h3 : a.src ∈ told
        · rw [if_neg (fun e => (hm.1 e.2).1 h3), if_neg (fun e => e.2 h3)]
          omega
        · rw [if_pos ⟨h1, hm.2 ⟨h3, h2⟩⟩, if_pos ⟨h1, h3⟩]
          omega
    · rw [if_neg (fun e => h1 e.1), if_neg (fun e => h1 e.2), if_neg (fun e => h1 e.1)]
      omega
theorem aw_step {nodes : List Int} {arcs : List Arc16} {told : List Int} {x : Int} (hx : x ∉ told) (n : Int) : awL nodes arcs (told ++ [x]) n + (hdsL nodes arcs x).count n = awL nodes arcs told n := cnA_step told x n hx _

/-! ### What is counted down -/
/-- what is awaited when the first j of x's heads are gone through -/
def awJ (nodes : List Int) (arcs : List Arc16) (told : List Int) (x : Int) (j : Nat) (n : Int) : Nat := awL nodes arcs told n - ((hdsL nodes arcs x).take j).count n
theorem awJ_zero (nodes : List Int) (arcs : List Arc16) (told : List Int) (x : Int) : awJ nodes arcs told x 0 = awL nodes arcs told := by
  funext n; unfold awJ; simp
theorem awJ_all {nodes : List Int} {arcs : List Arc16} {told : List Int} {x : Int} (hx : x ∉ told) : awJ nodes arcs told x (hdsL nodes arcs x).length = awL nodes arcs (told ++ [x]) := by
  funext n
  unfold awJ
  rw [List.take_length]
  have := aw_step (nodes := nodes) (arcs := arcs) hx n
  omega
theorem awJ_pos {nodes : List Int} {arcs : List Arc16} {told : List Int} {x : Int} (hx : x ∉ told) {j : Nat} (hj : j < (hdsL nodes arcs x).length) : 0 < awJ nodes arcs told x j (hdsL nodes arcs x)[j] := by
  unfold awJ
  have h1 := aw_step (nodes := nodes) (arcs := arcs) hx (hdsL nodes arcs x)[j]
  have h2 : ((hdsL nodes arcs x).take (j + 1)).count (hdsL nodes arcs x)[j] ≤ (hdsL nodes arcs x).count (hdsL nodes arcs x)[j] := (List.take_sublist _ _).count_le _
  rw [List.take_succ_eq_append_getElem hj, List.count_append, List.count_singleton_self] at h2
  omega
theorem awJ_next {nodes : List Int} {arcs : List Arc16} {told : List Int} {x : Int} {j : Nat} (hj : j < (hdsL nodes arcs x).length) (n : Int) :
    awJ nodes arcs told x (j + 1) n = if n = (hdsL nodes arcs x)[j] then awJ nodes arcs told x j n - 1 else awJ nodes arcs told x j n := by
  unfold awJ
  rw [List.take_succ_eq_append_getElem hj, List.count_append]
  by_cases hn : n = (hdsL nodes arcs x)[j]
  · rw [if_pos hn, ← hn, List.count_singleton_self]; omega
  · rw [if_neg hn, List.count_singleton]
    have : ((hdsL nodes arcs x)[j] == n) = false := by simpa using fun e => hn e.symm
    rw [this]
    simp

/-! ### Who is free -/
abbrev th0 (n : Int) : Th := ⟨n, 0, 0⟩
/-- the nodes for which nothing is awaited and that aren't told -/
def frL (nodes : List Int) (A : Int → Nat) (told : List Int) : List Int := nodes.filter fun n => decide (A n = 0) && !inL told n
def frT (nodes : List Int) (A : Int → Nat) (told : List Int) : List Th := (frL nodes A told).map th0
theorem frL_mem {nodes : List Int} {A : Int → Nat} {told : List Int} {n : Int} : n ∈ frL nodes A told ↔ n ∈ nodes ∧ A n = 0 ∧ n ∉ told := by
  unfold frL
  rw [List.mem_filter, Bool.and_eq_true, decide_eq_true_eq, Bool.not_eq_true', inL_not]
theorem frL_ris {nodes : List Int} (h : risL nodes) (A : Int → Nat) (told : List Int) : risL (frL nodes A told) := List.Pairwise.filter _ h
theorem frL_len (nodes : List Int) (A : Int → Nat) (told : List Int) : (frL nodes A told).length ≤ nodes.length := List.length_filter_le _ _
theorem frT_len (nodes : List Int) (A : Int → Nat) (told : List Int) : (frT nodes A told).length ≤ nodes.length := by
  unfold frT; rw [List.length_map]; exact frL_len _ _ _
theorem ahead0 (a b : Int) : ahead (th0 a) (th0 b) = decide (a < b) := by
  unfold ahead
  simp
theorem dropT0 (l : List Int) (x : Int) : dropT (l.map th0) x = (l.filter fun n => decide (n ≠ x)).map th0 := by
  unfold dropT
  rw [List.filter_map]
  rfl
theorem insT0 (x : Int) : ∀ (l : List Int), risL l → x ∉ l → insT (th0 x) (l.map th0) = (l.filter (fun n => decide (n < x)) ++ x :: l.filter fun n => decide (x < n)).map th0
  | [], _, _ => rfl
  | y :: t, h, hx => by
    have h1 := List.pairwise_cons.1 h
    have hxy : x ≠ y := fun e => hx (e ▸ List.mem_cons_self)
    rw [List.map_cons]
    unfold insT
    rw [ahead0]
    by_cases hlt : x < y
    · have e1 : (y :: t).filter (fun n => decide (n < x)) = [] := List.filter_eq_nil_iff.2 fun z hz => by
        rcases List.mem_cons.1 hz with rfl | hz
        · simp; omega
        · have := h1.1 z hz; simp; omega
      have e2 : (y :: t).filter (fun n => decide (x < n)) = y :: t := List.filter_eq_self.2 fun z hz => by
        rcases List.mem_cons.1 hz with rfl | hz
        · simpa using hlt
        · have := h1.1 z hz; simp; omega
      rw [e1, e2, if_pos (by simpa using hlt)]
      rfl
    · rw [if_neg (by simpa using hlt), insT0 x t h1.2 fun hm => hx (List.mem_cons_of_mem _ hm), List.filter_cons_of_pos (by simp; omega), List.filter_cons_of_neg (by simp; omega)]
      rfl
theorem putT0 {l r : List Int} {x : Int} (hl : risL l) (hr : risL r) (h : ∀ n, n ∈ r ↔ n = x ∨ n ∈ l) : putT (l.map th0) (th0 x) = r.map th0 := by
  unfold putT
  have hf : risL (l.filter fun n => decide (n ≠ x)) := List.Pairwise.filter _ hl
  have hx : x ∉ l.filter fun n => decide (n ≠ x) := fun hm => by simpa using (List.mem_filter.1 hm).2
  rw [show (th0 x).id = x from rfl, dropT0, insT0 x _ hf hx]
  have e := insS_is x hf
  rw [← e]
  congr 1
  refine (insS_ris x hf).eq hr fun n => ?_
  rw [insS_mem x n hf, h, List.mem_filter]
  constructor
  · rintro (h1 | h1)
    · exact .inl h1
    · exact .inr h1.1
  · rintro (h1 | h1)
    · exact .inl h1
    · by_cases hn : n = x
      · exact .inl hn
      · exact .inr ⟨h1, by simpa using hn⟩
/-- the first ones of them are put in -/
theorem frT_put {nodes : List Int} (hr : risL nodes) (A : Int → Nat) (i : Nat) (hi : i < nodes.length) (h0 : A nodes[i] = 0) : putT (frT (nodes.take i) A []) (th0 nodes[i]) = frT (nodes.take (i + 1)) A [] := by
  have hrt : ∀ k, risL (nodes.take k) := fun k => List.Pairwise.sublist (List.take_sublist _ _) hr
  refine putT0 (frL_ris (hrt _) _ _) (frL_ris (hrt _) _ _) fun n => ?_
  rw [frL_mem, frL_mem, List.take_succ_eq_append_getElem hi, List.mem_append, List.mem_singleton]
  constructor
  · rintro ⟨h1 | h1, h2, h3⟩
    · exact .inr ⟨h1, h2, h3⟩
    · exact .inl h1
  · rintro (rfl | ⟨h1, h2, h3⟩)
    · exact ⟨.inr rfl, h0, by simp⟩
    · exact ⟨.inl h1, h2, h3⟩
theorem frT_skip {nodes : List Int} (A : Int → Nat) (i : Nat) (hi : i < nodes.length) (h0 : A nodes[i] ≠ 0) : frT (nodes.take i) A [] = frT (nodes.take (i + 1)) A [] := by
  unfold frT frL
  rw [List.take_succ_eq_append_getElem hi, List.filter_append]
  simp [h0]
/-- one that is awaited once less -/
theorem frT_down {nodes : List Int} (hr : risL nodes) {A A' : Int → Nat} {told : List Int} {h : Int} (hh : h ∈ nodes) (hA : ∀ n, A' n = if n = h then A n - 1 else A n) (hp : 0 < A h) (ht : h ∉ told) :
    frT nodes A' told = if A' h = 0 then putT (frT nodes A told) (th0 h) else frT nodes A told := by
  have hAh := hA h
  rw [if_pos rfl] at hAh
  by_cases h0 : A' h = 0
  · rw [if_pos h0]
    refine (putT0 (frL_ris hr _ _) (frL_ris hr _ _) fun n => ?_).symm
    rw [frL_mem, frL_mem, hA]
    by_cases hn : n = h
    · subst hn
      simp [hh, ht]
      omega
    · simp [hn]
  · rw [if_neg h0]
    unfold frT frL
    congr 1
    refine List.filter_congr fun n _ => ?_
    rw [hA]
    by_cases hn : n = h
    · subst hn
      rw [if_pos rfl]
      have e1 : A n - 1 ≠ 0 := by omega
      have e2 : A n ≠ 0 := by omega
      simp [e1, e2]
    · rw [if_neg hn]
/-- the least one is told -/
theorem frT_pop {nodes : List Int} (hr : risL nodes) {A : Int → Nat} {told : List Int} {x : Int} {t : List Int} (h : frL nodes A told = x :: t) : (frT nodes A told).drop 1 = frT nodes A (told ++ [x]) := by
  unfold frT
  rw [h]
  show t.map th0 = _
  have h1 := List.pairwise_cons.1 (h ▸ frL_ris hr A told)
  congr 1
  refine risL.eq h1.2 (frL_ris hr _ _) fun n => ?_
  have hm : n ∈ x :: t ↔ n ∈ nodes ∧ A n = 0 ∧ n ∉ told := by rw [← h]; exact frL_mem
  rw [frL_mem, List.mem_append, List.mem_singleton]
  rw [List.mem_cons] at hm
  constructor
  · intro hn
    obtain ⟨a, b, c⟩ := hm.1 (.inr hn)
    refine ⟨a, b, fun h2 => ?_⟩
    rcases h2 with h2 | rfl
    · exact c h2
    · have := h1.1 _ hn; omega
  · rintro ⟨a, b, c⟩
    rcases hm.2 ⟨a, b, fun h2 => c (.inl h2)⟩ with rfl | h2
    · exact absurd (.inr rfl) c
    · exact h2
theorem next_aw {nodes : List Int} {arcs : List Arc16} {told : List Int} {n : Int} (hn : n ∈ nodes) : nextB nodes arcs told n = (decide (awL nodes arcs told n = 0) && !inL told n) := by
  unfold nextB
  rw [Bool.and_comm]
  congr 1
  cases hf : freeG nodes arcs told n with
  | true => exact (decide_eq_true ((free_aw hn).1 hf)).symm
  | false => exact (decide_eq_false fun h => by rw [(free_aw hn).2 h] at hf; cases hf).symm
theorem frL_next (nodes : List Int) (arcs : List Arc16) (told : List Int) : frL nodes (awL nodes arcs told) told = nodes.filter (nextB nodes arcs told) := by
  unfold frL
  exact List.filter_congr fun n hn => (next_aw hn).symm
/-- who is told next -/
theorem fr_head {nodes : List Int} {arcs : List Arc16} {told : List Int} {x : Int} {t : List Int} (h : frL nodes (awL nodes arcs told) told = x :: t) (f : Nat) :
    ordG nodes arcs (f + 1) told = ordG nodes arcs f (told ++ [x]) ∧ x ∈ nodes ∧ nextB nodes arcs told x = true ∧ x ∉ told := by
  have hm : x ∈ frL nodes (awL nodes arcs told) told := by rw [h]; exact List.mem_cons_self
  obtain ⟨h1, h2, h3⟩ := frL_mem.1 hm
  refine ⟨?_, h1, by rw [next_aw h1, h2, inL_not.2 h3]; rfl, h3⟩
  rw [frL_next] at h
  have e : nodes.find? (nextB nodes arcs told) = some x := by
    rw [← List.head?_filter, h]
    rfl
  conv => lhs; unfold ordG
  rw [e]
theorem fr_none {nodes : List Int} {arcs : List Arc16} {told : List Int} (h : frL nodes (awL nodes arcs told) told = []) (f : Nat) : ordG nodes arcs f told = told :=
  ordG_end (fun n hn => by
    have := List.eq_nil_iff_forall_not_mem.1 (frL_next nodes arcs told ▸ h) n
    rw [List.mem_filter, not_and] at this
    simpa using this hn) f
/-- one that is told is awaited by nobody: its heads are no such -/
theorem head_new {nodes : List Int} {arcs : List Arc16} {told : List Int} {x m : Int} (ho : OrdI nodes arcs told) (hx : x ∈ nodes) (hb : nextB nodes arcs told x = true) (hm : m ∈ hdsL nodes arcs x) : m ∉ told ++ [x] := by
  obtain ⟨a, h1, h2, h3, h4, h5⟩ := hdL_mem.1 hm
  have ho2 := ho.next hx hb
  intro hin
  obtain ⟨i, hi, e⟩ := List.getElem_of_mem hin
  have h6 := ho2.pre i hi a h1 (h3.trans e.symm) (h2 ▸ hx)
  rw [h2] at h6
  rw [List.length_append] at hi
  simp only [List.length_cons, List.length_nil] at hi
  rw [List.take_append_of_le_length (by omega)] at h6
  have hnt : x ∉ told := by
    unfold nextB at hb
    rw [Bool.and_eq_true, Bool.not_eq_true', inL_not] at hb
    exact hb.1
  exact hnt (List.mem_of_mem_take h6)

/-! ### Levels -/
/-- the level of n when the first j of x's heads are gone through -/
def lvJ (H : List Int) (lx : Int) (j : Nat) (old : Int → Int) (n : Int) : Int := if n ∈ H.take j then max (old n) (lx + 1) else old n
theorem lvJ_zero (H : List Int) (lx : Int) (old : Int → Int) : lvJ H lx 0 old = old := by funext n; unfold lvJ; simp
theorem lvJ_next {H : List Int} {lx : Int} {j : Nat} {old : Int → Int} (hj : j < H.length) (n : Int) :
    lvJ H lx (j + 1) old n = if n = H[j] then max (lvJ H lx j old n) (lx + 1) else lvJ H lx j old n := by
  unfold lvJ
  rw [List.take_succ_eq_append_getElem hj]
  by_cases hn : n = H[j]
  · rw [if_pos hn, if_pos (by rw [List.mem_append, List.mem_singleton]; exact .inr hn)]
    split
    · omega
    · rfl
  · rw [if_neg hn]
    by_cases hm : n ∈ H.take j
    · rw [if_pos hm, if_pos (List.mem_append_left _ hm)]
    · rw [if_neg hm, if_neg (by rw [List.mem_append, List.mem_singleton]; rintro (h | h); exact hm h; exact hn h)]
theorem lvA_one (arcs : List Arc16) (n x lx : Int) : ∀ m, lvA arcs n (x, lx) m = if (∃ a ∈ arcs, a.src = x ∧ a.dst = n) then max m (lx + 1) else m := by
  induction arcs with
  | nil => intro m; simp [lvA]
  | cons a t ih =>
    intro m
    have e : lvA (a :: t) n (x, lx) m = lvA t n (x, lx) (if a.src = x ∧ a.dst = n then max m (lx + 1) else m) := rfl
    rw [e, ih]
    by_cases h1 : a.src = x ∧ a.dst = n
    · rw [if_pos h1, if_pos (show ∃ b ∈ a :: t, b.src = x ∧ b.dst = n from ⟨a, List.mem_cons_self, h1⟩)]
      split
      · omega
      · rfl
    · rw [if_neg h1]
      by_cases h2 : ∃ b ∈ t, b.src = x ∧ b.dst = n
      · rw [if_pos h2]
        obtain ⟨b, hb, h3⟩ := h2
        rw [if_pos ⟨b, List.mem_cons_of_mem _ hb, h3⟩]
      · rw [if_neg h2, if_neg]
        rintro ⟨b, hb, h3⟩
        rcases List.mem_cons.1 hb with rfl | hb
        · exact h1 h3
        · exact h2 ⟨b, hb, h3⟩
def lvG (arcs : List Arc16) (told : List Int) (n : Int) : Int := lvP arcs n (levP arcs told)
theorem lvG_step {nodes : List Int} (arcs : List Arc16) (told : List Int) {x n : Int} (hx : x ∈ nodes) (hn : n ∈ nodes) :
    lvG arcs (told ++ [x]) n = lvJ (hdsL nodes arcs x) (lvG arcs told x) (hdsL nodes arcs x).length (lvG arcs told) n := by
  unfold lvG lvJ
  rw [levP_snoc, List.take_length]
  have e : lvP arcs n (levP arcs told ++ [(x, lvP arcs x (levP arcs told))]) = lvA arcs n (x, lvP arcs x (levP arcs told)) (lvP arcs n (levP arcs told)) := by
    unfold lvP
    rw [List.foldl_append]
    rfl
  rw [e, lvA_one]
  by_cases h : ∃ a ∈ arcs, a.src = x ∧ a.dst = n
  · obtain ⟨a, h1, h2, h3⟩ := h
    rw [if_pos ⟨a, h1, h2, h3⟩, if_pos (hdL_mem.2 ⟨a, h1, h2, h3, hx, hn⟩)]
  · rw [if_neg h, if_neg fun hm => h (by obtain ⟨a, h1, h2, h3, _⟩ := hdL_mem.1 hm; exact ⟨a, h1, h2, h3⟩)]
theorem lvG_bd (arcs : List Arc16) (told : List Int) (n : Int) : 0 ≤ lvG arcs told n ∧ lvG arcs told n ≤ told.length := by
  refine ⟨lvP_nonneg _ _ _, ?_⟩
  have h := lvP_le arcs n (levP arcs told) (levP_le arcs told) _ (Nat.le_refl _)
  rw [List.take_length, levP_len] at h
  exact h
theorem lvG_nil (arcs : List Arc16) (n : Int) : lvG arcs [] n = 0 := rfl
/-- the levels of those that are told -/
def gT (arcs : List Arc16) (told : List Int) (n : Int) : Option Int := if n ∈ told then some (levOf (levP arcs told) n) else none
theorem levOf_snoc (P : List (Int × Int)) (p : Int × Int) (n : Int) : levOf (P ++ [p]) n = if p.1 = n then p.2 else levOf P n := by
  unfold levOf
  rw [List.foldl_append]
  rfl
theorem gT_snoc (arcs : List Arc16) (told : List Int) (x : Int) : gT arcs (told ++ [x]) = fun n => if n = x then some (lvG arcs told x) else gT arcs told n := by
  funext n
  unfold gT lvG
  rw [levP_snoc, levOf_snoc]
  by_cases hn : n = x
  · subst hn; simp
  · rw [if_neg hn, if_neg (Ne.symm hn)]
    by_cases hm : n ∈ told
    · rw [if_pos hm, if_pos (List.mem_append_left _ hm)]
    · rw [if_neg hm, if_neg (by rw [List.mem_append, List.mem_singleton]; rintro (h | h); exact hm h; exact hn h)]
theorem gT_nil (arcs : List Arc16) : gT arcs [] = fun _ => none := by funext n; simp [gT]
theorem gT_some {arcs : List Arc16} {told : List Int} {n : Int} : (gT arcs told n).isSome = inL told n := by
  unfold gT
  by_cases h : n ∈ told
  · rw [if_pos h, inL_iff.2 h]; rfl
  · rw [if_neg h, inL_not.2 h]; rfl

/-! ### Reaching -/
/-- what is gone through: what was reached, and what waits -/
structure RchI (nodes : List Int) (arcs : List Arc16) (frm done wait : List Int) : Prop where
  ti : ToldI nodes done
  inn : ∀ n ∈ done ++ wait, n ∈ nodes → n ∈ itR nodes arcs nodes.length (nodes.filter fun n => inL frm n)
  from_ : ∀ n ∈ frm, n ∈ nodes → n ∈ done ∨ n ∈ wait
  heads : ∀ n ∈ done, ∀ m ∈ hdsL nodes arcs n, m ∈ done ∨ m ∈ wait
theorem rowR_sub {nodes : List Int} : ∀ (arcs : List Arc16) (out : List Int), ∀ n ∈ out, n ∈ rowR nodes arcs out
  | [], _, _, h => h
  | _ :: t, _, n, h => rowR_sub t _ n (by
    unfold stepR
    split
    · exact List.mem_append_left _ h
    · exact h)
theorem itR_sub {nodes : List Int} {arcs : List Arc16} {o : List Int} : ∀ k, ∀ n ∈ o, n ∈ itR nodes arcs k o
  | 0, _, h => h
  | k + 1, n, h => rowR_sub arcs _ n (itR_sub k n h)
theorem stepR_in {nodes out X : List Int} {a : Arc16} (h : ∀ n ∈ out, n ∈ X) (hc : a.src ∈ X → a.dst ∈ nodes → a.dst ∈ X) : ∀ n ∈ stepR nodes out a, n ∈ X := by
  intro n hn
  unfold stepR at hn
  split at hn
  · rename_i hcc
    simp only [Bool.and_eq_true, Bool.not_eq_true'] at hcc
    rcases List.mem_append.1 hn with h1 | h1
    · exact h n h1
    · rw [List.mem_singleton.1 h1]
      exact hc (h _ (inL_iff.1 hcc.1.1)) (inL_iff.1 hcc.1.2)
  · exact h n hn
theorem rowR_in {nodes X : List Int} : ∀ (arcs : List Arc16) (out : List Int), (∀ n ∈ out, n ∈ X) → (∀ a ∈ arcs, a.src ∈ X → a.dst ∈ nodes → a.dst ∈ X) → ∀ n ∈ rowR nodes arcs out, n ∈ X
  | [], _, h, _ => h
  | a :: t, _, h, hc => rowR_in t _ (stepR_in h (hc a List.mem_cons_self)) fun b hb => hc b (List.mem_cons_of_mem _ hb)
theorem itR_in {nodes X : List Int} {arcs : List Arc16} {o : List Int} (h : ∀ n ∈ o, n ∈ X) (hc : ∀ a ∈ arcs, a.src ∈ X → a.dst ∈ nodes → a.dst ∈ X) : ∀ k, ∀ n ∈ itR nodes arcs k o, n ∈ X
  | 0 => h
  | k + 1 => rowR_in arcs _ (itR_in h hc k) hc
theorem start_told {nodes : List Int} (hr : risL nodes) (frm : List Int) : ToldI nodes (nodes.filter fun n => inL frm n) := ⟨fun _ h => (List.mem_filter.1 h).1, hr.nodup.filter _⟩
theorem RchI.start {nodes : List Int} {arcs : List Arc16} {frm : List Int} : RchI nodes arcs frm [] frm :=
  ⟨ToldI.nil _, fun n hn h => itR_sub _ n (List.mem_filter.2 ⟨h, inL_iff.2 (by simpa using hn)⟩), fun n hn _ => .inr hn, fun n hn => (by cases hn)⟩
/-- the last that waits is no node, or was reached -/
theorem RchI.skip {nodes : List Int} {arcs : List Arc16} {frm done wait : List Int} {x : Int} (h : RchI nodes arcs frm done (wait ++ [x])) (hx : x ∉ nodes ∨ x ∈ done) : RchI nodes arcs frm done wait := by
  have key : ∀ m, m ∈ nodes → m ∈ done ∨ m ∈ wait ++ [x] → m ∈ done ∨ m ∈ wait := by
    rintro m hm (h1 | h1)
    · exact .inl h1
    · rcases List.mem_append.1 h1 with h2 | h2
      · exact .inr h2
      · rw [List.mem_singleton.1 h2] at hm ⊢
        rcases hx with hx | hx
        · exact absurd hm hx
        · exact .inl hx
  exact ⟨h.ti, fun n hn => h.inn n (by rcases List.mem_append.1 hn with h1 | h1; exact List.mem_append_left _ h1; exact List.mem_append_right _ (List.mem_append_left _ h1)), fun n hn hm => key n hm (h.from_ n hn hm), fun n hn m hm => key m (by obtain ⟨_, _, _, _, _, h5⟩ := hdL_mem.1 hm; exact h5) (h.heads n hn m hm)⟩
/-- the last that waits is reached -/
theorem RchI.step {nodes : List Int} {arcs : List Arc16} {frm done wait : List Int} {x : Int} (hr : risL nodes) (h : RchI nodes arcs frm done (wait ++ [x])) (hx : x ∈ nodes) (hd : x ∉ done) : RchI nodes arcs frm (done ++ [x]) (wait ++ hdsL nodes arcs x) := by
  have hin : x ∈ itR nodes arcs nodes.length (nodes.filter fun n => inL frm n) := h.inn x (by simp) hx
  have hc := itR_closed (arcs := arcs) (start_told hr frm)
  refine ⟨⟨fun n hn => ?_, List.nodup_append.2 ⟨h.ti.nodup, by simp, fun a ha b hb e => by rw [List.mem_singleton.1 hb] at e; subst e; exact hd ha⟩⟩, fun n hn hm => ?_, fun n hn hm => ?_, fun n hn m hm => ?_⟩
  · rcases List.mem_append.1 hn with h1 | h1
    · exact h.ti.sub n h1
    · rw [List.mem_singleton.1 h1]; exact hx
  · rcases List.mem_append.1 hn with h1 | h1
    · rcases List.mem_append.1 h1 with h2 | h2
      · exact h.inn n (List.mem_append_left _ h2) hm
      · rw [List.mem_singleton.1 h2]; exact hin
    · rcases List.mem_append.1 h1 with h2 | h2
      · exact h.inn n (List.mem_append_right _ (List.mem_append_left _ h2)) hm
      · obtain ⟨a, h3, h4, h5, _, _⟩ := hdL_mem.1 h2
        rw [← h5] at hm ⊢
        exact hc a h3 (h4 ▸ hin) hm
  · rcases h.from_ n hn hm with h1 | h1
    · exact .inl (List.mem_append_left _ h1)
    · rcases List.mem_append.1 h1 with h2 | h2
      · exact .inr (List.mem_append_left _ h2)
      · exact .inl (List.mem_append_right _ h2)
  · rcases List.mem_append.1 hn with h1 | h1
    · rcases h.heads n h1 m hm with h2 | h2
      · exact .inl (List.mem_append_left _ h2)
      · rcases List.mem_append.1 h2 with h3 | h3
        · exact .inr (List.mem_append_left _ h3)
        · exact .inl (List.mem_append_right _ h3)
    · rw [List.mem_singleton.1 h1] at hm
      exact .inr (List.mem_append_right _ hm)
/-- nothing waits any more -/
theorem RchI.done {ids : List Int} {arcs : List Arc16} {frm done : List Int} (h : RchI (setL ids) arcs frm done []) : ∀ x, x ∈ done ↔ x ∈ reachL ids arcs frm := by
  intro x
  unfold reachL startR
  rw [setL_mem]
  constructor
  · intro hx
    exact h.inn x (List.mem_append_left _ hx) (h.ti.sub x hx)
  · refine itR_in (fun n hn => ?_) (fun a ha h1 h2 => ?_) _ x
    · obtain ⟨h1, h2⟩ := List.mem_filter.1 hn
      simpa using h.from_ n (inL_iff.1 h2) h1
    · have := h.heads a.src h1 a.dst (hdL_mem.2 ⟨a, ha, rfl, rfl, h.ti.sub _ h1, h2⟩)
      simpa using this
theorem RchI.len {nodes : List Int} {arcs : List Arc16} {frm done wait : List Int} (h : RchI nodes arcs frm done wait) : done.length ≤ nodes.length := h.ti.len
end Go.Proofs.Ytlacbjgjiggikaa
/- Maps from ints to places (map[int]int): XMapG's laws in plain numbers. -/
namespace Go.Proofs.Ytlacbjgjiggikaa
open Go.RowKit

noncomputable def EI : Elt Try.prog 3 := eltI Try.prog 3 Try.underlying3 fun w => by kernel_rfl
/-- places as ints -/
def gi (g : Int → Option Nat) : Int → Option Int := fun k => (g k).map fun n => (n : Int)
def upd (g : Int → Option Nat) (id : Int) (v : Option Nat) : Int → Option Nat := fun k => if k = id then v else g k
theorem gi_upd (g : Int → Option Nat) (id : Int) (j : Nat) : gi (upd g id (some j)) = updG (gi g) id (some (j : Int)) := by
  funext k
  unfold gi upd updG
  split <;> rfl
theorem gi_del (g : Int → Option Nat) (id : Int) : gi (upd g id none) = updG (gi g) id none := by
  funext k
  unfold gi upd updG
  split <;> rfl
/-- block b is a map of m entries: at each id the place that g tells -/
def MapN (w : World) (b m : Nat) (g : Int → Option Nat) : Prop := MapG EI 3 w b m (gi g)
theorem nat64 {n : Nat} (h : n ≤ 1000000) : I64 (n : Int) := by unfold I64; omega
section
variable {w w' : World} {b m : Nat} {g : Int → Option Nat}
theorem MapN.lt (h : MapN w b m g) : b < w.heap.size := MapG.lt h
theorem MapN.same (h : MapN w b m g) (he : w'.heap[b]? = w.heap[b]?) : MapN w' b m g := MapG.same h he
theorem MapN.kept (h : MapN w b m g) (hb : Below w.heap.size w w') : MapN w' b m g := MapG.kept h hb
theorem MapN.away (h : MapN w b m g) (a : Addr) (u : Value) (hne : b ≠ a.block) : MapN (w.setCell a u) b m g := MapG.away h a u hne
theorem MapN.grown {row : Option Nat} (h : MapN w b m g) (hg : w.grownBy w' row) (hne : some b ≠ row) : MapN w' b m g := MapG.grown h hg hne
theorem MapN.drew (h : MapN w b m g) : MapN w.drew b m g := MapG.same h rfl
theorem MapN.new (w : World) : MapN (w.alloc (.map #[] 0)) w.heap.size 0 (fun _ => none) := MapG.new w
theorem MapN.ne_cell {a : Addr} {u : Value} (h : MapN w b m g) (hk : w.cell? a = some u) : b ≠ a.block := MapG.ne_cell h hk
variable {ops : Array Oper} {rest : List Oper} {o : Oper} {a : Act} {Q : Exit → Act → World → Prop}
theorem gi_isSome (id : Int) : Option.isSome (α := EI.α) (gi g id) = (g id).isSome := by
  unfold gi
  cases g id <;> rfl
theorem gi_getD (id : Int) : EI.val (Option.getD (α := EI.α) (gi g id) EI.z) = .int .i64 (((g id).getD 0 : Nat) : Int) := by
  unfold gi
  cases g id <;> rfl
theorem wpList_lookN (hg : o.guard = none) (mo x : Operand) (hop : o.op = Op.lookup 39 mo x true)
    (hm : a.eval mo = .map (some b)) (h : MapN w b m g) (id : Int) (hi : I64 id) (hx : a.eval x = .int .i64 id)
    (hK : wpList Try.prog ops Q rest (a.put o.dst (.tuple #[.int .i64 (((g id).getD 0 : Nat) : Int), .bool (g id).isSome])) w) : wpList Try.prog ops Q (o :: rest) a w := by
  refine wpList_lookG2 (E := EI) hg mo x 39 hop Try.underlying3 Try.underlying39 hm h id hi hx ?_
  rw [gi_isSome, gi_getD]
  exact hK
theorem wpList_putN (hg : o.guard = none) (hd : o.dst = none) (mo x vo : Operand) (hop : o.op = Op.mapUpdate 39 mo x vo)
    (hm : a.eval mo = .map (some b)) (h : MapN w b m g) (hn : m ≤ 1000000) (id : Int) (hi : I64 id) (hx : a.eval x = .int .i64 id) (j : Nat) (hj : j ≤ 1000000) (hv : a.eval vo = .int .i64 (j : Int))
    (hK : ∀ w', MapN w' b (if (g id).isSome then m else m + 1) (upd g id (some j)) → w.grownBy w' (some b) → wpList Try.prog ops Q rest a w') : wpList Try.prog ops Q (o :: rest) a w := by
  refine wpList_putG (E := EI) hg mo x vo 39 hop Try.underlying3 Try.underlying39 hm h (by unfold maxLen; omega) id hi hx (show EI.α from (j : Int)) (nat64 hj) hv fun w' h1 h2 => by
    rw [hd]
    refine hK w' ?_ h2
    rw [gi_isSome] at h1
    unfold MapN
    rw [gi_upd]
    exact h1
theorem wpList_delN (hg : o.guard = none) (hd : o.dst = none) (mo x : Operand) (hop : o.op = Op.call { callee := Callee.builtin Builtin.delete, args := #[mo, x], argTypes := #[39, 3] })
    (hm : a.eval mo = .map (some b)) (h : MapN w b m g) (id : Int) (hi : I64 id) (hx : a.eval x = .int .i64 id)
    (hK : ∀ w', MapN w' b (if (g id).isSome then m - 1 else m) (upd g id none) → w.grownBy w' (some b) → wpList Try.prog ops Q rest a w') : wpList Try.prog ops Q (o :: rest) a w := by
  refine wpList_delG (E := EI) hg mo x 39 hop Try.underlying3 Try.underlying39 hm h id hi hx fun w' h1 h2 => by
    rw [hd]
    refine hK w' ?_ h2
    rw [gi_isSome] at h1
    unfold MapN
    rw [gi_del]
    exact h1
theorem wpList_lenN (hg : o.guard = none) (mo : Operand) (hop : o.op = Op.call { callee := Callee.builtin Builtin.len, args := #[mo], argTypes := #[39] })
    (hm : a.eval mo = .map (some b)) (h : MapN w b m g) (hK : wpList Try.prog ops Q rest (a.put o.dst (.int .i64 m)) w) : wpList Try.prog ops Q (o :: rest) a w :=
  wpList_lenG (E := EI) hg mo 39 hop Try.underlying39 hm h hK
theorem MapN.look (h : MapN w b m g) {id : Int} (hi : I64 id) : (Instr.lookup 39 (.map (some b)) (.int .i64 id) true).run Try.prog w = .ok (.tuple #[.int .i64 (((g id).getD 0 : Nat) : Int), .bool (g id).isSome]) w := by
  have := MapG.look h Try.underlying3 Try.underlying39 hi
  rwa [gi_isSome, gi_getD] at this
theorem MapN.look1 (h : MapN w b m g) {id : Int} (hi : I64 id) : (Instr.lookup 39 (.map (some b)) (.int .i64 id) false).run Try.prog w = .ok (.int .i64 (((g id).getD 0 : Nat) : Int)) w := by
  have := MapG.look1 h Try.underlying3 Try.underlying39 hi
  rwa [gi_getD] at this
end
end Go.Proofs.Ytlacbjgjiggikaa
/- Maps from ints to bools (map[int]bool): XMapG's laws in plain words. FOR ALL LATER STAGES (without XMapI's map[int]int). -/
namespace Go.Proofs.Ytlacbjgjiggikaa
open Go.RowKit Go.Maps

/-- what a store does, as an equation of its run -/
theorem MapG.stored {P : Program} {kt e : TypeId} {E : Elt P e} {w : World} {b m : Nat} {g : Int → Option E.α} (h : MapG E kt w b m g) (hk : P.underlying kt = some (.int .i64)) {t : TypeId} (ht : P.underlying t = some (.map kt e)) (hn : m < maxLen) {id : Int} (hi : I64 id) (y : E.α) (hy : E.ok y) :
    ∃ w', (Instr.mapUpdate t (.map (some b)) (.int .i64 id) (E.val y)).run P w = .ok () w' ∧ MapG E kt w' b (if (g id).isSome then m else m + 1) (updG g id (some y)) ∧ w.grownBy w' (some b) := by
  obtain ⟨D, h1, h2, h3⟩ := h
  obtain ⟨w', hrun, h4, h5⟩ := h1.store (int_keyed hk) ht hn (keyOf_int_mk hk hi.wf) (E.out y hy)
  have htidy := h1.tidy (int_keyed hk)
  have hsz := Maps.size_put (k := Lit.int .i64 id) htidy (E.enc y)
  have hh : Maps.has D (.int .i64 id) = (g id).isSome := by
    have := h3 id hi
    cases hgi : g id with
    | none => rw [hgi] at this; exact this
    | some y => rw [hgi] at this; exact this.1
  rw [hh, h2] at hsz
  refine ⟨w', hrun, ⟨D.put (.int .i64 id) (E.enc y), ?_, hsz, fun k hkk => ?_⟩, h5.grown⟩
  · obtain ⟨es, clock, r1, r2, r3, r4⟩ := h4
    refine ⟨es, clock, r1, r2, ?_, r4⟩
    rw [← hsz, r4]
    simp [Maps.size, length_sorted]
  · by_cases ek : k = id
    · subst ek
      rw [updG_same]
      exact ⟨Maps.has_put_same (k := Lit.int .i64 k) htidy.isMap trivial _, fun z => Maps.atKey_put_same (k := Lit.int .i64 k) htidy.isMap trivial _ z⟩
    · rw [updG_other _ _ ek]
      have := h3 k hkk
      cases hgk : g k with
      | none =>
        rw [hgk] at this
        show Maps.has _ _ = false
        rw [Maps.has_put_other (kl_ne ek)]
        exact this
      | some y2 =>
        rw [hgk] at this
        refine ⟨?_, fun z => ?_⟩
        · rw [Maps.has_put_other (kl_ne ek)]; exact this.1
        · rw [Maps.atKey_put_other (kl_ne ek)]; exact this.2 z

def readB : Value → Option (DataW Unit × List MemPlace)
  | .bool b => some (.lit (.bool b), [])
  | _ => none
noncomputable def EB : Elt Try.prog 4 where
  α := Bool
  val := fun x => .bool x
  enc := fun x => .lit (.bool x)
  ok := fun _ => True
  z := false
  R := readB
  out := fun _ _ => rfl
  inv := fun v x ps h => by
    unfold readB at h
    split at h
    · simp only [Option.some.injEq, Prod.mk.injEq, DataW.lit.injEq, Lit.bool.injEq] at h
      rw [h.1]
    · cases h
  okz := trivial
  hz := fun w => by kernel_rfl
def MapB (w : World) (b m : Nat) (g : Int → Option Bool) : Prop := MapG EB 3 w b m g
section
variable {w w' : World} {b m : Nat} {g : Int → Option Bool}
theorem MapB.lt (h : MapB w b m g) : b < w.heap.size := MapG.lt h
theorem MapB.same (h : MapB w b m g) (he : w'.heap[b]? = w.heap[b]?) : MapB w' b m g := MapG.same h he
theorem MapB.kept (h : MapB w b m g) (hb : Below w.heap.size w w') : MapB w' b m g := MapG.kept h hb
theorem MapB.away (h : MapB w b m g) (a : Addr) (u : Value) (hne : b ≠ a.block) : MapB (w.setCell a u) b m g := MapG.away h a u hne
theorem MapB.new (w : World) : MapB (w.alloc (.map #[] 0)) w.heap.size 0 (fun _ => none) := MapG.new w
theorem MapB.ne_cell {a : Addr} {u : Value} (h : MapB w b m g) (hk : w.cell? a = some u) : b ≠ a.block := MapG.ne_cell h hk
variable {ops : Array Oper} {rest : List Oper} {o : Oper} {a : Act} {Q : Exit → Act → World → Prop}
end
end Go.Proofs.Ytlacbjgjiggikaa
