/- Stage 16: reaching: plain mathematics; where a number stands. -/
import Derived.Test.YtlgemfgikdaelaaGraphMathB
namespace Go.Proofs.Ytlgemfgikdaelaa

def stepR (nodes out : List Int) (a : Arc16) : List Int := if inL out a.src && inL nodes a.dst && !inL out a.dst then out ++ [a.dst] else out
def rowR (nodes : List Int) (arcs : List Arc16) (out : List Int) : List Int := arcs.foldl (stepR nodes) out
def itR (nodes : List Int) (arcs : List Arc16) : Nat → List Int → List Int
  | 0, o => o
  | n + 1, o => rowR nodes arcs (itR nodes arcs n o)
def startR (ids frm : List Int) : List Int := (setL ids).filter fun n => inL frm n
def reachL (ids : List Int) (arcs : List Arc16) (frm : List Int) : List Int := setL (itR (setL ids) arcs (setL ids).length (startR ids frm))
theorem rowR_take (nodes : List Int) (arcs : List Arc16) (out : List Int) (k : Nat) (hk : k < arcs.length) : rowR nodes (arcs.take (k + 1)) out = stepR nodes (rowR nodes (arcs.take k) out) arcs[k] := by
  unfold rowR
  rw [List.take_succ_eq_append_getElem hk, List.foldl_append]
  rfl
theorem stepR_told {nodes out : List Int} (h : ToldI nodes out) (a : Arc16) : ToldI nodes (stepR nodes out a) := by
  unfold stepR
  split
  · rename_i hc
    simp only [Bool.and_eq_true, Bool.not_eq_true'] at hc
    obtain ⟨⟨_, h2⟩, h3⟩ := hc
    refine ⟨fun x hx => ?_, List.nodup_append.2 ⟨h.nodup, by simp, fun x hx y hy e => ?_⟩⟩
    · rcases List.mem_append.1 hx with hx | hx
      · exact h.sub x hx
      · rw [List.mem_singleton.1 hx]; exact inL_iff.1 h2
    · rw [List.mem_singleton.1 hy] at e
      exact inL_not.1 h3 (e ▸ hx)
  · exact h
theorem stepR_len (nodes out : List Int) (a : Arc16) : out.length ≤ (stepR nodes out a).length := by
  unfold stepR
  split
  · simp
  · exact Nat.le_refl _
theorem rowR_told {nodes : List Int} : ∀ (arcs : List Arc16) (out : List Int), ToldI nodes out → ToldI nodes (rowR nodes arcs out)
  | [], _, h => h
  | a :: t, _, h => rowR_told t _ (stepR_told h a)
theorem rowR_len (nodes : List Int) : ∀ (arcs : List Arc16) (out : List Int), out.length ≤ (rowR nodes arcs out).length
  | [], _ => Nat.le_refl _
  | a :: t, out => Nat.le_trans (stepR_len nodes out a) (rowR_len nodes t _)
def ClosedR (nodes : List Int) (arcs : List Arc16) (out : List Int) : Prop := ∀ a ∈ arcs, a.src ∈ out → a.dst ∈ nodes → a.dst ∈ out
theorem stepR_same {nodes out : List Int} {a : Arc16} (h : a.src ∈ out → a.dst ∈ nodes → a.dst ∈ out) : stepR nodes out a = out := by
  unfold stepR
  split
  · rename_i hc
    simp only [Bool.and_eq_true, Bool.not_eq_true'] at hc
    exact absurd (h (inL_iff.1 hc.1.1) (inL_iff.1 hc.1.2)) (inL_not.1 hc.2)
  · rfl
theorem rowR_same {nodes : List Int} : ∀ (arcs : List Arc16) (out : List Int), ClosedR nodes arcs out → rowR nodes arcs out = out
  | [], _, _ => rfl
  | a :: t, out, h => by
    unfold rowR
    rw [List.foldl_cons, stepR_same (h a List.mem_cons_self)]
    exact rowR_same t out fun b hb => h b (List.mem_cons_of_mem _ hb)
theorem rowR_closed {nodes : List Int} : ∀ (arcs : List Arc16) (out : List Int), (rowR nodes arcs out).length = out.length → ClosedR nodes arcs out
  | [], _, _ => fun _ h => (by cases h)
  | a :: t, out, h => by
    have h1 := stepR_len nodes out a
    have h2 := rowR_len nodes t (stepR nodes out a)
    have e : rowR nodes (a :: t) out = rowR nodes t (stepR nodes out a) := rfl
    rw [e] at h
    have hs : stepR nodes out a = out := by
      unfold stepR
      split
      · rename_i hc
        unfold stepR at h1 h2 h
        rw [if_pos hc, List.length_append] at h2
        rw [if_pos hc] at h
        simp at h2
        omega
      · rfl
    have hc : a.src ∈ out → a.dst ∈ nodes → a.dst ∈ out := fun hs1 hn => Classical.byContradiction fun hno => by
      unfold stepR at hs
      rw [if_pos (by simp [inL_iff.2 hs1, inL_iff.2 hn, inL_not.2 hno])] at hs
      have := congrArg List.length hs
      simp at this
    rw [hs] at h
    have ih := rowR_closed t out h
    intro b hb
    rcases List.mem_cons.1 hb with rfl | hb
    · exact hc
    · exact ih b hb
theorem itR_told {nodes : List Int} {arcs : List Arc16} {o : List Int} (h : ToldI nodes o) : ∀ n, ToldI nodes (itR nodes arcs n o)
  | 0 => h
  | n + 1 => rowR_told arcs _ (itR_told h n)
theorem itR_same {nodes : List Int} {arcs : List Arc16} {o : List Int} (h : ClosedR nodes arcs o) : ∀ n, itR nodes arcs n o = o
  | 0 => rfl
  | n + 1 => by
    show rowR nodes arcs (itR nodes arcs n o) = o
    rw [itR_same h n]
    exact rowR_same arcs o h
theorem itR_more {nodes : List Int} {arcs : List Arc16} {o : List Int} : ∀ n, ClosedR nodes arcs (itR nodes arcs n o) ∨ o.length + n ≤ (itR nodes arcs n o).length
  | 0 => .inr (Nat.le_refl _)
  | n + 1 => by
    have h1 := rowR_len nodes arcs (itR nodes arcs n o)
    by_cases hc : (rowR nodes arcs (itR nodes arcs n o)).length = (itR nodes arcs n o).length
    · have hcl := rowR_closed arcs _ hc
      left
      show ClosedR nodes arcs (rowR nodes arcs (itR nodes arcs n o))
      rwa [rowR_same arcs _ hcl]
    · rcases itR_more (nodes := nodes) (arcs := arcs) (o := o) n with h | h
      · rw [rowR_same arcs _ h] at hc
        exact absurd rfl hc
      · right
        show _ ≤ (rowR nodes arcs (itR nodes arcs n o)).length
        omega
theorem itR_closed {nodes : List Int} {arcs : List Arc16} {o : List Int} (h : ToldI nodes o) : ClosedR nodes arcs (itR nodes arcs nodes.length o) := by
  rcases itR_more (nodes := nodes) (arcs := arcs) (o := o) nodes.length with h1 | h1
  · exact h1
  · have h2 := (itR_told (arcs := arcs) h nodes.length).len
    have h3 : o = [] := List.eq_nil_of_length_eq_zero (by omega)
    subst h3
    have h4 : ClosedR nodes arcs [] := fun a _ hs => (by cases hs)
    rw [itR_same h4]
    exact h4
theorem startR_told (ids frm : List Int) : ToldI (setL ids) (startR ids frm) := ⟨fun _ h => (List.mem_filter.1 h).1, (setL_ris ids).nodup.filter _⟩
/-- what is reached from what is reached is that -/
theorem reach_again (ids : List Int) (arcs : List Arc16) (frm : List Int) : reachL ids arcs (reachL ids arcs frm) = reachL ids arcs frm := by
  have ht := itR_told (arcs := arcs) (startR_told ids frm) (setL ids).length
  have hc := itR_closed (arcs := arcs) (startR_told ids frm)
  have hm : ∀ x, x ∈ reachL ids arcs frm ↔ x ∈ itR (setL ids) arcs (setL ids).length (startR ids frm) := fun x => setL_mem _ x
  have hr : risL (reachL ids arcs frm) := setL_ris _
  have hs : startR ids (reachL ids arcs frm) = reachL ids arcs frm := by
    refine risL.eq ?_ hr fun x => ?_
    · exact List.Pairwise.filter _ (setL_ris ids)
    · unfold startR
      rw [List.mem_filter, inL_iff]
      exact ⟨fun h => h.2, fun h => ⟨ht.sub x ((hm x).1 h), h⟩⟩
  have hcl : ClosedR (setL ids) arcs (reachL ids arcs frm) := fun a ha h1 h2 => (hm _).2 (hc a ha ((hm _).1 h1) h2)
  have e : reachL ids arcs (reachL ids arcs frm) = setL (itR (setL ids) arcs (setL ids).length (startR ids (reachL ids arcs frm))) := rfl
  rw [e, hs, itR_same hcl, setL_self hr]

/-! ### How great levels are -/
theorem lvA_le (x : Int) (p : Int × Int) (b : Int) (hp : p.2 + 1 ≤ b) : ∀ (arcs : List Arc16) (m : Int), m ≤ b → lvA arcs x p m ≤ b
  | [], _, h => h
  | a :: t, m, h => by
    have e : lvA (a :: t) x p m = lvA t x p (if a.src = p.1 ∧ a.dst = x then max m (p.2 + 1) else m) := rfl
    rw [e]
    refine lvA_le x p b hp t _ ?_
    split
    · exact Int.max_le.2 ⟨h, hp⟩
    · exact h
theorem lvP_le (arcs : List Arc16) (x : Int) (P : List (Int × Int)) (h : ∀ j (hj : j < P.length), P[j].2 ≤ (j : Int)) : ∀ k, k ≤ P.length → lvP arcs x (P.take k) ≤ (k : Int)
  | 0, _ => by simp [lvP]
  | k + 1, hk => by
    rw [lvP_take _ _ _ _ (by omega)]
    have h1 := lvP_le arcs x P h k (by omega)
    have h2 := h k (by omega)
    exact lvA_le x P[k] _ (by omega) arcs _ (by omega)
theorem levP_le (arcs : List Arc16) (told : List Int) : ∀ j (hj : j < (levP arcs told).length), (levP arcs told)[j].2 ≤ (j : Int) := by
  refine snoc_ind (P := fun told => ∀ j (hj : j < (levP arcs told).length), (levP arcs told)[j].2 ≤ (j : Int)) (fun j hj => by simp [levP] at hj) (fun l x ih => ?_) told
  intro j hj
  have hl := levP_len arcs l
  by_cases hjl : j < (levP arcs l).length
  · have := ih j hjl
    simp only [levP_snoc]
    rw [List.getElem_append_left hjl]
    exact this
  · have hje : j = (levP arcs l).length := by rw [levP_snoc, List.length_append] at hj; simp at hj; omega
    subst hje
    simp only [levP_snoc]
    rw [List.getElem_append_right (Nat.le_refl _)]
    simp only [Nat.sub_self, List.getElem_cons_zero]
    have := lvP_le arcs x (levP arcs l) ih _ (Nat.le_refl _)
    rwa [List.take_length] at this
/-- the levels so far, the one that is reckoned, and zeros -/
def lvRow (P : List (Int × Int)) (n i : Nat) (m : Int) : List Int := (P.take i).map Prod.snd ++ m :: List.replicate (n - i - 1) 0
def lvHead (P : List (Int × Int)) (n i : Nat) : List Int := (P.take i).map Prod.snd ++ List.replicate (n - i) 0
theorem lvHead_row {P : List (Int × Int)} {n i : Nat} (h : i < n) : lvHead P n i = lvRow P n i 0 := by
  unfold lvHead lvRow
  rw [show n - i = (n - i - 1) + 1 by omega, List.replicate_succ]
  rfl
theorem lvRow_len {P : List (Int × Int)} {n i : Nat} (hP : P.length = n) (h : i < n) (m : Int) : (lvRow P n i m).length = n := by
  unfold lvRow
  rw [List.length_append, List.length_map, List.length_take, List.length_cons, List.length_replicate]
  omega
theorem lvRow_set {P : List (Int × Int)} {n i : Nat} (hP : P.length = n) (h : i < n) (m x : Int) : (lvRow P n i m).set i x = lvRow P n i x := by
  unfold lvRow
  have hl : ((P.take i).map Prod.snd).length = i := by rw [List.length_map, List.length_take]; omega
  rw [List.set_append_right _ _ (by omega), hl, Nat.sub_self, List.set_cons_zero]
theorem lvRow_at {P : List (Int × Int)} {n i : Nat} (hP : P.length = n) (h : i < n) (m : Int) : (lvRow P n i m)[i]'(by rw [lvRow_len hP h]; exact h) = m := by
  unfold lvRow
  have hl : ((P.take i).map Prod.snd).length = i := by rw [List.length_map, List.length_take]; omega
  rw [List.getElem_append_right (by omega)]
  simp only [hl, Nat.sub_self, List.getElem_cons_zero]
theorem lvRow_old {P : List (Int × Int)} {n i : Nat} (hP : P.length = n) (h : i < n) (m : Int) (k : Nat) (hk : k < i) : (lvRow P n i m)[k]'(by rw [lvRow_len hP h]; omega) = (P[k]'(by omega)).2 := by
  unfold lvRow
  have hl : ((P.take i).map Prod.snd).length = i := by rw [List.length_map, List.length_take]; omega
  rw [List.getElem_append_left (by omega), List.getElem_map, List.getElem_take]
theorem lvRow_next {P : List (Int × Int)} {n i : Nat} (hP : P.length = n) (h : i < n) : lvRow P n i (P[i]'(by omega)).2 = lvHead P n (i + 1) := by
  unfold lvRow lvHead
  rw [List.take_succ_eq_append_getElem (by omega), List.map_append, show n - (i + 1) = n - i - 1 by omega, List.append_assoc]
  rfl
theorem lvHead_all {P : List (Int × Int)} {n : Nat} (hP : P.length = n) : lvHead P n n = P.map Prod.snd := by
  unfold lvHead
  rw [List.take_of_length_le (by omega), Nat.sub_self]
  simp

/-! ### Where a number stands -/
def plcL (l : List Int) (n : Int) : Int := if n ∈ l then ((l.idxOf n : Nat) : Int) else -1
theorem plc_found {l : List Int} {n : Int} {k : Nat} (hk : k < l.length) (he : l[k] = n) (hno : n ∉ l.take k) : plcL l n = k := by
  unfold plcL
  rw [if_pos (he ▸ List.getElem_mem hk)]
  have h1 : l.idxOf n = k := by
    have e : l = l.take k ++ l[k] :: l.drop (k + 1) := by rw [← List.drop_eq_getElem_cons hk, List.take_append_drop]
    have h2 : (l.take k ++ l[k] :: l.drop (k + 1)).idxOf n = (l.take k).length + (l[k] :: l.drop (k + 1)).idxOf n := by
      rw [List.idxOf_append, if_neg hno]
      omega
    rw [← e] at h2
    rw [h2, he, List.idxOf_cons_self, List.length_take]
    omega
  rw [h1]
theorem plc_none {l : List Int} {n : Int} (h : n ∉ l) : plcL l n = -1 := if_neg h
theorem plc_ge {l : List Int} {n : Int} : 0 ≤ plcL l n ↔ n ∈ l := by
  unfold plcL
  split <;> rename_i h
  · exact ⟨fun _ => h, fun _ => by omega⟩
  · exact ⟨fun h2 => by omega, fun h2 => absurd h2 h⟩
theorem plc_at {l : List Int} {n : Int} (h : n ∈ l) : plcL l n = ((l.idxOf n : Nat) : Int) ∧ l.idxOf n < l.length ∧ l[l.idxOf n]? = some n := by
  refine ⟨if_pos h, List.idxOf_lt_length_of_mem h, ?_⟩
  rw [List.getElem?_eq_getElem (List.idxOf_lt_length_of_mem h), List.getElem_idxOf]
end Go.Proofs.Ytlgemfgikdaelaa
