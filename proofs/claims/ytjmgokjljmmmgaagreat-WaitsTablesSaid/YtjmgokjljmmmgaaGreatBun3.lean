/- Texts of this proof, joined: GraphMathB; GraphMathC; FifoRef; SideG. -/
import Derived.Test.YtjmgokjljmmmgaaGreatBun2
/- Stage 16: what orders, levels and reaching keep: plain mathematics. -/
namespace Go.Proofs.YtjmgokjljmmmgaaGreat

/-- in the range of int -/
def B64 (l : List Int) : Prop := ∀ x ∈ l, -9223372036854775808 ≤ x ∧ x ≤ 9223372036854775807
def B64a (l : List Arc16) : Prop := ∀ a ∈ l, (-9223372036854775808 ≤ a.src ∧ a.src ≤ 9223372036854775807) ∧ -9223372036854775808 ≤ a.dst ∧ a.dst ≤ 9223372036854775807
theorem inL_iff {l : List Int} {n : Int} : inL l n = true ↔ n ∈ l := by unfold inL; exact decide_eq_true_iff
theorem inL_not {l : List Int} {n : Int} : inL l n = false ↔ n ∉ l := by unfold inL; exact decide_eq_false_iff_not

/-! ### Order -/
theorem freeG_iff {nodes : List Int} {arcs : List Arc16} {told : List Int} {n : Int} : freeG nodes arcs told n = true ↔ ∀ a ∈ arcs, a.dst = n → a.src ∈ nodes → a.src ∈ told := by
  unfold freeG
  rw [List.all_eq_true]
  constructor
  · intro h a ha h1 h2
    have := h a ha
    refine Classical.byContradiction fun hn => ?_
    simp [h1, inL_iff.2 h2, inL_not.2 hn] at this
  · intro h a ha
    by_cases h1 : a.dst = n
    · by_cases h2 : a.src ∈ nodes
      · simp [inL_iff.2 (h a ha h1 h2)]
      · simp [inL_not.2 h2]
    · simp [h1]
structure OrdI (nodes : List Int) (arcs : List Arc16) (told : List Int) : Prop where
  ti : ToldI nodes told
  pre : ∀ i (h : i < told.length), ∀ a ∈ arcs, a.dst = told[i] → a.src ∈ nodes → a.src ∈ told.take i
theorem OrdI.nil (nodes : List Int) (arcs : List Arc16) : OrdI nodes arcs [] := ⟨ToldI.nil _, fun i h => absurd h (by simp)⟩
theorem OrdI.next {nodes told : List Int} {arcs : List Arc16} {n : Int} (h : OrdI nodes arcs told) (hn : n ∈ nodes) (hb : nextB nodes arcs told n = true) : OrdI nodes arcs (told ++ [n]) := by
  refine ⟨h.ti.next hn hb, fun i hi a ha h1 h2 => ?_⟩
  by_cases hlt : i < told.length
  · rw [List.getElem_append_left hlt] at h1
    rw [List.take_append_of_le_length (by omega)]
    exact h.pre i hlt a ha h1 h2
  · have : i = told.length := by rw [List.length_append] at hi; simp at hi; omega
    subst this
    rw [List.getElem_append_right (Nat.le_refl _)] at h1
    simp at h1
    rw [List.take_append_of_le_length (Nat.le_refl _), List.take_length]
    unfold nextB at hb
    rw [Bool.and_eq_true] at hb
    exact freeG_iff.1 hb.2 a ha h1 h2
theorem ordG_inv {nodes : List Int} {arcs : List Arc16} : ∀ (f : Nat) (told : List Int), OrdI nodes arcs told → nodes.length - told.length ≤ f → OrdI nodes arcs (ordG nodes arcs f told) ∧ ∀ n ∈ nodes, nextB nodes arcs (ordG nodes arcs f told) n = false
  | 0, told, h, hf => by
    refine ⟨h, fun n hn => ?_⟩
    cases hb : nextB nodes arcs (ordG nodes arcs 0 told) n with
    | false => rfl
    | true =>
      have := h.ti.lt hn (show nextB nodes arcs told n = true from hb)
      omega
  | f + 1, told, h, hf => by
    unfold ordG
    cases hfd : nodes.find? (nextB nodes arcs told) with
    | none =>
      refine ⟨h, fun n hn => ?_⟩
      have := List.find?_eq_none.1 hfd n hn
      simpa using this
    | some n =>
      have hb := List.find?_some hfd
      have hn := List.mem_of_find?_eq_some hfd
      exact ordG_inv f (told ++ [n]) (h.next hn hb) (by rw [List.length_append]; simp; omega)
theorem ordL_inv (ids : List Int) (arcs : List Arc16) : OrdI (setL ids) arcs (ordL ids arcs) ∧ ∀ n ∈ setL ids, nextB (setL ids) arcs (ordL ids arcs) n = false :=
  ordG_inv _ _ (OrdI.nil _ _) (by simp)
theorem left_mem (ids : List Int) (arcs : List Arc16) (n : Int) : n ∈ leftL ids arcs ↔ n ∈ setL ids ∧ n ∉ ordL ids arcs := by
  unfold leftL
  rw [List.mem_filter]
  simp [inL]
theorem filter_in_len : ∀ (a b : List Int), a.Nodup → b.Nodup → (∀ x ∈ b, x ∈ a) → (a.filter fun x => inL b x).length = b.length := fun a b ha hb h => by
  have h1 : (a.filter fun x => inL b x).length ≤ b.length := len_of_sub _ _ (ha.filter _) fun x hx => inL_iff.1 (List.mem_filter.1 hx).2
  have h2 : b.length ≤ (a.filter fun x => inL b x).length := len_of_sub _ _ hb fun x hx => List.mem_filter.2 ⟨h x hx, inL_iff.2 hx⟩
  omega
theorem filter_both {α : Type} (p : α → Bool) : ∀ l : List α, (l.filter p).length + (l.filter fun x => !p x).length = l.length
  | [] => rfl
  | x :: t => by
    have ih := filter_both p t
    cases h : p x with
    | true =>
      rw [List.filter_cons_of_pos h, List.filter_cons_of_neg (by simp [h])]
      simp
      omega
    | false =>
      rw [List.filter_cons_of_neg (by simp [h]), List.filter_cons_of_pos (by simp [h])]
      simp
      omega
theorem snoc_ind {α : Type} {P : List α → Prop} (h0 : P []) (h1 : ∀ l x, P l → P (l ++ [x])) : ∀ l, P l := fun l => by
  have : ∀ r : List α, P r.reverse := fun r => by
    induction r with
    | nil => exact h0
    | cons x t ih => rw [List.reverse_cons]; exact h1 _ _ ih
  have h := this l.reverse
  rwa [List.reverse_reverse] at h
theorem left_len (ids : List Int) (arcs : List Arc16) : (ordL ids arcs).length + (leftL ids arcs).length = (setL ids).length := by
  have h := (ordL_inv ids arcs).1.ti
  have h1 := filter_in_len (setL ids) (ordL ids arcs) (setL_ris ids).nodup h.nodup h.sub
  have h2 := filter_both (fun x => inL (ordL ids arcs) x) (setL ids)
  unfold leftL
  omega
/-- an arrow to one that is told comes from one that was told ahead -/
theorem ord_pre {ids : List Int} {arcs : List Arc16} {a : Arc16} (ha : a ∈ arcs) (hs : a.src ∈ setL ids) {i : Nat} (hi : i < (ordL ids arcs).length) (hd : a.dst = (ordL ids arcs)[i]) : a.src ∈ (ordL ids arcs).take i :=
  (ordL_inv ids arcs).1.pre i hi a ha hd hs
/-- to each that is left an arrow leads from one that is left -/
theorem left_arc {ids : List Int} {arcs : List Arc16} {n : Int} (h : n ∈ leftL ids arcs) : ∃ a ∈ arcs, a.dst = n ∧ a.src ∈ leftL ids arcs := by
  obtain ⟨h1, h2⟩ := (left_mem _ _ _).1 h
  have hb := (ordL_inv ids arcs).2 n h1
  unfold nextB at hb
  rw [inL_not.2 h2] at hb
  have hf : ¬ freeG (setL ids) arcs (ordL ids arcs) n = true := by simpa using hb
  rw [freeG_iff] at hf
  refine Classical.byContradiction fun hn => hf fun a ha hd hs => Classical.byContradiction fun hno => hn ⟨a, ha, hd, (left_mem _ _ _).2 ⟨hs, hno⟩⟩

/-! ### Levels -/
def lvA (arcs : List Arc16) (x : Int) (p : Int × Int) (m : Int) : Int := arcs.foldl (fun m a => if a.src = p.1 ∧ a.dst = x then max m (p.2 + 1) else m) m
def lvP (arcs : List Arc16) (x : Int) (acc : List (Int × Int)) : Int := acc.foldl (fun m p => lvA arcs x p m) 0
def levP (arcs : List Arc16) (told : List Int) : List (Int × Int) := told.foldl (fun acc x => acc ++ [(x, lvP arcs x acc)]) []
def levOf (P : List (Int × Int)) (n : Int) : Int := P.foldl (fun m p => if p.1 = n then p.2 else m) (-1)
def levL (ids : List Int) (arcs : List Arc16) : List Int := (setL ids).map (levOf (levP arcs (ordL ids arcs)))
theorem lvA_take (arcs : List Arc16) (x : Int) (p : Int × Int) (m : Int) (k : Nat) (hk : k < arcs.length) : lvA (arcs.take (k + 1)) x p m = if arcs[k].src = p.1 ∧ arcs[k].dst = x then max (lvA (arcs.take k) x p m) (p.2 + 1) else lvA (arcs.take k) x p m := by
  unfold lvA
  rw [List.take_succ_eq_append_getElem hk, List.foldl_append]
  rfl
theorem lvP_take (arcs : List Arc16) (x : Int) (P : List (Int × Int)) (k : Nat) (hk : k < P.length) : lvP arcs x (P.take (k + 1)) = lvA arcs x P[k] (lvP arcs x (P.take k)) := by
  unfold lvP
  rw [List.take_succ_eq_append_getElem hk, List.foldl_append]
  rfl
theorem levP_take (arcs : List Arc16) (told : List Int) (k : Nat) (hk : k < told.length) : levP arcs (told.take (k + 1)) = levP arcs (told.take k) ++ [(told[k], lvP arcs told[k] (levP arcs (told.take k)))] := by
  unfold levP
  rw [List.take_succ_eq_append_getElem hk, List.foldl_append]
  rfl
theorem levOf_take (P : List (Int × Int)) (n : Int) (k : Nat) (hk : k < P.length) : levOf (P.take (k + 1)) n = if P[k].1 = n then P[k].2 else levOf (P.take k) n := by
  unfold levOf
  rw [List.take_succ_eq_append_getElem hk, List.foldl_append]
  rfl
theorem levP_snoc (arcs : List Arc16) (told : List Int) (x : Int) : levP arcs (told ++ [x]) = levP arcs told ++ [(x, lvP arcs x (levP arcs told))] := by
  unfold levP
  rw [List.foldl_append]
  rfl
theorem levP_fst (arcs : List Arc16) (told : List Int) : (levP arcs told).map Prod.fst = told := by
  refine snoc_ind (P := fun told => (levP arcs told).map Prod.fst = told) rfl (fun l x ih => ?_) told
  rw [levP_snoc, List.map_append, ih]
  rfl
theorem levP_len (arcs : List Arc16) (told : List Int) : (levP arcs told).length = told.length := by
  have := congrArg List.length (levP_fst arcs told)
  simpa using this
/-- a front of the levels is the front's -/
theorem levP_front (arcs : List Arc16) (told : List Int) : ∀ k, k ≤ told.length → (levP arcs told).take k = levP arcs (told.take k) := by
  refine snoc_ind (P := fun told => ∀ k, k ≤ told.length → (levP arcs told).take k = levP arcs (told.take k)) (fun k _ => by simp [levP]) (fun l x ih => ?_) told
  intro k hk
  rw [levP_snoc]
  by_cases hkl : k ≤ l.length
  · rw [List.take_append_of_le_length (by rw [levP_len]; exact hkl), List.take_append_of_le_length hkl]
    exact ih k hkl
  · have : k = l.length + 1 := by rw [List.length_append] at hk; simp at hk; omega
    subst this
    rw [List.take_of_length_le (by simp [levP_len]), List.take_of_length_le (by simp), levP_snoc]
theorem levP_at (arcs : List Arc16) (told : List Int) (k : Nat) (hk : k < told.length) : (levP arcs told)[k]'(by rw [levP_len]; exact hk) = (told[k], lvP arcs told[k] ((levP arcs told).take k)) := by
  have h1 := levP_front arcs told (k + 1) (by omega)
  rw [levP_take _ _ _ hk, ← levP_front arcs told k (by omega)] at h1
  have h2 : ((levP arcs told).take (k + 1))[k]'(by rw [List.length_take, levP_len]; omega) = (levP arcs told)[k]'(by rw [levP_len]; exact hk) := by rw [List.getElem_take]
  rw [← h2]
  have hlen : ((levP arcs told).take k).length = k := by rw [List.length_take, levP_len]; omega
  simp only [h1]
  rw [List.getElem_append_right (by omega)]
  simp [hlen]
theorem lvA_mono (arcs : List Arc16) (x : Int) (p : Int × Int) : ∀ m, m ≤ lvA arcs x p m := by
  unfold lvA
  induction arcs with
  | nil => intro m; exact Int.le_refl _
  | cons a t ih =>
    intro m
    simp only [List.foldl_cons]
    split
    · exact Int.le_trans (Int.le_max_left _ _) (ih _)
    · exact ih m
theorem lvA_ge {arcs : List Arc16} {x : Int} {p : Int × Int} {a : Arc16} (ha : a ∈ arcs) (h1 : a.src = p.1) (h2 : a.dst = x) : ∀ m, p.2 + 1 ≤ lvA arcs x p m := by
  induction arcs with
  | nil => cases ha
  | cons b t ih =>
    intro m
    have e : lvA (b :: t) x p m = lvA t x p (if b.src = p.1 ∧ b.dst = x then max m (p.2 + 1) else m) := rfl
    rw [e]
    rcases List.mem_cons.1 ha with rfl | hm
    · rw [if_pos ⟨h1, h2⟩]
      exact Int.le_trans (Int.le_max_right _ _) (lvA_mono t x p _)
    · exact ih hm _
theorem lvP_from (arcs : List Arc16) (x : Int) : ∀ (P : List (Int × Int)) (m : Int), m ≤ P.foldl (fun m p => lvA arcs x p m) m
  | [], m => Int.le_refl _
  | p :: t, m => by
    rw [List.foldl_cons]
    exact Int.le_trans (lvA_mono arcs x p m) (lvP_from arcs x t _)
theorem lvP_nonneg (arcs : List Arc16) (x : Int) (P : List (Int × Int)) : 0 ≤ lvP arcs x P := lvP_from arcs x P 0
theorem lvP_ge {arcs : List Arc16} {x : Int} {p : Int × Int} {a : Arc16} (ha : a ∈ arcs) (h1 : a.src = p.1) (h2 : a.dst = x) : ∀ (P : List (Int × Int)), p ∈ P → ∀ m, p.2 + 1 ≤ P.foldl (fun m p => lvA arcs x p m) m
  | [], hp => by cases hp
  | q :: t, hp => fun m => by
    rw [List.foldl_cons]
    rcases List.mem_cons.1 hp with rfl | hm
    · exact Int.le_trans (lvA_ge ha h1 h2 m) (lvP_from arcs x t _)
    · exact lvP_ge ha h1 h2 t hm _
theorem levOf_no : ∀ (P : List (Int × Int)) (n : Int) (m : Int), n ∉ P.map Prod.fst → P.foldl (fun m p => if p.1 = n then p.2 else m) m = m
  | [], _, _, _ => rfl
  | p :: t, n, m, h => by
    rw [List.map_cons, List.mem_cons] at h
    rw [List.foldl_cons, if_neg fun e => h (.inl e.symm)]
    exact levOf_no t n m fun h2 => h (.inr h2)
theorem levOf_at : ∀ (P : List (Int × Int)) (m : Int) (k : Nat) (hk : k < P.length), (P.map Prod.fst).Nodup → P.foldl (fun m p => if p.1 = P[k].1 then p.2 else m) m = P[k].2
  | p :: t, m, 0, _, h => by
    rw [List.map_cons, List.nodup_cons] at h
    rw [List.foldl_cons]
    simp only [List.getElem_cons_zero, if_true]
    exact levOf_no t p.1 p.2 h.1
  | p :: t, m, k + 1, hk, h => by
    rw [List.map_cons, List.nodup_cons] at h
    rw [List.foldl_cons]
    simp only [List.getElem_cons_succ]
    exact levOf_at t _ k (by simpa using hk) h.2
theorem lev_told {ids : List Int} {arcs : List Arc16} {i : Nat} (hi : i < (ordL ids arcs).length) : levOf (levP arcs (ordL ids arcs)) (ordL ids arcs)[i] = lvP arcs (ordL ids arcs)[i] ((levP arcs (ordL ids arcs)).take i) := by
  have h1 := levOf_at (levP arcs (ordL ids arcs)) (-1) i (by rw [levP_len]; exact hi) (by rw [levP_fst]; exact (ordL_inv ids arcs).1.ti.nodup)
  rw [levP_at _ _ _ hi] at h1
  exact h1
theorem lev_no {ids : List Int} {arcs : List Arc16} {n : Int} (h : n ∉ ordL ids arcs) : levOf (levP arcs (ordL ids arcs)) n = -1 := levOf_no _ _ _ (by rw [levP_fst]; exact h)
theorem lev_ge {ids : List Int} {arcs : List Arc16} {n : Int} : 0 ≤ levOf (levP arcs (ordL ids arcs)) n ↔ n ∈ ordL ids arcs := by
  constructor
  · intro h
    refine Classical.byContradiction fun hn => ?_
    rw [lev_no hn] at h
    omega
  · intro h
    obtain ⟨i, hi, rfl⟩ := List.getElem_of_mem h
    rw [lev_told hi]
    exact lvP_nonneg _ _ _
/-- arrows lead to greater levels -/
theorem lev_arc {ids : List Int} {arcs : List Arc16} {a : Arc16} (ha : a ∈ arcs) (hs : a.src ∈ setL ids) (hd : a.dst ∈ ordL ids arcs) :
    levOf (levP arcs (ordL ids arcs)) a.src < levOf (levP arcs (ordL ids arcs)) a.dst ∧ (ordL ids arcs).idxOf a.src < (ordL ids arcs).idxOf a.dst ∧ a.src ∈ ordL ids arcs := by
  obtain ⟨i, hi, hdi⟩ := List.getElem_of_mem hd
  have hp := ord_pre ha hs hi hdi.symm
  obtain ⟨k, hk, hsk⟩ := List.getElem_of_mem hp
  rw [List.length_take] at hk
  rw [List.getElem_take] at hsk
  have hkl : k < (ordL ids arcs).length := by omega
  have hnd := (ordL_inv ids arcs).1.ti.nodup
  refine ⟨?_, ?_, List.mem_of_mem_take hp⟩
  · rw [← hdi, ← hsk, lev_told hi, lev_told hkl]
    have hm : (levP arcs (ordL ids arcs))[k]'(by rw [levP_len]; exact hkl) ∈ (levP arcs (ordL ids arcs)).take i := List.mem_take_iff_getElem.2 ⟨k, by rw [levP_len]; omega, rfl⟩
    have h1 := levP_at arcs _ k hkl
    have := lvP_ge (x := (ordL ids arcs)[i]) ha (by rw [h1]; exact hsk.symm) hdi.symm _ hm 0
    rw [h1] at this
    show _ < lvP _ _ _
    unfold lvP at *
    simp only at this
    omega
  · rw [← hdi, ← hsk, hnd.idxOf_getElem, hnd.idxOf_getElem]
    omega
end Go.Proofs.YtjmgokjljmmmgaaGreat
/- Stage 16: reaching: plain mathematics; where a number stands. -/
namespace Go.Proofs.YtjmgokjljmmmgaaGreat

def stepR (nodes out : List Int) (a : Arc16) : List Int := if inL out a.src && inL nodes a.dst && !inL out a.dst then out ++ [a.dst] else out
def rowR (nodes : List Int) (arcs : List Arc16) (out : List Int) : List Int := arcs.foldl (stepR nodes) out
def itR (nodes : List Int) (arcs : List Arc16) : Nat → List Int → List Int
  | 0, o => o
  | n + 1, o => rowR nodes arcs (itR nodes arcs n o)
def startR (ids frm : List Int) : List Int := (setL ids).filter fun n => inL frm n
def reachL (ids : List Int) (arcs : List Arc16) (frm : List Int) : List Int := setL (itR (setL ids) arcs (setL ids).length (startR ids frm))
theorem rowR_take (nodes : List Int) (arcs : List Arc16) (out : List Int) (k : Nat) (hk : k < arcs.length) : rowR nodes (arcs.take (k + 1)) out = stepR nodes (rowR nodes (arcs.take k) out) arcs[k] := by
  unfold rowR
  rw [List.take_succ_eq_append_getElem hk, List.foldl_append]
  rfl
theorem stepR_told {nodes out : List Int} (h : ToldI nodes out) (a : Arc16) : ToldI nodes (stepR nodes out a) := by
  unfold stepR
  split
  · rename_i hc
    simp only [Bool.and_eq_true, Bool.not_eq_true'] at hc
    obtain ⟨⟨_, h2⟩, h3⟩ := hc
    refine ⟨fun x hx => ?_, List.nodup_append.2 ⟨h.nodup, by simp, fun x hx y hy e => ?_⟩⟩
    · rcases List.mem_append.1 hx with hx | hx
      · exact h.sub x hx
      · rw [List.mem_singleton.1 hx]; exact inL_iff.1 h2
    · rw [List.mem_singleton.1 hy] at e
      exact inL_not.1 h3 (e ▸ hx)
  · exact h
theorem stepR_len (nodes out : List Int) (a : Arc16) : out.length ≤ (stepR nodes out a).length := by
  unfold stepR
  split
  · simp
  · exact Nat.le_refl _
theorem rowR_told {nodes : List Int} : ∀ (arcs : List Arc16) (out : List Int), ToldI nodes out → ToldI nodes (rowR nodes arcs out)
  | [], _, h => h
  | a :: t, _, h => rowR_told t _ (stepR_told h a)
theorem rowR_len (nodes : List Int) : ∀ (arcs : List Arc16) (out : List Int), out.length ≤ (rowR nodes arcs out).length
  | [], _ => Nat.le_refl _
  | a :: t, out => Nat.le_trans (stepR_len nodes out a) (rowR_len nodes t _)
def ClosedR (nodes : List Int) (arcs : List Arc16) (out : List Int) : Prop := ∀ a ∈ arcs, a.src ∈ out → a.dst ∈ nodes → a.dst ∈ out
theorem stepR_same {nodes out : List Int} {a : Arc16} (h : a.src ∈ out → a.dst ∈ nodes → a.dst ∈ out) : stepR nodes out a = out := by
  unfold stepR
  split
  · rename_i hc
    simp only [Bool.and_eq_true, Bool.not_eq_true'] at hc
    exact absurd (h (inL_iff.1 hc.1.1) (inL_iff.1 hc.1.2)) (inL_not.1 hc.2)
  · rfl
theorem rowR_same {nodes : List Int} : ∀ (arcs : List Arc16) (out : List Int), ClosedR nodes arcs out → rowR nodes arcs out = out
  | [], _, _ => rfl
  | a :: t, out, h => by
    unfold rowR
    rw [List.foldl_cons, stepR_same (h a List.mem_cons_self)]
    exact rowR_same t out fun b hb => h b (List.mem_cons_of_mem _ hb)
theorem rowR_closed {nodes : List Int} : ∀ (arcs : List Arc16) (out : List Int), (rowR nodes arcs out).length = out.length → ClosedR nodes arcs out
  | [], _, _ => fun _ h => (by cases h)
  | a :: t, out, h => by
    have h1 := stepR_len nodes out a
    have h2 := rowR_len nodes t (stepR nodes out a)
    have e : rowR nodes (a :: t) out = rowR nodes t (stepR nodes out a) := rfl
    rw [e] at h
    have hs : stepR nodes out a = out := by
      unfold stepR
      split
      · rename_i hc
        unfold stepR at h1 h2 h
        rw [if_pos hc, List.length_append] at h2
        rw [if_pos hc] at h
        simp at h2
        omega
      · rfl
    have hc : a.src ∈ out → a.dst ∈ nodes → a.dst ∈ out := fun hs1 hn => Classical.byContradiction fun hno => by
      unfold stepR at hs
      rw [if_pos (by simp [inL_iff.2 hs1, inL_iff.2 hn, inL_not.2 hno])] at hs
      have := congrArg List.length hs
      simp at this
    rw [hs] at h
    have ih := rowR_closed t out h
    intro b hb
    rcases List.mem_cons.1 hb with rfl | hb
    · exact hc
    · exact ih b hb
theorem itR_told {nodes : List Int} {arcs : List Arc16} {o : List Int} (h : ToldI nodes o) : ∀ n, ToldI nodes (itR nodes arcs n o)
  | 0 => h
  | n + 1 => rowR_told arcs _ (itR_told h n)
theorem itR_same {nodes : List Int} {arcs : List Arc16} {o : List Int} (h : ClosedR nodes arcs o) : ∀ n, itR nodes arcs n o = o
  | 0 => rfl
  | n + 1 => by
    show rowR nodes arcs (itR nodes arcs n o) = o
    rw [itR_same h n]
    exact rowR_same arcs o h
theorem itR_more {nodes : List Int} {arcs : List Arc16} {o : List Int} : ∀ n, ClosedR nodes arcs (itR nodes arcs n o) ∨ o.length + n ≤ (itR nodes arcs n o).length
  | 0 => .inr (Nat.le_refl _)
  | n + 1 => by
    have h1 := rowR_len nodes arcs (itR nodes arcs n o)
    by_cases hc : (rowR nodes arcs (itR nodes arcs n o)).length = (itR nodes arcs n o).length
    · have hcl := rowR_closed arcs _ hc
      left
      show ClosedR nodes arcs (rowR nodes arcs (itR nodes arcs n o))
      rwa [rowR_same arcs _ hcl]
    · rcases itR_more (nodes := nodes) (arcs := arcs) (o := o) n with h | h
      · rw [rowR_same arcs _ h] at hc
        exact absurd rfl hc
      · right
        show _ ≤ (rowR nodes arcs (itR nodes arcs n o)).length
        omega
theorem itR_closed {nodes : List Int} {arcs : List Arc16} {o : List Int} (h : ToldI nodes o) : ClosedR nodes arcs (itR nodes arcs nodes.length o) := by
  rcases itR_more (nodes := nodes) (arcs := arcs) (o := o) nodes.length with h1 | h1
  · exact h1
  · have h2 := (itR_told (arcs := arcs) h nodes.length).len
    have h3 : o = [] := List.eq_nil_of_length_eq_zero (by omega)
    subst h3
    have h4 : ClosedR nodes arcs [] := fun a _ hs => (by cases hs)
    rw [itR_same h4]
    exact h4
theorem startR_told (ids frm : List Int) : ToldI (setL ids) (startR ids frm) := ⟨fun _ h => (List.mem_filter.1 h).1, (setL_ris ids).nodup.filter _⟩
/-- what is reached from what is reached is that -/
theorem reach_again (ids : List Int) (arcs : List Arc16) (frm : List Int) : reachL ids arcs (reachL ids arcs frm) = reachL ids arcs frm := by
  have ht := itR_told (arcs := arcs) (startR_told ids frm) (setL ids).length
  have hc := itR_closed (arcs := arcs) (startR_told ids frm)
  have hm : ∀ x, x ∈ reachL ids arcs frm ↔ x ∈ itR (setL ids) arcs (setL ids).length (startR ids frm) := fun x => setL_mem _ x
  have hr : risL (reachL ids arcs frm) := setL_ris _
  have hs : startR ids (reachL ids arcs frm) = reachL ids arcs frm := by
    refine risL.eq ?_ hr fun x => ?_
    · exact List.Pairwise.filter _ (setL_ris ids)
    · unfold startR
      rw [List.mem_filter, inL_iff]
      exact ⟨fun h => h.2, fun h => ⟨ht.sub x ((hm x).1 h), h⟩⟩
  have hcl : ClosedR (setL ids) arcs (reachL ids arcs frm) := fun a ha h1 h2 => (hm _).2 (hc a ha ((hm _).1 h1) h2)
  have e : reachL ids arcs (reachL ids arcs frm) = setL (itR (setL ids) arcs (setL ids).length (startR ids (reachL ids arcs frm))) := rfl
  rw [e, hs, itR_same hcl, setL_self hr]

/-! ### How great levels are -/
theorem lvA_le (x : Int) (p : Int × Int) (b : Int) (hp : p.2 + 1 ≤ b) : ∀ (arcs : List Arc16) (m : Int), m ≤ b → lvA arcs x p m ≤ b
  | [], _, h => h
  | a :: t, m, h => by
    have e : lvA (a :: t) x p m = lvA t x p (if a.src = p.1 ∧ a.dst = x then max m (p.2 + 1) else m) := rfl
    rw [e]
    refine lvA_le x p b hp t _ ?_
    split
    · exact Int.max_le.2 ⟨h, hp⟩
    · exact h
theorem lvP_le (arcs : List Arc16) (x : Int) (P : List (Int × Int)) (h : ∀ j (hj : j < P.length), P[j].2 ≤ (j : Int)) : ∀ k, k ≤ P.length → lvP arcs x (P.take k) ≤ (k : Int)
  | 0, _ => by simp [lvP]
  | k + 1, hk => by
    rw [lvP_take _ _ _ _ (by omega)]
    have h1 := lvP_le arcs x P h k (by omega)
    have h2 := h k (by omega)
    exact lvA_le x P[k] _ (by omega) arcs _ (by omega)
theorem levP_le (arcs : List Arc16) (told : List Int) : ∀ j (hj : j < (levP arcs told).length), (levP arcs told)[j].2 ≤ (j : Int) := by
  refine snoc_ind (P := fun told => ∀ j (hj : j < (levP arcs told).length), (levP arcs told)[j].2 ≤ (j : Int)) (fun j hj => by simp [levP] at hj) (fun l x ih => ?_) told
  intro j hj
  have hl := levP_len arcs l
  by_cases hjl : j < (levP arcs l).length
  · have := ih j hjl
    simp only [levP_snoc]
    rw [List.getElem_append_left hjl]
    exact this
  · have hje : j = (levP arcs l).length := by rw [levP_snoc, List.length_append] at hj; simp at hj; omega
    subst hje
    simp only [levP_snoc]
    rw [List.getElem_append_right (Nat.le_refl _)]
    simp only [Nat.sub_self, List.getElem_cons_zero]
    have := lvP_le arcs x (levP arcs l) ih _ (Nat.le_refl _)
    rwa [List.take_length] at this
/-- the levels so far, the one that is reckoned, and zeros -/
def lvRow (P : List (Int × Int)) (n i : Nat) (m : Int) : List Int := (P.take i).map Prod.snd ++ m :: List.replicate (n - i - 1) 0
def lvHead (P : List (Int × Int)) (n i : Nat) : List Int := (P.take i).map Prod.snd ++ List.replicate (n - i) 0
theorem lvHead_row {P : List (Int × Int)} {n i : Nat} (h : i < n) : lvHead P n i = lvRow P n i 0 := by
  unfold lvHead lvRow
  rw [show n - i = (n - i - 1) + 1 by omega, List.replicate_succ]
  rfl
theorem lvRow_len {P : List (Int × Int)} {n i : Nat} (hP : P.length = n) (h : i < n) (m : Int) : (lvRow P n i m).length = n := by
  unfold lvRow
  rw [List.length_append, List.length_map, List.length_take, List.length_cons, List.length_replicate]
  omega
theorem lvRow_set {P : List (Int × Int)} {n i : Nat} (hP : P.length = n) (h : i < n) (m x : Int) : (lvRow P n i m).set i x = lvRow P n i x := by
  unfold lvRow
  have hl : ((P.take i).map Prod.snd).length = i := by rw [List.length_map, List.length_take]; omega
  rw [List.set_append_right _ _ (by omega), hl, Nat.sub_self, List.set_cons_zero]
theorem lvRow_at {P : List (Int × Int)} {n i : Nat} (hP : P.length = n) (h : i < n) (m : Int) : (lvRow P n i m)[i]'(by rw [lvRow_len hP h]; exact h) = m := by
  unfold lvRow
  have hl : ((P.take i).map Prod.snd).length = i := by rw [List.length_map, List.length_take]; omega
  rw [List.getElem_append_right (by omega)]
  simp only [hl, Nat.sub_self, List.getElem_cons_zero]
theorem lvRow_old {P : List (Int × Int)} {n i : Nat} (hP : P.length = n) (h : i < n) (m : Int) (k : Nat) (hk : k < i) : (lvRow P n i m)[k]'(by rw [lvRow_len hP h]; omega) = (P[k]'(by omega)).2 := by
  unfold lvRow
  have hl : ((P.take i).map Prod.snd).length = i := by rw [List.length_map, List.length_take]; omega
  rw [List.getElem_append_left (by omega), List.getElem_map, List.getElem_take]
theorem lvRow_next {P : List (Int × Int)} {n i : Nat} (hP : P.length = n) (h : i < n) : lvRow P n i (P[i]'(by omega)).2 = lvHead P n (i + 1) := by
  unfold lvRow lvHead
  rw [List.take_succ_eq_append_getElem (by omega), List.map_append, show n - (i + 1) = n - i - 1 by omega, List.append_assoc]
  rfl
theorem lvHead_all {P : List (Int × Int)} {n : Nat} (hP : P.length = n) : lvHead P n n = P.map Prod.snd := by
  unfold lvHead
  rw [List.take_of_length_le (by omega), Nat.sub_self]
  simp

/-! ### Where a number stands -/
def plcL (l : List Int) (n : Int) : Int := if n ∈ l then ((l.idxOf n : Nat) : Int) else -1
theorem plc_found {l : List Int} {n : Int} {k : Nat} (hk : k < l.length) (he : l[k] = n) (hno : n ∉ l.take k) : plcL l n = k := by
  unfold plcL
  rw [if_pos (he ▸ List.getElem_mem hk)]
  have h1 : l.idxOf n = k := by
    have e : l = l.take k ++ l[k] :: l.drop (k + 1) := by rw [← List.drop_eq_getElem_cons hk, List.take_append_drop]
    have h2 : (l.take k ++ l[k] :: l.drop (k + 1)).idxOf n = (l.take k).length + (l[k] :: l.drop (k + 1)).idxOf n := by
      rw [List.idxOf_append, if_neg hno]
      omega
    rw [← e] at h2
    rw [h2, he, List.idxOf_cons_self, List.length_take]
    omega
  rw [h1]
theorem plc_none {l : List Int} {n : Int} (h : n ∉ l) : plcL l n = -1 := if_neg h
theorem plc_ge {l : List Int} {n : Int} : 0 ≤ plcL l n ↔ n ∈ l := by
  unfold plcL
  split <;> rename_i h
  · exact ⟨fun _ => h, fun _ => by omega⟩
  · exact ⟨fun h2 => by omega, fun h2 => absurd h2 h⟩
theorem plc_at {l : List Int} {n : Int} (h : n ∈ l) : plcL l n = ((l.idxOf n : Nat) : Int) ∧ l.idxOf n < l.length ∧ l[l.idxOf n]? = some n := by
  refine ⟨if_pos h, List.idxOf_lt_length_of_mem h, ?_⟩
  rw [List.getElem?_eq_getElem (List.idxOf_lt_length_of_mem h), List.getElem_idxOf]
end Go.Proofs.YtjmgokjljmmmgaaGreat
/- Stage 18: queues of numbers by definition; the document's Put, Drop, At. -/
namespace Go.Proofs.YtjmgokjljmmmgaaGreat
open Go.RowKit

/-- what a put makes of a list; 6: it is in it; 9: it is full -/
def putF (l : List Int) (room x : Int) : List Int × Int := if x ∈ l then (l, 6) else if room ≤ (l.length : Int) then (l, 9) else (l ++ [x], 0)
def dropF (l : List Int) (x : Int) : List Int := l.filter fun y => decide (y ≠ x)
def wasF (l : List Int) (x : Int) : Bool := decide ((dropF l x).length < l.length)
theorem dropF_len (l : List Int) (x : Int) : (dropF l x).length ≤ l.length := List.length_filter_le _ _
theorem putF_len (l : List Int) (room x : Int) : (putF l room x).1.length ≤ l.length + 1 := by
  unfold putF
  split
  · simp
  · split <;> simp
theorem dropF_mem (l : List Int) (x y : Int) : y ∈ dropF l x ↔ y ∈ l ∧ y ≠ x := by simp [dropF]
theorem wasF_iff (l : List Int) (x : Int) : wasF l x = inL l x := by
  unfold wasF inL
  by_cases h : x ∈ l
  · rw [decide_eq_true h]
    exact decide_eq_true (List.length_filter_lt_length_iff_exists.2 ⟨x, h, by simp⟩)
  · rw [decide_eq_false h]
    refine decide_eq_false fun hlt => ?_
    obtain ⟨y, hy, hn⟩ := List.length_filter_lt_length_iff_exists.1 hlt
    have : y = x := by simpa using hn
    exact h (this ▸ hy)
/-- a list in place of another one: of that one's memory, or of new memory -/
def FromV (va v : Value) (n n' B : Nat) : Prop := 0 < n' → ∀ k, v.ownBlock = some k → (va.ownBlock = some k ∧ 0 < n) ∨ B ≤ k
theorem FromV.self (va : Value) (n B : Nat) : FromV va va n n B := fun h0 _ hk => .inl ⟨hk, h0⟩
theorem OwnI.from_ {w : World} {B n n' : Nat} {v va : Value} {l : List Int} (h : OwnI w B v l) : FromV va v n n' B := fun _ k hk => .inr (World.ownsRow.lt h k hk).1

end Go.Proofs.YtjmgokjljmmmgaaGreat
/- An object with state, and whatever is kept beside it (blocks, lists, other objects): what a law holds between two calls. FOR ALL STAGES WITH STATE. -/
namespace Go.Proofs.YtjmgokjljmmmgaaGreat
open Go.RowKit

/-- an object with state: how it stands in memory, in blocks of F -/
structure ObjK (σ : Type) where
  At : (Nat → Prop) → World → Value → σ → Prop
  same : ∀ {F w w' p q}, At F w p q → w.heap.size ≤ w'.heap.size → (∀ k, F k → w'.heap[k]? = w.heap[k]?) → At F w' p q
  lt : ∀ {F w p q}, At F w p q → ∀ k, F k → k < w.heap.size
/-- what is kept beside it, in blocks of foot -/
structure Bes where
  holds : World → Prop
  foot : Nat → Prop
  same : ∀ {w w'}, holds w → w.heap.size ≤ w'.heap.size → (∀ k, foot k → w'.heap[k]? = w.heap[k]?) → holds w'
  lt : ∀ {w}, holds w → ∀ k, foot k → k < w.heap.size
def Bes.blk (b : Nat) (v : Value) (vs : List Value) : Bes := ⟨fun w => Blk w b (v :: vs), fun k => k = b, fun h _ he => h.same (he b rfl), fun h k hk => by rw [hk]; exact h.lt⟩
def Bes.rows {α : Type} (K : Nat) (cs : α → List Value) (v : Value) (l : List α) : Bes :=
  ⟨fun w => RowsAt w K cs v l, fun k => 0 < l.length ∧ v.ownBlock = some k, fun h hz he => h.same hz fun h0 g hg => he g ⟨h0, hg⟩, fun h k hk => h.lt hk.1 k hk.2⟩
def Bes.obj {σ : Type} (C : ObjK σ) (F : Nat → Prop) (p : Value) (q : σ) : Bes := ⟨fun w => C.At F w p q, F, fun h hz he => C.same h hz he, fun h => C.lt h⟩
/-- the object, its blocks made since w; beside it bs, in other blocks -/
def SideG {σ : Type} (C : ObjK σ) (w w1 : World) (p : Value) (q : σ) (bs : List Bes) : Prop :=
  ∃ F, C.At F w1 p q ∧ (∀ k, F k → w.heap.size ≤ k) ∧ (∀ b ∈ bs, b.holds w1 ∧ ∀ k, b.foot k → ¬ F k) ∧ Below w.heap.size w w1
section
variable {σ : Type} {C : ObjK σ} {w w1 w2 : World} {p : Value} {q q' : σ} {b b' : Bes} {bs : List Bes}
theorem SideG.mv {F F' : Nat → Prop} (h1 : ∀ k, F k → w.heap.size ≤ k) (h2 : ∀ b ∈ bs, b.holds w1 ∧ ∀ k, b.foot k → ¬ F k) (h3 : Below w.heap.size w w1) (g1 : C.At F' w2 p q') (g2 : Mv F F' w1 w2) : SideG C w w2 p q' bs :=
  ⟨F', g1, g2.from_ h1 h3.size, fun b hb => by
    obtain ⟨k1, k2⟩ := h2 b hb
    exact ⟨b.same k1 g2.only.size fun k hk => g2.only.block k (b.lt k1 k hk) (k2 k hk), fun k hk => g2.off (b.lt k1 k hk) (k2 k hk)⟩, h3.trans (g2.only.below h1 h3.size)⟩
/-- a call that changes the object -/
theorem SideG.step {P : Program} {f : Nat} {args : Array Value} {r : Value} (h : SideG C w w1 p q bs) (hc : ∀ F, C.At F w1 p q → Calls P f args w1 fun e w' => e = .returned r ∧ ∃ F', C.At F' w' p q' ∧ Mv F F' w1 w') :
    Calls P f args w1 fun e w' => e = .returned r ∧ SideG C w w' p q' bs := by
  obtain ⟨F, h0, h1, h2, h3⟩ := h
  refine (hc F h0).mono ?_
  rintro e w' ⟨rfl, F', g1, g2⟩
  exact ⟨rfl, SideG.mv h1 h2 h3 g1 g2⟩
theorem SideG.kept (h : SideG C w w1 p q bs) (hb : Below w1.heap.size w1 w2) : SideG C w w2 p q bs := by
  obtain ⟨F, h0, h1, h2, h3⟩ := h
  exact SideG.mv h1 h2 h3 (C.same h0 hb.size fun k hk => hb.block k (C.lt h0 k hk)) (Mv.of_below hb)
theorem SideG.below (h : SideG C w w1 p q bs) : Below w.heap.size w w1 := by
  obtain ⟨F, h0, h1, h2, h3⟩ := h
  exact h3
theorem SideG.head (h : SideG C w w1 p q (b :: bs)) : b.holds w1 := by
  obtain ⟨F, h0, h1, h2, h3⟩ := h
  exact (h2 b List.mem_cons_self).1
theorem SideG.less (h : SideG C w w1 p q (b :: bs)) : SideG C w w1 p q bs := by
  obtain ⟨F, h0, h1, h2, h3⟩ := h
  exact ⟨F, h0, h1, fun b hb => h2 b (List.mem_cons_of_mem _ hb), h3⟩
theorem SideG.swap (h : SideG C w w1 p q (b :: b' :: bs)) : SideG C w w1 p q (b' :: b :: bs) := by
  obtain ⟨F, h0, h1, h2, h3⟩ := h
  refine ⟨F, h0, h1, fun x hx => h2 x ?_, h3⟩
  rcases List.mem_cons.1 hx with rfl | hx
  · exact List.mem_cons_of_mem _ List.mem_cons_self
  · rcases List.mem_cons.1 hx with rfl | hx
    · exact List.mem_cons_self
    · exact List.mem_cons_of_mem _ (List.mem_cons_of_mem _ hx)
/-- what a quiet call hands back in new memory, beside the object -/
theorem SideG.add (h : SideG C w w1 p q bs) (hb : Below w1.heap.size w1 w2) (b : Bes) (h2 : b.holds w2) (hn : ∀ k, b.foot k → w1.heap.size ≤ k) : SideG C w w2 p q (b :: bs) := by
  obtain ⟨F, h0, h1, h2', h3⟩ := h
  refine ⟨F, C.same h0 hb.size fun k hk => hb.block k (C.lt h0 k hk), h1, fun x hx => ?_, h3.trans (hb.mono h3.size)⟩
  rcases List.mem_cons.1 hx with rfl | hx
  · exact ⟨h2, fun k hk hf => by have := hn k hk; have := C.lt h0 k hf; omega⟩
  · obtain ⟨k1, k2⟩ := h2' x hx
    exact ⟨x.same k1 hb.size fun k hk => hb.block k (x.lt k1 k hk), k2⟩
theorem SideG.new (h : SideG C w w1 p q bs) (v : Value) (vs : List Value) (t : TypeId) : SideG C w (w1.alloc (.cells (v :: vs).toArray t)) p q (Bes.blk w1.heap.size v vs :: bs) :=
  h.add ((Below.refl w1.heap.size w1).alloc (Nat.le_refl _) _) _ (Blk.new w1 (v :: vs) t) fun k hk => by rw [show k = w1.heap.size from hk]; exact Nat.le_refl _
/-- a list in place of another one: it is that one's memory, or new -/
theorem SideG.turn {α : Type} {K : Nat} {cs : α → List Value} {v v' : Value} {l l' : List α} (h : SideG C w w1 p q (Bes.rows K cs v l :: bs)) (hb : Below w1.heap.size w1 w2) (h2 : RowsAt w2 K cs v' l') (hv : 0 < l'.length → ∀ k, v'.ownBlock = some k → (v.ownBlock = some k ∧ 0 < l.length) ∨ w1.heap.size ≤ k) : SideG C w w2 p q (Bes.rows K cs v' l' :: bs) := by
  obtain ⟨F, h0, h1, h2', h3⟩ := h
  refine ⟨F, C.same h0 hb.size fun k hk => hb.block k (C.lt h0 k hk), h1, fun x hx => ?_, h3.trans (hb.mono h3.size)⟩
  rcases List.mem_cons.1 hx with rfl | hx
  · refine ⟨h2, fun k hk hf => ?_⟩
    rcases hv hk.1 k hk.2 with hk2 | hk2
    · exact (h2' _ List.mem_cons_self).2 k ⟨hk2.2, hk2.1⟩ hf
    · have := C.lt h0 k hf
      omega
  · obtain ⟨k1, k2⟩ := h2' x (List.mem_cons_of_mem _ hx)
    exact ⟨x.same k1 hb.size fun k hk => hb.block k (x.lt k1 k hk), k2⟩
/-- a store into a block that is kept beside it -/
theorem SideG.write {v0 : Value} {vs : List Value} {blk : Nat} (h : SideG C w w1 p q (Bes.blk blk v0 vs :: bs)) (hb : w.heap.size ≤ blk) (hoff : ∀ x ∈ bs, ¬ x.foot blk) (k : Nat) (u v0' : Value) (vs' : List Value) (hs : (v0 :: vs).set k u = v0' :: vs') : SideG C w (w1.setCell ⟨blk, k, none⟩ u) p q (Bes.blk blk v0' vs' :: bs) := by
  obtain ⟨F, h0, h1, h2, h3⟩ := h
  have hnF : ¬ F blk := (h2 _ List.mem_cons_self).2 blk rfl
  refine ⟨F, C.same h0 (by simp [World.setCell]) fun j hj => Below.heap_setCell _ _ _ _ (fun e => hnF (by have e2 : j = blk := e; rw [← e2]; exact hj)), h1, fun x hx => ?_, h3.setCell (p := ⟨blk, k, none⟩) hb u⟩
  rcases List.mem_cons.1 hx with rfl | hx
  · refine ⟨?_, (h2 _ List.mem_cons_self).2⟩
    have := (show Blk w1 blk (v0 :: vs) from (h2 _ List.mem_cons_self).1).set k u
    rw [hs] at this
    exact this
  · obtain ⟨k1, k2⟩ := h2 x (List.mem_cons_of_mem _ hx)
    exact ⟨x.same k1 (by simp [World.setCell]) fun j hj => Below.heap_setCell _ _ _ _ (fun e => hoff x hx (by have e2 : j = blk := e; rw [← e2]; exact hj)), k2⟩
theorem SideG.start {F : Nat → Prop} (h0 : C.At F w1 p q) (h1 : ∀ k, F k → w.heap.size ≤ k) (hb : Below w.heap.size w w1) : SideG C w w1 p q [] := ⟨F, h0, h1, fun _ h => (by cases h), hb⟩
end
end Go.Proofs.YtjmgokjljmmmgaaGreat
