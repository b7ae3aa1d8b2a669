/- Stage 16: what orders, levels and reaching keep: plain mathematics. -/
import Derived.Test.YtlgemfgikdaelaaGraphMath
namespace Go.Proofs.Ytlgemfgikdaelaa

/-- in the range of int -/
def B64 (l : List Int) : Prop := ∀ x ∈ l, -9223372036854775808 ≤ x ∧ x ≤ 9223372036854775807
def B64a (l : List Arc16) : Prop := ∀ a ∈ l, (-9223372036854775808 ≤ a.src ∧ a.src ≤ 9223372036854775807) ∧ -9223372036854775808 ≤ a.dst ∧ a.dst ≤ 9223372036854775807
theorem inL_iff {l : List Int} {n : Int} : inL l n = true ↔ n ∈ l := by unfold inL; exact decide_eq_true_iff
theorem inL_not {l : List Int} {n : Int} : inL l n = false ↔ n ∉ l := by unfold inL; exact decide_eq_false_iff_not

/-! ### Order -/
theorem freeG_iff {nodes : List Int} {arcs : List Arc16} {told : List Int} {n : Int} : freeG nodes arcs told n = true ↔ ∀ a ∈ arcs, a.dst = n → a.src ∈ nodes → a.src ∈ told := by
  unfold freeG
  rw [List.all_eq_true]
  constructor
  · intro h a ha h1 h2
    have := h a ha
    refine Classical.byContradiction fun hn => ?_
    simp [h1, inL_iff.2 h2, inL_not.2 hn] at this
  · intro h a ha
    by_cases h1 : a.dst = n
    · by_cases h2 : a.src ∈ nodes
      · simp [inL_iff.2 (h a ha h1 h2)]
      · simp [inL_not.2 h2]
    · simp [h1]
structure OrdI (nodes : List Int) (arcs : List Arc16) (told : List Int) : Prop where
  ti : ToldI nodes told
  pre : ∀ i (h : i < told.length), ∀ a ∈ arcs, a.dst = told[i] → a.src ∈ nodes → a.src ∈ told.take i
theorem OrdI.nil (nodes : List Int) (arcs : List Arc16) : OrdI nodes arcs [] := ⟨ToldI.nil _, fun i h => absurd h (by simp)⟩
theorem OrdI.next {nodes told : List Int} {arcs : List Arc16} {n : Int} (h : OrdI nodes arcs told) (hn : n ∈ nodes) (hb : nextB nodes arcs told n = true) : OrdI nodes arcs (told ++ [n]) := by
  refine ⟨h.ti.next hn hb, fun i hi a ha h1 h2 => ?_⟩
  by_cases hlt : i < told.length
  · rw [List.getElem_append_left hlt] at h1
    rw [List.take_append_of_le_length (by omega)]
    exact h.pre i hlt a ha h1 h2
  · have : i = told.length := by rw [List.length_append] at hi; simp at hi; omega
    subst this
    rw [List.getElem_append_right (Nat.le_refl _)] at h1
    simp at h1
    rw [List.take_append_of_le_length (Nat.le_refl _), List.take_length]
    unfold nextB at hb
    rw [Bool.and_eq_true] at hb
    exact freeG_iff.1 hb.2 a ha h1 h2
theorem ordG_inv {nodes : List Int} {arcs : List Arc16} : ∀ (f : Nat) (told : List Int), OrdI nodes arcs told → nodes.length - told.length ≤ f → OrdI nodes arcs (ordG nodes arcs f told) ∧ ∀ n ∈ nodes, nextB nodes arcs (ordG nodes arcs f told) n = false
  | 0, told, h, hf => by
    refine ⟨h, fun n hn => ?_⟩
    cases hb : nextB nodes arcs (ordG nodes arcs 0 told) n with
    | false => rfl
    | true =>
      have := h.ti.lt hn (show nextB nodes arcs told n = true from hb)
      omega
  | f + 1, told, h, hf => by
    unfold ordG
    cases hfd : nodes.find? (nextB nodes arcs told) with
    | none =>
      refine ⟨h, fun n hn => ?_⟩
      have := List.find?_eq_none.1 hfd n hn
      simpa using this
    | some n =>
      have hb := List.find?_some hfd
      have hn := List.mem_of_find?_eq_some hfd
      exact ordG_inv f (told ++ [n]) (h.next hn hb) (by rw [List.length_append]; simp; omega)
theorem ordL_inv (ids : List Int) (arcs : List Arc16) : OrdI (setL ids) arcs (ordL ids arcs) ∧ ∀ n ∈ setL ids, nextB (setL ids) arcs (ordL ids arcs) n = false :=
  ordG_inv _ _ (OrdI.nil _ _) (by simp)
theorem left_mem (ids : List Int) (arcs : List Arc16) (n : Int) : n ∈ leftL ids arcs ↔ n ∈ setL ids ∧ n ∉ ordL ids arcs := by
  unfold leftL
  rw [List.mem_filter]
  simp [inL]
theorem filter_in_len : ∀ (a b : List Int), a.Nodup → b.Nodup → (∀ x ∈ b, x ∈ a) → (a.filter fun x => inL b x).length = b.length := fun a b ha hb h => by
  have h1 : (a.filter fun x => inL b x).length ≤ b.length := len_of_sub _ _ (ha.filter _) fun x hx => inL_iff.1 (List.mem_filter.1 hx).2
  have h2 : b.length ≤ (a.filter fun x => inL b x).length := len_of_sub _ _ hb fun x hx => List.mem_filter.2 ⟨h x hx, inL_iff.2 hx⟩
  omega
theorem filter_both {α : Type} (p : α → Bool) : ∀ l : List α, (l.filter p).length + (l.filter fun x => !p x).length = l.length
  | [] => rfl
  | x :: t => by
    have ih := filter_both p t
    cases h : p x with
    | true =>
      rw [List.filter_cons_of_pos h, List.filter_cons_of_neg (by simp [h])]
      simp
      omega
    | false =>
      rw [List.filter_cons_of_neg (by simp [h]), List.filter_cons_of_pos (by simp [h])]
      simp
      omega
theorem snoc_ind {α : Type} {P : List α → Prop} (h0 : P []) (h1 : ∀ l x, P l → P (l ++ [x])) : ∀ l, P l := fun l => by
  have : ∀ r : List α, P r.reverse := fun r => by
    induction r with
    | nil => exact h0
    | cons x t ih => rw [List.reverse_cons]; exact h1 _ _ ih
  have h := this l.reverse
  rwa [List.reverse_reverse] at h
theorem left_len (ids : List Int) (arcs : List Arc16) : (ordL ids arcs).length + (leftL ids arcs).length = (setL ids).length := by
  have h := (ordL_inv ids arcs).1.ti
  have h1 := filter_in_len (setL ids) (ordL ids arcs) (setL_ris ids).nodup h.nodup h.sub
  have h2 := filter_both (fun x => inL (ordL ids arcs) x) (setL ids)
  unfold leftL
  omega
/-- an arrow to one that is told comes from one that was told ahead -/
theorem ord_pre {ids : List Int} {arcs : List Arc16} {a : Arc16} (ha : a ∈ arcs) (hs : a.src ∈ setL ids) {i : Nat} (hi : i < (ordL ids arcs).length) (hd : a.dst = (ordL ids arcs)[i]) : a.src ∈ (ordL ids arcs).take i :=
  (ordL_inv ids arcs).1.pre i hi a ha hd hs
/-- to each that is left an arrow leads from one that is left -/
theorem left_arc {ids : List Int} {arcs : List Arc16} {n : Int} (h : n ∈ leftL ids arcs) : ∃ a ∈ arcs, a.dst = n ∧ a.src ∈ leftL ids arcs := by
  obtain ⟨h1, h2⟩ := (left_mem _ _ _).1 h
  have hb := (ordL_inv ids arcs).2 n h1
  unfold nextB at hb
  rw [inL_not.2 h2] at hb
  have hf : ¬ freeG (setL ids) arcs (ordL ids arcs) n = true := by simpa using hb
  rw [freeG_iff] at hf
  refine Classical.byContradiction fun hn => hf fun a ha hd hs => Classical.byContradiction fun hno => hn ⟨a, ha, hd, (left_mem _ _ _).2 ⟨hs, hno⟩⟩

/-! ### Levels -/
def lvA (arcs : List Arc16) (x : Int) (p : Int × Int) (m : Int) : Int := arcs.foldl (fun m a => if a.src = p.1 ∧ a.dst = x then max m (p.2 + 1) else m) m
def lvP (arcs : List Arc16) (x : Int) (acc : List (Int × Int)) : Int := acc.foldl (fun m p => lvA arcs x p m) 0
def levP (arcs : List Arc16) (told : List Int) : List (Int × Int) := told.foldl (fun acc x => acc ++ [(x, lvP arcs x acc)]) []
def levOf (P : List (Int × Int)) (n : Int) : Int := P.foldl (fun m p => if p.1 = n then p.2 else m) (-1)
def levL (ids : List Int) (arcs : List Arc16) : List Int := (setL ids).map (levOf (levP arcs (ordL ids arcs)))
theorem lvA_take (arcs : List Arc16) (x : Int) (p : Int × Int) (m : Int) (k : Nat) (hk : k < arcs.length) : lvA (arcs.take (k + 1)) x p m = if arcs[k].src = p.1 ∧ arcs[k].dst = x then max (lvA (arcs.take k) x p m) (p.2 + 1) else lvA (arcs.take k) x p m := by
  unfold lvA
  rw [List.take_succ_eq_append_getElem hk, List.foldl_append]
  rfl
theorem lvP_take (arcs : List Arc16) (x : Int) (P : List (Int × Int)) (k : Nat) (hk : k < P.length) : lvP arcs x (P.take (k + 1)) = lvA arcs x P[k] (lvP arcs x (P.take k)) := by
  unfold lvP
  rw [List.take_succ_eq_append_getElem hk, List.foldl_append]
  rfl
theorem levP_take (arcs : List Arc16) (told : List Int) (k : Nat) (hk : k < told.length) : levP arcs (told.take (k + 1)) = levP arcs (told.take k) ++ [(told[k], lvP arcs told[k] (levP arcs (told.take k)))] := by
  unfold levP
  rw [List.take_succ_eq_append_getElem hk, List.foldl_append]
  rfl
theorem levOf_take (P : List (Int × Int)) (n : Int) (k : Nat) (hk : k < P.length) : levOf (P.take (k + 1)) n = if P[k].1 = n then P[k].2 else levOf (P.take k) n := by
  unfold levOf
  rw [List.take_succ_eq_append_getElem hk, List.foldl_append]
  rfl
theorem levP_snoc (arcs : List Arc16) (told : List Int) (x : Int) : levP arcs (told ++ [x]) = levP arcs told ++ [(x, lvP arcs x (levP arcs told))] := by
  unfold levP
  rw [List.foldl_append]
  rfl
theorem levP_fst (arcs : List Arc16) (told : List Int) : (levP arcs told).map Prod.fst = told := by
  refine snoc_ind (P := fun told => (levP arcs told).map Prod.fst = told) rfl (fun l x ih => ?_) told
  rw [levP_snoc, List.map_append, ih]
  rfl
theorem levP_len (arcs : List Arc16) (told : List Int) : (levP arcs told).length = told.length := by
  have := congrArg List.length (levP_fst arcs told)
  simpa using this
/-- a front of the levels is the front's -/
theorem levP_front (arcs : List Arc16) (told : List Int) : ∀ k, k ≤ told.length → (levP arcs told).take k = levP arcs (told.take k) := by
  refine snoc_ind (P := fun told => ∀ k, k ≤ told.length → (levP arcs told).take k = levP arcs (told.take k)) (fun k _ => by simp [levP]) (fun l x ih => ?_) told
  intro k hk
  rw [levP_snoc]
  by_cases hkl : k ≤ l.length
  · rw [List.take_append_of_le_length (by rw [levP_len]; exact hkl), List.take_append_of_le_length hkl]
    exact ih k hkl
  · have : k = l.length + 1 := by rw [List.length_append] at hk; simp at hk; omega
    subst this
    rw [List.take_of_length_le (by simp [levP_len]), List.take_of_length_le (by simp), levP_snoc]
theorem levP_at (arcs : List Arc16) (told : List Int) (k : Nat) (hk : k < told.length) : (levP arcs told)[k]'(by rw [levP_len]; exact hk) = (told[k], lvP arcs told[k] ((levP arcs told).take k)) := by
  have h1 := levP_front arcs told (k + 1) (by omega)
  rw [levP_take _ _ _ hk, ← levP_front arcs told k (by omega)] at h1
  have h2 : ((levP arcs told).take (k + 1))[k]'(by rw [List.length_take, levP_len]; omega) = (levP arcs told)[k]'(by rw [levP_len]; exact hk) := by rw [List.getElem_take]
  rw [← h2]
  have hlen : ((levP arcs told).take k).length = k := by rw [List.length_take, levP_len]; omega
  simp only [h1]
  rw [List.getElem_append_right (by omega)]
  simp [hlen]
theorem lvA_mono (arcs : List Arc16) (x : Int) (p : Int × Int) : ∀ m, m ≤ lvA arcs x p m := by
  unfold lvA
  induction arcs with
  | nil => intro m; exact Int.le_refl _
  | cons a t ih =>
    intro m
    simp only [List.foldl_cons]
    split
    · exact Int.le_trans (Int.le_max_left _ _) (ih _)
    · exact ih m
theorem lvA_ge {arcs : List Arc16} {x : Int} {p : Int × Int} {a : Arc16} (ha : a ∈ arcs) (h1 : a.src = p.1) (h2 : a.dst = x) : ∀ m, p.2 + 1 ≤ lvA arcs x p m := by
  induction arcs with
  | nil => cases ha
  | cons b t ih =>
    intro m
    have e : lvA (b :: t) x p m = lvA t x p (if b.src = p.1 ∧ b.dst = x then max m (p.2 + 1) else m) := rfl
    rw [e]
    rcases List.mem_cons.1 ha with rfl | hm
    · rw [if_pos ⟨h1, h2⟩]
      exact Int.le_trans (Int.le_max_right _ _) (lvA_mono t x p _)
    · exact ih hm _
theorem lvP_from (arcs : List Arc16) (x : Int) : ∀ (P : List (Int × Int)) (m : Int), m ≤ P.foldl (fun m p => lvA arcs x p m) m
  | [], m => Int.le_refl _
  | p :: t, m => by
    rw [List.foldl_cons]
    exact Int.le_trans (lvA_mono arcs x p m) (lvP_from arcs x t _)
theorem lvP_nonneg (arcs : List Arc16) (x : Int) (P : List (Int × Int)) : 0 ≤ lvP arcs x P := lvP_from arcs x P 0
theorem lvP_ge {arcs : List Arc16} {x : Int} {p : Int × Int} {a : Arc16} (ha : a ∈ arcs) (h1 : a.src = p.1) (h2 : a.dst = x) : ∀ (P : List (Int × Int)), p ∈ P → ∀ m, p.2 + 1 ≤ P.foldl (fun m p => lvA arcs x p m) m
  | [], hp => by cases hp
  | q :: t, hp => fun m => by
    rw [List.foldl_cons]
    rcases List.mem_cons.1 hp with rfl | hm
    · exact Int.le_trans (lvA_ge ha h1 h2 m) (lvP_from arcs x t _)
    · exact lvP_ge ha h1 h2 t hm _
theorem levOf_no : ∀ (P : List (Int × Int)) (n : Int) (m : Int), n ∉ P.map Prod.fst → P.foldl (fun m p => if p.1 = n then p.2 else m) m = m
  | [], _, _, _ => rfl
  | p :: t, n, m, h => by
    rw [List.map_cons, List.mem_cons] at h
    rw [List.foldl_cons, if_neg fun e => h (.inl e.symm)]
    exact levOf_no t n m fun h2 => h (.inr h2)
theorem levOf_at : ∀ (P : List (Int × Int)) (m : Int) (k : Nat) (hk : k < P.length), (P.map Prod.fst).Nodup → P.foldl (fun m p => if p.1 = P[k].1 then p.2 else m) m = P[k].2
  | p :: t, m, 0, _, h => by
    rw [List.map_cons, List.nodup_cons] at h
    rw [List.foldl_cons]
    simp only [List.getElem_cons_zero, if_true]
    exact levOf_no t p.1 p.2 h.1
  | p :: t, m, k + 1, hk, h => by
    rw [List.map_cons, List.nodup_cons] at h
    rw [List.foldl_cons]
    simp only [List.getElem_cons_succ]
    exact levOf_at t _ k (by simpa using hk) h.2
theorem lev_told {ids : List Int} {arcs : List Arc16} {i : Nat} (hi : i < (ordL ids arcs).length) : levOf (levP arcs (ordL ids arcs)) (ordL ids arcs)[i] = lvP arcs (ordL ids arcs)[i] ((levP arcs (ordL ids arcs)).take i) := by
  have h1 := levOf_at (levP arcs (ordL ids arcs)) (-1) i (by rw [levP_len]; exact hi) (by rw [levP_fst]; exact (ordL_inv ids arcs).1.ti.nodup)
  rw [levP_at _ _ _ hi] at h1
  exact h1
theorem lev_no {ids : List Int} {arcs : List Arc16} {n : Int} (h : n ∉ ordL ids arcs) : levOf (levP arcs (ordL ids arcs)) n = -1 := levOf_no _ _ _ (by rw [levP_fst]; exact h)
theorem lev_ge {ids : List Int} {arcs : List Arc16} {n : Int} : 0 ≤ levOf (levP arcs (ordL ids arcs)) n ↔ n ∈ ordL ids arcs := by
  constructor
  · intro h
    refine Classical.byContradiction fun hn => ?_
    rw [lev_no hn] at h
    omega
  · intro h
    obtain ⟨i, hi, rfl⟩ := List.getElem_of_mem h
    rw [lev_told hi]
    exact lvP_nonneg _ _ _
/-- arrows lead to greater levels -/
theorem lev_arc {ids : List Int} {arcs : List Arc16} {a : Arc16} (ha : a ∈ arcs) (hs : a.src ∈ setL ids) (hd : a.dst ∈ ordL ids arcs) :
    levOf (levP arcs (ordL ids arcs)) a.src < levOf (levP arcs (ordL ids arcs)) a.dst ∧ (ordL ids arcs).idxOf a.src < (ordL ids arcs).idxOf a.dst ∧ a.src ∈ ordL ids arcs := by
  obtain ⟨i, hi, hdi⟩ := List.getElem_of_mem hd
  have hp := ord_pre ha hs hi hdi.symm
  obtain ⟨k, hk, hsk⟩ := List.getElem_of_mem hp
  rw [List.length_take] at hk
  rw [List.getElem_take] at hsk
  have hkl : k < (ordL ids arcs).length := by omega
  have hnd := (ordL_inv ids arcs).1.ti.nodup
  refine ⟨?_, ?_, List.mem_of_mem_take hp⟩
  · rw [← hdi, ← hsk, lev_told hi, lev_told hkl]
    have hm : (levP arcs (ordL ids arcs))[k]'(by rw [levP_len]; exact hkl) ∈ (levP arcs (ordL ids arcs)).take i := List.mem_take_iff_getElem.2 ⟨k, by rw [levP_len]; omega, rfl⟩
    have h1 := levP_at arcs _ k hkl
    have := lvP_ge (x := (ordL ids arcs)[i]) ha (by rw [h1]; exact hsk.symm) hdi.symm _ hm 0
    rw [h1] at this
    show _ < lvP _ _ _
    unfold lvP at *
    simp only at this
    omega
  · rw [← hdi, ← hsk, hnd.idxOf_getElem, hnd.idxOf_getElem]
    omega
end Go.Proofs.Ytlgemfgikdaelaa
