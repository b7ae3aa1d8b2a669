/- Texts of this proof, joined: GrMath; GrA. -/
import Derived.Test.YtjmgokjljmmmgaaBun14
/- Stage 16's program: what it keeps of a graph: plain mathematics. -/
namespace Go.Proofs.Ytjmgokjljmmmgaa

/-! ### Arrows that count -/
def vaB (nodes : List Int) (a : Arc16) : Bool := inL nodes a.src && inL nodes a.dst
def vaL (nodes : List Int) (arcs : List Arc16) : List Arc16 := arcs.filter (vaB nodes)
/-- to where they lead from it -/
def hdsL (nodes : List Int) (arcs : List Arc16) (n : Int) : List Int := ((vaL nodes arcs).filter fun a => decide (a.src = n)).map Arc16.dst
/-- how many lead to it from those that aren't told -/
def cnA (told : List Int) (n : Int) (l : List Arc16) : Nat := (l.filter fun a => decide (a.dst = n) && !inL told a.src).length
def awL (nodes : List Int) (arcs : List Arc16) (told : List Int) (n : Int) : Nat := cnA told n (vaL nodes arcs)
theorem vaL_take (nodes : List Int) (arcs : List Arc16) (k : Nat) (hk : k < arcs.length) : vaL nodes (arcs.take (k + 1)) = vaL nodes (arcs.take k) ++ (if vaB nodes arcs[k] then [arcs[k]] else []) := by
  unfold vaL
  rw [List.take_succ_eq_append_getElem hk, List.filter_append]
  congr 1
  by_cases h : vaB nodes arcs[k] <;> simp [h]
theorem vaL_len (nodes : List Int) (arcs : List Arc16) : (vaL nodes arcs).length ≤ arcs.length := List.length_filter_le _ _
theorem hdL_len (nodes : List Int) (arcs : List Arc16) (n : Int) : (hdsL nodes arcs n).length ≤ arcs.length := by
  unfold hdsL
  rw [List.length_map]
  exact Nat.le_trans (List.length_filter_le _ _) (vaL_len nodes arcs)
theorem awL_len (nodes : List Int) (arcs : List Arc16) (told : List Int) (n : Int) : awL nodes arcs told n ≤ arcs.length :=
  Nat.le_trans (List.length_filter_le _ _) (vaL_len nodes arcs)
theorem hdL_yes {nodes : List Int} {arcs : List Arc16} {k : Nat} (hk : k < arcs.length) (h : vaB nodes arcs[k] = true) (n : Int) :
    hdsL nodes (arcs.take (k + 1)) n = if n = arcs[k].src then hdsL nodes (arcs.take k) n ++ [arcs[k].dst] else hdsL nodes (arcs.take k) n := by
  unfold hdsL
  rw [vaL_take _ _ _ hk, if_pos h, List.filter_append, List.map_append]
  by_cases hn : n = arcs[k].src
  · rw [if_pos hn]; simp [hn]
  · rw [if_neg hn]; simp [Ne.symm hn]
theorem hdL_not {nodes : List Int} {arcs : List Arc16} {k : Nat} (hk : k < arcs.length) (h : vaB nodes arcs[k] = false) (n : Int) : hdsL nodes (arcs.take (k + 1)) n = hdsL nodes (arcs.take k) n := by
  unfold hdsL
  rw [vaL_take _ _ _ hk, h]
  simp
theorem awL_yes {nodes : List Int} {arcs : List Arc16} {k : Nat} (hk : k < arcs.length) (h : vaB nodes arcs[k] = true) (n : Int) :
    awL nodes (arcs.take (k + 1)) [] n = if n = arcs[k].dst then awL nodes (arcs.take k) [] n + 1 else awL nodes (arcs.take k) [] n := by
  unfold awL cnA
  rw [vaL_take _ _ _ hk, if_pos h, List.filter_append, List.length_append]
  by_cases hn : n = arcs[k].dst
  · rw [if_pos hn]; simp [hn, inL]
  · rw [if_neg hn]; simp [Ne.symm hn]
theorem awL_not {nodes : List Int} {arcs : List Arc16} {k : Nat} (hk : k < arcs.length) (h : vaB nodes arcs[k] = false) (n : Int) : awL nodes (arcs.take (k + 1)) [] n = awL nodes (arcs.take k) [] n := by
  unfold awL cnA
  rw [vaL_take _ _ _ hk, h]
  simp
theorem vaL_mem {nodes : List Int} {arcs : List Arc16} {a : Arc16} : a ∈ vaL nodes arcs ↔ a ∈ arcs ∧ a.src ∈ nodes ∧ a.dst ∈ nodes := by
  unfold vaL vaB
  rw [List.mem_filter, Bool.and_eq_true, inL_iff, inL_iff]
theorem hdL_mem {nodes : List Int} {arcs : List Arc16} {n m : Int} : m ∈ hdsL nodes arcs n ↔ ∃ a ∈ arcs, a.src = n ∧ a.dst = m ∧ n ∈ nodes ∧ m ∈ nodes := by
  unfold hdsL
  rw [List.mem_map]
  constructor
  · rintro ⟨a, h1, h2⟩
    obtain ⟨h3, h4⟩ := List.mem_filter.1 h1
    obtain ⟨h5, h6, h7⟩ := vaL_mem.1 h3
    have h8 : a.src = n := by simpa using h4
    exact ⟨a, h5, h8, h2, h8 ▸ h6, h2 ▸ h7⟩
  · rintro ⟨a, h1, rfl, rfl, h4, h5⟩
    exact ⟨a, List.mem_filter.2 ⟨vaL_mem.2 ⟨h1, h4, h5⟩, by simp⟩, rfl⟩
theorem hdL_none {nodes : List Int} {arcs : List Arc16} {n : Int} (h : n ∉ nodes) : hdsL nodes arcs n = [] := List.eq_nil_iff_forall_not_mem.2 fun m hm => by
  obtain ⟨a, h1, h2, h3, h4, h5⟩ := hdL_mem.1 hm
  exact h h4
theorem free_aw {nodes : List Int} {arcs : List Arc16} {told : List Int} {n : Int} (hn : n ∈ nodes) : freeG nodes arcs told n = true ↔ awL nodes arcs told n = 0 := by
  rw [freeG_iff]
  unfold awL cnA
  rw [List.length_eq_zero_iff, List.filter_eq_nil_iff]
  constructor
  · intro h a ha
    obtain ⟨h1, h2, h3⟩ := vaL_mem.1 ha
    simp only [Bool.and_eq_true, decide_eq_true_eq, Bool.not_eq_true', not_and]
    intro h4
    rw [inL_iff.2 (h a h1 h4 h2)]
    simp
  · intro h a ha h1 h2
    have := h a (vaL_mem.2 ⟨ha, h2, h1 ▸ hn⟩)
    simp only [Bool.and_eq_true, decide_eq_true_eq, Bool.not_eq_true', not_and] at this
    have := this h1
    exact inL_iff.1 (by simpa using this)
theorem cnA_cons (told : List Int) (n : Int) (a : Arc16) (V : List Arc16) : cnA told n (a :: V) = (if a.dst = n ∧ a.src ∉ told then 1 else 0) + cnA told n V := by
  unfold cnA
  by_cases h : a.dst = n ∧ a.src ∉ told
  · rw [if_pos h, List.filter_cons_of_pos (by simp [h.1, inL_not.2 h.2]), List.length_cons]
    omega
  · rw [if_neg h, List.filter_cons_of_neg (by
      simp only [Bool.and_eq_true, decide_eq_true_eq, Bool.not_eq_true', inL_not]
      exact h)]
    omega
theorem count_cons (x n : Int) (a : Arc16) (V : List Arc16) : (((a :: V).filter fun a => decide (a.src = x)).map Arc16.dst).count n = (if a.src = x ∧ a.dst = n then 1 else 0) + ((V.filter fun a => decide (a.src = x)).map Arc16.dst).count n := by
  by_cases h : a.src = x
  · rw [List.filter_cons_of_pos (by simpa using h), List.map_cons, List.count_cons]
    by_cases h2 : a.dst = n
    · rw [if_pos (show (a.dst == n) = true by simpa using h2), if_pos ⟨h, h2⟩]
      omega
    · rw [if_neg (show ¬ (a.dst == n) = true by simpa using h2), if_neg fun e => h2 e.2]
      omega
  · rw [List.filter_cons_of_neg (by simpa using h), if_neg fun e => h e.1]
    omega
theorem cnA_step (told : List Int) (x n : Int) (hx : x ∉ told) : ∀ V : List Arc16, cnA (told ++ [x]) n V + ((V.filter fun a => decide (a.src = x)).map Arc16.dst).count n = cnA told n V
  | [] => rfl
  | a :: V => by
    have ih := cnA_step told x n hx V
    rw [cnA_cons, cnA_cons, count_cons]
    have hm : a.src ∉ told ++ [x] ↔ a.src ∉ told ∧ a.src ≠ x := by simp
    by_cases h1 : a.dst = n
    · by_cases h2 : a.src = x
      · rw [if_neg (fun e => (hm.1 e.2).2 h2), if_pos ⟨h2, h1⟩, if_pos ⟨h1, by rw [h2]; exact hx⟩]
        omega
      · rw [if_neg (c := a.src = x ∧ a.dst = n) (fun e => h2 e.1)]
        by_cases h3 : a.src ∈ told
        · rw [if_neg (fun e => (hm.1 e.2).1 h3), if_neg (fun e => e.2 h3)]
          omega
        · rw [if_pos ⟨h1, hm.2 ⟨h3, h2⟩⟩, if_pos ⟨h1, h3⟩]
          omega
    · rw [if_neg (fun e => h1 e.1), if_neg (fun e => h1 e.2), if_neg (fun e => h1 e.1)]
      omega
theorem aw_step {nodes : List Int} {arcs : List Arc16} {told : List Int} {x : Int} (hx : x ∉ told) (n : Int) : awL nodes arcs (told ++ [x]) n + (hdsL nodes arcs x).count n = awL nodes arcs told n := cnA_step told x n hx _

/-! ### What is counted down -/
/-- what is awaited when the first j of x's heads are gone through -/
def awJ (nodes : List Int) (arcs : List Arc16) (told : List Int) (x : Int) (j : Nat) (n : Int) : Nat := awL nodes arcs told n - ((hdsL nodes arcs x).take j).count n
theorem awJ_zero (nodes : List Int) (arcs : List Arc16) (told : List Int) (x : Int) : awJ nodes arcs told x 0 = awL nodes arcs told := by
  funext n; unfold awJ; simp
theorem awJ_all {nodes : List Int} {arcs : List Arc16} {told : List Int} {x : Int} (hx : x ∉ told) : awJ nodes arcs told x (hdsL nodes arcs x).length = awL nodes arcs (told ++ [x]) := by
  funext n
  unfold awJ
  rw [List.take_length]
  have := aw_step (nodes := nodes) (arcs := arcs) hx n
  omega
theorem awJ_pos {nodes : List Int} {arcs : List Arc16} {told : List Int} {x : Int} (hx : x ∉ told) {j : Nat} (hj : j < (hdsL nodes arcs x).length) : 0 < awJ nodes arcs told x j (hdsL nodes arcs x)[j] := by
  unfold awJ
  have h1 := aw_step (nodes := nodes) (arcs := arcs) hx (hdsL nodes arcs x)[j]
  have h2 : ((hdsL nodes arcs x).take (j + 1)).count (hdsL nodes arcs x)[j] ≤ (hdsL nodes arcs x).count (hdsL nodes arcs x)[j] := (List.take_sublist _ _).count_le _
  rw [List.take_succ_eq_append_getElem hj, List.count_append, List.count_singleton_self] at h2
  omega
theorem awJ_next {nodes : List Int} {arcs : List Arc16} {told : List Int} {x : Int} {j : Nat} (hj : j < (hdsL nodes arcs x).length) (n : Int) :
    awJ nodes arcs told x (j + 1) n = if n = (hdsL nodes arcs x)[j] then awJ nodes arcs told x j n - 1 else awJ nodes arcs told x j n := by
  unfold awJ
  rw [List.take_succ_eq_append_getElem hj, List.count_append]
  by_cases hn : n = (hdsL nodes arcs x)[j]
  · rw [if_pos hn, ← hn, List.count_singleton_self]; omega
  · rw [if_neg hn, List.count_singleton]
    have : ((hdsL nodes arcs x)[j] == n) = false := by simpa using fun e => hn e.symm
    rw [this]
    simp

/-! ### Who is free -/
abbrev th0 (n : Int) : Th := ⟨n, 0, 0⟩
/-- the nodes for which nothing is awaited and that aren't told -/
def frL (nodes : List Int) (A : Int → Nat) (told : List Int) : List Int := nodes.filter fun n => decide (A n = 0) && !inL told n
def frT (nodes : List Int) (A : Int → Nat) (told : List Int) : List Th := (frL nodes A told).map th0
theorem frL_mem {nodes : List Int} {A : Int → Nat} {told : List Int} {n : Int} : n ∈ frL nodes A told ↔ n ∈ nodes ∧ A n = 0 ∧ n ∉ told := by
  unfold frL
  rw [List.mem_filter, Bool.and_eq_true, decide_eq_true_eq, Bool.not_eq_true', inL_not]
theorem frL_ris {nodes : List Int} (h : risL nodes) (A : Int → Nat) (told : List Int) : risL (frL nodes A told) := List.Pairwise.filter _ h
theorem frL_len (nodes : List Int) (A : Int → Nat) (told : List Int) : (frL nodes A told).length ≤ nodes.length := List.length_filter_le _ _
theorem frT_len (nodes : List Int) (A : Int → Nat) (told : List Int) : (frT nodes A told).length ≤ nodes.length := by
  unfold frT; rw [List.length_map]; exact frL_len _ _ _
theorem ahead0 (a b : Int) : ahead (th0 a) (th0 b) = decide (a < b) := by
  unfold ahead
  simp
theorem dropT0 (l : List Int) (x : Int) : dropT (l.map th0) x = (l.filter fun n => decide (n ≠ x)).map th0 := by
  unfold dropT
  rw [List.filter_map]
  rfl
theorem insT0 (x : Int) : ∀ (l : List Int), risL l → x ∉ l → insT (th0 x) (l.map th0) = (l.filter (fun n => decide (n < x)) ++ x :: l.filter fun n => decide (x < n)).map th0
  | [], _, _ => rfl
  | y :: t, h, hx => by
    have h1 := List.pairwise_cons.1 h
    have hxy : x ≠ y := fun e => hx (e ▸ List.mem_cons_self)
    rw [List.map_cons]
    unfold insT
    rw [ahead0]
    by_cases hlt : x < y
    · have e1 : (y :: t).filter (fun n => decide (n < x)) = [] := List.filter_eq_nil_iff.2 fun z hz => by
        rcases List.mem_cons.1 hz with rfl | hz
        · simp; omega
        · have := h1.1 z hz; simp; omega
      have e2 : (y :: t).filter (fun n => decide (x < n)) = y :: t := List.filter_eq_self.2 fun z hz => by
        rcases List.mem_cons.1 hz with rfl | hz
        · simpa using hlt
        · have := h1.1 z hz; simp; omega
      rw [e1, e2, if_pos (by simpa using hlt)]
      rfl
    · rw [if_neg (by simpa using hlt), insT0 x t h1.2 fun hm => hx (List.mem_cons_of_mem _ hm), List.filter_cons_of_pos (by simp; omega), List.filter_cons_of_neg (by simp; omega)]
      rfl
theorem putT0 {l r : List Int} {x : Int} (hl : risL l) (hr : risL r) (h : ∀ n, n ∈ r ↔ n = x ∨ n ∈ l) : putT (l.map th0) (th0 x) = r.map th0 := by
  unfold putT
  have hf : risL (l.filter fun n => decide (n ≠ x)) := List.Pairwise.filter _ hl
  have hx : x ∉ l.filter fun n => decide (n ≠ x) := fun hm => by simpa using (List.mem_filter.1 hm).2
  rw [show (th0 x).id = x from rfl, dropT0, insT0 x _ hf hx]
  have e := insS_is x hf
  rw [← e]
  congr 1
  refine (insS_ris x hf).eq hr fun n => ?_
  rw [insS_mem x n hf, h, List.mem_filter]
  constructor
  · rintro (h1 | h1)
    · exact .inl h1
    · exact .inr h1.1
  · rintro (h1 | h1)
    · exact .inl h1
    · by_cases hn : n = x
      · exact .inl hn
      · exact .inr ⟨h1, by simpa using hn⟩
/-- the first ones of them are put in -/
theorem frT_put {nodes : List Int} (hr : risL nodes) (A : Int → Nat) (i : Nat) (hi : i < nodes.length) (h0 : A nodes[i] = 0) : putT (frT (nodes.take i) A []) (th0 nodes[i]) = frT (nodes.take (i + 1)) A [] := by
  have hrt : ∀ k, risL (nodes.take k) := fun k => List.Pairwise.sublist (List.take_sublist _ _) hr
  refine putT0 (frL_ris (hrt _) _ _) (frL_ris (hrt _) _ _) fun n => ?_
  rw [frL_mem, frL_mem, List.take_succ_eq_append_getElem hi, List.mem_append, List.mem_singleton]
  constructor
  · rintro ⟨h1 | h1, h2, h3⟩
    · exact .inr ⟨h1, h2, h3⟩
    · exact .inl h1
  · rintro (rfl | ⟨h1, h2, h3⟩)
    · exact ⟨.inr rfl, h0, by simp⟩
    · exact ⟨.inl h1, h2, h3⟩
theorem frT_skip {nodes : List Int} (A : Int → Nat) (i : Nat) (hi : i < nodes.length) (h0 : A nodes[i] ≠ 0) : frT (nodes.take i) A [] = frT (nodes.take (i + 1)) A [] := by
  unfold frT frL
  rw [List.take_succ_eq_append_getElem hi, List.filter_append]
  simp [h0]
/-- one that is awaited once less -/
theorem frT_down {nodes : List Int} (hr : risL nodes) {A A' : Int → Nat} {told : List Int} {h : Int} (hh : h ∈ nodes) (hA : ∀ n, A' n = if n = h then A n - 1 else A n) (hp : 0 < A h) (ht : h ∉ told) :
    frT nodes A' told = if A' h = 0 then putT (frT nodes A told) (th0 h) else frT nodes A told := by
  have hAh := hA h
  rw [if_pos rfl] at hAh
  by_cases h0 : A' h = 0
  · rw [if_pos h0]
    refine (putT0 (frL_ris hr _ _) (frL_ris hr _ _) fun n => ?_).symm
    rw [frL_mem, frL_mem, hA]
    by_cases hn : n = h
    · subst hn
      simp [hh, ht]
      omega
    · simp [hn]
  · rw [if_neg h0]
    unfold frT frL
    congr 1
    refine List.filter_congr fun n _ => ?_
    rw [hA]
    by_cases hn : n = h
    · subst hn
      rw [if_pos rfl]
      have e1 : A n - 1 ≠ 0 := by omega
      have e2 : A n ≠ 0 := by omega
      simp [e1, e2]
    · rw [if_neg hn]
/-- the least one is told -/
theorem frT_pop {nodes : List Int} (hr : risL nodes) {A : Int → Nat} {told : List Int} {x : Int} {t : List Int} (h : frL nodes A told = x :: t) : (frT nodes A told).drop 1 = frT nodes A (told ++ [x]) := by
  unfold frT
  rw [h]
  show t.map th0 = _
  have h1 := List.pairwise_cons.1 (h ▸ frL_ris hr A told)
  congr 1
  refine risL.eq h1.2 (frL_ris hr _ _) fun n => ?_
  have hm : n ∈ x :: t ↔ n ∈ nodes ∧ A n = 0 ∧ n ∉ told := by rw [← h]; exact frL_mem
  rw [frL_mem, List.mem_append, List.mem_singleton]
  rw [List.mem_cons] at hm
  constructor
  · intro hn
    obtain ⟨a, b, c⟩ := hm.1 (.inr hn)
    refine ⟨a, b, fun h2 => ?_⟩
    rcases h2 with h2 | rfl
    · exact c h2
    · have := h1.1 _ hn; omega
  · rintro ⟨a, b, c⟩
    rcases hm.2 ⟨a, b, fun h2 => c (.inl h2)⟩ with rfl | h2
    · exact absurd (.inr rfl) c
    · exact h2
theorem next_aw {nodes : List Int} {arcs : List Arc16} {told : List Int} {n : Int} (hn : n ∈ nodes) : nextB nodes arcs told n = (decide (awL nodes arcs told n = 0) && !inL told n) := by
  unfold nextB
  rw [Bool.and_comm]
  congr 1
  cases hf : freeG nodes arcs told n with
  | true => exact (decide_eq_true ((free_aw hn).1 hf)).symm
  | false => exact (decide_eq_false fun h => by rw [(free_aw hn).2 h] at hf; cases hf).symm
theorem frL_next (nodes : List Int) (arcs : List Arc16) (told : List Int) : frL nodes (awL nodes arcs told) told = nodes.filter (nextB nodes arcs told) := by
  unfold frL
  exact List.filter_congr fun n hn => (next_aw hn).symm
/-- who is told next -/
theorem fr_head {nodes : List Int} {arcs : List Arc16} {told : List Int} {x : Int} {t : List Int} (h : frL nodes (awL nodes arcs told) told = x :: t) (f : Nat) :
    ordG nodes arcs (f + 1) told = ordG nodes arcs f (told ++ [x]) ∧ x ∈ nodes ∧ nextB nodes arcs told x = true ∧ x ∉ told := by
  have hm : x ∈ frL nodes (awL nodes arcs told) told := by rw [h]; exact List.mem_cons_self
  obtain ⟨h1, h2, h3⟩ := frL_mem.1 hm
  refine ⟨?_, h1, by rw [next_aw h1, h2, inL_not.2 h3]; rfl, h3⟩
  rw [frL_next] at h
  have e : nodes.find? (nextB nodes arcs told) = some x := by
    rw [← List.head?_filter, h]
    rfl
  conv => lhs; unfold ordG
  rw [e]
theorem fr_none {nodes : List Int} {arcs : List Arc16} {told : List Int} (h : frL nodes (awL nodes arcs told) told = []) (f : Nat) : ordG nodes arcs f told = told :=
  ordG_end (fun n hn => by
    have := List.eq_nil_iff_forall_not_mem.1 (frL_next nodes arcs told ▸ h) n
    rw [List.mem_filter, not_and] at this
    simpa using this hn) f
/-- one that is told is awaited by nobody: its heads are no such -/
theorem head_new {nodes : List Int} {arcs : List Arc16} {told : List Int} {x m : Int} (ho : OrdI nodes arcs told) (hx : x ∈ nodes) (hb : nextB nodes arcs told x = true) (hm : m ∈ hdsL nodes arcs x) : m ∉ told ++ [x] := by
  obtain ⟨a, h1, h2, h3, h4, h5⟩ := hdL_mem.1 hm
  have ho2 := ho.next hx hb
  intro hin
  obtain ⟨i, hi, e⟩ := List.getElem_of_mem hin
  have h6 := ho2.pre i hi a h1 (h3.trans e.symm) (h2 ▸ hx)
  rw [h2] at h6
  rw [List.length_append] at hi
  simp only [List.length_cons, List.length_nil] at hi
  rw [List.take_append_of_le_length (by omega)] at h6
  have hnt : x ∉ told := by
    unfold nextB at hb
    rw [Bool.and_eq_true, Bool.not_eq_true', inL_not] at hb
    exact hb.1
  exact hnt (List.mem_of_mem_take h6)

/-! ### Levels -/
/-- the level of n when the first j of x's heads are gone through -/
def lvJ (H : List Int) (lx : Int) (j : Nat) (old : Int → Int) (n : Int) : Int := if n ∈ H.take j then max (old n) (lx + 1) else old n
theorem lvJ_zero (H : List Int) (lx : Int) (old : Int → Int) : lvJ H lx 0 old = old := by funext n; unfold lvJ; simp
theorem lvJ_next {H : List Int} {lx : Int} {j : Nat} {old : Int → Int} (hj : j < H.length) (n : Int) :
    lvJ H lx (j + 1) old n = if n = H[j] then max (lvJ H lx j old n) (lx + 1) else lvJ H lx j old n := by
  unfold lvJ
  rw [List.take_succ_eq_append_getElem hj]
  by_cases hn : n = H[j]
  · rw [if_pos hn, if_pos (by rw [List.mem_append, List.mem_singleton]; exact .inr hn)]
    split
    · omega
    · rfl
  · rw [if_neg hn]
    by_cases hm : n ∈ H.take j
    · rw [if_pos hm, if_pos (List.mem_append_left _ hm)]
    · rw [if_neg hm, if_neg (by rw [List.mem_append, List.mem_singleton]; rintro (h | h); exact hm h; exact hn h)]
theorem lvA_one (arcs : List Arc16) (n x lx : Int) : ∀ m, lvA arcs n (x, lx) m = if (∃ a ∈ arcs, a.src = x ∧ a.dst = n) then max m (lx + 1) else m := by
  induction arcs with
  | nil => intro m; simp [lvA]
  | cons a t ih =>
    intro m
    have e : lvA (a :: t) n (x, lx) m = lvA t n (x, lx) (if a.src = x ∧ a.dst = n then max m (lx + 1) else m) := rfl
    rw [e, ih]
    by_cases h1 : a.src = x ∧ a.dst = n
    · rw [if_pos h1, if_pos (show ∃ b ∈ a :: t, b.src = x ∧ b.dst = n from ⟨a, List.mem_cons_self, h1⟩)]
      split
      · omega
      · rfl
    · rw [if_neg h1]
      by_cases h2 : ∃ b ∈ t, b.src = x ∧ b.dst = n
      · rw [if_pos h2]
        obtain ⟨b, hb, h3⟩ := h2
        rw [if_pos ⟨b, List.mem_cons_of_mem _ hb, h3⟩]
      · rw [if_neg h2, if_neg]
        rintro ⟨b, hb, h3⟩
        rcases List.mem_cons.1 hb with rfl | hb
        · exact h1 h3
        · exact h2 ⟨b, hb, h3⟩
def lvG (arcs : List Arc16) (told : List Int) (n : Int) : Int := lvP arcs n (levP arcs told)
theorem lvG_step {nodes : List Int} (arcs : List Arc16) (told : List Int) {x n : Int} (hx : x ∈ nodes) (hn : n ∈ nodes) :
    lvG arcs (told ++ [x]) n = lvJ (hdsL nodes arcs x) (lvG arcs told x) (hdsL nodes arcs x).length (lvG arcs told) n := by
  unfold lvG lvJ
  rw [levP_snoc, List.take_length]
  have e : lvP arcs n (levP arcs told ++ [(x, lvP arcs x (levP arcs told))]) = lvA arcs n (x, lvP arcs x (levP arcs told)) (lvP arcs n (levP arcs told)) := by
    unfold lvP
    rw [List.foldl_append]
    rfl
  rw [e, lvA_one]
  by_cases h : ∃ a ∈ arcs, a.src = x ∧ a.dst = n
  · obtain ⟨a, h1, h2, h3⟩ := h
    rw [if_pos ⟨a, h1, h2, h3⟩, if_pos (hdL_mem.2 ⟨a, h1, h2, h3, hx, hn⟩)]
  · rw [if_neg h, if_neg fun hm => h (by obtain ⟨a, h1, h2, h3, _⟩ := hdL_mem.1 hm; exact ⟨a, h1, h2, h3⟩)]
theorem lvG_bd (arcs : List Arc16) (told : List Int) (n : Int) : 0 ≤ lvG arcs told n ∧ lvG arcs told n ≤ told.length := by
  refine ⟨lvP_nonneg _ _ _, ?_⟩
  have h := lvP_le arcs n (levP arcs told) (levP_le arcs told) _ (Nat.le_refl _)
  rw [List.take_length, levP_len] at h
  exact h
theorem lvG_nil (arcs : List Arc16) (n : Int) : lvG arcs [] n = 0 := rfl
/-- the levels of those that are told -/
def gT (arcs : List Arc16) (told : List Int) (n : Int) : Option Int := if n ∈ told then some (levOf (levP arcs told) n) else none
theorem levOf_snoc (P : List (Int × Int)) (p : Int × Int) (n : Int) : levOf (P ++ [p]) n = if p.1 = n then p.2 else levOf P n := by
  unfold levOf
  rw [List.foldl_append]
  rfl
theorem gT_snoc (arcs : List Arc16) (told : List Int) (x : Int) : gT arcs (told ++ [x]) = fun n => if n = x then some (lvG arcs told x) else gT arcs told n := by
  funext n
  unfold gT lvG
  rw [levP_snoc, levOf_snoc]
  by_cases hn : n = x
  · subst hn; simp
  · rw [if_neg hn, if_neg (Ne.symm hn)]
    by_cases hm : n ∈ told
    · rw [if_pos hm, if_pos (List.mem_append_left _ hm)]
    · rw [if_neg hm, if_neg (by rw [List.mem_append, List.mem_singleton]; rintro (h | h); exact hm h; exact hn h)]
theorem gT_nil (arcs : List Arc16) : gT arcs [] = fun _ => none := by funext n; simp [gT]
theorem gT_some {arcs : List Arc16} {told : List Int} {n : Int} : (gT arcs told n).isSome = inL told n := by
  unfold gT
  by_cases h : n ∈ told
  · rw [if_pos h, inL_iff.2 h]; rfl
  · rw [if_neg h, inL_not.2 h]; rfl

/-! ### Reaching -/
/-- what is gone through: what was reached, and what waits -/
structure RchI (nodes : List Int) (arcs : List Arc16) (frm done wait : List Int) : Prop where
  ti : ToldI nodes done
  inn : ∀ n ∈ done ++ wait, n ∈ nodes → n ∈ itR nodes arcs nodes.length (nodes.filter fun n => inL frm n)
  from_ : ∀ n ∈ frm, n ∈ nodes → n ∈ done ∨ n ∈ wait
  heads : ∀ n ∈ done, ∀ m ∈ hdsL nodes arcs n, m ∈ done ∨ m ∈ wait
theorem rowR_sub {nodes : List Int} : ∀ (arcs : List Arc16) (out : List Int), ∀ n ∈ out, n ∈ rowR nodes arcs out
  | [], _, _, h => h
  | _ :: t, _, n, h => rowR_sub t _ n (by
    unfold stepR
    split
    · exact List.mem_append_left _ h
    · exact h)
theorem itR_sub {nodes : List Int} {arcs : List Arc16} {o : List Int} : ∀ k, ∀ n ∈ o, n ∈ itR nodes arcs k o
  | 0, _, h => h
  | k + 1, n, h => rowR_sub arcs _ n (itR_sub k n h)
theorem stepR_in {nodes out X : List Int} {a : Arc16} (h : ∀ n ∈ out, n ∈ X) (hc : a.src ∈ X → a.dst ∈ nodes → a.dst ∈ X) : ∀ n ∈ stepR nodes out a, n ∈ X := by
  intro n hn
  unfold stepR at hn
  split at hn
  · rename_i hcc
    simp only [Bool.and_eq_true, Bool.not_eq_true'] at hcc
    rcases List.mem_append.1 hn with h1 | h1
    · exact h n h1
    · rw [List.mem_singleton.1 h1]
      exact hc (h _ (inL_iff.1 hcc.1.1)) (inL_iff.1 hcc.1.2)
  · exact h n hn
theorem rowR_in {nodes X : List Int} : ∀ (arcs : List Arc16) (out : List Int), (∀ n ∈ out, n ∈ X) → (∀ a ∈ arcs, a.src ∈ X → a.dst ∈ nodes → a.dst ∈ X) → ∀ n ∈ rowR nodes arcs out, n ∈ X
  | [], _, h, _ => h
  | a :: t, _, h, hc => rowR_in t _ (stepR_in h (hc a List.mem_cons_self)) fun b hb => hc b (List.mem_cons_of_mem _ hb)
theorem itR_in {nodes X : List Int} {arcs : List Arc16} {o : List Int} (h : ∀ n ∈ o, n ∈ X) (hc : ∀ a ∈ arcs, a.src ∈ X → a.dst ∈ nodes → a.dst ∈ X) : ∀ k, ∀ n ∈ itR nodes arcs k o, n ∈ X
  | 0 => h
  | k + 1 => rowR_in arcs _ (itR_in h hc k) hc
theorem start_told {nodes : List Int} (hr : risL nodes) (frm : List Int) : ToldI nodes (nodes.filter fun n => inL frm n) := ⟨fun _ h => (List.mem_filter.1 h).1, hr.nodup.filter _⟩
theorem RchI.start {nodes : List Int} {arcs : List Arc16} {frm : List Int} : RchI nodes arcs frm [] frm :=
  ⟨ToldI.nil _, fun n hn h => itR_sub _ n (List.mem_filter.2 ⟨h, inL_iff.2 (by simpa using hn)⟩), fun n hn _ => .inr hn, fun n hn => (by cases hn)⟩
/-- the last that waits is no node, or was reached -/
theorem RchI.skip {nodes : List Int} {arcs : List Arc16} {frm done wait : List Int} {x : Int} (h : RchI nodes arcs frm done (wait ++ [x])) (hx : x ∉ nodes ∨ x ∈ done) : RchI nodes arcs frm done wait := by
  have key : ∀ m, m ∈ nodes → m ∈ done ∨ m ∈ wait ++ [x] → m ∈ done ∨ m ∈ wait := by
    rintro m hm (h1 | h1)
    · exact .inl h1
    · rcases List.mem_append.1 h1 with h2 | h2
      · exact .inr h2
      · rw [List.mem_singleton.1 h2] at hm ⊢
        rcases hx with hx | hx
        · exact absurd hm hx
        · exact .inl hx
  exact ⟨h.ti, fun n hn => h.inn n (by rcases List.mem_append.1 hn with h1 | h1; exact List.mem_append_left _ h1; exact List.mem_append_right _ (List.mem_append_left _ h1)), fun n hn hm => key n hm (h.from_ n hn hm), fun n hn m hm => key m (by obtain ⟨_, _, _, _, _, h5⟩ := hdL_mem.1 hm; exact h5) (h.heads n hn m hm)⟩
/-- the last that waits is reached -/
theorem RchI.step {nodes : List Int} {arcs : List Arc16} {frm done wait : List Int} {x : Int} (hr : risL nodes) (h : RchI nodes arcs frm done (wait ++ [x])) (hx : x ∈ nodes) (hd : x ∉ done) : RchI nodes arcs frm (done ++ [x]) (wait ++ hdsL nodes arcs x) := by
  have hin : x ∈ itR nodes arcs nodes.length (nodes.filter fun n => inL frm n) := h.inn x (by simp) hx
  have hc := itR_closed (arcs := arcs) (start_told hr frm)
  refine ⟨⟨fun n hn => ?_, List.nodup_append.2 ⟨h.ti.nodup, by simp, fun a ha b hb e => by rw [List.mem_singleton.1 hb] at e; subst e; exact hd ha⟩⟩, fun n hn hm => ?_, fun n hn hm => ?_, fun n hn m hm => ?_⟩
  · rcases List.mem_append.1 hn with h1 | h1
    · exact h.ti.sub n h1
    · rw [List.mem_singleton.1 h1]; exact hx
  · rcases List.mem_append.1 hn with h1 | h1
    · rcases List.mem_append.1 h1 with h2 | h2
      · exact h.inn n (List.mem_append_left _ h2) hm
      · rw [List.mem_singleton.1 h2]; exact hin
    · rcases List.mem_append.1 h1 with h2 | h2
      · exact h.inn n (List.mem_append_right _ (List.mem_append_left _ h2)) hm
      · obtain ⟨a, h3, h4, h5, _, _⟩ := hdL_mem.1 h2
        rw [← h5] at hm ⊢
        exact hc a h3 (h4 ▸ hin) hm
  · rcases h.from_ n hn hm with h1 | h1
    · exact .inl (List.mem_append_left _ h1)
    · rcases List.mem_append.1 h1 with h2 | h2
      · exact .inr (List.mem_append_left _ h2)
      · exact .inl (List.mem_append_right _ h2)
  · rcases List.mem_append.1 hn with h1 | h1
    · rcases h.heads n h1 m hm with h2 | h2
      · exact .inl (List.mem_append_left _ h2)
      · rcases List.mem_append.1 h2 with h3 | h3
        · exact .inr (List.mem_append_left _ h3)
        · exact .inl (List.mem_append_right _ h3)
    · rw [List.mem_singleton.1 h1] at hm
      exact .inr (List.mem_append_right _ hm)
/-- nothing waits any more -/
theorem RchI.done {ids : List Int} {arcs : List Arc16} {frm done : List Int} (h : RchI (setL ids) arcs frm done []) : ∀ x, x ∈ done ↔ x ∈ reachL ids arcs frm := by
  intro x
  unfold reachL startR
  rw [setL_mem]
  constructor
  · intro hx
    exact h.inn x (List.mem_append_left _ hx) (h.ti.sub x hx)
  · refine itR_in (fun n hn => ?_) (fun a ha h1 h2 => ?_) _ x
    · obtain ⟨h1, h2⟩ := List.mem_filter.1 hn
      simpa using h.from_ n (inL_iff.1 h2) h1
    · have := h.heads a.src h1 a.dst (hdL_mem.2 ⟨a, ha, rfl, rfl, h.ti.sub _ h1, h2⟩)
      simpa using this
theorem RchI.len {nodes : List Int} {arcs : List Arc16} {frm done wait : List Int} (h : RchI nodes arcs frm done wait) : done.length ≤ nodes.length := h.ti.len
end Go.Proofs.Ytjmgokjljmmmgaa
/- Stage 16's program: a graph in memory; has. -/
namespace Go.Proofs.Ytjmgokjljmmmgaa
open Go.RowKit

abbrev grv (a : Option Addr) (n c hb ab : Nat) : Value := .agg #[.slice a n c, .map (some hb), .map (some ab)]
abbrev grc (a : Option Addr) (n c hb ab : Nat) : List Value := [.slice a n c, .map (some hb), .map (some ab)]
/-- what is awaited, as a map -/
def gA (nodes : List Int) (A : Int → Nat) (n : Int) : Option Int := if n ∈ nodes then some (A n : Int) else none
theorem gA_some {nodes : List Int} {A : Int → Nat} {n : Int} : (gA nodes A n).isSome = inL nodes n := by
  unfold gA
  by_cases h : n ∈ nodes
  · rw [if_pos h, inL_iff.2 h]; rfl
  · rw [if_neg h, inL_not.2 h]; rfl
theorem gA_getD {nodes : List Int} {A : Int → Nat} {n : Int} (h : n ∈ nodes) : (gA nodes A n).getD 0 = (A n : Int) := by
  unfold gA
  rw [if_pos h]; rfl
theorem gA_upd {nodes : List Int} {A A' : Int → Nat} {h : Int} {k : Nat} (hn : h ∈ nodes) (hA : ∀ n, A' n = if n = h then k else A n) : updG (gA nodes A) h (some (k : Int)) = gA nodes A' := by
  funext n
  unfold updG gA
  rw [hA]
  by_cases e : n = h
  · rw [if_pos e, if_pos (e ▸ hn), if_pos e]
  · rw [if_neg e, if_neg e]
/-- nodes, and to which nodes arrows lead from each: all of R -/
structure GrAt (R : Nat → Prop) (w : World) (vn : Value) (hb hm : Nat) (gh : Int → Option Hd) (nodes : List Int) (H : Int → List Int) : Prop where
  row : IntsAt w vn nodes
  map : MapH w hb hm gh
  rows : ∀ n, I64 n → IntsAt w (hat gh n) (H n)
  rn : 0 < nodes.length → ∀ g, vn.ownBlock = some g → R g
  rh : R hb
  rr : ∀ n, I64 n → 0 < (H n).length → ∀ g, (hat gh n).ownBlock = some g → R g
section
variable {R : Nat → Prop} {w w' : World} {vn : Value} {hb hm : Nat} {gh : Int → Option Hd} {nodes : List Int} {H : Int → List Int}
theorem GrAt.out (h : GrAt R w vn hb hm gh nodes H) (hz : w.heap.size ≤ w'.heap.size) (he : ∀ k, R k → w'.heap[k]? = w.heap[k]?) : GrAt R w' vn hb hm gh nodes H :=
  ⟨(RowsAt.same h.row.rows hz fun h0 g hg => he g (h.rn h0 g hg)).ints, h.map.same (he hb h.rh), fun n hn => (RowsAt.same (h.rows n hn).rows hz fun h0 g hg => he g (h.rr n hn h0 g hg)).ints, h.rn, h.rh, h.rr⟩
theorem GrAt.kept (h : GrAt R w vn hb hm gh nodes H) (hw : Below w.heap.size w w') : GrAt R w' vn hb hm gh nodes H :=
  ⟨h.row.below hw, h.map.kept hw, fun n hn => (h.rows n hn).below hw, h.rn, h.rh, h.rr⟩
theorem GrAt.mono {R' : Nat → Prop} (h : GrAt R w vn hb hm gh nodes H) (hs : ∀ k, R k → R' k) : GrAt R' w vn hb hm gh nodes H :=
  ⟨h.row, h.map, h.rows, fun h0 g hg => hs g (h.rn h0 g hg), hs _ h.rh, fun n hn h0 g hg => hs g (h.rr n hn h0 g hg)⟩
end

set_option maxHeartbeats 1000000 in
theorem gHas_any (a : Option Addr) (k c hb ab m : Nat) (g : Int → Option Int) (n : Int) (w : World) (h : MapI w ab m g) (hn : I64 n) :
    Calls Try.prog 56 #[grv a k c hb ab, .int .i64 n] w fun e w' => e = .returned (.bool (g n).isSome) ∧ Below w.heap.size w w' := by
  have hal := (Below.refl w.heap.size w).alloc (Nat.le_refl _) (.cells #[.slice a k c, .map (some hb), .map (some ab)] 69)
  have hX := Blk.new w [.slice a k c, .map (some hb), .map (some ab)] 69
  have e2 := hX.cell 2 rfl
  have HL := Lib.hid ((h.kept hal).look hn)
  have HB := Lib.hid hal
  generalize (g n).getD 0 = x at *
  generalize (g n).isSome = t at *
  have hl := HL.out
  clear h hX hal
  go_enter Try.func56, Try.ntmps56
  go_wp2
  go_ret
  exact ⟨rfl, HB.out⟩
end Go.Proofs.Ytjmgokjljmmmgaa
