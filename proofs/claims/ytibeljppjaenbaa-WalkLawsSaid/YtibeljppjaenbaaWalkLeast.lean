/- Short walks: mathematics for the law WalkLeast. -/
import Derived.Test.YtibeljppjaenbaaWalkLawS
import Derived.Test.YtibeljppjaenbaaWalkEnds
import Derived.Test.YtibeljppjaenbaaWalkC
namespace Go.Proofs.Ytibeljppjaenbaa
open Go.RowKit

/-! ### A walk and its reverse are nothing -/
theorem psh_nil {s : List P2} : psh s (0, 0) = s := by unfold psh; rw [if_pos rfl]
theorem psh_undo {s : List P2} {x y : P2} (hs : Alt s) (hx : Gd x) (hy : Gd y) (hs2 : sort2 x = sort2 y) (hc : comb x y = (0, 0)) (h0 : x = (0, 0) ↔ y = (0, 0)) : psh (psh s x) y = s := by
  by_cases h : x = (0, 0)
  · rw [h, h0.1 h, psh_nil, psh_nil]
  · rw [psh_two hs hx hy h (fun e => h (h0.2 e)) hs2, hc, psh_nil]
theorem rv_steps (c d : Int) (h : d = -c) : sort2 (c, 0) = sort2 (d, 0) ∧ comb (c, 0) (d, 0) = (0, 0) ∧ ((c, (0 : Int)) = (0, 0) ↔ (d, (0 : Int)) = (0, 0)) := by
  subst h
  refine ⟨?_, ?_, ?_⟩
  · unfold sort2
    rw [decide_eq_decide]
    show c ≠ 0 ↔ -c ≠ 0
    omega
  · unfold comb
    refine Prod.ext ?_ rfl
    show c + -c = 0
    omega
  · rw [Prod.mk.injEq, Prod.mk.injEq]
    omega
theorem rv_turn (c d : Int) (h : (c + d) % 4 = 0) (h2 : c = 0 ↔ d = 0) : sort2 (0, c) = sort2 (0, d) ∧ comb (0, c) (0, d) = (0, 0) ∧ (((0 : Int), c) = (0, 0) ↔ ((0 : Int), d) = (0, 0)) := by
  refine ⟨rfl, ?_, ?_⟩
  · unfold comb
    exact Prod.ext rfl h
  · rw [Prod.mk.injEq, Prod.mk.injEq]
    omega
theorem pln_rev (m : Int × Int) : sort2 (pln m) = sort2 (pln (rev1 m)) ∧ comb (pln m) (pln (rev1 m)) = (0, 0) ∧ (pln m = (0, 0) ↔ pln (rev1 m) = (0, 0)) := by
  have hc := cnt_rev m
  have hb := cnt_bd m
  obtain ⟨k, n⟩ := m
  have hk : k = 1 ∨ k = 2 ∨ k = 3 ∨ k = 4 ∨ (k ≠ 1 ∧ k ≠ 2 ∧ k ≠ 3 ∧ k ≠ 4) := by omega
  rcases hk with rfl | rfl | rfl | rfl | ⟨n1, n2, n3, n4⟩
  · rw [show rev1 (1, n) = (2, n) from rfl] at hc ⊢
    rw [show pln (1, n) = (cnt (1, n), 0) from rfl, show pln (2, n) = (-cnt (2, n), 0) from rfl, hc]
    exact rv_steps _ _ rfl
  · rw [show rev1 (2, n) = (1, n) from rfl] at hc ⊢
    rw [show pln (2, n) = (-cnt (2, n), 0) from rfl, show pln (1, n) = (cnt (1, n), 0) from rfl, hc]
    exact rv_steps _ _ (Int.neg_neg _).symm
  · rw [show rev1 (3, n) = (4, n) from rfl] at hc ⊢
    rw [show pln (3, n) = (0, cnt (3, n) % 4) from rfl, show pln (4, n) = (0, 3 * cnt (4, n) % 4) from rfl, hc]
    exact rv_turn _ _ (by omega) (by omega)
  · rw [show rev1 (4, n) = (3, n) from rfl] at hc ⊢
    rw [show pln (4, n) = (0, 3 * cnt (4, n) % 4) from rfl, show pln (3, n) = (0, cnt (3, n) % 4) from rfl, hc]
    exact rv_turn _ _ (by omega) (by omega)
  · have e : rev1 (k, n) = (k, n) := by unfold rev1; simp only; rw [if_neg n1, if_neg n2, if_neg n3, if_neg n4]
    have e2 : pln (k, n) = (0, 0) := by unfold pln; simp only; rw [if_neg n1, if_neg n2, if_neg n3, if_neg n4]
    rw [e, e2]
    refine ⟨rfl, by decide, Iff.rfl⟩
theorem fold_rev (l : List (Int × Int)) (s : List P2) (hs : Alt s) : ((l ++ revw l).map pln).foldl psh s = s := by
  induction l generalizing s with
  | nil => rfl
  | cons m l ih =>
    have e : m :: l ++ revw (m :: l) = m :: (l ++ revw l) ++ [rev1 m] := by unfold revw; simp
    rw [e, List.map_append, List.foldl_append, List.map_cons, List.foldl_cons]
    show psh (((l ++ revw l).map pln).foldl psh (psh s (pln m))) (pln (rev1 m)) = s
    rw [ih _ (psh_alt hs (pln_gd m))]
    obtain ⟨h1, h2, h3⟩ := pln_rev m
    exact psh_undo hs (pln_gd m) (pln_gd (rev1 m)) h1 h2 h3
theorem srt_rev (l : List (Int × Int)) : srt (l ++ revw l) = ([], 0) := by
  have h : nrm (l ++ revw l) = [] := by
    unfold nrm nfs
    rw [fold_rev l [] trivial]
    rfl
  unfold srt
  rw [h]
  rfl

/-! ### Short of what is short -/
theorem nrm_alt' (l : List (Int × Int)) : Alt (nrm l) := by
  have h := (nrm_alt l).reverse
  rw [List.reverse_reverse] at h
  exact h
/-- the moves of pairs that are no nothing, and not too many steps -/
def Few (l : List P2) : Prop := Alt l ∧ ∀ x ∈ l, x.1.natAbs ≤ 1048576
theorem pln_mv {x : P2} (hx : Gd x) (h0 : x ≠ (0, 0)) (hb : x.1.natAbs ≤ 1048576) : pln (mv1 x.1 x.2) = x ∧ cnt (mv1 x.1 x.2) = (mv1 x.1 x.2).2 ∧ 1 ≤ (mv1 x.1 x.2).1 ∧ (mv1 x.1 x.2).1 ≤ 4 ∧ 1 ≤ (mv1 x.1 x.2).2 ∧ (decide ((mv1 x.1 x.2).1 ≤ 2) = sort2 x) := by
  obtain ⟨a, b⟩ := x
  obtain ⟨g1, g2, g3⟩ := hx
  simp only at *
  have h0' : ¬ (a = 0 ∧ b = 0) := fun ⟨e1, e2⟩ => h0 (by rw [e1, e2])
  have ct : ∀ k n : Int, 1 ≤ k → k ≤ 4 → 0 ≤ n → n ≤ 1048576 → cnt (k, n) = n := fun k n h1 h2 h3 h4 => by
    rw [cnt_ct k n h1 h2]
    unfold ct
    omega
  unfold mv1
  by_cases h1 : 0 < a
  · rw [if_pos h1]
    have hc := ct 1 a (by decide) (by decide) (by omega) (by omega)
    refine ⟨?_, hc, by simp, by simp, by simp only; omega, ?_⟩
    · rw [show pln (1, a) = (cnt (1, a), 0) from rfl, hc]
      have : b = 0 := by omega
      rw [this]
    · unfold sort2
      simp
      omega
  · rw [if_neg h1]
    by_cases h2 : a < 0
    · rw [if_pos h2]
      have hc := ct 2 (-a) (by decide) (by decide) (by omega) (by omega)
      refine ⟨?_, hc, by simp, by simp, by simp only; omega, ?_⟩
      · rw [show pln (2, -a) = (-cnt (2, -a), 0) from rfl, hc]
        have : b = 0 := by omega
        rw [this, Int.neg_neg]
      · unfold sort2
        simp
        omega
    · rw [if_neg h2]
      have ha : a = 0 := by omega
      subst ha
      by_cases h3 : b = 3
      · rw [if_pos h3]
        subst h3
        refine ⟨by decide, by decide, by decide, by decide, by decide, by decide⟩
      · rw [if_neg h3]
        have hc := ct 3 b (by decide) (by decide) (by omega) (by omega)
        refine ⟨?_, hc, by simp, by simp, by simp only; omega, ?_⟩
        · rw [show pln (3, b) = (0, cnt (3, b) % 4) from rfl, hc]
          rw [show b % 4 = b by omega]
        · unfold sort2
          simp
theorem outs_map {l : List P2} (h : Alt l) : outs l = l.map fun x => mv1 x.1 x.2 := by
  induction l with
  | nil => rfl
  | cons x l ih =>
    have e : outs (x :: l) = one1 x.1 x.2 ++ outs l := by simp [outs]
    rw [e, one1_mv h.head.1 h.head.2, ih h.tail]
    rfl
theorem plns_outs {l : List P2} (h : Few l) : (outs l).map pln = l := by
  rw [outs_map h.1, List.map_map]
  refine List.ext_getElem (by simp) fun i h1 h2 => ?_
  simp only [List.getElem_map, Function.comp]
  have hm := h.1.mem (List.getElem_mem h2)
  exact (pln_mv hm.1 hm.2 (h.2 _ (List.getElem_mem h2))).1
theorem nrm_outs {l : List P2} (h : Few l) : nrm (outs l) = l := by
  unfold nrm
  rw [plns_outs h, nfs_alt h.1, List.reverse_reverse]
theorem few_big {l : List P2} (h : Few l) : ¬ ∃ x ∈ l, big x := by
  rintro ⟨x, hx, hb⟩
  have := h.2 x hx
  unfold big at hb
  omega
theorem srt_few {l : List (Int × Int)} (h : Few (nrm l)) : srt l = (outs (nrm l), 0) := by
  unfold srt
  rw [if_neg (few_big h)]
theorem srt_again {l : List (Int × Int)} (h : Few (nrm l)) : srt (outs (nrm l)) = (outs (nrm l), 0) := by
  have e := nrm_outs h
  have h2 : Few (nrm (outs (nrm l))) := by rw [e]; exact h
  rw [srt_few h2, e]

/-! ### Near walks have few steps -/
theorem psh_tot (s : List P2) (x : P2) : tot (psh s x) ≤ tot s + x.1.natAbs := by
  unfold psh
  split
  · omega
  · cases s with
    | nil => rw [tot_cons]; simp [tot]
    | cons t s =>
      simp only
      rw [tot_cons]
      split
      · split
        · omega
        · rw [tot_cons]
          show (t.1 + x.1).natAbs + tot s ≤ _
          omega
      · rw [tot_cons, tot_cons]; omega
theorem tot_rev (l : List P2) : tot l.reverse = tot l := by unfold tot; rw [List.map_reverse, List.sum_reverse]
theorem foldl_tot (l s : List P2) : tot (l.foldl psh s) ≤ tot s + tot l := by
  induction l generalizing s with
  | nil => simp [tot]
  | cons x l ih =>
    rw [List.foldl_cons, tot_cons]
    have := ih (psh s x)
    have := psh_tot s x
    omega
theorem pln_steps' (m : Int × Int) : ((pln m).1.natAbs : Int) = if m.1 = 1 ∨ m.1 = 2 then cnt m else 0 := by
  have := cnt_bd m
  unfold pln
  split
  · rw [if_pos (by omega)]; simp only; omega
  · split
    · rw [if_pos (by omega)]; simp only; omega
    · rw [show (if m.1 = 1 ∨ m.1 = 2 then cnt m else 0) = 0 from if_neg (by omega)]
      split
      · rfl
      · split <;> rfl
theorem tot_stps (l : List (Int × Int)) : (tot (l.map pln) : Int) = stps l := by
  induction l with
  | nil => rfl
  | cons m l ih =>
    rw [List.map_cons, tot_cons]
    simp only [stps]
    rw [← pln_steps', Int.natCast_add, ih]
theorem near_few {l : List (Int × Int)} (h : stps l ≤ 250) : Few (nrm l) ∧ ∀ x ∈ nrm l, x.1.natAbs ≤ 250 := by
  have h1 : ∀ x ∈ nrm l, x.1.natAbs ≤ 250 := by
    intro x hx
    have h2 := tot_mem hx
    have h3 : tot (nrm l) ≤ tot (l.map pln) := by
      unfold nrm nfs
      rw [tot_rev]
      have := foldl_tot (l.map pln) []
      simpa [tot] using this
    have := tot_stps l
    omega
  exact ⟨⟨nrm_alt' l, fun x hx => Nat.le_trans (h1 x hx) (by decide)⟩, h1⟩
end Go.Proofs.Ytibeljppjaenbaa
