/- Short walks: where they end, and their texts; mathematics for the law WalkLeast. -/
import Derived.Test.YtibeljppjaenbaaWalkLeast
import Derived.Test.YtibeljppjaenbaaWalkRefT
import Derived.Test.YtibeljppjaenbaaWalkRefP
namespace Go.Proofs.Ytibeljppjaenbaa
open Go.RowKit

/-! ### Where a short walk ends -/
def pstep (e : Int × Int × Int) (x : P2) : Int × Int × Int := ((e.1 + x.2) % 4, e.2.1 + x.1 * uq (e.1 % 4).toNat, e.2.2 + x.1 * vq (e.1 % 4).toNat)
def In4 (e : Int × Int × Int) : Prop := 0 ≤ e.1 ∧ e.1 ≤ 3
theorem pstep_in (e : Int × Int × Int) (x : P2) : In4 (pstep e x) := by unfold In4 pstep; simp only; omega
theorem fold_in (l : List P2) (e : Int × Int × Int) (h : In4 e) : In4 (l.foldl pstep e) := by
  induction l generalizing e with
  | nil => exact h
  | cons x l ih => exact ih _ (pstep_in e x)
theorem fold_pln (l : List (Int × Int)) (s : Int × Int × Int) (h : In4 s) : l.foldl estep s = (l.map pln).foldl pstep s := by
  induction l generalizing s with
  | nil => rfl
  | cons m l ih =>
    obtain ⟨T, X, Y⟩ := s
    rw [List.foldl_cons, List.map_cons, List.foldl_cons, estep_pln T X Y m h]
    exact ih _ (pstep_in (T, X, Y) (pln m))
theorem eend_pln (l : List (Int × Int)) : eend l = (l.map pln).foldl pstep (0, 0, 0) := fold_pln l _ ⟨by decide, by decide⟩
theorem pstep_zero {e : Int × Int × Int} (h : In4 e) : pstep e (0, 0) = e := by
  obtain ⟨T, X, Y⟩ := e
  unfold In4 at h
  unfold pstep
  simp only [Int.zero_mul, Int.add_zero] at h ⊢
  rw [show T % 4 = T by omega]
theorem pstep_comb {e : Int × Int × Int} (h : In4 e) {t x : P2} (ht : Gd t) (hx : Gd x) (hs : sort2 t = sort2 x) : pstep (pstep e t) x = pstep e (comb t x) := by
  obtain ⟨T, X, Y⟩ := e
  obtain ⟨t1, t2⟩ := t
  obtain ⟨x1, x2⟩ := x
  obtain ⟨g1, g2, g3⟩ := ht
  obtain ⟨k1, k2, k3⟩ := hx
  unfold In4 at h
  unfold sort2 at hs
  rw [decide_eq_decide] at hs
  simp only at *
  unfold pstep comb
  simp only
  by_cases h0 : t1 = 0
  · have hx0 : x1 = 0 := by omega
    subst h0 hx0
    simp only [Int.zero_mul, Int.add_zero]
    rw [show ((T + t2) % 4 + x2) % 4 = (T + (t2 + x2) % 4) % 4 by omega]
  · have e1 : t2 = 0 := by omega
    have e2 : x2 = 0 := by omega
    subst e1 e2
    simp only [Int.add_zero]
    rw [show T % 4 % 4 = T % 4 by omega, show (T + 0 % 4) % 4 = T % 4 by omega, Int.add_mul, Int.add_mul, Int.add_assoc, Int.add_assoc]
theorem fold_snoc (l : List P2) (x : P2) (e : Int × Int × Int) : (l ++ [x]).foldl pstep e = pstep (l.foldl pstep e) x := by rw [List.foldl_append]; rfl
theorem fold_psh {s : List P2} {x : P2} (hs : Alt s) (hx : Gd x) {e : Int × Int × Int} (he : In4 e) : (psh s x).reverse.foldl pstep e = pstep (s.reverse.foldl pstep e) x := by
  unfold psh
  by_cases h0 : x = (0, 0)
  · rw [if_pos h0, h0, pstep_zero (fold_in _ _ he)]
  · rw [if_neg h0]
    cases s with
    | nil => rfl
    | cons t s =>
      simp only
      by_cases h1 : sort2 t = sort2 x
      · rw [if_pos h1, List.reverse_cons, fold_snoc, pstep_comb (fold_in _ _ he) hs.head.1 hx h1]
        by_cases h2 : comb t x = (0, 0)
        · rw [if_pos h2, h2, pstep_zero (fold_in _ _ he)]
        · rw [if_neg h2, List.reverse_cons, fold_snoc]
      · rw [if_neg h1, List.reverse_cons, fold_snoc]
theorem fold_nfs (l s : List P2) (hl : ∀ x ∈ l, Gd x) (hs : Alt s) {e : Int × Int × Int} (he : In4 e) : (l.foldl psh s).reverse.foldl pstep e = l.foldl pstep (s.reverse.foldl pstep e) := by
  induction l generalizing s with
  | nil => rfl
  | cons x l ih =>
    rw [List.foldl_cons, List.foldl_cons, ih _ (fun y hy => hl y (List.mem_cons_of_mem _ hy)) (psh_alt hs (hl x (by simp))), fold_psh hs (hl x (by simp)) he]
/-- a short walk ends where the walk did -/
theorem eend_short {l : List (Int × Int)} (h : Few (nrm l)) : eend (outs (nrm l)) = eend l := by
  rw [eend_pln, eend_pln, plns_outs h]
  exact fold_nfs (l.map pln) [] (map_pln_gd l) trivial ⟨by decide, by decide⟩

/-! ### A short walk's text -/
theorem wrun_digit {k : Int} {j n d : Nat} {c : UInt8} (hc : c.toNat = 48 + d) (hd : d ≤ 9) (h0 : ¬ (j = 0 ∧ d = 0)) (h3 : j ≠ 3) (t : List UInt8) (p : Nat) (out : List (Int × Int)) :
    wrun (some (k, j, n)) (c :: t) p out = wrun (some (k, j + 1, 10 * n + d)) t (p + 1) out := by
  simp only [wrun]
  rw [if_pos (by omega), if_neg (by omega), if_neg h3, hc]
  rw [show 48 + d - 48 = d by omega]
def dg (d : Nat) : UInt8 := UInt8.ofNat (48 + d)
theorem dg_nat {d : Nat} (h : d ≤ 9) : (dg d).toNat = 48 + d := by
  have : d = 0 ∨ d = 1 ∨ d = 2 ∨ d = 3 ∨ d = 4 ∨ d = 5 ∨ d = 6 ∨ d = 7 ∨ d = 8 ∨ d = 9 := by omega
  rcases this with rfl | rfl | rfl | rfl | rfl | rfl | rfl | rfl | rfl | rfl <;> decide
theorem pl_forms : ∀ n : Fin 1000, pl (n.val : Int) = if n.val < 10 then [dg n.val] else if n.val < 100 then [dg (n.val / 10), dg (n.val % 10)] else [dg (n.val / 100), dg (n.val / 10 % 10), dg (n.val % 10)] := by decide +kernel
theorem wrun_number (k : Int) (n : Nat) (h1 : 1 ≤ n) (h2 : n < 1000) (t : List UInt8) (p : Nat) (out : List (Int × Int)) : ∃ j q, wrun (some (k, 0, 0)) (pl (n : Int) ++ t) p out = wrun (some (k, j, n)) t q out := by
  have hf := pl_forms ⟨n, h2⟩
  simp only at hf
  rw [hf]
  by_cases h10 : n < 10
  · rw [if_pos h10]
    refine ⟨1, p + 1, ?_⟩
    rw [List.cons_append, List.nil_append, wrun_digit (dg_nat (by omega)) (by omega) (by omega) (by decide)]
    rw [show 10 * 0 + n = n by omega]
  · rw [if_neg h10]
    by_cases h100 : n < 100
    · rw [if_pos h100]
      refine ⟨2, p + 1 + 1, ?_⟩
      rw [List.cons_append, List.cons_append, List.nil_append, wrun_digit (dg_nat (by omega)) (by omega) (by omega) (by decide), wrun_digit (dg_nat (by omega)) (by omega) (by omega) (by decide)]
      rw [show 10 * (10 * 0 + n / 10) + n % 10 = n by omega]
    · rw [if_neg h100]
      refine ⟨3, p + 1 + 1 + 1, ?_⟩
      rw [List.cons_append, List.cons_append, List.cons_append, List.nil_append, wrun_digit (dg_nat (by omega)) (by omega) (by omega) (by decide), wrun_digit (dg_nat (by omega)) (by omega) (by omega) (by decide), wrun_digit (dg_nat (by omega)) (by omega) (by omega) (by decide)]
      rw [show 10 * (10 * (10 * 0 + n / 100) + n / 10 % 10) + n % 10 = n by omega]
def Tx (m : Int × Int) : Prop := 1 ≤ m.1 ∧ m.1 ≤ 4 ∧ 1 ≤ m.2 ∧ m.2 ≤ 999
theorem ltr_kd {k : Int} (h1 : 1 ≤ k) (h4 : k ≤ 4) : kd (ltr k).toNat = k ∧ ¬ (48 ≤ (ltr k).toNat ∧ (ltr k).toNat ≤ 57) := by
  have : k = 1 ∨ k = 2 ∨ k = 3 ∨ k = 4 := by omega
  rcases this with rfl | rfl | rfl | rfl <;> decide
theorem mtx_tx {m : Int × Int} (h : Tx m) : mtx m = ltr m.1 :: (if m.2 = 1 then [] else pl m.2) := by
  obtain ⟨k, n⟩ := m
  obtain ⟨h1, h2, h3, h4⟩ := h
  simp only at *
  have hc : cnt (k, n) = n := by
    rw [cnt_ct k n h1 h2]
    unfold ct
    omega
  unfold mtx
  rw [hc, if_neg (by omega)]
theorem wtx_cons (m : Int × Int) (l : List (Int × Int)) : wtx (m :: l) = mtx m ++ wtx l := by simp [wtx]
theorem wrun_from {k : Int} {j n : Nat} {l : List (Int × Int)} (hl : ∀ m ∈ l, Tx m) (p : Nat) (out : List (Int × Int)) : wrun (some (k, j, n)) (wtx l) p out = (out ++ (k, max (n : Int) 1) :: l, 0, 0) := by
  induction l generalizing k j n p out with
  | nil => simp [wtx, wrun]
  | cons m l ih =>
    have hm := hl m (by simp)
    obtain ⟨e1, e2⟩ := ltr_kd hm.1 hm.2.1
    rw [wtx_cons, mtx_tx hm, List.cons_append]
    have hstep : wrun (some (k, j, n)) (ltr m.1 :: ((if m.2 = 1 then [] else pl m.2) ++ wtx l)) p out = wrun (some (m.1, 0, 0)) ((if m.2 = 1 then [] else pl m.2) ++ wtx l) (p + 1) (out ++ [(k, max (n : Int) 1)]) := by
      simp only [wrun]
      rw [if_neg e2, e1, if_neg (by have := hm.1; omega)]
    rw [hstep]
    have hl' : ∀ m ∈ l, Tx m := fun x hx => hl x (List.mem_cons_of_mem _ hx)
    obtain ⟨a, b⟩ := m
    obtain ⟨h1, h2, h3, h4⟩ := hm
    simp only at *
    by_cases hb : b = 1
    · rw [if_pos hb, List.nil_append, ih hl', hb, show max (((0 : Nat)) : Int) 1 = 1 from rfl]
      simp
    · rw [if_neg hb]
      obtain ⟨N, rfl⟩ : ∃ N : Nat, b = N := ⟨b.toNat, by omega⟩
      obtain ⟨j', q', e⟩ := wrun_number a N (by omega) (by omega) (wtx l) (p + 1) (out ++ [(k, max (n : Int) 1)])
      rw [e, ih hl', show max (N : Int) 1 = N by omega]
      simp
/-- a walk comes back from its text -/
theorem wrun_wtx {l : List (Int × Int)} (hl : ∀ m ∈ l, Tx m) : wrun none (wtx l) 0 [] = (l, 0, 0) := by
  cases l with
  | nil => rfl
  | cons m l =>
    have hm := hl m (by simp)
    obtain ⟨e1, e2⟩ := ltr_kd hm.1 hm.2.1
    rw [wtx_cons, mtx_tx hm, List.cons_append]
    have hstep : wrun none (ltr m.1 :: ((if m.2 = 1 then [] else pl m.2) ++ wtx l)) 0 [] = wrun (some (m.1, 0, 0)) ((if m.2 = 1 then [] else pl m.2) ++ wtx l) 1 [] := by
      simp only [wrun]
      rw [e1, if_neg (by have := hm.1; omega)]
    rw [hstep]
    have hl' : ∀ m ∈ l, Tx m := fun x hx => hl x (List.mem_cons_of_mem _ hx)
    obtain ⟨a, b⟩ := m
    obtain ⟨h1, h2, h3, h4⟩ := hm
    simp only at *
    by_cases hb : b = 1
    · rw [if_pos hb, List.nil_append, wrun_from hl', hb, show max (((0 : Nat)) : Int) 1 = 1 from rfl]
      simp
    · rw [if_neg hb]
      obtain ⟨N, rfl⟩ : ∃ N : Nat, b = N := ⟨b.toNat, by omega⟩
      obtain ⟨j', q', e⟩ := wrun_number a N (by omega) (by omega) (wtx l) 1 []
      rw [e, wrun_from hl', show max (N : Int) 1 = N by omega]
      simp
theorem outs_tx {l : List (Int × Int)} (h : stps l ≤ 250) : ∀ m ∈ outs (nrm l), Tx m := by
  obtain ⟨hf, hb⟩ := near_few h
  rw [outs_map hf.1]
  intro m hm
  obtain ⟨x, hx, rfl⟩ := List.mem_map.1 hm
  obtain ⟨hg, hne⟩ := hf.1.mem hx
  obtain ⟨_, hc, h1, h2, h3, _⟩ := pln_mv hg hne (hf.2 x hx)
  refine ⟨h1, h2, h3, ?_⟩
  have := hb x hx
  obtain ⟨a, b⟩ := x
  obtain ⟨g1, g2, g3⟩ := hg
  simp only at *
  unfold mv1
  split
  · simp only; omega
  · split
    · simp only; omega
    · split
      · simp only; omega
      · simp only; omega

/-! ### In turn -/
theorem Alt.turn {l : List P2} (h : Alt l) (i : Nat) (hi : i + 1 < l.length) : sort2 l[i] ≠ sort2 l[i + 1] := by
  induction l generalizing i with
  | nil => simp at hi
  | cons x l ih =>
    cases l with
    | nil => simp at hi
    | cons y l =>
      cases i with
      | zero => exact h.2.2.1
      | succ i => exact ih h.tail i (by simpa using hi)
theorem outs_turn {l : List (Int × Int)} (h : Few (nrm l)) (i : Nat) (hi : i + 1 < (outs (nrm l)).length) : decide ((outs (nrm l))[i].1 ≤ 2) ≠ decide ((outs (nrm l))[i + 1].1 ≤ 2) := by
  have e := outs_map h.1
  have hl : i + 1 < (nrm l).length := by rw [e] at hi; simpa using hi
  have e1 : (outs (nrm l))[i] = mv1 (nrm l)[i].1 (nrm l)[i].2 := by simp [e]
  have e2 : (outs (nrm l))[i + 1] = mv1 (nrm l)[i + 1].1 (nrm l)[i + 1].2 := by simp [e]
  rw [e1, e2]
  have m1 := h.1.mem (List.getElem_mem (show i < (nrm l).length by omega))
  have m2 := h.1.mem (List.getElem_mem hl)
  rw [(pln_mv m1.1 m1.2 (h.2 _ (List.getElem_mem (show i < (nrm l).length by omega)))).2.2.2.2.2, (pln_mv m2.1 m2.2 (h.2 _ (List.getElem_mem hl))).2.2.2.2.2]
  exact h.1.turn i hl
end Go.Proofs.Ytibeljppjaenbaa
