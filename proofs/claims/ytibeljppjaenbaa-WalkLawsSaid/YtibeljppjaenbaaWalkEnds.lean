/- Where walks end, one behind the other. Plain mathematics. -/
import Derived.Test.YtibeljppjaenbaaWalkRefC
namespace Go.Proofs.Ytibeljppjaenbaa
open Go.RowKit

theorem rot_scale (q : Nat) (c x y : Int) : rot q (c * x) (c * y) = (c * (rot q x y).1, c * (rot q x y).2) := by
  induction q with
  | zero => rfl
  | succ q ih =>
    rw [show rot (q + 1) (c * x) (c * y) = (-(rot q (c * x) (c * y)).2, (rot q (c * x) (c * y)).1) from rfl, ih, show rot (q + 1) x y = (-(rot q x y).2, (rot q x y).1) from rfl]
    simp only [Int.mul_neg]
/-- the end of a walk, from another's end on -/
def cmp (s e : Int × Int × Int) : Int × Int × Int := ((s.1 + e.1) % 4, s.2.1 + (rot (s.1 % 4).toNat e.2.1 e.2.2).1, s.2.2 + (rot (s.1 % 4).toNat e.2.1 e.2.2).2)
theorem unit_cmp (s e : Int) : uq ((s + e) % 4 % 4).toNat = (rot (s % 4).toNat (uq (e % 4).toNat) (vq (e % 4).toNat)).1 ∧ vq ((s + e) % 4 % 4).toNat = (rot (s % 4).toNat (uq (e % 4).toNat) (vq (e % 4).toNat)).2 := by
  have h := rot_add (s % 4).toNat (e % 4).toNat 1 0
  have e1 : ((s + e) % 4 % 4).toNat = ((s % 4).toNat + (e % 4).toNat) % 4 := by omega
  rw [e1]
  have h2 := rot_mod ((s % 4).toNat + (e % 4).toNat) 1 0
  exact ⟨congrArg Prod.fst (h2.trans h.symm), congrArg Prod.snd (h2.trans h.symm)⟩
theorem mod_mid (s e c : Int) : ((s + e) % 4 + c) % 4 = (s + (e + c) % 4) % 4 := by omega
theorem go_cmp (s : Int × Int × Int) (t x y c : Int) :
    s.2.1 + (rot (s.1 % 4).toNat x y).1 + c * uq ((s.1 + t) % 4 % 4).toNat = s.2.1 + (rot (s.1 % 4).toNat (x + c * uq (t % 4).toNat) (y + c * vq (t % 4).toNat)).1 ∧
    s.2.2 + (rot (s.1 % 4).toNat x y).2 + c * vq ((s.1 + t) % 4 % 4).toNat = s.2.2 + (rot (s.1 % 4).toNat (x + c * uq (t % 4).toNat) (y + c * vq (t % 4).toNat)).2 := by
  rw [rot_sum, rot_scale, (unit_cmp s.1 t).1, (unit_cmp s.1 t).2]
  exact ⟨Int.add_assoc _ _ _, Int.add_assoc _ _ _⟩
theorem estep_cmp (s e : Int × Int × Int) (m : Int × Int) : estep (cmp s e) m = if m.1 < 1 ∨ 4 < m.1 then cmp s e else cmp s (estep e m) := by
  obtain ⟨t, x, y⟩ := e
  by_cases h1 : m.1 = 1
  · rw [if_neg (by omega)]
    unfold estep
    rw [if_pos h1, if_pos h1]
    unfold cmp
    simp only
    obtain ⟨g1, g2⟩ := go_cmp s t x y (cnt m)
    rw [g1, g2]
  · by_cases h2 : m.1 = 2
    · rw [if_neg (by omega)]
      unfold estep
      rw [if_neg h1, if_pos h2, if_neg h1, if_pos h2]
      unfold cmp
      simp only
      obtain ⟨g1, g2⟩ := go_cmp s t x y (-cnt m)
      rw [g1, g2]
    · by_cases h3 : m.1 = 3
      · rw [if_neg (by omega)]
        unfold estep
        rw [if_neg h1, if_neg h2, if_pos h3, if_neg h1, if_neg h2, if_pos h3]
        unfold cmp
        simp only
        rw [mod_mid]
      · by_cases h4 : m.1 = 4
        · rw [if_neg (by omega)]
          unfold estep
          rw [if_neg h1, if_neg h2, if_neg h3, if_pos h4, if_neg h1, if_neg h2, if_neg h3, if_pos h4]
          unfold cmp
          simp only
          rw [mod_mid]
        · rw [if_pos (by omega)]
          unfold estep
          rw [if_neg h1, if_neg h2, if_neg h3, if_neg h4]
theorem estep_none (e : Int × Int × Int) (m : Int × Int) (h : m.1 < 1 ∨ 4 < m.1) : estep e m = e := by
  unfold estep
  rw [if_neg (by omega), if_neg (by omega), if_neg (by omega), if_neg (by omega)]
theorem foldl_cmp (l : List (Int × Int)) (s e : Int × Int × Int) : l.foldl estep (cmp s e) = cmp s (l.foldl estep e) := by
  induction l generalizing e with
  | nil => rfl
  | cons m l ih =>
    rw [List.foldl_cons, List.foldl_cons, estep_cmp]
    split
    · rename_i h
      rw [estep_none e m h]
      exact ih e
    · exact ih _
theorem cmp_zero (s : Int × Int × Int) (h : 0 ≤ s.1 ∧ s.1 ≤ 3) : cmp s (0, 0, 0) = s := by
  obtain ⟨t, x, y⟩ := s
  unfold cmp
  simp only at *
  rw [rot_zero]
  simp only [Int.add_zero]
  rw [show t % 4 = t by omega]
theorem eend_all (l : List (Int × Int)) : 0 ≤ (eend l).1 ∧ (eend l).1 ≤ 3 := by
  have h := (eend_bd l l.length).1
  rw [List.take_length] at h
  exact h
/-- where two walks end, one behind the other -/
theorem eend_append (a b : List (Int × Int)) : eend (a ++ b) = cmp (eend a) (eend b) := by
  unfold eend
  rw [List.foldl_append]
  have h := foldl_cmp b (List.foldl estep (0, 0, 0) a) (0, 0, 0)
  have e := cmp_zero _ (eend_all a)
  unfold eend at e
  rw [e] at h
  exact h
theorem cnt_rev (m : Int × Int) : cnt (rev1 m) = cnt m := by
  obtain ⟨k, n⟩ := m
  unfold cnt rev1
  simp only
  by_cases h1 : k = 1
  · subst h1; rfl
  · rw [if_neg h1]
    by_cases h2 : k = 2
    · subst h2; rfl
    · rw [if_neg h2]
      by_cases h3 : k = 3
      · subst h3; rfl
      · rw [if_neg h3]
        by_cases h4 : k = 4
        · subst h4; rfl
        · rw [if_neg h4]
theorem add_back (x c u : Int) : x + c * u + -c * u = x ∧ x + -c * u + c * u = x := by rw [Int.neg_mul]; omega
theorem turn_back (t c : Int) (h : 0 ≤ t ∧ t ≤ 3) : ((t + c) % 4 + 3 * c) % 4 = t ∧ ((t + 3 * c) % 4 + c) % 4 = t := by omega
/-- a move and its reverse are nothing -/
theorem estep_undo (s : Int × Int × Int) (m : Int × Int) (h : 0 ≤ s.1 ∧ s.1 ≤ 3) : estep (estep s m) (rev1 m) = s := by
  obtain ⟨t, x, y⟩ := s
  simp only at h
  have hc := cnt_rev m
  obtain ⟨k, n⟩ := m
  by_cases h1 : k = 1
  · subst h1
    have e1 : estep (t, x, y) (1, n) = (t, x + cnt (1, n) * uq (t % 4).toNat, y + cnt (1, n) * vq (t % 4).toNat) := rfl
    rw [e1, show rev1 (1, n) = (2, n) from rfl]
    rw [show rev1 (1, n) = (2, n) from rfl] at hc
    show (t, x + cnt (1, n) * uq (t % 4).toNat + -cnt (2, n) * uq (t % 4).toNat, y + cnt (1, n) * vq (t % 4).toNat + -cnt (2, n) * vq (t % 4).toNat) = (t, x, y)
    rw [hc, (add_back _ _ _).1, (add_back _ _ _).1]
  · by_cases h2 : k = 2
    · subst h2
      have e1 : estep (t, x, y) (2, n) = (t, x + -cnt (2, n) * uq (t % 4).toNat, y + -cnt (2, n) * vq (t % 4).toNat) := rfl
      rw [e1, show rev1 (2, n) = (1, n) from rfl]
      rw [show rev1 (2, n) = (1, n) from rfl] at hc
      show (t, x + -cnt (2, n) * uq (t % 4).toNat + cnt (1, n) * uq (t % 4).toNat, y + -cnt (2, n) * vq (t % 4).toNat + cnt (1, n) * vq (t % 4).toNat) = (t, x, y)
      rw [hc, (add_back _ _ _).2, (add_back _ _ _).2]
    · by_cases h3 : k = 3
      · subst h3
        rw [show rev1 (3, n) = (4, n) from rfl] at hc ⊢
        show ((((t + cnt (3, n)) % 4) + 3 * cnt (4, n)) % 4, x, y) = (t, x, y)
        rw [hc, (turn_back t _ h).1]
      · by_cases h4 : k = 4
        · subst h4
          rw [show rev1 (4, n) = (3, n) from rfl] at hc ⊢
          show ((((t + 3 * cnt (4, n)) % 4) + cnt (3, n)) % 4, x, y) = (t, x, y)
          rw [hc, (turn_back t _ h).2]
        · have e : rev1 (k, n) = (k, n) := by
            unfold rev1
            simp only
            rw [if_neg h1, if_neg h2, if_neg h3, if_neg h4]
          rw [e, estep_none _ _ (by simp only; omega), estep_none _ _ (by simp only; omega)]
theorem estep_in (s : Int × Int × Int) (m : Int × Int) (h : 0 ≤ s.1 ∧ s.1 ≤ 3) : 0 ≤ (estep s m).1 ∧ (estep s m).1 ≤ 3 :=
  (estep_bd s m (s.2.1.natAbs + s.2.2.natAbs) h (by omega) (by omega)).1
theorem fold_undo (l : List (Int × Int)) (s : Int × Int × Int) (h : 0 ≤ s.1 ∧ s.1 ≤ 3) : (l ++ revw l).foldl estep s = s := by
  induction l generalizing s with
  | nil => rfl
  | cons m l ih =>
    have e : m :: l ++ revw (m :: l) = m :: (l ++ revw l) ++ [rev1 m] := by unfold revw; simp
    rw [e, List.foldl_append]
    show estep (List.foldl estep (estep s m) (l ++ revw l)) (rev1 m) = s
    rw [ih _ (estep_in s m h)]
    exact estep_undo s m h
/-- a walk and its reverse end where they began -/
theorem eend_undo (l : List (Int × Int)) : eend (l ++ revw l) = (0, 0, 0) := fold_undo l (0, 0, 0) (by decide)
end Go.Proofs.Ytibeljppjaenbaa
