/- The walks of the document's answers for layer 5: where a walk ends. -/
import Derived.Test.YthndmoipemnllaaWalkRefA
import Derived.Test.YthndmoipemnllaaMotionA
import Derived.Test.YthndmoipemnllaaGaussS
namespace Go.Proofs.Ythndmoipemnllaa
open Go.RowKit

/-- where a walk ends: quarters, and the place -/
def estep (s : Int × Int × Int) (m : Int × Int) : Int × Int × Int :=
  if m.1 = 1 then (s.1, s.2.1 + cnt m * uq (s.1 % 4).toNat, s.2.2 + cnt m * vq (s.1 % 4).toNat)
  else if m.1 = 2 then (s.1, s.2.1 + -cnt m * uq (s.1 % 4).toNat, s.2.2 + -cnt m * vq (s.1 % 4).toNat)
  else if m.1 = 3 then ((s.1 + cnt m) % 4, s.2.1, s.2.2)
  else if m.1 = 4 then ((s.1 + 3 * cnt m) % 4, s.2.1, s.2.2)
  else s
def eend (l : List (Int × Int)) : Int × Int × Int := l.foldl estep (0, 0, 0)
theorem eend_succ (l : List (Int × Int)) (k : Nat) (h : k < l.length) : eend (l.take (k + 1)) = estep (eend (l.take k)) l[k] := by
  unfold eend
  rw [List.take_add_one, List.getElem?_eq_getElem h, List.foldl_append]
  rfl
theorem bd_add {x p : Int} {B : Nat} (h : x.natAbs ≤ B) (hp : p.natAbs ≤ 1048576) : (x + p).natAbs ≤ B + 1048576 := by omega
theorem bd_up {x : Int} {B : Nat} (h : x.natAbs ≤ B) : x.natAbs ≤ B + 1048576 := by omega
theorem mod4_bd (a : Int) : 0 ≤ a % 4 ∧ a % 4 ≤ 3 := by omega
theorem cnt_abs (m : Int × Int) : (cnt m).natAbs ≤ 1048576 ∧ (-cnt m).natAbs ≤ 1048576 := by have := cnt_bd m; omega
theorem unit_bd {c : Int} (q : Nat) (h : c.natAbs ≤ 1048576) : (c * uq q).natAbs ≤ 1048576 ∧ (c * vq q).natAbs ≤ 1048576 := ⟨mul_bd h (unit_abs q).1, mul_bd h (unit_abs q).2⟩
theorem estep_bd (s : Int × Int × Int) (m : Int × Int) (B : Nat) (h0 : 0 ≤ s.1 ∧ s.1 ≤ 3) (h1 : s.2.1.natAbs ≤ B) (h2 : s.2.2.natAbs ≤ B) :
    (0 ≤ (estep s m).1 ∧ (estep s m).1 ≤ 3) ∧ (estep s m).2.1.natAbs ≤ B + 1048576 ∧ (estep s m).2.2.natAbs ≤ B + 1048576 := by
  obtain ⟨hc, hd⟩ := cnt_abs m
  unfold estep
  split
  · exact ⟨h0, bd_add h1 (unit_bd _ hc).1, bd_add h2 (unit_bd _ hc).2⟩
  · split
    · exact ⟨h0, bd_add h1 (unit_bd _ hd).1, bd_add h2 (unit_bd _ hd).2⟩
    · split
      · exact ⟨mod4_bd _, bd_up h1, bd_up h2⟩
      · split
        · exact ⟨mod4_bd _, bd_up h1, bd_up h2⟩
        · exact ⟨h0, bd_up h1, bd_up h2⟩
theorem eend_bd (l : List (Int × Int)) (k : Nat) : (0 ≤ (eend (l.take k)).1 ∧ (eend (l.take k)).1 ≤ 3) ∧ (eend (l.take k)).2.1.natAbs ≤ k * 1048576 ∧ (eend (l.take k)).2.2.natAbs ≤ k * 1048576 := by
  induction k with
  | zero => simp [eend]
  | succ k ih =>
    by_cases h : k < l.length
    · rw [eend_succ l k h]
      have := estep_bd _ l[k] _ ih.1 ih.2.1 ih.2.2
      rw [Nat.add_mul, Nat.one_mul]
      exact this
    · rw [List.take_of_length_le (by omega)]
      rw [List.take_of_length_le (by omega)] at ih
      refine ⟨ih.1, Nat.le_trans ih.2.1 (Nat.mul_le_mul_right _ (by omega)), Nat.le_trans ih.2.2 (Nat.mul_le_mul_right _ (by omega))⟩

end Go.Proofs.Ythndmoipemnllaa
