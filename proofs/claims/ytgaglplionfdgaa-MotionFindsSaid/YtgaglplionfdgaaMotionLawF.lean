/- What the law MotionFinds calls. -/
import Derived.Test.YtgaglplionfdgaaMotionLawL
namespace Go.Proofs.Ytgaglplionfdgaa
open Go.RowKit

theorem rot_apart {j t : Nat} (hj : j < t) (ht : t < 4) {x y : Int} (h : rot j x y = rot t x y) : x = 0 ∧ y = 0 := by
  have h1 : t = 1 ∨ t = 2 ∨ t = 3 := by omega
  have h2 : j = 0 ∨ j = 1 ∨ j = 2 := by omega
  rcases h1 with rfl | rfl | rfl <;> rcases h2 with rfl | rfl | rfl <;> simp [rot] at h hj ⊢ <;> omega
theorem sub_zero' {a b : Int} (h : a - b = 0) : a = b := by omega
theorem three500 {z : Int} (h : z.natAbs ≤ 500) : z.natAbs ≤ 500 + 500 := by omega
theorem st_abs {q : Nat} {x y : Int} (hx : x.natAbs ≤ 500) (hy : y.natAbs ≤ 500) : (stx q x y).natAbs ≤ 1048576 ∧ (sty q x y).natAbs ≤ 1048576 := by
  have h : ∀ z : Int, (z.tdiv 4).natAbs ≤ z.natAbs := fun z => by rw [Int.natAbs_tdiv]; exact Nat.div_le_self _ _
  unfold stx sty
  constructor
  · split
    · exact Nat.le_trans (h _) (by omega)
    · exact Nat.le_trans (h _) (by omega)
    · exact Nat.le_trans (h _) (by omega)
  · split
    · exact Nat.le_trans (h _) (by omega)
    · exact Nat.le_trans (h _) (by omega)
    · exact Nat.le_trans (h _) (by omega)
/-- small steps are not cut -/
theorem mst_sway (n x y : Int) (hx : x.natAbs ≤ 500) (hy : y.natAbs ≤ 500) (k : Nat) (hk : k ≤ 4) : mst n x y k = ((((qr n * k) % 4 : Nat) : Int), (sway (qr n) x y k).1, (sway (qr n) x y k).2) := by
  induction k with
  | zero => rfl
  | succ k ih =>
    have ih := ih (by omega)
    obtain ⟨h1, h2⟩ := sway_abs (qr n) x y 500 hx hy k
    have hk5 : k * 500 ≤ 4 * 500 := Nat.mul_le_mul_right _ (by omega)
    have e1 : fx (sway (qr n) x y k).1 = (sway (qr n) x y k).1 := fxe (Nat.le_trans h1 (Nat.le_trans hk5 (by decide)))
    have e2 : fx (sway (qr n) x y k).2 = (sway (qr n) x y k).2 := fxe (Nat.le_trans h2 (Nat.le_trans hk5 (by decide)))
    show ((((qr (mst n x y k).1 + qr n) % 4 : Nat) : Int), (rot (qr n) (fx (mst n x y k).2.1) (fx (mst n x y k).2.2)).1 + fx x, (rot (qr n) (fx (mst n x y k).2.1) (fx (mst n x y k).2.2)).2 + fx y) = _
    rw [ih]
    simp only
    rw [e1, e2, fxe (up5 hx), fxe (up5 hy), qr_nat (mod_lt4 _)]
    have e3 : (qr n * k % 4 + qr n) % 4 = qr n * (k + 1) % 4 := by rw [Nat.mul_add, Nat.mul_one, Nat.mod_add_mod]
    rw [e3]
    rfl
/-- done as often as is told, and no sooner -/
theorem times_is (n x y : Int) (hx : x.natAbs ≤ 500) (hy : y.natAbs ≤ 500) (k : Nat) (h1 : 1 ≤ k) (h4 : k ≤ 4) :
    (mst n x y k = (0, 0, 0) ∧ 0 < mord n x y ∧ mord n x y ≤ 4 ∧ (k : Int) % mord n x y = 0) ∨ (mst n x y k ≠ (0, 0, 0) ∧ (mord n x y = 0 ∨ (0 < mord n x y ∧ mord n x y ≤ 4 ∧ 0 < (k : Int) % mord n x y))) := by
  rw [mst_sway n x y hx hy k h4]
  unfold mord
  rw [fxe (up5 hx), fxe (up5 hy)]
  have hq := qr_lt n
  generalize qr n = q at *
  have h2 : q = 0 ∨ q = 1 ∨ q = 2 ∨ q = 3 := by omega
  have h3 : k = 1 ∨ k = 2 ∨ k = 3 ∨ k = 4 := by omega
  rcases h2 with rfl | rfl | rfl | rfl
  · by_cases hz : x = 0 ∧ y = 0
    · obtain ⟨rfl, rfl⟩ := hz
      rcases h3 with rfl | rfl | rfl | rfl <;> simp [sway, rot]
    · right
      refine ⟨?_, .inl (by simp [hz])⟩
      rcases h3 with rfl | rfl | rfl | rfl <;> simp [sway, rot] <;> omega
  all_goals
    rcases h3 with rfl | rfl | rfl | rfl <;> simp [sway, rot, kq] <;> omega
end Go.Proofs.Ytgaglplionfdgaa
