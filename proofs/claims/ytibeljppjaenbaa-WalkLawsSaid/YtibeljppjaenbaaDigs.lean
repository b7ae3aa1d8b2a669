/- Plain facts on digits of numbers. -/
import Derived.Test.YtibeljppjaenbaaRows
import Derived.ProofKit
namespace Go.Proofs.Ytibeljppjaenbaa

/-- The digits of m in base b, the greatest first; k is fuel. -/
def dgs (b : Nat) : Nat → Nat → List Nat
  | 0, _ => []
  | k + 1, m => if m / b = 0 then [m % b] else dgs b k (m / b) ++ [m % b]

/-- The sign of a digit below 16. -/
def sgn (d : Nat) : UInt8 := UInt8.ofNat (if d < 10 then 48 + d else 87 + d)

/-- A number's text in base b. -/
def txt (b m : Nat) : ByteArray := ⟨((dgs b 20 m).map sgn).toArray⟩

theorem sgn_sigs : ∀ (r : Nat) (h : r < (⟨#[48, 49, 50, 51, 52, 53, 54, 55, 56, 57, 97, 98, 99, 100, 101, 102]⟩ : ByteArray).size), (⟨#[48, 49, 50, 51, 52, 53, 54, 55, 56, 57, 97, 98, 99, 100, 101, 102]⟩ : ByteArray)[r]'h = sgn r := by
  intro r h
  have h' : r < 16 := h
  match r, h' with
  | 0, _ => rfl
  | 1, _ => rfl
  | 2, _ => rfl
  | 3, _ => rfl
  | 4, _ => rfl
  | 5, _ => rfl
  | 6, _ => rfl
  | 7, _ => rfl
  | 8, _ => rfl
  | 9, _ => rfl
  | 10, _ => rfl
  | 11, _ => rfl
  | 12, _ => rfl
  | 13, _ => rfl
  | 14, _ => rfl
  | 15, _ => rfl
  | n + 16, h => exact absurd h (by omega)

theorem dgs_more (b : Nat) (hb : 2 ≤ b) : ∀ (k m : Nat), m < b ^ k → 0 < k → dgs b (k + 1) m = dgs b k m := by
  intro k
  induction k with
  | zero => intro m _ h; omega
  | succ k ih =>
    intro m hm _
    by_cases h0 : m / b = 0
    · rw [dgs, if_pos h0, dgs, if_pos h0]
    · have hk : 0 < k := by
        rcases Nat.eq_zero_or_pos k with h | h
        · subst h; exact absurd (Nat.div_eq_of_lt (by simpa using hm)) h0
        · exact h
      have hlt : m / b < b ^ k := by rw [Nat.div_lt_iff_lt_mul (by omega)]; rw [Nat.pow_succ] at hm; exact hm
      rw [dgs, if_neg h0, ih _ hlt hk, dgs, if_neg h0]

theorem dgs_fuel (b : Nat) (hb : 2 ≤ b) (k m : Nat) (hm : m < b ^ k) (hk : 0 < k) : ∀ j, dgs b (k + j) m = dgs b k m := by
  intro j
  induction j with
  | zero => rfl
  | succ j ih => rw [← ih, ← Nat.add_assoc]; exact dgs_more b hb _ m (Nat.lt_of_lt_of_le hm (Nat.pow_le_pow_right (by omega) (by omega))) (by omega)

theorem dgs_length (b : Nat) : ∀ (k m : Nat), (dgs b k m).length ≤ k := by
  intro k
  induction k with
  | zero => intro m; simp [dgs]
  | succ k ih => intro m; rw [dgs]; split <;> simp; exact ih _

theorem dgs_pos (b k m : Nat) : 0 < (dgs b (k + 1) m).length := by
  rw [dgs]; split <;> simp

/-- The number that digits are. -/
def num (b : Nat) (l : List Nat) : Nat := l.foldl (fun a d => a * b + d) 0

theorem num_snoc (b : Nat) (l : List Nat) (d : Nat) : num b (l ++ [d]) = num b l * b + d := by simp [num]

theorem num_dgs (b : Nat) (hb : 2 ≤ b) : ∀ (k m : Nat), m < b ^ k → num b (dgs b k m) = m := by
  intro k
  induction k with
  | zero => intro m h; simp [dgs, num]; simp at h; omega
  | succ k ih =>
    intro m hm
    rw [dgs]
    split
    · rename_i h
      have := Nat.div_add_mod m b
      rw [h] at this
      simp [num]; omega
    · have hlt : m / b < b ^ k := by rw [Nat.div_lt_iff_lt_mul (by omega)]; rw [Nat.pow_succ] at hm; exact hm
      rw [num_snoc, ih _ hlt, Nat.mul_comm]; exact Nat.div_add_mod m b

theorem dgs_lt (b : Nat) (hb : 2 ≤ b) : ∀ (k m : Nat), ∀ d ∈ dgs b k m, d < b := by
  intro k
  induction k with
  | zero => intro m d h; simp [dgs] at h
  | succ k ih =>
    intro m d h
    rw [dgs] at h
    split at h
    · simp at h; subst h; exact Nat.mod_lt _ (by omega)
    · simp at h
      rcases h with h | h
      · exact ih _ _ h
      · subst h; exact Nat.mod_lt _ (by omega)

end Go.Proofs.Ytibeljppjaenbaa
