/- The walks of the document's answers for layer 3: mirrors, turns, sizes. -/
import Derived.Test.YthndmoipemnllaaGaussR
namespace Go.Proofs.Ythndmoipemnllaa
open Go.RowKit

theorem quarter_any (n : Int) (w : World) : Calls Try.prog 47 #[.int .i64 n] w fun e w' => e = .returned (.int .i64 (n % 4)) ∧ w = w' := by
  have h1 : n.tmod 4 = if 0 ≤ n ∨ 4 ∣ n then n % 4 else n % 4 - 4 := by
    rw [Int.tmod_eq_emod]
    split
    · simp
    · rfl
  by_cases h : 0 ≤ n ∨ 4 ∣ n
  · rw [if_pos h] at h1
    have h2 := Int.emod_nonneg n (show (4 : Int) ≠ 0 by omega)
    clear h
    go_enter Try.func47, Try.ntmps47
    go_wp2
    go_ret
    exact ⟨rfl, rfl⟩
  · rw [if_neg h] at h1
    have h2 := Int.emod_nonneg n (show (4 : Int) ≠ 0 by omega)
    have h3 := Int.emod_lt_of_pos n (show (0 : Int) < 4 by omega)
    have h4 : n % 4 ≠ 0 := fun e => h (.inr (Int.dvd_of_emod_eq_zero e))
    have h5 : 0 < n % 4 := by omega
    clear h h4
    go_enter Try.func47, Try.ntmps47
    go_wp2
    go_ret
    exact ⟨rfl, rfl⟩

set_option maxHeartbeats 400000 in
theorem refTurn_any (x y n : Int) (w : World) : Calls Try.prog 43 #[.agg #[.int .i64 x, .int .i64 y], .int .i64 n] w fun e w' =>
    e = .returned (.agg #[.int .i64 (rot (n % 4).toNat (fx x) (fx y)).1, .int .i64 (rot (n % 4).toNat (fx x) (fx y)).2]) ∧ Below w.heap.size w w' := by
  obtain ⟨X1, X2⟩ := fx_bd x
  obtain ⟨Y1, Y2⟩ := fx_bd y
  have hC := Cell2.new (w.alloc (.cells #[.int .i64 x, .int .i64 y] 23)) (.int .i64 0) (.int .i64 0) 23
  simp only [World.size_alloc] at hC
  have hB : Below w.heap.size w ((w.alloc (.cells #[.int .i64 x, .int .i64 y] 23)).alloc (.cells #[.int .i64 0, .int .i64 0] 23)) := ((Below.refl _ _).alloc (Nat.le_refl _) _).alloc (by simp) _
  have hq := quarter_any n
  have h1 := Int.emod_nonneg n (show (4 : Int) ≠ 0 by omega)
  have h2 := Int.emod_lt_of_pos n (show (0 : Int) < 4 by omega)
  obtain ⟨q, hqe⟩ : ∃ q : Nat, n % 4 = q := ⟨(n % 4).toNat, by omega⟩
  rw [hqe] at hq
  have hq4 : q = 0 ∨ q = 1 ∨ q = 2 ∨ q = 3 := by omega
  have hqn : (n % 4).toNat = q := by omega
  rw [hqn]
  clear hqn h1 h2 hqe
  rcases hq4 with rfl | rfl | rfl | rfl
  · go_enter Try.func43, Try.ntmps43
    go_wp2_with (first | (go_at_call 46; refine (refFix_any _ _ _).mono ?_; rintro e w1 ⟨rfl, hb⟩; replace hC := hC.kept hb; have hz := hb.size; replace hB := hB.trans (hb.mono hB.size); clear hb; simp at hz; have a0 := fun o => (hC.alloc o).c0; have a1 := fun o => (hC.alloc o).c1; have a2 := fun o => (hC.alloc o).z0; have a3 := fun o => (hC.alloc o).z1; clear hC; have hne : w.heap.size + 1 ≠ w1.heap.size := by omega) | (go_at_call 47; refine (hq _).mono ?_; rintro e w2 ⟨rfl, rfl⟩))
    refine bodyPost_ret (v := .agg #[.int .i64 (fx x), .int .i64 (fx y)]) ?_ rfl ⟨rfl, ((hB.alloc (by omega) _).setCell (by simp) _).setCell (by simp) _⟩
    simp [results, Try.results43, go_sem, a0, a1, a2, a3, hne]
  · go_enter Try.func43, Try.ntmps43
    go_wp2_with (first | (go_at_call 46; refine (refFix_any _ _ _).mono ?_; rintro e w1 ⟨rfl, hb⟩; replace hC := hC.kept hb; have hz := hb.size; replace hB := hB.trans (hb.mono hB.size); clear hb; simp at hz; have a0 := fun o => (hC.alloc o).c0; have a1 := fun o => (hC.alloc o).c1; have a2 := fun o => (hC.alloc o).z0; have a3 := fun o => (hC.alloc o).z1; clear hC; have hne : w.heap.size + 1 ≠ w1.heap.size := by omega) | (go_at_call 47; refine (hq _).mono ?_; rintro e w2 ⟨rfl, rfl⟩))
    refine bodyPost_ret (v := .agg #[.int .i64 (-fx y), .int .i64 (fx x)]) ?_ rfl ⟨rfl, ((hB.alloc (by omega) _).setCell (by simp) _).setCell (by simp) _⟩
    simp [results, Try.results43, go_sem, a0, a1, a2, a3, hne]
  · go_enter Try.func43, Try.ntmps43
    go_wp2_with (first | (go_at_call 46; refine (refFix_any _ _ _).mono ?_; rintro e w1 ⟨rfl, hb⟩; replace hC := hC.kept hb; have hz := hb.size; replace hB := hB.trans (hb.mono hB.size); clear hb; simp at hz; have a0 := fun o => (hC.alloc o).c0; have a1 := fun o => (hC.alloc o).c1; have a2 := fun o => (hC.alloc o).z0; have a3 := fun o => (hC.alloc o).z1; clear hC; have hne : w.heap.size + 1 ≠ w1.heap.size := by omega) | (go_at_call 47; refine (hq _).mono ?_; rintro e w2 ⟨rfl, rfl⟩))
    refine bodyPost_ret (v := .agg #[.int .i64 (-fx x), .int .i64 (-fx y)]) ?_ rfl ⟨rfl, ((hB.alloc (by omega) _).setCell (by simp) _).setCell (by simp) _⟩
    simp [results, Try.results43, go_sem, a0, a1, a2, a3, hne]
  · go_enter Try.func43, Try.ntmps43
    go_wp2_with (first | (go_at_call 46; refine (refFix_any _ _ _).mono ?_; rintro e w1 ⟨rfl, hb⟩; replace hC := hC.kept hb; have hz := hb.size; replace hB := hB.trans (hb.mono hB.size); clear hb; simp at hz; have a0 := fun o => (hC.alloc o).c0; have a1 := fun o => (hC.alloc o).c1; have a2 := fun o => (hC.alloc o).z0; have a3 := fun o => (hC.alloc o).z1; clear hC; have hne : w.heap.size + 1 ≠ w1.heap.size := by omega) | (go_at_call 47; refine (hq _).mono ?_; rintro e w2 ⟨rfl, rfl⟩))
    refine bodyPost_ret (v := .agg #[.int .i64 (- -fx y), .int .i64 (-fx x)]) ?_ rfl ⟨rfl, ((hB.alloc (by omega) _).setCell (by simp) _).setCell (by simp) _⟩
    simp [results, Try.results43, go_sem, a0, a1, a2, a3, hne]

theorem sq_nn (a : Int) : 0 ≤ a * a := by
  rcases Int.le_total 0 a with h | h
  · exact Int.mul_nonneg h h
  · exact Int.mul_nonneg_of_nonpos_of_nonpos h h
def smallB (x y m : Int) : Bool := decide (-m ≤ x ∧ x ≤ m ∧ -m ≤ y ∧ y ≤ m)
theorem refSmall_any (x y m : Int) (w : World) (hm : 0 ≤ m) (hm' : m ≤ 9223372036854775807) : Calls Try.prog 21 #[.agg #[.int .i64 x, .int .i64 y], .int .i64 m] w fun e w' => e = .returned (.bool (smallB x y m)) ∧ Below w.heap.size w w' := by
  by_cases h1 : -m ≤ x
  · by_cases h2 : x ≤ m
    · by_cases h3 : -m ≤ y
      · by_cases h4 : y ≤ m
        all_goals
          go_enter Try.func21, Try.ntmps21
          go_wp2
          go_ret
          exact ⟨ret_b (by simp [smallB, *] <;> omega), (Below.refl _ _).alloc (Nat.le_refl _) _⟩
      · go_enter Try.func21, Try.ntmps21
        go_wp2
        go_ret
        exact ⟨ret_b (by simp [smallB, *] <;> omega), (Below.refl _ _).alloc (Nat.le_refl _) _⟩
    · go_enter Try.func21, Try.ntmps21
      go_wp2
      go_ret
      exact ⟨ret_b (by simp [smallB, *] <;> omega), (Below.refl _ _).alloc (Nat.le_refl _) _⟩
  · go_enter Try.func21, Try.ntmps21
    go_wp2
    go_ret
    exact ⟨ret_b (by simp [smallB, *] <;> omega), (Below.refl _ _).alloc (Nat.le_refl _) _⟩
end Go.Proofs.Ythndmoipemnllaa
