/- The walks of the document's answers for layer 3: mirrors, turns, sizes. -/
import Derived.Test.YtnhebjdimhkbmaaGaussR
namespace Go.Proofs.Ytnhebjdimhkbmaa
open Go.RowKit

set_option maxHeartbeats 400000 in
theorem refConj_any (x y : Int) (w : World) : Calls Try.prog 17 #[.agg #[.int .i64 x, .int .i64 y]] w fun e w' => e = .returned (.agg #[.int .i64 (fx x), .int .i64 (-fx y)]) ∧ Below w.heap.size w w' := by
  obtain ⟨Y1, Y2⟩ := fx_bd y
  have hC := Cell2.new (w.alloc (.cells #[.int .i64 x, .int .i64 y] 23)) (.int .i64 0) (.int .i64 0) 23
  simp only [World.size_alloc] at hC
  have hB : Below w.heap.size w ((w.alloc (.cells #[.int .i64 x, .int .i64 y] 23)).alloc (.cells #[.int .i64 0, .int .i64 0] 23)) := ((Below.refl _ _).alloc (Nat.le_refl _) _).alloc (by simp) _
  go_enter Try.func17, Try.ntmps17
  go_wp2_with (go_at_call 9; refine (refFix_any _ _ _).mono ?_; rintro e w1 ⟨rfl, hb⟩; replace hC := hC.kept hb; have hz := hb.size; replace hB := hB.trans (hb.mono hB.size); clear hb; simp at hz; have a0 := fun o => (hC.alloc o).c0; have a1 := fun o => (hC.alloc o).c1; have a2 := fun o => (hC.alloc o).z0; have a3 := fun o => (hC.alloc o).z1; clear hC; have hne : w.heap.size + 1 ≠ w1.heap.size := by omega)
  refine bodyPost_ret (v := .agg #[.int .i64 (fx x), .int .i64 (-fx y)]) ?_ rfl ⟨rfl, ((hB.alloc (by omega) _).setCell (by simp) _).setCell (by simp) _⟩
  simp [results, Try.results17, go_sem, a0, a1, a2, a3, hne]

theorem quarter_any (n : Int) (w : World) : Calls Try.prog 37 #[.int .i64 n] w fun e w' => e = .returned (.int .i64 (n % 4)) ∧ w = w' := by
  have h1 : n.tmod 4 = if 0 ≤ n ∨ 4 ∣ n then n % 4 else n % 4 - 4 := by
    rw [Int.tmod_eq_emod]
    split
    · simp
    · rfl
  by_cases h : 0 ≤ n ∨ 4 ∣ n
  · rw [if_pos h] at h1
    have h2 := Int.emod_nonneg n (show (4 : Int) ≠ 0 by omega)
    clear h
    go_enter Try.func37, Try.ntmps37
    go_wp2
    go_ret
    exact ⟨rfl, rfl⟩
  · rw [if_neg h] at h1
    have h2 := Int.emod_nonneg n (show (4 : Int) ≠ 0 by omega)
    have h3 := Int.emod_lt_of_pos n (show (0 : Int) < 4 by omega)
    have h4 : n % 4 ≠ 0 := fun e => h (.inr (Int.dvd_of_emod_eq_zero e))
    have h5 : 0 < n % 4 := by omega
    clear h h4
    go_enter Try.func37, Try.ntmps37
    go_wp2
    go_ret
    exact ⟨rfl, rfl⟩

set_option maxHeartbeats 400000 in
theorem refTurn_any (x y n : Int) (w : World) : Calls Try.prog 20 #[.agg #[.int .i64 x, .int .i64 y], .int .i64 n] w fun e w' =>
    e = .returned (.agg #[.int .i64 (rot (n % 4).toNat (fx x) (fx y)).1, .int .i64 (rot (n % 4).toNat (fx x) (fx y)).2]) ∧ Below w.heap.size w w' := by
  obtain ⟨X1, X2⟩ := fx_bd x
  obtain ⟨Y1, Y2⟩ := fx_bd y
  have hC := Cell2.new (w.alloc (.cells #[.int .i64 x, .int .i64 y] 23)) (.int .i64 0) (.int .i64 0) 23
  simp only [World.size_alloc] at hC
  have hB : Below w.heap.size w ((w.alloc (.cells #[.int .i64 x, .int .i64 y] 23)).alloc (.cells #[.int .i64 0, .int .i64 0] 23)) := ((Below.refl _ _).alloc (Nat.le_refl _) _).alloc (by simp) _
  have hq := quarter_any n
  have h1 := Int.emod_nonneg n (show (4 : Int) ≠ 0 by omega)
  have h2 := Int.emod_lt_of_pos n (show (0 : Int) < 4 by omega)
  obtain ⟨q, hqe⟩ : ∃ q : Nat, n % 4 = q := ⟨(n % 4).toNat, by omega⟩
  rw [hqe] at hq
  have hq4 : q = 0 ∨ q = 1 ∨ q = 2 ∨ q = 3 := by omega
  have hqn : (n % 4).toNat = q := by omega
  rw [hqn]
  clear hqn h1 h2 hqe
  rcases hq4 with rfl | rfl | rfl | rfl
  · go_enter Try.func20, Try.ntmps20
    go_wp2_with (first | (go_at_call 9; refine (refFix_any _ _ _).mono ?_; rintro e w1 ⟨rfl, hb⟩; replace hC := hC.kept hb; have hz := hb.size; replace hB := hB.trans (hb.mono hB.size); clear hb; simp at hz; have a0 := fun o => (hC.alloc o).c0; have a1 := fun o => (hC.alloc o).c1; have a2 := fun o => (hC.alloc o).z0; have a3 := fun o => (hC.alloc o).z1; clear hC; have hne : w.heap.size + 1 ≠ w1.heap.size := by omega) | (go_at_call 37; refine (hq _).mono ?_; rintro e w2 ⟨rfl, rfl⟩))
    refine bodyPost_ret (v := .agg #[.int .i64 (fx x), .int .i64 (fx y)]) ?_ rfl ⟨rfl, ((hB.alloc (by omega) _).setCell (by simp) _).setCell (by simp) _⟩
    simp [results, Try.results20, go_sem, a0, a1, a2, a3, hne]
  · go_enter Try.func20, Try.ntmps20
    go_wp2_with (first | (go_at_call 9; refine (refFix_any _ _ _).mono ?_; rintro e w1 ⟨rfl, hb⟩; replace hC := hC.kept hb; have hz := hb.size; replace hB := hB.trans (hb.mono hB.size); clear hb; simp at hz; have a0 := fun o => (hC.alloc o).c0; have a1 := fun o => (hC.alloc o).c1; have a2 := fun o => (hC.alloc o).z0; have a3 := fun o => (hC.alloc o).z1; clear hC; have hne : w.heap.size + 1 ≠ w1.heap.size := by omega) | (go_at_call 37; refine (hq _).mono ?_; rintro e w2 ⟨rfl, rfl⟩))
    refine bodyPost_ret (v := .agg #[.int .i64 (-fx y), .int .i64 (fx x)]) ?_ rfl ⟨rfl, ((hB.alloc (by omega) _).setCell (by simp) _).setCell (by simp) _⟩
    simp [results, Try.results20, go_sem, a0, a1, a2, a3, hne]
  · go_enter Try.func20, Try.ntmps20
    go_wp2_with (first | (go_at_call 9; refine (refFix_any _ _ _).mono ?_; rintro e w1 ⟨rfl, hb⟩; replace hC := hC.kept hb; have hz := hb.size; replace hB := hB.trans (hb.mono hB.size); clear hb; simp at hz; have a0 := fun o => (hC.alloc o).c0; have a1 := fun o => (hC.alloc o).c1; have a2 := fun o => (hC.alloc o).z0; have a3 := fun o => (hC.alloc o).z1; clear hC; have hne : w.heap.size + 1 ≠ w1.heap.size := by omega) | (go_at_call 37; refine (hq _).mono ?_; rintro e w2 ⟨rfl, rfl⟩))
    refine bodyPost_ret (v := .agg #[.int .i64 (-fx x), .int .i64 (-fx y)]) ?_ rfl ⟨rfl, ((hB.alloc (by omega) _).setCell (by simp) _).setCell (by simp) _⟩
    simp [results, Try.results20, go_sem, a0, a1, a2, a3, hne]
  · go_enter Try.func20, Try.ntmps20
    go_wp2_with (first | (go_at_call 9; refine (refFix_any _ _ _).mono ?_; rintro e w1 ⟨rfl, hb⟩; replace hC := hC.kept hb; have hz := hb.size; replace hB := hB.trans (hb.mono hB.size); clear hb; simp at hz; have a0 := fun o => (hC.alloc o).c0; have a1 := fun o => (hC.alloc o).c1; have a2 := fun o => (hC.alloc o).z0; have a3 := fun o => (hC.alloc o).z1; clear hC; have hne : w.heap.size + 1 ≠ w1.heap.size := by omega) | (go_at_call 37; refine (hq _).mono ?_; rintro e w2 ⟨rfl, rfl⟩))
    refine bodyPost_ret (v := .agg #[.int .i64 (- -fx y), .int .i64 (-fx x)]) ?_ rfl ⟨rfl, ((hB.alloc (by omega) _).setCell (by simp) _).setCell (by simp) _⟩
    simp [results, Try.results20, go_sem, a0, a1, a2, a3, hne]

theorem sq_nn (a : Int) : 0 ≤ a * a := by
  rcases Int.le_total 0 a with h | h
  · exact Int.mul_nonneg h h
  · exact Int.mul_nonneg_of_nonpos_of_nonpos h h
theorem refNorm_any (x y : Int) (w : World) : Calls Try.prog 22 #[.agg #[.int .i64 x, .int .i64 y]] w fun e w' => e = .returned (.int .i64 (fx x * fx x - fx y * -fx y)) ∧ Below w.heap.size w w' := by
  have P := fx_mul x x
  have Q := fx_mul y y
  have P0 := sq_nn (fx x)
  have Q0 := sq_nn (fx y)
  have P1 : fx x * fx x ≤ 4503599627370496 := by omega
  have Q1 : fx y * fx y ≤ 4503599627370496 := by omega
  clear P Q
  have hB : Below w.heap.size w (w.alloc (.cells #[.int .i64 x, .int .i64 y] 23)) := (Below.refl _ _).alloc (Nat.le_refl _) _
  go_enter Try.func22, Try.ntmps22
  go_wp2_with (go_at_call 9; refine (refFix_any _ _ _).mono ?_; rintro e w1 ⟨rfl, hb⟩; replace hB := hB.trans (hb.mono hB.size); clear hb)
  go_ret
  exact ⟨ret_i (by rw [Int.mul_neg, Int.sub_neg]), hB.alloc hB.size _⟩

theorem size_any (n : Int) (hn : -9223372036854775807 ≤ n) (hn' : n ≤ 9223372036854775807) (w : World) : Calls Try.prog 39 #[.int .i64 n] w fun e w' => e = .returned (.int .i64 (max n (-n))) ∧ w = w' := by
  go_enter Try.func39, Try.ntmps39
  go_wp2
  go_ret
  exact ⟨rfl, rfl⟩

theorem refSteps_any (x y : Int) (w : World) : Calls Try.prog 24 #[.agg #[.int .i64 x, .int .i64 y]] w fun e w' => e = .returned (.int .i64 (sz x + sz y)) ∧ Below w.heap.size w w' := by
  obtain ⟨X1, X2⟩ := fx_bd x
  obtain ⟨Y1, Y2⟩ := fx_bd y
  have S1 : max (fx x) (-fx x) = sz x := rfl
  have S2 : max (fx y) (-fx y) = sz y := rfl
  obtain ⟨U1, U2⟩ := sz_bd x
  obtain ⟨V1, V2⟩ := sz_bd y
  have hB : Below w.heap.size w (w.alloc (.cells #[.int .i64 x, .int .i64 y] 23)) := (Below.refl _ _).alloc (Nat.le_refl _) _
  go_enter Try.func24, Try.ntmps24
  go_wp2_with (go_at_call 9; refine (refFix_any _ _ _).mono ?_; rintro e w1 ⟨rfl, hb⟩; replace hB := hB.trans (hb.mono hB.size); clear hb; have hB1 := hB.alloc hB.size (.cells #[.int .i64 (fx x), .int .i64 (fx y)] 23))
  refine wp_region_calm0 (by kernel_rfl) (by kernel_rfl) fun M => ?_
  have hc0 : ∀ n : In M.w, n.w.cell? ⟨w1.heap.size, 0, none⟩ = some (.int .i64 (fx x)) := fun n => n.cell (M.cell (by go_simp))
  have hc1 : ∀ n : In M.w, n.w.cell? ⟨w1.heap.size, 1, none⟩ = some (.int .i64 (fx y)) := fun n => n.cell (M.cell (by go_simp))
  repeat (go_big_quiet_step ((go_at_call 39; exact In.call_same (size_any _ (by omega) (by omega) _))))
  refine wpQuiet_nil ?_
  intro w2 hb
  replace hB := hB1.trans (hb.mono hB1.size)
  clear hb hc0 hc1 M
  go_wp2
  go_ret
  exact ⟨rfl, hB⟩

theorem refBig_any (x y : Int) (w : World) : Calls Try.prog 26 #[.agg #[.int .i64 x, .int .i64 y]] w fun e w' => e = .returned (.int .i64 (max (sz x) (sz y))) ∧ Below w.heap.size w w' := by
  obtain ⟨X1, X2⟩ := fx_bd x
  obtain ⟨Y1, Y2⟩ := fx_bd y
  have S1 : max (fx x) (-fx x) = sz x := rfl
  have S2 : max (fx y) (-fx y) = sz y := rfl
  obtain ⟨U1, U2⟩ := sz_bd x
  obtain ⟨V1, V2⟩ := sz_bd y
  have hB : Below w.heap.size w (w.alloc (.cells #[.int .i64 x, .int .i64 y] 23)) := (Below.refl _ _).alloc (Nat.le_refl _) _
  go_enter Try.func26, Try.ntmps26
  go_wp2_with (go_at_call 9; refine (refFix_any _ _ _).mono ?_; rintro e w1 ⟨rfl, hb⟩; replace hB := hB.trans (hb.mono hB.size); clear hb; have hB1 := hB.alloc hB.size (.cells #[.int .i64 (fx x), .int .i64 (fx y)] 23))
  refine wp_region_calm0 (by kernel_rfl) (by kernel_rfl) fun M => ?_
  have hc0 : ∀ n : In M.w, n.w.cell? ⟨w1.heap.size, 0, none⟩ = some (.int .i64 (fx x)) := fun n => n.cell (M.cell (by go_simp))
  have hc1 : ∀ n : In M.w, n.w.cell? ⟨w1.heap.size, 1, none⟩ = some (.int .i64 (fx y)) := fun n => n.cell (M.cell (by go_simp))
  repeat (go_big_quiet_step ((go_at_call 39; exact In.call_same (size_any _ (by omega) (by omega) _))))
  refine wpQuiet_nil ?_
  intro w2 hb
  replace hB := hB1.trans (hb.mono hB1.size)
  clear hb hc0 hc1 M
  go_wp2
  go_ret
  exact ⟨rfl, hB⟩


def smallB (x y m : Int) : Bool := decide (-m ≤ x ∧ x ≤ m ∧ -m ≤ y ∧ y ≤ m)
theorem refSmall_any (x y m : Int) (w : World) (hm : 0 ≤ m) (hm' : m ≤ 9223372036854775807) : Calls Try.prog 31 #[.agg #[.int .i64 x, .int .i64 y], .int .i64 m] w fun e w' => e = .returned (.bool (smallB x y m)) ∧ Below w.heap.size w w' := by
  by_cases h1 : -m ≤ x
  · by_cases h2 : x ≤ m
    · by_cases h3 : -m ≤ y
      · by_cases h4 : y ≤ m
        all_goals
          go_enter Try.func31, Try.ntmps31
          go_wp2
          go_ret
          exact ⟨ret_b (by simp [smallB, *] <;> omega), (Below.refl _ _).alloc (Nat.le_refl _) _⟩
      · go_enter Try.func31, Try.ntmps31
        go_wp2
        go_ret
        exact ⟨ret_b (by simp [smallB, *] <;> omega), (Below.refl _ _).alloc (Nat.le_refl _) _⟩
    · go_enter Try.func31, Try.ntmps31
      go_wp2
      go_ret
      exact ⟨ret_b (by simp [smallB, *] <;> omega), (Below.refl _ _).alloc (Nat.le_refl _) _⟩
  · go_enter Try.func31, Try.ntmps31
    go_wp2
    go_ret
    exact ⟨ret_b (by simp [smallB, *] <;> omega), (Below.refl _ _).alloc (Nat.le_refl _) _⟩
end Go.Proofs.Ytnhebjdimhkbmaa
