/- The walks of the document's answers for layer 3: points. -/
import Derived.Test.YthndmoipemnllaaGaussC
namespace Go.Proofs.Ythndmoipemnllaa
open Go.RowKit

theorem Cell2.of_heap {w : World} {b : Nat} {u v : Value} {t : TypeId} (h : w.heap[b]? = some (.cells #[u, v] t)) : Cell2 w b u v :=
  ⟨by simp [World.cell?, h], by simp [World.cell?, h], by simp [World.frozen?, h], by simp [World.frozen?, h]⟩

theorem refClip3_any (n a b : Int) (hab : a ≤ b) (w : World) : Calls Try.prog 51 #[.int .i64 n, .int .i64 a, .int .i64 b] w fun e w' => e = .returned (.int .i64 (max a (min n b))) ∧ w = w' := by
  by_cases h : n < a
  · go_enter Try.func51, Try.ntmps51
    go_wp2
    go_ret
    exact ⟨ret_i (by omega), rfl⟩
  · by_cases h1 : b < n
    all_goals
      go_enter Try.func51, Try.ntmps51
      go_wp2
      go_ret
      exact ⟨ret_i (by omega), rfl⟩

theorem part_any (n : Int) (w : World) : Calls Try.prog 50 #[.int .i64 n] w fun e w' => e = .returned (.int .i64 (fx n)) ∧ w = w' := by
  go_enter Try.func50, Try.ntmps50
  go_wp2_with (go_at_call 51; refine (refClip3_any _ _ _ (by omega) _).mono ?_; rintro e w1 ⟨rfl, rfl⟩)
  go_ret
  exact ⟨rfl, rfl⟩

theorem refFix_any (x y : Int) (w : World) : Calls Try.prog 46 #[.agg #[.int .i64 x, .int .i64 y]] w fun e w' => e = .returned (.agg #[.int .i64 (fx x), .int .i64 (fx y)]) ∧ Below w.heap.size w w' := by
  go_enter Try.func46, Try.ntmps46
  go_wp2
  refine wp_region_calmT 7 (by kernel_rfl) (by simp) (by kernel_rfl) fun M => ?_
  simp only [List.take_succ_cons, List.take_zero, List.drop_succ_cons, List.drop_zero]
  have hc0 : ∀ n : In M.w, n.w.cell? ⟨w.heap.size, 0, none⟩ = some (.int .i64 x) := fun n => n.cell (M.cell (by go_simp))
  have hc1 : ∀ n : In M.w, n.w.cell? ⟨w.heap.size, 1, none⟩ = some (.int .i64 y) := fun n => n.cell (M.cell (by go_simp))
  repeat (go_big_quiet_step ((go_at_call 50; exact In.call_same (part_any _ _))))
  refine wpQuiet_nil ?_
  intro w1 hb
  obtain ⟨g0, g1, z0, z1⟩ := (Cell2.new (w.alloc (.cells #[.int .i64 x, .int .i64 y] 23)) (.int .i64 0) (.int .i64 0) 23).kept hb
  have hB : Below w.heap.size w w1 := (((Below.refl _ _).alloc (Nat.le_refl _) _).alloc (by simp) _).trans (hb.mono (by simp; omega))
  clear hb hc0 hc1
  simp only [World.size_alloc] at g0 g1 z0 z1
  go_wp2
  refine bodyPost_ret (v := .agg #[.int .i64 (fx x), .int .i64 (fx y)]) ?_ rfl ⟨rfl, (hB.setCell (by simp) _).setCell (by simp) _⟩
  simp [results, Try.results46, go_sem, g0, g1]

set_option maxHeartbeats 1000000 in
theorem refAdd_any (a1 a2 b1 b2 : Int) (w : World) : Calls Try.prog 42 #[.agg #[.int .i64 a1, .int .i64 a2], .agg #[.int .i64 b1, .int .i64 b2]] w fun e w' => e = .returned (.agg #[.int .i64 (fx a1 + fx b1), .int .i64 (fx a2 + fx b2)]) ∧ Below w.heap.size w w' := by
  have A1 := fx_bd a1
  have A2 := fx_bd a2
  have B1 := fx_bd b1
  have B2 := fx_bd b2
  obtain ⟨A11, A12⟩ := A1
  obtain ⟨A21, A22⟩ := A2
  obtain ⟨B11, B12⟩ := B1
  obtain ⟨B21, B22⟩ := B2
  go_enter Try.func42, Try.ntmps42
  go_wp2
  refine wp_region_calmN 4 6 [(.cells #[.int .i64 0, .int .i64 0] 23, fun b => .pointer (some ⟨b, 0, none⟩)), (.cells #[.int .i64 0, .int .i64 0] 23, fun b => .pointer (some ⟨b, 0, none⟩))] (by kernel_rfl) (by simp) (by simp) (by kernel_rfl) fun M => ?_
  simp only [List.take_succ_cons, List.take_zero, List.drop_succ_cons, List.drop_zero, List.length_cons, List.length_nil, List.take_nil]
  have hc0 : ∀ n : In M.w, n.w.cell? ⟨w.heap.size, 0, none⟩ = some (.int .i64 a1) := fun n => n.cell (M.cell (by go_simp))
  have hc1 : ∀ n : In M.w, n.w.cell? ⟨w.heap.size, 1, none⟩ = some (.int .i64 a2) := fun n => n.cell (M.cell (by go_simp))
  have hd0 : ∀ n : In M.w, n.w.cell? ⟨w.heap.size + 1, 0, none⟩ = some (.int .i64 b1) := fun n => n.cell (M.cell (by go_simp))
  have hd1 : ∀ n : In M.w, n.w.cell? ⟨w.heap.size + 1, 1, none⟩ = some (.int .i64 b2) := fun n => n.cell (M.cell (by go_simp))
  repeat (go_big_quiet_step ((go_at_call 46; exact In.call (refFix_any _ _ _))))
  refine wpQuiet_nil ?_
  clear hc0 hc1 hd0 hd1 M
  refine ⟨rfl, fun n => by simp [go_sem], fun p hp _ => ⟨rfl, fun n => by simp [go_sem], fun q hq hqp w1 hw => ?_⟩⟩
  have hne : q ≠ p := fun e => by rw [e, Gh.set_self] at hqp; cases hqp
  have hb := hw.below
  simp only [World.size_alloc] at hp hq
  have C1 : Cell2 w1 p (.int .i64 0) (.int .i64 0) := Cell2.of_heap (hw.own p _ (by rw [Gh.set_ne _ (Ne.symm hne)]; exact Gh.set_self _ _ _))
  have C2 : Cell2 w1 q (.int .i64 0) (.int .i64 0) := Cell2.of_heap (hw.own q _ (Gh.set_self _ _ _))
  have C3 := (Cell2.new ((w.alloc (.cells #[.int .i64 a1, .int .i64 a2] 23)).alloc (.cells #[.int .i64 b1, .int .i64 b2] 23)) (.int .i64 0) (.int .i64 0) 23).kept hb
  have hB : Below w.heap.size w w1 := ((((Below.refl _ _).alloc (Nat.le_refl _) _).alloc (by simp) _).alloc (by simp; omega) _).trans (hb.mono (by simp; omega))
  simp only [World.size_alloc] at C3
  clear hb hw hqp
  obtain ⟨c10, c11, z10, z11⟩ := C1
  obtain ⟨c20, c21, z20, z21⟩ := C2
  obtain ⟨c30, c31, z30, z31⟩ := C3
  have n1 : p ≠ w.heap.size + 1 + 1 := by omega
  have n2 : q ≠ w.heap.size + 1 + 1 := by omega
  have n3 : w.heap.size + 1 + 1 ≠ p := by omega
  have n4 : w.heap.size + 1 + 1 ≠ q := by omega
  have n5 : p ≠ q := Ne.symm hne
  go_wp2
  refine bodyPost_ret (v := .agg #[.int .i64 (fx a1 + fx b1), .int .i64 (fx a2 + fx b2)]) ?_ rfl ⟨rfl, (((((hB.setCell (by simp; omega) _).setCell (by simp; omega) _).setCell (by simp; omega) _).setCell (by simp; omega) _).setCell (by simp; omega) _).setCell (by simp; omega) _⟩
  simp [results, Try.results42, go_sem, c30, c31, n1, n2, n3, n4]
end Go.Proofs.Ythndmoipemnllaa
