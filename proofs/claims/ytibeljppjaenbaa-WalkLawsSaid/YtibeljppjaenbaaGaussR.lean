/- The walks of the document's answers for layer 3: points. -/
import Derived.Test.YtibeljppjaenbaaGaussC
namespace Go.Proofs.Ytibeljppjaenbaa
open Go.RowKit

theorem Cell2.of_heap {w : World} {b : Nat} {u v : Value} {t : TypeId} (h : w.heap[b]? = some (.cells #[u, v] t)) : Cell2 w b u v :=
  ⟨by simp [World.cell?, h], by simp [World.cell?, h], by simp [World.frozen?, h], by simp [World.frozen?, h]⟩

theorem refClip3_any (n a b : Int) (hab : a ≤ b) (w : World) : Calls Try.prog 59 #[.int .i64 n, .int .i64 a, .int .i64 b] w fun e w' => e = .returned (.int .i64 (max a (min n b))) ∧ w = w' := by
  by_cases h : n < a
  · go_enter Try.func59, Try.ntmps59
    go_wp2
    go_ret
    exact ⟨ret_i (by omega), rfl⟩
  · by_cases h1 : b < n
    all_goals
      go_enter Try.func59, Try.ntmps59
      go_wp2
      go_ret
      exact ⟨ret_i (by omega), rfl⟩

theorem part_any (n : Int) (w : World) : Calls Try.prog 76 #[.int .i64 n] w fun e w' => e = .returned (.int .i64 (fx n)) ∧ w = w' := by
  go_enter Try.func76, Try.ntmps76
  go_wp2_with (go_at_call 59; refine (refClip3_any _ _ _ (by omega) _).mono ?_; rintro e w1 ⟨rfl, rfl⟩)
  go_ret
  exact ⟨rfl, rfl⟩

theorem refFix_any (x y : Int) (w : World) : Calls Try.prog 71 #[.agg #[.int .i64 x, .int .i64 y]] w fun e w' => e = .returned (.agg #[.int .i64 (fx x), .int .i64 (fx y)]) ∧ Below w.heap.size w w' := by
  go_enter Try.func71, Try.ntmps71
  go_wp2
  refine wp_region_calmT 7 (by kernel_rfl) (by simp) (by kernel_rfl) fun M => ?_
  simp only [List.take_succ_cons, List.take_zero, List.drop_succ_cons, List.drop_zero]
  have hc0 : ∀ n : In M.w, n.w.cell? ⟨w.heap.size, 0, none⟩ = some (.int .i64 x) := fun n => n.cell (M.cell (by go_simp))
  have hc1 : ∀ n : In M.w, n.w.cell? ⟨w.heap.size, 1, none⟩ = some (.int .i64 y) := fun n => n.cell (M.cell (by go_simp))
  repeat (go_big_quiet_step ((go_at_call 76; exact In.call_same (part_any _ _))))
  refine wpQuiet_nil ?_
  intro w1 hb
  obtain ⟨g0, g1, z0, z1⟩ := (Cell2.new (w.alloc (.cells #[.int .i64 x, .int .i64 y] 34)) (.int .i64 0) (.int .i64 0) 34).kept hb
  have hB : Below w.heap.size w w1 := (((Below.refl _ _).alloc (Nat.le_refl _) _).alloc (by simp) _).trans (hb.mono (by simp; omega))
  clear hb hc0 hc1
  simp only [World.size_alloc] at g0 g1 z0 z1
  go_wp2
  refine bodyPost_ret (v := .agg #[.int .i64 (fx x), .int .i64 (fx y)]) ?_ rfl ⟨rfl, (hB.setCell (by simp) _).setCell (by simp) _⟩
  simp [results, Try.results71, go_sem, g0, g1]

end Go.Proofs.Ytibeljppjaenbaa
