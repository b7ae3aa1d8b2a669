/- Stage 14: the document's Ahead. -/
import Derived.Test.YtoepodjpempcdaaAgeRefA
namespace Go.Proofs.Ytoepodjpempcdaa
open Go.RowKit

set_option maxHeartbeats 2000000 in
set_option maxRecDepth 100000 in
theorem refAhead14_any (x y : It) (now rate : Int) (w : World) : Calls Try.prog 12 #[itv x, itv y, .int .i64 now, .int .i64 rate] w fun e w' => e = .returned (.bool (ahA x y now rate)) ∧ Below w.heap.size w w' := by
  have H1 := Lib.hid fun w => refOf14_any x now rate w
  have H2 := Lib.hid fun w => refOf14_any y now rate w
  obtain ⟨r, hr⟩ : ∃ r, ahA x y now rate = r := ⟨_, rfl⟩
  rw [hr]
  unfold ahA at hr
  generalize ofA x now rate = p at *
  generalize ofA y now rate = q at *
  obtain ⟨x1, x2, x3, x4⟩ := x
  obtain ⟨y1, y2, y3, y4⟩ := y
  simp only at hr H1 H2 ⊢
  have hX0 := Blk.new w [.int .i64 x1, .int .i64 x2, .int .i64 x3, .int .i64 x4] 23
  have hal := (Below.refl (w.alloc (.cells #[.int .i64 x1, .int .i64 x2, .int .i64 x3, .int .i64 x4] 23)).heap.size _).alloc (Nat.le_refl _) (.cells #[.int .i64 y1, .int .i64 y2, .int .i64 y3, .int .i64 y4] 23)
  have hY := Blk.new (w.alloc (.cells #[.int .i64 x1, .int .i64 x2, .int .i64 x3, .int .i64 x4] 23)) [.int .i64 y1, .int .i64 y2, .int .i64 y3, .int .i64 y4] 23
  have e1 : (w.alloc (.cells #[.int .i64 x1, .int .i64 x2, .int .i64 x3, .int .i64 x4] 23)).heap.size = w.heap.size + 1 := by simp
  rw [e1] at hY
  have hX := hX0.kept hal
  have HB := Lib.hid (((Below.refl w.heap.size w).alloc (Nat.le_refl _) (.cells #[.int .i64 x1, .int .i64 x2, .int .i64 x3, .int .i64 x4] 23)).trans (hal.mono (by rw [e1]; omega)))
  have c0 := hX.cell 0 rfl
  have c1 := hX.cell 1 rfl
  have c2 := hX.cell 2 rfl
  have c3 := hX.cell 3 rfl
  have d0 := hY.cell 0 rfl
  have d1 := hY.cell 1 rfl
  have d2 := hY.cell 2 rfl
  have d3 := hY.cell 3 rfl
  have HR := Lib.hid hr
  clear hX hY hr hX0 hal e1
  go_enter Try.func12, Try.ntmps12
  go_wp2
  generalize (w.alloc (.cells #[.int .i64 x1, .int .i64 x2, .int .i64 x3, .int .i64 x4] 23)).alloc (.cells #[.int .i64 y1, .int .i64 y2, .int .i64 y3, .int .i64 y4] 23) = ww at *
  refine wp_region_calm0 (by kernel_rfl) (by kernel_rfl) fun M => ?_
  have m0 := fun n : In M.w => n.cell (M.cell c0)
  have m1 := fun n : In M.w => n.cell (M.cell c1)
  have m2 := fun n : In M.w => n.cell (M.cell c2)
  have m3 := fun n : In M.w => n.cell (M.cell c3)
  have m4 := fun n : In M.w => n.cell (M.cell d0)
  have m5 := fun n : In M.w => n.cell (M.cell d1)
  have m6 := fun n : In M.w => n.cell (M.cell d2)
  have m7 := fun n : In M.w => n.cell (M.cell d3)
  repeat (go_big_quiet_step (first
    | (go_at_call 8; with_reducible exact In.call (H1.out _))
    | (go_at_call 8; with_reducible exact In.call (H2.out _))))
  refine wpQuiet_nil ?_
  intro w1 hb
  have e0 := (hb.cell (World.block_lt_of_cell? _ _ c0)).trans c0
  have e3 := (hb.cell (World.block_lt_of_cell? _ _ c3)).trans c3
  have f0 := (hb.cell (World.block_lt_of_cell? _ _ d0)).trans d0
  have f3 := (hb.cell (World.block_lt_of_cell? _ _ d3)).trans d3
  have HB1 := Lib.hid (HB.out.trans (hb.mono HB.out.size))
  clear m0 m1 m2 m3 m4 m5 m6 m7 c0 c1 c2 c3 d0 d1 d2 d3 hb M
  by_cases h1 : p = q
  · subst h1
    by_cases h2 : x4 = y4
    · subst h2
      have HF := Lib.hid (show decide (x1 < y1) = r by rw [← HR.out, if_neg (by simp), if_neg (by simp)])
      go_wp2
      go_ret
      exact ⟨ret_b HF.out, HB1.out⟩
    · have HF := Lib.hid (show decide (x4 < y4) = r by rw [← HR.out, if_neg (by simp), if_pos h2])
      have h3 : (x4 == y4) = false := beq_noI h2
      go_wp2
      go_ret
      exact ⟨ret_b HF.out, HB1.out⟩
  · have HF := Lib.hid (show decide (q < p) = r by rw [← HR.out, if_pos h1])
    have h3 : (p == q) = false := beq_noI h1
    go_wp2
    go_ret
    exact ⟨ret_b HF.out, HB1.out⟩
end Go.Proofs.Ytoepodjpempcdaa
