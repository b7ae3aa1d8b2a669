/- The laws AgeTells, AgeSorts. -/
import Derived.Test.YtoepodjpempcdaaAgeBase
namespace Go.Proofs.Ytoepodjpempcdaa
open Go.RowKit

set_option maxHeartbeats 4000000 in
set_option maxRecDepth 100000 in
theorem ageTells_any (x1 x2 x3 x4 y1 y2 y3 y4 now rate : Int) (w : World) : Calls Try.prog 3 #[.agg #[.int .i64 x1, .int .i64 x2, .int .i64 x3, .int .i64 x4], .agg #[.int .i64 y1, .int .i64 y2, .int .i64 y3, .int .i64 y4], .int .i64 now, .int .i64 rate] w fun e w' => e = .returned (.bool true) ∧ Below w.heap.size w w' := by
  have HAL := Lib.hid fun w => aAlive_any w
  have G1 := Lib.hid fun w => aOf_any ⟨x1, x2, x3, x4⟩ now rate w
  have G2 := Lib.hid fun w => refOf14_any ⟨x1, x2, x3, x4⟩ now rate w
  have G3 := Lib.hid fun w => aFull_any ⟨x1, x2, x3, x4⟩ rate w
  have G4 := Lib.hid fun w => refFull14_any ⟨x1, x2, x3, x4⟩ rate w
  have G5 := Lib.hid fun w => aAhead_any ⟨x1, x2, x3, x4⟩ ⟨y1, y2, y3, y4⟩ now rate w
  have G6 := Lib.hid fun w => refAhead14_any ⟨x1, x2, x3, x4⟩ ⟨y1, y2, y3, y4⟩ now rate w
  generalize ofA ⟨x1, x2, x3, x4⟩ now rate = p at *
  generalize fullA ⟨x1, x2, x3, x4⟩ rate = q at *
  generalize ahA ⟨x1, x2, x3, x4⟩ ⟨y1, y2, y3, y4⟩ now rate = r at *
  simp only [itv] at G1 G2 G3 G4 G5 G6
  have hX0 := Blk.new w [.int .i64 x1, .int .i64 x2, .int .i64 x3, .int .i64 x4] 23
  have hal := (Below.refl (w.alloc (.cells #[.int .i64 x1, .int .i64 x2, .int .i64 x3, .int .i64 x4] 23)).heap.size _).alloc (Nat.le_refl _) (.cells #[.int .i64 y1, .int .i64 y2, .int .i64 y3, .int .i64 y4] 23)
  have hY := Blk.new (w.alloc (.cells #[.int .i64 x1, .int .i64 x2, .int .i64 x3, .int .i64 x4] 23)) [.int .i64 y1, .int .i64 y2, .int .i64 y3, .int .i64 y4] 23
  have e1 : (w.alloc (.cells #[.int .i64 x1, .int .i64 x2, .int .i64 x3, .int .i64 x4] 23)).heap.size = w.heap.size + 1 := by simp
  rw [e1] at hY
  have hX := hX0.kept hal
  have HB := Lib.hid (((Below.refl w.heap.size w).alloc (Nat.le_refl _) (.cells #[.int .i64 x1, .int .i64 x2, .int .i64 x3, .int .i64 x4] 23)).trans (hal.mono (by rw [e1]; omega)))
  have c0 := hX.cell 0 rfl
  have c1 := hX.cell 1 rfl
  have c2 := hX.cell 2 rfl
  have c3 := hX.cell 3 rfl
  have d0 := hY.cell 0 rfl
  have d1 := hY.cell 1 rfl
  have d2 := hY.cell 2 rfl
  have d3 := hY.cell 3 rfl
  clear hX hY hX0 hal e1
  go_enter Try.func3, Try.ntmps3
  go_wp2
  generalize (w.alloc (.cells #[.int .i64 x1, .int .i64 x2, .int .i64 x3, .int .i64 x4] 23)).alloc (.cells #[.int .i64 y1, .int .i64 y2, .int .i64 y3, .int .i64 y4] 23) = ww at *
  refine wp_region_calm0 (by kernel_rfl) (by kernel_rfl) fun M => ?_
  have m0 := fun n : In M.w => n.cell (M.cell c0)
  have m1 := fun n : In M.w => n.cell (M.cell c1)
  have m2 := fun n : In M.w => n.cell (M.cell c2)
  have m3 := fun n : In M.w => n.cell (M.cell c3)
  have m4 := fun n : In M.w => n.cell (M.cell d0)
  have m5 := fun n : In M.w => n.cell (M.cell d1)
  have m6 := fun n : In M.w => n.cell (M.cell d2)
  have m7 := fun n : In M.w => n.cell (M.cell d3)
  repeat (go_big_quiet_step (first
    | (go_at_call 7; with_reducible exact In.call (G1.out _))
    | (go_at_call 8; with_reducible exact In.call (G2.out _))
    | (go_at_call 9; with_reducible exact In.call (G3.out _))
    | (go_at_call 10; with_reducible exact In.call (G4.out _))
    | (go_at_call 11; with_reducible exact In.call (G5.out _))
    | (go_at_call 12; with_reducible exact In.call (G6.out _))
    | (go_at_call 13; with_reducible exact In.call (HAL.out _))))
  refine wpQuiet_nil ?_
  intro w1 hb
  have HB1 := Lib.hid (HB.out.trans (hb.mono HB.out.size))
  clear hb
  go_wp2
  go_ret
  exact ⟨rfl, HB1.out⟩

set_option maxHeartbeats 4000000 in
set_option maxRecDepth 100000 in
theorem ageSorts_any (va : Value) (l : List It) (now rate : Int) (W : World) (ha : ItAt W va l) :
    Calls Try.prog 4 #[va, .int .i64 now, .int .i64 rate] W fun e w' => e = .returned (.bool true) ∧ Below W.heap.size W w' := by
  have HAL := Lib.hid fun w => aAlive_any w
  have HA := Lib.hid ha
  obtain ⟨al, cl, rfl⟩ := RowsAt.form ha
  clear ha
  have hX := Below.refl W.heap.size W
  by_cases h100 : 60 < l.length
  · have h1 : (60 : Int) < (l.length : Int) := by omega
    go_enter Try.func4, Try.ntmps4
    go_wp2_with (go_at_call 13; (with_reducible refine (HAL.out _).mono ?_); rintro e w1 ⟨rfl, hb⟩)
    go_ret
    exact ⟨rfl, hb⟩
  · have h1 : ¬ (60 : Int) < (l.length : Int) := by omega
    have g1 := fun w h => aSort_any (.slice al l.length cl) l now rate w h (by omega)
    have g2 := fun w h => refSort14_any (.slice al l.length cl) l now rate w h (by omega)
    have hil : (idsA (ordA l now rate)).length ≤ 60 := by rw [idsA_len, ordA_len]; omega
    have gi := fun w va vb ha hb => refInts_any va vb (idsA (ordA l now rate)) (idsA (ordA l now rate)) w ha hb (by omega) (by omega)
    rw [decide_eq_true rfl] at gi
    generalize idsA (ordA l now rate) = X at *
    have G1 := Lib.hid g1
    have G2 := Lib.hid g2
    have GI := Lib.hid gi
    have HX := Lib.hid hX
    clear g1 g2 gi hX hil
    go_enter Try.func4, Try.ntmps4
    go_wp2_with (first
      | (go_at_call 15; (with_reducible refine (G1.out _ HA.out).mono ?_); rintro e w1 ⟨v1, rfl, ho1, hb1⟩; have HO1 := Lib.hid (OwnI.ints ho1); have HX1 := Lib.hid hb1; clear ho1 hb1)
      | (go_at_call 16; (with_reducible refine (G2.out _ (RowsAt.kept HA.out HX1.out)).mono ?_); rintro e w2 ⟨v2, rfl, ho2, hb2⟩; have HO2 := Lib.hid (OwnI.ints ho2); have HO3 := Lib.hid (IntsAt.below HO1.out hb2); have HX2 := Lib.hid (HX1.out.trans (hb2.mono HX1.out.size)); clear ho2 hb2)
      | (go_at_call 14; (with_reducible refine (GI.out _ _ _ HO3.out HO2.out).mono ?_); rintro e w3 ⟨rfl, hb3⟩; have HX3 := Lib.hid (HX2.out.trans (hb3.mono HX2.out.size)); clear hb3)
      | (go_at_call 13; (with_reducible refine (HAL.out _).mono ?_); rintro e w9 ⟨rfl, hb9⟩; have HX9 := Lib.hid (HX3.out.trans (hb9.mono HX3.out.size)); clear hb9))
    go_ret
    exact ⟨rfl, HX9.out⟩
end Go.Proofs.Ytoepodjpempcdaa
