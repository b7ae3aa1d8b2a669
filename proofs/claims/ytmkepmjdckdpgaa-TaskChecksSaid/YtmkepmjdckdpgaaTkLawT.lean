/- Stage 22: the law TaskChecks. -/
import Derived.Test.YtmkepmjdckdpgaaBun13
namespace Go.Proofs.Ytmkepmjdckdpgaa
open Go.RowKit

set_option maxHeartbeats 16000000 in
set_option maxRecDepth 100000 in
theorem taskChecks_any (x : Sp) (r : Ru) (w : World) (ha : IntsAt w x.v x.aft) (hb : AisAt w r.v r.ais) :
    Calls Try.prog 3 #[spv x, ruv r] w fun e w' => e = .returned (.bool true) ∧ Below w.heap.size w w' := by
  have HAL := Lib.hid fun w => tAlive_any w
  have G1 := fun w h h2 => tCheck_any x w h h2
  have G2 := fun w h h2 => refCheck22_any x w h h2
  have G3 := fun w h h2 => tRules_any r w h h2
  have G4 := fun w h h2 => refRules22_any r w h h2
  generalize chk x = kx at *
  generalize rul r = kr at *
  obtain ⟨id, prio, sk, ge, fx, fy, tx, ty, a, c, l⟩ := x
  obtain ⟨x1, x2, x3, x4, x5, x6, x7, a', c', l'⟩ := r
  dsimp only [Sp.v, spv, Ru.v, ruv] at *
  have hal1 := (Below.refl w.heap.size w).alloc (Nat.le_refl _) (.cells #[.int .i64 id, .int .i64 prio, .int .u64 sk, .int .u64 ge, .int .i64 fx, .int .i64 fy, .int .i64 tx, .int .i64 ty, .slice a l.length c] 27)
  have hX := boxS w id prio sk ge fx fy tx ty (.slice a l.length c)
  have hI := ha.below hal1
  have hJ := hb.kept hal1
  obtain ⟨W1, hW1⟩ : ∃ W1, w.alloc (.cells #[.int .i64 id, .int .i64 prio, .int .u64 sk, .int .u64 ge, .int .i64 fx, .int .i64 fy, .int .i64 tx, .int .i64 ty, .slice a l.length c] 27) = W1 := ⟨_, rfl⟩
  have hsz : W1.heap.size = w.heap.size + 1 := by rw [← hW1]; simp
  rw [hW1] at hal1 hX hI hJ
  have hal2 := (Below.refl W1.heap.size W1).alloc (Nat.le_refl _) (.cells #[.int .i64 x1, .int .i64 x2, .int .i64 x3, .int .i64 x4, .int .i64 x5, .int .i64 x6, .int .i64 x7, .slice a' l'.length c'] 30)
  have hY := boxR W1 x1 x2 x3 x4 x5 x6 x7 (.slice a' l'.length c')
  rw [hsz] at hY
  have HX := Lib.hid (hX.kept hal2)
  have HY := Lib.hid hY
  have HI := Lib.hid (hI.below hal2)
  have HJ := Lib.hid (hJ.kept hal2)
  have HB := Lib.hid (hal1.trans (hal2.mono hal1.size))
  rw [← hW1] at HX HY HI HJ HB
  clear hal1 hX hI hJ hal2 hY hsz hW1 ha hb
  have c8 := HX.out.cell 8 rfl
  have d7 := HY.out.cell 7 rfl
  by_cases h1 : (60 : Int) < (l.length : Int)
  · go_enter Try.func3, Try.ntmps3
    go_wp2_with (go_at_call 6; (with_reducible refine (HAL.out _).mono ?_); rintro e w1 ⟨rfl, hb⟩; replace HB := Lib.hid (HB.out.trans (hb.mono HB.out.size)); clear hb)
    go_ret
    exact ⟨rfl, HB.out⟩
  by_cases h2 : (60 : Int) < (l'.length : Int)
  · go_enter Try.func3, Try.ntmps3
    go_wp2_with (go_at_call 6; (with_reducible refine (HAL.out _).mono ?_); rintro e w1 ⟨rfl, hb⟩; replace HB := Lib.hid (HB.out.trans (hb.mono HB.out.size)); clear hb)
    go_ret
    exact ⟨rfl, HB.out⟩
  have H1 := Lib.hid fun w h => G1 w h (by omega)
  have H2 := Lib.hid fun w h => G2 w h (by omega)
  have H3 := Lib.hid fun w h => G3 w h (by omega)
  have H4 := Lib.hid fun w h => G4 w h (by omega)
  clear G1 G2 G3 G4
  go_enter Try.func3, Try.ntmps3
  go_wp2
  generalize (w.alloc (.cells #[.int .i64 id, .int .i64 prio, .int .u64 sk, .int .u64 ge, .int .i64 fx, .int .i64 fy, .int .i64 tx, .int .i64 ty, .slice a l.length c] 27)).alloc (.cells #[.int .i64 x1, .int .i64 x2, .int .i64 x3, .int .i64 x4, .int .i64 x5, .int .i64 x6, .int .i64 x7, .slice a' l'.length c'] 30) = W0 at *
  refine wp_region_calm0 (by kernel_rfl) (by kernel_rfl) fun M => ?_
  clear c8 d7
  have c0 := fun n : In M.w => n.cell (M.cell (HX.out.cell 0 rfl))
  have c1 := fun n : In M.w => n.cell (M.cell (HX.out.cell 1 rfl))
  have c2 := fun n : In M.w => n.cell (M.cell (HX.out.cell 2 rfl))
  have c3 := fun n : In M.w => n.cell (M.cell (HX.out.cell 3 rfl))
  have c4 := fun n : In M.w => n.cell (M.cell (HX.out.cell 4 rfl))
  have c5 := fun n : In M.w => n.cell (M.cell (HX.out.cell 5 rfl))
  have c6 := fun n : In M.w => n.cell (M.cell (HX.out.cell 6 rfl))
  have c7 := fun n : In M.w => n.cell (M.cell (HX.out.cell 7 rfl))
  have c8 := fun n : In M.w => n.cell (M.cell (HX.out.cell 8 rfl))
  have d0 := fun n : In M.w => n.cell (M.cell (HY.out.cell 0 rfl))
  have d1 := fun n : In M.w => n.cell (M.cell (HY.out.cell 1 rfl))
  have d2 := fun n : In M.w => n.cell (M.cell (HY.out.cell 2 rfl))
  have d3 := fun n : In M.w => n.cell (M.cell (HY.out.cell 3 rfl))
  have d4 := fun n : In M.w => n.cell (M.cell (HY.out.cell 4 rfl))
  have d5 := fun n : In M.w => n.cell (M.cell (HY.out.cell 5 rfl))
  have d6 := fun n : In M.w => n.cell (M.cell (HY.out.cell 6 rfl))
  have d7 := fun n : In M.w => n.cell (M.cell (HY.out.cell 7 rfl))
  have hi := fun n : In M.w => HI.out.below (M.h.trans (n.h.mono M.h.size))
  have hj := fun n : In M.w => HJ.out.kept (M.h.trans (n.h.mono M.h.size))
  repeat (go_big_quiet_step (first
    | (go_at_call 7; with_reducible exact In.call (H1.out _ (hi _)))
    | (go_at_call 8; with_reducible exact In.call (H2.out _ (hi _)))
    | (go_at_call 9; with_reducible exact In.call (H3.out _ (hj _)))
    | (go_at_call 10; with_reducible exact In.call (H4.out _ (hj _)))
    | (go_at_call 6; with_reducible exact In.call (HAL.out _))))
  refine wpQuiet_nil ?_
  intro w1 hb1
  have HB1 := Lib.hid (HB.out.trans (hb1.mono HB.out.size))
  clear hb1 hi hj c0 c1 c2 c3 c4 c5 c6 c7 c8 d0 d1 d2 d3 d4 d5 d6 d7 M
  go_wp2
  go_ret
  exact ⟨rfl, HB1.out⟩
end Go.Proofs.Ytmkepmjdckdpgaa
