/- cmp.Compare and cmp.Or at int. FOR ALL LATER STAGES. -/
import Derived.Test.YtoepodjpempcdaaOwnO
import Derived.Shelf.SlicesG.Cmp
namespace Go.Proofs.Ytoepodjpempcdaa
open Go.RowKit

theorem cCmp_any (x y : Int) (w : World) : Calls Try.prog 40 #[.int .i64 x, .int .i64 y] w fun e w' => e = .returned (.int .i64 (Lib.compareInt x y)) ∧ w' = w := by
  have hn : ∀ x w, Calls Try.prog 43 #[.int .i64 x] w fun e w' => e = .returned (.bool false) ∧ w' = w := fun x w => by
    go_enter Try.func43, Try.ntmps43
    go_wp2
    go_ret
    exact ⟨by simp, rfl⟩
  go_enter Try.func40, Try.ntmps40
  go_wp2_with (go_at_call 43; refine (hn _ _).mono ?_; rintro e w' ⟨rfl, rfl⟩)
  all_goals (go_ret; refine ⟨?_, rfl⟩; unfold Lib.compareInt; (repeat' split) <;> first | rfl | (exfalso; omega))

/-- the first that is not zero -/
def orT : List Int → Int
  | [] => 0
  | x :: t => if x ≠ 0 then x else orT t
set_option maxHeartbeats 2000000 in
theorem cOr_any (b : Nat) (x y z : Int) (w : World) (h : Blk w b [.int .i64 x, .int .i64 y, .int .i64 z]) : Calls Try.prog 39 #[.slice (some ⟨b, 0, none⟩) 3 3] w fun e w' => e = .returned (.int .i64 (orT [x, y, z])) ∧ w' = w := by
  have e0 := h.cell 0 rfl
  have e1 := h.cell 1 rfl
  have e2 := h.cell 2 rfl
  obtain ⟨r, hr⟩ : ∃ r, orT [x, y, z] = r := ⟨_, rfl⟩
  rw [hr]
  unfold orT orT orT orT at hr
  clear h
  by_cases hx : x = 0
  · have x0 : (x != 0) = false := by simp [hx]
    rw [if_neg (by simp [hx])] at hr
    by_cases hy : y = 0
    · have y0 : (y != 0) = false := by simp [hy]
      rw [if_neg (by simp [hy])] at hr
      by_cases hz : z = 0
      · have z0 : (z != 0) = false := by simp [hz]
        rw [if_neg (by simp [hz])] at hr
        have HR := Lib.hid hr
        clear hx hy hz hr
        go_enter Try.func39, Try.ntmps39
        go_wp2
        refine wp_loop_rounds 4 ?_
        rw [rounds_succ]; go_wp2; rw [rounds_succ]; go_wp2; rw [rounds_succ]; go_wp2; rw [rounds_succ]; go_wp2
        go_ret
        exact ⟨by rw [← HR.out]; rfl, rfl⟩
      · have z0 : (z != 0) = true := by simp [hz]
        rw [if_pos hz] at hr
        subst hr
        clear hx hy hz
        go_enter Try.func39, Try.ntmps39
        go_wp2
        refine wp_loop_rounds 3 ?_
        rw [rounds_succ]; go_wp2; rw [rounds_succ]; go_wp2; rw [rounds_succ]; go_wp2
        go_ret
        exact ⟨rfl, rfl⟩
    · have y0 : (y != 0) = true := by simp [hy]
      rw [if_pos hy] at hr
      subst hr
      clear hx hy
      go_enter Try.func39, Try.ntmps39
      go_wp2
      refine wp_loop_rounds 2 ?_
      rw [rounds_succ]; go_wp2; rw [rounds_succ]; go_wp2
      go_ret
      exact ⟨rfl, rfl⟩
  · have x0 : (x != 0) = true := by simp [hx]
    rw [if_pos hx] at hr
    subst hr
    clear hx
    go_enter Try.func39, Try.ntmps39
    go_wp2
    refine wp_loop_rounds 1 ?_
    rw [rounds_succ]; go_wp2
    go_ret
    exact ⟨rfl, rfl⟩
end Go.Proofs.Ytoepodjpempcdaa
