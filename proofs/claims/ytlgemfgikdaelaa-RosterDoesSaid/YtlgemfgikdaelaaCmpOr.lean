/- cmp.Compare and cmp.Or at int. FOR ALL LATER STAGES. -/
import Derived.Test.YtlgemfgikdaelaaOwnO
import Derived.Shelf.SlicesG.Cmp
namespace Go.Proofs.Ytlgemfgikdaelaa
open Go.RowKit

theorem cCmp_any (x y : Int) (w : World) : Calls Try.prog 44 #[.int .i64 x, .int .i64 y] w fun e w' => e = .returned (.int .i64 (Lib.compareInt x y)) ∧ w' = w := by
  have hn : ∀ x w, Calls Try.prog 46 #[.int .i64 x] w fun e w' => e = .returned (.bool false) ∧ w' = w := fun x w => by
    go_enter Try.func46, Try.ntmps46
    go_wp2
    go_ret
    exact ⟨by simp, rfl⟩
  go_enter Try.func44, Try.ntmps44
  go_wp2_with (go_at_call 46; refine (hn _ _).mono ?_; rintro e w' ⟨rfl, rfl⟩)
  all_goals (go_ret; refine ⟨?_, rfl⟩; unfold Lib.compareInt; (repeat' split) <;> first | rfl | (exfalso; omega))

/-- the first that is not zero -/
def orT : List Int → Int
  | [] => 0
  | x :: t => if x ≠ 0 then x else orT t
end Go.Proofs.Ytlgemfgikdaelaa
