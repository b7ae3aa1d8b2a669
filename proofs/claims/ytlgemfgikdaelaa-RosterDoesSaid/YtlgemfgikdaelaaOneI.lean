/- One number in new memory. -/
import Derived.Test.YtlgemfgikdaelaaOwnInts
import Derived.Test.YtlgemfgikdaelaaOff
namespace Go.Proofs.Ytlgemfgikdaelaa
open Go.RowKit

theorem oneI13 (w : World) (n : Int) : RowsAt (w.alloc (.cells #[.int .i64 n] 3)) 1 csI (.slice (some ⟨w.heap.size, 0, none⟩) 1 1) [n] := by
  refine ⟨_, 1, rfl, Nat.le_refl _, fun _ => ⟨w.heap.size, 0, rfl, by simp, fun j x hj i u hu => ?_⟩⟩
  have h0 : j = 0 ∧ x = n := by
    cases j with
    | zero => simp at hj; exact ⟨rfl, hj.symm⟩
    | succ j => simp at hj
  obtain ⟨rfl, rfl⟩ := h0
  have h1 : i = 0 ∧ u = .int .i64 x := by
    cases i with
    | zero => simp [csI] at hu; exact ⟨rfl, hu.symm⟩
    | succ i => simp [csI] at hu
  obtain ⟨rfl, rfl⟩ := h1
  go_simp
theorem csI_one13 (n : Int) : ∀ u ∈ csI n, u.oneCell' = true := by
  intro u hu
  simp [csI] at hu
  subst hu
  rfl
end Go.Proofs.Ytlgemfgikdaelaa
