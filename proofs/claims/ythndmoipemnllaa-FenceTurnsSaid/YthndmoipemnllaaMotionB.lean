/- The walks of package motion: Fix, Do, Then, Back. -/
import Derived.Test.YthndmoipemnllaaMotionA
namespace Go.Proofs.Ythndmoipemnllaa
open Go.RowKit
attribute [local go_sem] store_complex

theorem negone_whole : Fl 13830554455654793216 (-1) := by
  have h := neg_whole one_whole
  have e : Op.negFloat .f64 4607182418800017408 = 13830554455654793216 := by decide +kernel
  rw [e] at h
  exact h
theorem unit_is {k : Nat} (h : k < 4) : (decide (uq k = 1)) = decide (k = 0) := by
  have : k = 0 ∨ k = 1 ∨ k = 2 ∨ k = 3 := by omega
  rcases this with rfl | rfl | rfl | rfl <;> decide

/-- a motion as numbers of the plane: its turn's quarters and its way -/
structure Rk (v : Value) (q : Nat) (x y : Int) : Prop where
  is : ∃ a b c d, v = .agg #[.complex .f64 a b, .complex .f64 c d] ∧ Fl a (uq q) ∧ Fl b (vq q) ∧ Fl c x ∧ Fl d y

theorem reckon_rk (n x y : Int) : ∃ v, Rk v (qr n) (fx x) (fx y) ∧ ∀ w, Calls Try.prog 39 #[.agg #[.int .i64 n, .int .i64 x, .int .i64 y]] w fun e w' => e = .returned v ∧ Below w.heap.size w w' :=
  ⟨_, ⟨_, _, _, _, rfl, fl_small (by have := (unit_abs (qr n)).1; omega), fl_small (by have := (unit_abs (qr n)).2; omega), fl_fx x, fl_fx y⟩, fun w => reckon_any n x y w⟩
end Go.Proofs.Ythndmoipemnllaa
