/- The walks of package gauss: fixing, points and numbers. -/
import Derived.Test.YthndmoipemnllaaRows
import Derived.Test.YthndmoipemnllaaRegion
import Derived.Test.YthndmoipemnllaaFloat
import Derived.WalkSpells
import Derived.WalkLawsBesides
import Derived.Lib.Hide
import Derived.Lib.MinMax
namespace Go.Proofs.Ythndmoipemnllaa
open Go.RowKit

/-- a block of two cells that may be written -/
structure Cell2 (w : World) (b : Nat) (u v : Value) : Prop where
  c0 : w.cell? ⟨b, 0, none⟩ = some u
  c1 : w.cell? ⟨b, 1, none⟩ = some v
  z0 : w.frozen? ⟨b, 0, none⟩ = false
  z1 : w.frozen? ⟨b, 1, none⟩ = false
theorem Cell2.new (w : World) (u v : Value) (t : TypeId) : Cell2 (w.alloc (.cells #[u, v] t)) w.heap.size u v :=
  ⟨by go_simp, by go_simp, by go_simp, by go_simp⟩
theorem Cell2.below {w w1 : World} {b B : Nat} {u v : Value} (h : Cell2 w b u v) (hb : Below B w w1) (hB : b < B) : Cell2 w1 b u v :=
  ⟨by rw [hb.cell hB]; exact h.c0, by rw [hb.cell hB]; exact h.c1, by rw [hb.frozen hB]; exact h.z0, by rw [hb.frozen hB]; exact h.z1⟩
theorem Cell2.kept {w w1 : World} {b : Nat} {u v : Value} (h : Cell2 w b u v) (hb : Below w.heap.size w w1) : Cell2 w1 b u v :=
  h.below hb (World.block_lt_of_cell? w _ h.c0)
theorem Cell2.alloc {w : World} {b : Nat} {u v : Value} (h : Cell2 w b u v) (o : Obj) : Cell2 (w.alloc o) b u v :=
  h.kept ((Below.refl _ _).alloc (Nat.le_refl _) _)

/-- a part, fixed -/
def fx (n : Int) : Int := max (-1048576) (min n 1048576)
theorem fx_bd (n : Int) : -1048576 ≤ fx n ∧ fx n ≤ 1048576 := by unfold fx; omega
/-- a point as a value -/
abbrev pt (x y : Int) : Value := .agg #[.int .i64 x, .int .i64 y]
/-- a whole number as a float's word -/
def fl (n : Int) : Nat := floatOfInt .f64 n
theorem fl_fx (n : Int) : Fl (fl (fx n)) (fx n) := ofInt_whole (by have := fx_bd n; omega)

theorem near_any (n : Int) (w : World) : Calls Try.prog 44 #[.int .i64 n] w fun e w' => e = .returned (.int .i64 (fx n)) ∧ w = w' := by
  go_enter Try.func44, Try.ntmps44
  go_wp2
  go_ret
  exact ⟨by unfold fx; rfl, rfl⟩

theorem fix_any (x y : Int) (w : World) : Calls Try.prog 38 #[.agg #[.int .i64 x, .int .i64 y]] w fun e w' => e = .returned (.agg #[.int .i64 (fx x), .int .i64 (fx y)]) ∧ Below w.heap.size w w' := by
  go_enter Try.func38, Try.ntmps38
  go_wp2
  refine wp_region_calmT 7 (by kernel_rfl) (by simp) (by kernel_rfl) fun M => ?_
  simp only [List.take_succ_cons, List.take_zero, List.drop_succ_cons, List.drop_zero]
  have hc0 : ∀ n : In M.w, n.w.cell? ⟨w.heap.size, 0, none⟩ = some (.int .i64 x) := fun n => n.cell (M.cell (by go_simp))
  have hc1 : ∀ n : In M.w, n.w.cell? ⟨w.heap.size, 1, none⟩ = some (.int .i64 y) := fun n => n.cell (M.cell (by go_simp))
  repeat (go_big_quiet_step ((go_at_call 44; exact In.call_same (near_any _ _))))
  refine wpQuiet_nil ?_
  intro w1 hb
  obtain ⟨g0, g1, z0, z1⟩ := (Cell2.new (w.alloc (.cells #[.int .i64 x, .int .i64 y] 23)) (.int .i64 0) (.int .i64 0) 23).kept hb
  have hB : Below w.heap.size w w1 := (((Below.refl _ _).alloc (Nat.le_refl _) _).alloc (by simp) _).trans (hb.mono (by simp; omega))
  clear hb hc0 hc1
  simp only [World.size_alloc] at g0 g1 z0 z1
  go_wp2
  refine bodyPost_ret (v := .agg #[.int .i64 (fx x), .int .i64 (fx y)]) ?_ rfl ⟨rfl, (hB.setCell (by simp) _).setCell (by simp) _⟩
  simp [results, Try.results38, go_sem, g0, g1, z0, z1]

theorem number_any (x y : Int) (w : World) : Calls Try.prog 48 #[.agg #[.int .i64 x, .int .i64 y]] w fun e w' => e = .returned (.complex .f64 (fl (fx x)) (fl (fx y))) ∧ Below w.heap.size w w' := by
  go_enter Try.func48, Try.ntmps48
  go_wp2_with (go_at_call 38; refine (fix_any _ _ _).mono ?_; rintro e w1 ⟨rfl, hb⟩; obtain ⟨g0, g1, z0, z1⟩ := (Cell2.new w (.int .i64 x) (.int .i64 y) 23).kept hb; replace hb := ((Below.refl w.heap.size w).alloc (Nat.le_refl _) _).trans (hb.mono (by simp)))
  go_ret
  exact ⟨rfl, (hb.setCell (Nat.le_refl _) _).setCell (Nat.le_refl _) _⟩
end Go.Proofs.Ythndmoipemnllaa
