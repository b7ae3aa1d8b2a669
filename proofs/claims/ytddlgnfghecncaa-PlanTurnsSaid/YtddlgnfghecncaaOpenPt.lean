/- A point that comes in, opened. -/
import Derived.Test.YtddlgnfghecncaaRows
import Derived.Lib.SmallJoins
import Derived.ChangeArms
namespace Go.Proofs.Ytddlgnfghecncaa
open Go.RowKit Go.ChangeShapes Go.WideShapes Go.Joins

theorem cells_point : Try.prog.cellsOf 24 = 2 := by kernel_rfl
def In64 (n : Int) : Prop := -9223372036854775808 ≤ n ∧ n ≤ 9223372036854775807
theorem in64_of_wf {n : Int} (h : (Lit.int .i64 n).wf = true) : In64 n := by
  simp [Lit.wf] at h
  exact h
set_option maxRecDepth 100000 in
theorem open_point {H : Type} {enc : TypeId × Value → H} {w : World} {base : Nat} {v : Value} {d : DataW H} {p : List MemPlace} (hok : Value.okWide Try.prog w .any base 24 v) (h : DataW.Trod enc Try.prog w 0 (fun _ => true) true 24 v d p) :
    ∃ x y : Int, v = .agg #[.int .i64 x, .int .i64 y] ∧ In64 x ∧ In64 y := by
  obtain ⟨c0, c1, y0, y1, m, rfl, _, _, hy0, hy1⟩ := open_agg2 Try.underlying24 (by kernel_rfl) cells_point hok h
  obtain ⟨a, e0, _, wa⟩ := DataW.trod_int Try.underlying3 hy0
  obtain ⟨b, e1, _, wb⟩ := DataW.trod_int Try.underlying3 hy1
  simp at e0 e1
  subst e0 e1
  exact ⟨a, b, rfl, in64_of_wf wa, in64_of_wf wb⟩

theorem cells_motion : Try.prog.cellsOf 41 = 3 := by kernel_rfl
theorem cells_int_pt : Try.prog.cellsOf 3 = 1 := by kernel_rfl
set_option maxRecDepth 100000 in
theorem open_motion {H : Type} {enc : TypeId × Value → H} {w : World} {base : Nat} {v : Value} {d : DataW H} {p : List MemPlace} (hok : Value.okWide Try.prog w .any base 41 v) (h : DataW.Trod enc Try.prog w 0 (fun _ => true) true 41 v d p) :
    ∃ n x y : Int, v = .agg #[.int .i64 n, .int .i64 x, .int .i64 y] ∧ In64 n ∧ In64 x ∧ In64 y := by
  obtain ⟨cs, rfl, hsz⟩ := okWide_struct Try.underlying41 hok
  obtain ⟨c0, c1, c2, rfl⟩ := array3 (hsz.trans cells_motion)
  obtain ⟨fuel, hf⟩ := h
  obtain ⟨y0, y1, k, hx, _, h0, h1⟩ := trod_struct2 Try.underlying41 hf
  obtain ⟨z0, z1, m, hz, _, g0, g1⟩ := trod_struct2 Try.underlying24 h1
  simp only [Value.cells, cells_int_pt, cells_point, List.drop_zero, List.take_succ_cons, List.take_zero, List.drop_succ_cons] at h0 g0 g1
  obtain ⟨a, e0, _, wa⟩ := DataW.trod_int Try.underlying3 h0
  obtain ⟨b, e1, _, wb⟩ := DataW.trod_int Try.underlying3 g0
  obtain ⟨c, e2, _, wc⟩ := DataW.trod_int Try.underlying3 g1
  simp at e0 e1 e2
  subst e0 e1 e2
  exact ⟨a, b, c, rfl, in64_of_wf wa, in64_of_wf wb, in64_of_wf wc⟩
end Go.Proofs.Ytddlgnfghecncaa
