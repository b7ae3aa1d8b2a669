/- An argument that is a list of points. -/
import Derived.Test.YthndmoipemnllaaPairsAt
namespace Go.Proofs.Ythndmoipemnllaa
open Go.RowKit Go.ChangeShapes Go.WideShapes Go.Joins Go.Deep

theorem cells_int_pts : Try.prog.cellsOf 3 = 1 := by kernel_rfl
theorem cells_pts : Try.prog.cellsOf 23 = 2 := by kernel_rfl
set_option maxRecDepth 100000 in
theorem open_points {H : Type} {enc : TypeId × Value → H} {w : World} {base : Nat} {v : Value} {d : DataW H} {p : List MemPlace} (hok : Value.okWide Try.prog w .any base 26 v) (h : DataW.Trod enc Try.prog w 0 (fun _ => true) true 26 v d p) :
    ∃ l, PairsAt w v l ∧ l.length ≤ 9223372036854775807 ∧ ∀ x ∈ l, (-9223372036854775808 ≤ x.1 ∧ x.1 ≤ 9223372036854775807) ∧ (-9223372036854775808 ≤ x.2 ∧ x.2 ≤ 9223372036854775807) :=
  open_pairs Try.underlying26 Try.underlying23 cells_pts rfl rfl rfl rfl cells_int_pts hok h
end Go.Proofs.Ythndmoipemnllaa
