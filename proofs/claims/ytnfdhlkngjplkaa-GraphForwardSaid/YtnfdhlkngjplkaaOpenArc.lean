/- Arcs that come in, opened. -/
import Derived.Test.YtnfdhlkngjplkaaGraphLaw
import Derived.Lib.SmallJoins
import Derived.ChangeArms
import Derived.Deep.Strs
namespace Go.Proofs.Ytnfdhlkngjplkaa
open Go.RowKit Go.ChangeShapes Go.WideShapes Go.Joins Go.Deep

theorem cells_arc : Try.prog.cellsOf 34 = 2 := by kernel_rfl
theorem cells_int16 : Try.prog.cellsOf 3 = 1 := by kernel_rfl
theorem list2_16 {α : Type} {l : List α} (h : l.length = 2) : ∃ a b, l = [a, b] := by
  match l, h with
  | [a, b], _ => exact ⟨a, b, rfl⟩
set_option maxRecDepth 100000 in
theorem trod_arc {H : Type} {enc : TypeId × Value → H} {w : World} {fuel : Nat} {cs : List Value} {x : DataW H × List MemPlace} (hl : cs.length = 2) (h : DataW.trod enc Try.prog w 0 (fun _ => true) true fuel 34 cs = some x) : ∃ a : Arc16, cs = csArc a ∧ (-9223372036854775808 ≤ a.src ∧ a.src ≤ 9223372036854775807) ∧ -9223372036854775808 ≤ a.dst ∧ a.dst ≤ 9223372036854775807 := by
  obtain ⟨c0, c1, rfl⟩ := list2_16 hl
  obtain ⟨y0, y1, k, _, _, h0, h1⟩ := trod_struct2 Try.underlying34 h
  simp only [cells_int16, List.drop_zero, List.take_succ_cons, List.take_zero, List.drop_succ_cons] at h0 h1
  obtain ⟨a, e0, _, wa⟩ := DataW.trod_int Try.underlying3 h0
  obtain ⟨b, e1, _, wb⟩ := DataW.trod_int Try.underlying3 h1
  simp at e0 e1
  subst e0 e1
  exact ⟨⟨a, b⟩, rfl, bounds_i64 wa, bounds_i64 wb⟩
set_option maxRecDepth 100000 in
theorem open_arcs {H : Type} {enc : TypeId × Value → H} {w : World} {base : Nat} {v : Value} {d : DataW H} {p : List MemPlace} (hok : Value.okWide Try.prog w .any base 23 v) (h : DataW.Trod enc Try.prog w 0 (fun _ => true) true 23 v d p) :
    ∃ l, ArcsAt w v l ∧ l.length ≤ 9223372036854775807 ∧ B64a l := by
  obtain ⟨l, h1, h2, h3⟩ := open_rows csArc (fun a => (-9223372036854775808 ≤ a.src ∧ a.src ≤ 9223372036854775807) ∧ -9223372036854775808 ≤ a.dst ∧ a.dst ≤ 9223372036854775807) Try.underlying23 cells_arc (by decide) (fun _ _ _ hl h => trod_arc hl h) hok h
  exact ⟨l, h1, h2, h3⟩
end Go.Proofs.Ytnfdhlkngjplkaa
