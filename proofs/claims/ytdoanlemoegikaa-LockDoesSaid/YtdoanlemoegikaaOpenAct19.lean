/- Acts of layer 19 that come in, opened. -/
import Derived.Test.YtdoanlemoegikaaLockLawD
import Derived.Lib.SmallJoins
import Derived.ChangeArms
import Derived.Deep.Strs
namespace Go.Proofs.Ytdoanlemoegikaa
open Go.RowKit Go.ChangeShapes Go.WideShapes Go.Joins Go.Deep

theorem cells_act19 : Try.prog.cellsOf 30 = 2 := by kernel_rfl
theorem cells_int_a19 : Try.prog.cellsOf 3 = 1 := by kernel_rfl
theorem list2_a19 {α : Type} {l : List α} (h : l.length = 2) : ∃ a b, l = [a, b] := by
  match l, h with
  | [a, b], _ => exact ⟨a, b, rfl⟩
set_option maxRecDepth 100000 in
theorem trod_act19 {H : Type} {enc : TypeId × Value → H} {w : World} {fuel : Nat} {cs : List Value} {x : DataW H × List MemPlace} (hl : cs.length = 2) (h : DataW.trod enc Try.prog w 0 (fun _ => true) true fuel 30 cs = some x) : ∃ a : A19, cs = csA19 a ∧ (-9223372036854775808 ≤ a.k ∧ a.k ≤ 9223372036854775807) ∧ -9223372036854775808 ≤ a.x ∧ a.x ≤ 9223372036854775807 := by
  obtain ⟨c0, c1, rfl⟩ := list2_a19 hl
  obtain ⟨y0, y1, k, _, _, h0, h1⟩ := trod_struct2 Try.underlying30 h
  simp only [cells_int_a19, List.drop_zero, List.take_succ_cons, List.take_zero, List.drop_succ_cons] at h0 h1
  obtain ⟨a, e0, _, wa⟩ := DataW.trod_int Try.underlying3 h0
  obtain ⟨b, e1, _, wb⟩ := DataW.trod_int Try.underlying3 h1
  simp at e0 e1
  subst e0 e1
  exact ⟨⟨a, b⟩, rfl, bounds_i64 wa, bounds_i64 wb⟩
set_option maxRecDepth 100000 in
theorem open_acts19 {H : Type} {enc : TypeId × Value → H} {w : World} {base : Nat} {v : Value} {d : DataW H} {p : List MemPlace} (hok : Value.okWide Try.prog w .any base 22 v) (h : DataW.Trod enc Try.prog w 0 (fun _ => true) true 22 v d p) :
    ∃ l, RowsAt w 2 csA19 v l ∧ l.length ≤ 9223372036854775807 ∧ ∀ a ∈ l, In18 a.x := by
  obtain ⟨l, h1, h2, h3⟩ := open_rows csA19 (fun a => (-9223372036854775808 ≤ a.k ∧ a.k ≤ 9223372036854775807) ∧ -9223372036854775808 ≤ a.x ∧ a.x ≤ 9223372036854775807) Try.underlying22 cells_act19 (by decide) (fun _ _ _ hl h => trod_act19 hl h) hok h
  exact ⟨l, h1, h2, fun a ha => (h3 a ha).2⟩
end Go.Proofs.Ytdoanlemoegikaa
