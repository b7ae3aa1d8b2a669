/- Acts of layer 25 that come in, opened. -/
import Derived.Test.YtlgemfgikdaelaaRsM
import Derived.Test.YtlgemfgikdaelaaIntsAt
import Derived.Test.YtlgemfgikdaelaaBytes
import Derived.Lib.SmallJoins
import Derived.ChangeArms
import Derived.Deep.Strs
namespace Go.Proofs.Ytlgemfgikdaelaa
open Go.RowKit Go.ChangeShapes Go.WideShapes Go.Joins Go.Deep

theorem cells_act25 : Try.prog.cellsOf 33 = 4 := by kernel_rfl
theorem cells_int_a25 : Try.prog.cellsOf 3 = 1 := by kernel_rfl
theorem cells_u64_a25 : Try.prog.cellsOf 23 = 1 := by kernel_rfl
theorem cells_bool_a25 : Try.prog.cellsOf 4 = 1 := by kernel_rfl
theorem list4_a25 {α : Type} {l : List α} (h : l.length = 4) : ∃ a b c d, l = [a, b, c, d] := by
  match l, h with
  | [a, b, c, d], _ => exact ⟨a, b, c, d, rfl⟩
set_option maxRecDepth 100000 in
theorem trod_act25 {H : Type} {enc : TypeId × Value → H} {w : World} {fuel : Nat} {cs : List Value} {x : DataW H × List MemPlace} (hl : cs.length = 4) (h : DataW.trod enc Try.prog w 0 (fun _ => true) true fuel 33 cs = some x) :
    ∃ a : Ra, cs = csRa a ∧ (-9223372036854775808 ≤ a.id ∧ a.id ≤ 9223372036854775807) ∧ a.bits < 2 ^ 64 := by
  obtain ⟨c0, c1, c2, c3, rfl⟩ := list4_a25 hl
  obtain ⟨y0, y1, y2, y3, k, _, _, h0, h1, h2, h3⟩ := trod_struct4 Try.underlying33 h
  simp only [cells_int_a25, cells_u64_a25, cells_bool_a25, List.drop_zero, List.take_succ_cons, List.take_zero, List.drop_succ_cons] at h0 h1 h2 h3
  obtain ⟨a, e0, _, wa⟩ := DataW.trod_int Try.underlying3 h0
  obtain ⟨b, e1, _, wb⟩ := DataW.trod_int Try.underlying3 h1
  obtain ⟨c, e2, _, wc⟩ := DataW.trod_int Try.underlying23 h2
  obtain ⟨d, e3, _⟩ := DataW.trod_bool Try.underlying4 h3
  simp at e0 e1 e2 e3
  subst e0 e1 e2 e3
  have hb := u64_bd wc
  obtain ⟨m, rfl⟩ := Int.eq_ofNat_of_zero_le hb.1
  exact ⟨⟨a, b, m, d⟩, rfl, bounds_i64 wb, by show m < 2 ^ 64; omega⟩
set_option maxRecDepth 100000 in
theorem open_acts25 {H : Type} {enc : TypeId × Value → H} {w : World} {base : Nat} {v : Value} {d : DataW H} {p : List MemPlace} (hok : Value.okWide Try.prog w .any base 22 v) (h : DataW.Trod enc Try.prog w 0 (fun _ => true) true 22 v d p) :
    ∃ l, RowsAt w 4 csRa v l ∧ l.length ≤ 9223372036854775807 ∧ ∀ a ∈ l, a.bits < 2 ^ 64 := by
  obtain ⟨l, h1, h2, h3⟩ := open_rows csRa (fun a => (-9223372036854775808 ≤ a.id ∧ a.id ≤ 9223372036854775807) ∧ a.bits < 2 ^ 64) Try.underlying22 cells_act25 (by decide) (fun _ _ _ hl h => trod_act25 hl h) hok h
  exact ⟨l, h1, h2, fun a ha => (h3 a ha).2⟩
end Go.Proofs.Ytlgemfgikdaelaa
