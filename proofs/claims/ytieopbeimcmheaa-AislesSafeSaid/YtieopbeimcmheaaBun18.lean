/- Texts of this proof, joined: OpenAct20; AisSafeAll. -/
import Derived.Test.YtieopbeimcmheaaBun17
import Derived.Lib.SmallJoins
import Derived.ChangeArms
import Derived.Deep.Strs
/- Acts of layer 20 that come in, opened. -/
namespace Go.Proofs.Ytieopbeimcmheaa
open Go.RowKit Go.ChangeShapes Go.WideShapes Go.Joins Go.Deep

theorem cells_act20 : Try.prog.cellsOf 37 = 3 := by kernel_rfl
theorem cells_int_a20 : Try.prog.cellsOf 3 = 1 := by kernel_rfl
theorem cells_ints_a20 : Try.prog.cellsOf 22 = 1 := by kernel_rfl
theorem list3_a20 {α : Type} {l : List α} (h : l.length = 3) : ∃ a b c, l = [a, b, c] := by
  match l, h with
  | [a, b, c], _ => exact ⟨a, b, c, rfl⟩
set_option maxRecDepth 100000 in
theorem trod_act20 {H : Type} {enc : TypeId × Value → H} {w : World} {fuel : Nat} {cs : List Value} {x : DataW H × List MemPlace} (hl : cs.length = 3) (h : DataW.trod enc Try.prog w 0 (fun _ => true) true fuel 37 cs = some x) : ∃ a : Ac, cs = csAc a ∧ IntsAt w a.v a.want ∧ -9223372036854775808 ≤ a.token ∧ a.token ≤ 9223372036854775807 := by
  obtain ⟨c0, c1, c2, rfl⟩ := list3_a20 hl
  obtain ⟨y0, y1, y2, k, _, _, h0, h1, h2⟩ := trod_struct3 Try.underlying37 h
  simp only [cells_int_a20, cells_ints_a20, List.drop_zero, List.take_succ_cons, List.take_zero, List.drop_succ_cons] at h0 h1 h2
  obtain ⟨a, e0, _, wa⟩ := DataW.trod_int Try.underlying3 h0
  obtain ⟨b, e1, _, wb⟩ := DataW.trod_int Try.underlying3 h1
  obtain ⟨s, len, cap, l, e2, hr, _⟩ := open_rows_in csI Try.underlying22 cells_int_a20 (by decide) (by
    intro n xs x _ hx
    obtain ⟨a, e0, _, wa⟩ := DataW.trod_int Try.underlying3 hx
    exact ⟨a, e0⟩) h2
  simp at e0 e1 e2
  subst e0 e1 e2
  obtain ⟨s', c', e3⟩ := RowsAt.form hr
  cases e3
  exact ⟨⟨a, b, s, cap, l⟩, rfl, RowsAt.ints hr, bounds_i64 wb⟩
set_option maxRecDepth 100000 in
theorem open_acts20 {H : Type} {enc : TypeId × Value → H} {w : World} {base : Nat} {v : Value} {d : DataW H} {p : List MemPlace} (hok : Value.okWide Try.prog w .any base 23 v) (h : DataW.Trod enc Try.prog w 0 (fun _ => true) true 23 v d p) :
    ∃ l, ActsAt w v l ∧ l.length ≤ 9223372036854775807 ∧ ∀ a ∈ l, In18 a.token := by
  obtain ⟨l, h1, h2, h3⟩ := open_rows csAc (fun a => IntsAt w a.v a.want ∧ -9223372036854775808 ≤ a.token ∧ a.token ≤ 9223372036854775807) Try.underlying23 cells_act20 (by decide) (fun _ _ _ hl h => trod_act20 hl h) hok h
  exact ⟨l, ⟨h1, fun a ha => (h3 a ha).1⟩, h2, fun a ha => (h3 a ha).2⟩
end Go.Proofs.Ytieopbeimcmheaa
/- Stage 20: what the proof of AislesSafe leans on. -/
namespace Go.Proofs.Ytieopbeimcmheaa
end Go.Proofs.Ytieopbeimcmheaa
