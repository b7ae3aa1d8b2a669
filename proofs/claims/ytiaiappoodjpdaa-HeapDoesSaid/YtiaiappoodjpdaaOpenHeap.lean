/- Things and acts of heaps that come in, opened. -/
import Derived.Test.YtiaiappoodjpdaaHeapLaw
import Derived.Lib.SmallJoins
import Derived.ChangeArms
import Derived.Deep.Strs
namespace Go.Proofs.Ytiaiappoodjpdaa
open Go.RowKit Go.ChangeShapes Go.WideShapes Go.Joins Go.Deep

theorem cells_th : Try.prog.cellsOf 28 = 3 := by kernel_rfl
theorem cells_act13 : Try.prog.cellsOf 30 = 4 := by kernel_rfl
theorem cells_int13 : Try.prog.cellsOf 3 = 1 := by kernel_rfl
theorem list3_13 {α : Type} {l : List α} (h : l.length = 3) : ∃ a b c, l = [a, b, c] := by
  match l, h with
  | [a, b, c], _ => exact ⟨a, b, c, rfl⟩
theorem list4_13 {α : Type} {l : List α} (h : l.length = 4) : ∃ a b c d, l = [a, b, c, d] := by
  match l, h with
  | [a, b, c, d], _ => exact ⟨a, b, c, d, rfl⟩
set_option maxRecDepth 100000 in
theorem trod_th {H : Type} {enc : TypeId × Value → H} {w : World} {fuel : Nat} {cs : List Value} {x : DataW H × List MemPlace} (hl : cs.length = 3) (h : DataW.trod enc Try.prog w 0 (fun _ => true) true fuel 28 cs = some x) : ∃ a : Th, cs = csT a ∧ I64 a.id := by
  obtain ⟨c0, c1, c2, rfl⟩ := list3_13 hl
  obtain ⟨y0, y1, y2, k, _, _, h0, h1, h2⟩ := trod_struct3 Try.underlying28 h
  simp only [cells_int13, List.drop_zero, List.take_succ_cons, List.take_zero, List.drop_succ_cons] at h0 h1 h2
  obtain ⟨a, e0, _, wa⟩ := DataW.trod_int Try.underlying3 h0
  obtain ⟨b, e1, _, wb⟩ := DataW.trod_int Try.underlying3 h1
  obtain ⟨c, e2, _, wc⟩ := DataW.trod_int Try.underlying3 h2
  simp at e0 e1 e2
  subst e0 e1 e2
  exact ⟨⟨a, b, c⟩, rfl, bounds_i64 wa⟩
set_option maxRecDepth 100000 in
theorem trod_act13 {H : Type} {enc : TypeId × Value → H} {w : World} {fuel : Nat} {cs : List Value} {x : DataW H × List MemPlace} (hl : cs.length = 4) (h : DataW.trod enc Try.prog w 0 (fun _ => true) true fuel 30 cs = some x) : ∃ a : A13, cs = csA13 a ∧ I64 a.x.id := by
  obtain ⟨c0, c1, c2, c3, rfl⟩ := list4_13 hl
  obtain ⟨y0, y1, k, _, _, h0, h1⟩ := trod_struct2 Try.underlying30 h
  simp only [cells_int13, cells_th, List.drop_zero, List.take_succ_cons, List.take_zero, List.drop_succ_cons] at h0 h1
  obtain ⟨a, e0, _, wa⟩ := DataW.trod_int Try.underlying3 h0
  obtain ⟨b, e1, hb⟩ := trod_th rfl h1
  simp at e0
  subst e0
  refine ⟨⟨a, b⟩, ?_, hb⟩
  rw [e1]
  rfl
set_option maxRecDepth 100000 in
theorem open_things {H : Type} {enc : TypeId × Value → H} {w : World} {base : Nat} {v : Value} {d : DataW H} {p : List MemPlace} (hok : Value.okWide Try.prog w .any base 26 v) (h : DataW.Trod enc Try.prog w 0 (fun _ => true) true 26 v d p) :
    ∃ l, (ThAt w v l ∧ ∀ a ∈ l, I64 a.id) ∧ l.length ≤ 9223372036854775807 := by
  obtain ⟨l, h1, h2, h3⟩ := open_rows csT (fun a => I64 a.id) Try.underlying26 cells_th (by decide) (fun _ _ _ hl h => trod_th hl h) hok h
  exact ⟨l, ⟨h1, h3⟩, h2⟩
set_option maxRecDepth 100000 in
theorem open_acts13 {H : Type} {enc : TypeId × Value → H} {w : World} {base : Nat} {v : Value} {d : DataW H} {p : List MemPlace} (hok : Value.okWide Try.prog w .any base 22 v) (h : DataW.Trod enc Try.prog w 0 (fun _ => true) true 22 v d p) :
    ∃ l, (Acts13 w v l ∧ ∀ a ∈ l, I64 a.x.id) ∧ l.length ≤ 9223372036854775807 := by
  obtain ⟨l, h1, h2, h3⟩ := open_rows csA13 (fun a => I64 a.x.id) Try.underlying22 cells_act13 (by decide) (fun _ _ _ hl h => trod_act13 hl h) hok h
  exact ⟨l, ⟨h1, h3⟩, h2⟩
end Go.Proofs.Ytiaiappoodjpdaa
