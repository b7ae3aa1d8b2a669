/- Items that come in, opened. -/
import Derived.Test.YtkhnkhkpjgemkaaAgeRefC
import Derived.Lib.SmallJoins
import Derived.ChangeArms
namespace Go.Proofs.Ytkhnkhkpjgemkaa
open Go.RowKit Go.ChangeShapes Go.WideShapes Go.Joins

theorem cells_item : Try.prog.cellsOf 28 = 4 := by kernel_rfl
theorem cells_int14 : Try.prog.cellsOf 3 = 1 := by kernel_rfl
theorem list4_14 {α : Type} {l : List α} (h : l.length = 4) : ∃ a b c d, l = [a, b, c, d] := by
  match l, h with
  | [a, b, c, d], _ => exact ⟨a, b, c, d, rfl⟩
set_option maxRecDepth 100000 in
theorem trod_item {H : Type} {enc : TypeId × Value → H} {w : World} {fuel : Nat} {cs : List Value} {x : DataW H × List MemPlace} (hl : cs.length = 4) (h : DataW.trod enc Try.prog w 0 (fun _ => true) true fuel 28 cs = some x) : ∃ a : It, cs = csI4 a := by
  obtain ⟨c0, c1, c2, c3, rfl⟩ := list4_14 hl
  obtain ⟨y0, y1, y2, y3, k, _, _, h0, h1, h2, h3⟩ := trod_struct4 Try.underlying28 h
  simp only [cells_int14, List.drop_zero, List.take_succ_cons, List.take_zero, List.drop_succ_cons] at h0 h1 h2 h3
  obtain ⟨a, e0, _, wa⟩ := DataW.trod_int Try.underlying3 h0
  obtain ⟨b, e1, _, wb⟩ := DataW.trod_int Try.underlying3 h1
  obtain ⟨c, e2, _, wc⟩ := DataW.trod_int Try.underlying3 h2
  obtain ⟨d, e3, _, wd'⟩ := DataW.trod_int Try.underlying3 h3
  simp at e0 e1 e2 e3
  subst e0 e1 e2 e3
  exact ⟨⟨a, b, c, d⟩, rfl⟩
set_option maxRecDepth 100000 in
theorem open_item {H : Type} {enc : TypeId × Value → H} {w : World} {base : Nat} {v : Value} {d : DataW H} {p : List MemPlace} (hok : Value.okWide Try.prog w .any base 28 v) (h : DataW.Trod enc Try.prog w 0 (fun _ => true) true 28 v d p) :
    ∃ a : It, v = .agg #[.int .i64 a.id, .int .i64 a.prio, .int .i64 a.since, .int .i64 a.seq] := by
  obtain ⟨cs, rfl, hsz⟩ := okWide_struct Try.underlying28 hok
  obtain ⟨fuel, hf⟩ := h
  have hl : cs.toList.length = 4 := by rw [Array.length_toList]; exact hsz.trans cells_item
  obtain ⟨a, e⟩ := trod_item hl (by simpa [Value.cells] using hf)
  refine ⟨a, ?_⟩
  have : cs = (csI4 a).toArray := by rw [← e]
  rw [this]
  rfl
set_option maxRecDepth 100000 in
theorem open_items {H : Type} {enc : TypeId × Value → H} {w : World} {base : Nat} {v : Value} {d : DataW H} {p : List MemPlace} (hok : Value.okWide Try.prog w .any base 22 v) (h : DataW.Trod enc Try.prog w 0 (fun _ => true) true 22 v d p) :
    ∃ l, ItAt w v l ∧ l.length ≤ 9223372036854775807 := by
  obtain ⟨l, h1, h2, _⟩ := open_rows csI4 (fun _ => True) Try.underlying22 cells_item (by decide) (fun _ _ _ hl h => by obtain ⟨y, e⟩ := trod_item hl h; exact ⟨y, e, trivial⟩) hok h
  exact ⟨l, h1, h2⟩
end Go.Proofs.Ytkhnkhkpjgemkaa
