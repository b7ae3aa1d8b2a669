/- Items (with their ids' bounds) and numbers of sixteen bits that come in, opened. -/
import Derived.Test.YtkhnkhkpjgemkaaOpenItem
import Derived.Test.YtkhnkhkpjgemkaaAqLaw
import Derived.Test.YtkhnkhkpjgemkaaBun2
namespace Go.Proofs.Ytkhnkhkpjgemkaa
open Go.RowKit Go.ChangeShapes Go.WideShapes Go.Joins

set_option maxRecDepth 100000 in
theorem trod_itemB {H : Type} {enc : TypeId × Value → H} {w : World} {fuel : Nat} {cs : List Value} {x : DataW H × List MemPlace} (hl : cs.length = 4) (h : DataW.trod enc Try.prog w 0 (fun _ => true) true fuel 28 cs = some x) : ∃ a : It, cs = csI4 a ∧ I64 a.id := by
  obtain ⟨c0, c1, c2, c3, rfl⟩ := list4_14 hl
  obtain ⟨y0, y1, y2, y3, k, _, _, h0, h1, h2, h3⟩ := trod_struct4 Try.underlying28 h
  simp only [cells_int14, List.drop_zero, List.take_succ_cons, List.take_zero, List.drop_succ_cons] at h0 h1 h2 h3
  obtain ⟨a, e0, _, wa⟩ := DataW.trod_int Try.underlying3 h0
  obtain ⟨b, e1, _, wb⟩ := DataW.trod_int Try.underlying3 h1
  obtain ⟨c, e2, _, wc⟩ := DataW.trod_int Try.underlying3 h2
  obtain ⟨d, e3, _, wd'⟩ := DataW.trod_int Try.underlying3 h3
  simp at e0 e1 e2 e3
  subst e0 e1 e2 e3
  exact ⟨⟨a, b, c, d⟩, rfl, bounds_i64 wa⟩
set_option maxRecDepth 100000 in
theorem open_itemsB {H : Type} {enc : TypeId × Value → H} {w : World} {base : Nat} {v : Value} {d : DataW H} {p : List MemPlace} (hok : Value.okWide Try.prog w .any base 22 v) (h : DataW.Trod enc Try.prog w 0 (fun _ => true) true 22 v d p) :
    ∃ l, (ItAt w v l ∧ ∀ a ∈ l, I64 a.id) ∧ l.length ≤ 9223372036854775807 := by
  obtain ⟨l, h1, h2, h3⟩ := open_rows csI4 (fun a => I64 a.id) Try.underlying22 cells_item (by decide) (fun _ _ _ hl h => trod_itemB hl h) hok h
  exact ⟨l, ⟨h1, h3⟩, h2⟩
theorem cells_u16 : Try.prog.cellsOf 31 = 1 := by kernel_rfl
theorem list1_15 {α : Type} {l : List α} (h : l.length = 1) : ∃ a, l = [a] := by
  match l, h with
  | [a], _ => exact ⟨a, rfl⟩
set_option maxRecDepth 100000 in
theorem open_u16s {H : Type} {enc : TypeId × Value → H} {w : World} {base : Nat} {v : Value} {d : DataW H} {p : List MemPlace} (hok : Value.okWide Try.prog w .any base 23 v) (h : DataW.Trod enc Try.prog w 0 (fun _ => true) true 23 v d p) :
    ∃ l, (RowsAt w 1 csH v l ∧ ∀ n ∈ l, 0 ≤ n ∧ n ≤ 65535) ∧ l.length ≤ 9223372036854775807 := by
  obtain ⟨l, h1, h2, h3⟩ := open_rows csH (fun n => 0 ≤ n ∧ n ≤ 65535) Try.underlying23 cells_u16 (by decide) (fun _ cs _ hl h => by
    obtain ⟨c, rfl⟩ := list1_15 hl
    obtain ⟨a, e, _, wa⟩ := DataW.trod_int Try.underlying31 h
    simp at e
    subst e
    have := u16_bd wa
    exact ⟨a, rfl, this.1, by omega⟩) hok h
  exact ⟨l, ⟨h1, h3⟩, h2⟩
end Go.Proofs.Ytkhnkhkpjgemkaa
