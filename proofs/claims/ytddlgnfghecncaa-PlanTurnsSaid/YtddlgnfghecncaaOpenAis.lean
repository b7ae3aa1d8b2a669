/- Aisles that come in, opened. -/
import Derived.Test.YtddlgnfghecncaaOpenPt
import Derived.Test.YtddlgnfghecncaaBun4
import Derived.Deep.Strs
namespace Go.Proofs.Ytddlgnfghecncaa
open Go.RowKit Go.ChangeShapes Go.WideShapes Go.Joins Go.Deep

theorem cells_aisle : Try.prog.cellsOf 26 = 5 := by kernel_rfl
theorem list5 {α : Type} {l : List α} (h : l.length = 5) : ∃ a b c d e, l = [a, b, c, d, e] := by
  match l, h with
  | [a, b, c, d, e], _ => exact ⟨a, b, c, d, e, rfl⟩
def Ais.In (a : Ais) : Prop := In64 a.id ∧ (In64 a.lx ∧ In64 a.ly) ∧ In64 a.hx ∧ In64 a.hy
theorem trod_aisle {H : Type} {enc : TypeId × Value → H} {w : World} {fuel : Nat} {cs : List Value} {x : DataW H × List MemPlace} (hl : cs.length = 5) (h : DataW.trod enc Try.prog w 0 (fun _ => true) true fuel 26 cs = some x) : ∃ a : Ais, cs = a.cs ∧ a.In := by
  obtain ⟨c0, c1, c2, c3, c4, rfl⟩ := list5 hl
  obtain ⟨y0, y1, y2, k, _, _, h0, h1, h2⟩ := trod_struct3 Try.underlying26 h
  obtain ⟨z0, z1, m, _, _, g0, g1⟩ := trod_struct2 Try.underlying24 h1
  obtain ⟨u0, u1, n, _, _, f0, f1⟩ := trod_struct2 Try.underlying24 h2
  simp only [cells_int_pt, cells_point, List.drop_zero, List.take_succ_cons, List.take_zero, List.drop_succ_cons] at h0 g0 g1 f0 f1
  obtain ⟨a, e0, _, wa⟩ := DataW.trod_int Try.underlying3 h0
  obtain ⟨b, e1, _, wb⟩ := DataW.trod_int Try.underlying3 g0
  obtain ⟨c, e2, _, wc⟩ := DataW.trod_int Try.underlying3 g1
  obtain ⟨d, e3, _, wd'⟩ := DataW.trod_int Try.underlying3 f0
  obtain ⟨e, e4, _, we⟩ := DataW.trod_int Try.underlying3 f1
  simp at e0 e1 e2 e3 e4
  subst e0 e1 e2 e3 e4
  exact ⟨⟨a, b, c, d, e⟩, rfl, in64_of_wf wa, ⟨in64_of_wf wb, in64_of_wf wc⟩, in64_of_wf wd', in64_of_wf we⟩
set_option maxRecDepth 100000 in
theorem open_aisle {H : Type} {enc : TypeId × Value → H} {w : World} {base : Nat} {v : Value} {d : DataW H} {p : List MemPlace} (hok : Value.okWide Try.prog w .any base 26 v) (h : DataW.Trod enc Try.prog w 0 (fun _ => true) true 26 v d p) :
    ∃ a : Ais, v = av a.id a.lx a.ly a.hx a.hy ∧ a.In := by
  obtain ⟨cs, rfl, hsz⟩ := okWide_struct Try.underlying26 hok
  obtain ⟨fuel, hf⟩ := h
  have hl : cs.toList.length = 5 := by rw [Array.length_toList]; exact hsz.trans cells_aisle
  obtain ⟨a, e, ha⟩ := trod_aisle hl (by simpa [Value.cells] using hf)
  refine ⟨a, ?_, ha⟩
  have : cs = a.cs.toArray := by rw [← e]
  rw [this]
  rfl
set_option maxRecDepth 100000 in
theorem open_aisles {H : Type} {enc : TypeId × Value → H} {w : World} {base : Nat} {v : Value} {d : DataW H} {p : List MemPlace} (hok : Value.okWide Try.prog w .any base 22 v) (h : DataW.Trod enc Try.prog w 0 (fun _ => true) true 22 v d p) :
    ∃ l, AisAt w v l ∧ l.length ≤ 9223372036854775807 ∧ ∀ x ∈ l, Ais.In x :=
  open_rows Ais.cs Ais.In Try.underlying22 cells_aisle (by decide) (fun _ _ _ hl h => trod_aisle hl h) hok h
end Go.Proofs.Ytddlgnfghecncaa
