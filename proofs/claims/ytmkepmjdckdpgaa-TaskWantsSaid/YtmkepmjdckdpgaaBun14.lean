/- Texts of this proof, joined: OpenTk; TkBase22. -/
import Derived.Test.YtmkepmjdckdpgaaBun13
import Derived.OpenShut
/- Specs, rules and pairs of sets of skills that come in, opened. FOR ALL LATER STAGES. -/
namespace Go.Proofs.Ytmkepmjdckdpgaa
open Go.RowKit Go.ChangeShapes Go.WideShapes Go.Joins Go.Deep

theorem okWide_array {P : Program} {w : World} {r : Reach} {base : Nat} {t e : TypeId} {n : Nat} {v : Value} (ht : P.underlying t = some (.array n e)) (h : Value.okWide P w r base t v) : ∃ cs, v = .agg cs ∧ cs.size = P.cellsOf t := by
  simp only [Value.okWide, ht] at h
  obtain ⟨cs, h1, h2, _⟩ := h
  exact ⟨cs, h1, h2⟩
theorem trod_seven {P : Program} {H : Type} {enc : TypeId × Value → H} {w : World} {base : Nat} {spare : Nat → Bool} {held : Bool} {t : TypeId} {f0 f1 f2 f3 f4 f5 f6 : Field} {fuel : Nat} {cs : List Value} {x : DataW H × List MemPlace} (ht : P.underlying t = some (.struct #[f0, f1, f2, f3, f4, f5, f6])) (h : DataW.trod enc P w base spare held fuel t cs = some x) :
    ∃ y0 y1 y2 y3 y4 y5 y6 n, DataW.trod enc P w base spare held n f0.type ((cs.drop f0.offset).take (P.cellsOf f0.type)) = some y0 ∧
      DataW.trod enc P w base spare held n f1.type ((cs.drop f1.offset).take (P.cellsOf f1.type)) = some y1 ∧
      DataW.trod enc P w base spare held n f2.type ((cs.drop f2.offset).take (P.cellsOf f2.type)) = some y2 ∧
      DataW.trod enc P w base spare held n f3.type ((cs.drop f3.offset).take (P.cellsOf f3.type)) = some y3 ∧
      DataW.trod enc P w base spare held n f4.type ((cs.drop f4.offset).take (P.cellsOf f4.type)) = some y4 ∧
      DataW.trod enc P w base spare held n f5.type ((cs.drop f5.offset).take (P.cellsOf f5.type)) = some y5 ∧
      DataW.trod enc P w base spare held n f6.type ((cs.drop f6.offset).take (P.cellsOf f6.type)) = some y6 := by
  obtain ⟨xs, n, _, rfl, hl, hlen, hf⟩ := DataW.trod_struct ht h
  match xs, hlen with
  | [y0, y1, y2, y3, y4, y5, y6], _ => exact ⟨y0, y1, y2, y3, y4, y5, y6, n, by simpa using hf 0 f0 rfl, by simpa using hf 1 f1 rfl, by simpa using hf 2 f2 rfl, by simpa using hf 3 f3 rfl, by simpa using hf 4 f4 rfl, by simpa using hf 5 f5 rfl, by simpa using hf 6 f6 rfl⟩
theorem trod_eight {P : Program} {H : Type} {enc : TypeId × Value → H} {w : World} {base : Nat} {spare : Nat → Bool} {held : Bool} {t : TypeId} {f0 f1 f2 f3 f4 f5 f6 f7 : Field} {fuel : Nat} {cs : List Value} {x : DataW H × List MemPlace} (ht : P.underlying t = some (.struct #[f0, f1, f2, f3, f4, f5, f6, f7])) (h : DataW.trod enc P w base spare held fuel t cs = some x) :
    ∃ y0 y1 y2 y3 y4 y5 y6 y7 n, DataW.trod enc P w base spare held n f0.type ((cs.drop f0.offset).take (P.cellsOf f0.type)) = some y0 ∧
      DataW.trod enc P w base spare held n f1.type ((cs.drop f1.offset).take (P.cellsOf f1.type)) = some y1 ∧
      DataW.trod enc P w base spare held n f2.type ((cs.drop f2.offset).take (P.cellsOf f2.type)) = some y2 ∧
      DataW.trod enc P w base spare held n f3.type ((cs.drop f3.offset).take (P.cellsOf f3.type)) = some y3 ∧
      DataW.trod enc P w base spare held n f4.type ((cs.drop f4.offset).take (P.cellsOf f4.type)) = some y4 ∧
      DataW.trod enc P w base spare held n f5.type ((cs.drop f5.offset).take (P.cellsOf f5.type)) = some y5 ∧
      DataW.trod enc P w base spare held n f6.type ((cs.drop f6.offset).take (P.cellsOf f6.type)) = some y6 ∧
      DataW.trod enc P w base spare held n f7.type ((cs.drop f7.offset).take (P.cellsOf f7.type)) = some y7 := by
  obtain ⟨xs, n, _, rfl, hl, hlen, hf⟩ := DataW.trod_struct ht h
  match xs, hlen with
  | [y0, y1, y2, y3, y4, y5, y6, y7], _ => exact ⟨y0, y1, y2, y3, y4, y5, y6, y7, n, by simpa using hf 0 f0 rfl, by simpa using hf 1 f1 rfl, by simpa using hf 2 f2 rfl, by simpa using hf 3 f3 rfl, by simpa using hf 4 f4 rfl, by simpa using hf 5 f5 rfl, by simpa using hf 6 f6 rfl, by simpa using hf 7 f7 rfl⟩
theorem list9 {α : Type} {l : List α} (h : l.length = 9) : ∃ a b c d e f g h i, l = [a, b, c, d, e, f, g, h, i] := by
  match l, h with
  | [a, b, c, d, e, f, g, h, i], _ => exact ⟨a, b, c, d, e, f, g, h, i, rfl⟩
theorem list8 {α : Type} {l : List α} (h : l.length = 8) : ∃ a b c d e f g h, l = [a, b, c, d, e, f, g, h] := by
  match l, h with
  | [a, b, c, d, e, f, g, h], _ => exact ⟨a, b, c, d, e, f, g, h, rfl⟩

theorem cells_spec : Try.prog.cellsOf 27 = 9 := by kernel_rfl
theorem cells_u64 : Try.prog.cellsOf 22 = 1 := by kernel_rfl
theorem cells_ints : Try.prog.cellsOf 25 = 1 := by kernel_rfl
def U64 (n : Int) : Prop := 0 ≤ n ∧ n < 18446744073709551616
theorem U64.nat {n : Int} (h : U64 n) : ∃ k : Nat, n = (k : Int) ∧ k < 2 ^ 64 := ⟨n.toNat, by have := h.1; omega, by have := h.1; have := h.2; omega⟩
structure Sp.In (x : Sp) : Prop where
  id : In64 x.id
  prio : In64 x.prio
  sk : U64 x.sk
  ge : U64 x.ge
  fx : In64 x.fx
  fy : In64 x.fy
  tx : In64 x.tx
  ty : In64 x.ty
  len : x.aft.length ≤ 9223372036854775807
  aft : ∀ n ∈ x.aft, In64 n
set_option maxRecDepth 100000 in
theorem trod_spec {H : Type} {enc : TypeId × Value → H} {w : World} {fuel : Nat} {cs : List Value} {x : DataW H × List MemPlace} (hl : cs.length = 9) (h : DataW.trod enc Try.prog w 0 (fun _ => true) true fuel 27 cs = some x) : ∃ a : Sp, cs = csSp a ∧ IntsAt w a.v a.aft ∧ a.In := by
  obtain ⟨c0, c1, c2, c3, c4, c5, c6, c7, c8, rfl⟩ := list9 hl
  obtain ⟨y0, y1, y2, y3, y4, y5, y6, k, h0, h1, h2, h3, h4, h5, h6⟩ := trod_seven Try.underlying27 h
  obtain ⟨z0, z1, m, _, _, g0, g1⟩ := trod_struct2 Try.underlying24 h4
  obtain ⟨u0, u1, n, _, _, f0, f1⟩ := trod_struct2 Try.underlying24 h5
  simp only [cells_int_pt, cells_point, cells_u64, cells_ints, List.drop_zero, List.take_succ_cons, List.take_zero, List.drop_succ_cons] at h0 h1 h2 h3 g0 g1 f0 f1 h6
  obtain ⟨a, e0, _, w0⟩ := DataW.trod_int Try.underlying3 h0
  obtain ⟨b, e1, _, w1⟩ := DataW.trod_int Try.underlying3 h1
  obtain ⟨c, e2, _, w2⟩ := DataW.trod_int Try.underlying22 h2
  obtain ⟨d, e3, _, w3⟩ := DataW.trod_int Try.underlying22 h3
  obtain ⟨e, e4, _, w4⟩ := DataW.trod_int Try.underlying3 g0
  obtain ⟨f, e5, _, w5⟩ := DataW.trod_int Try.underlying3 g1
  obtain ⟨g, e6, _, w6⟩ := DataW.trod_int Try.underlying3 f0
  obtain ⟨i, e7, _, w7⟩ := DataW.trod_int Try.underlying3 f1
  obtain ⟨s, len, cap, l, e8, hr, hlen, hw⟩ := open_rows_good csI In64 Try.underlying25 cells_int_pt (by decide) (by
    intro n xs x _ hx
    obtain ⟨a, e0, _, wa⟩ := DataW.trod_int Try.underlying3 hx
    exact ⟨a, e0, in64_of_wf wa⟩) h6
  simp at e0 e1 e2 e3 e4 e5 e6 e7 e8
  subst e0 e1 e2 e3 e4 e5 e6 e7 e8
  obtain ⟨s', c', e9⟩ := RowsAt.form hr
  cases e9
  exact ⟨⟨a, b, c, d, e, f, g, i, s, cap, l⟩, rfl, RowsAt.ints hr, in64_of_wf w0, in64_of_wf w1, u64_bd w2, u64_bd w3, in64_of_wf w4, in64_of_wf w5, in64_of_wf w6, in64_of_wf w7, hlen, hw⟩
set_option maxRecDepth 100000 in
theorem open_spec {H : Type} {enc : TypeId × Value → H} {w : World} {base : Nat} {v : Value} {d : DataW H} {p : List MemPlace} (hok : Value.okWide Try.prog w .any base 27 v) (h : DataW.Trod enc Try.prog w 0 (fun _ => true) true 27 v d p) :
    ∃ x : Sp, v = spv x ∧ IntsAt w x.v x.aft ∧ x.In := by
  obtain ⟨cs, rfl, hsz⟩ := okWide_struct Try.underlying27 hok
  obtain ⟨fuel, hf⟩ := h
  have hl : cs.toList.length = 9 := by rw [Array.length_toList]; exact hsz.trans cells_spec
  obtain ⟨a, e, h1, h2⟩ := trod_spec hl (by simpa [Value.cells] using hf)
  refine ⟨a, ?_, h1, h2⟩
  have : cs = (csSp a).toArray := by rw [← e]
  rw [this]
  rfl

theorem cells_rules : Try.prog.cellsOf 30 = 8 := by kernel_rfl
theorem cells_aisles : Try.prog.cellsOf 28 = 1 := by kernel_rfl
structure Ru.In (x : Ru) : Prop where
  tasks : In64 x.tasks
  crew : In64 x.crew
  units : In64 x.units
  lease : In64 x.lease
  tries : In64 x.tries
  rate : In64 x.rate
  start : In64 x.start
  len : x.ais.length ≤ 9223372036854775807
  ais : ∀ a ∈ x.ais, Ais.In a
set_option maxRecDepth 100000 in
theorem trod_rules {H : Type} {enc : TypeId × Value → H} {w : World} {fuel : Nat} {cs : List Value} {x : DataW H × List MemPlace} (hl : cs.length = 8) (h : DataW.trod enc Try.prog w 0 (fun _ => true) true fuel 30 cs = some x) : ∃ a : Ru, cs = csRu a ∧ AisAt w a.v a.ais ∧ a.In := by
  obtain ⟨c0, c1, c2, c3, c4, c5, c6, c7, rfl⟩ := list8 hl
  obtain ⟨y0, y1, y2, y3, y4, y5, y6, y7, k, h0, h1, h2, h3, h4, h5, h6, h7⟩ := trod_eight Try.underlying30 h
  simp only [cells_int_pt, cells_aisles, List.drop_zero, List.take_succ_cons, List.take_zero, List.drop_succ_cons] at h0 h1 h2 h3 h4 h5 h6 h7
  obtain ⟨a, e0, _, w0⟩ := DataW.trod_int Try.underlying3 h0
  obtain ⟨b, e1, _, w1⟩ := DataW.trod_int Try.underlying3 h1
  obtain ⟨c, e2, _, w2⟩ := DataW.trod_int Try.underlying3 h2
  obtain ⟨d, e3, _, w3⟩ := DataW.trod_int Try.underlying3 h3
  obtain ⟨e, e4, _, w4⟩ := DataW.trod_int Try.underlying3 h4
  obtain ⟨f, e5, _, w5⟩ := DataW.trod_int Try.underlying3 h5
  obtain ⟨g, e6, _, w6⟩ := DataW.trod_int Try.underlying3 h6
  obtain ⟨s, len, cap, l, e8, hr, hlen, hw⟩ := open_rows_good Ais.cs Ais.In Try.underlying28 cells_aisle (by decide) (fun _ _ _ hl h => trod_aisle hl h) h7
  simp at e0 e1 e2 e3 e4 e5 e6 e8
  subst e0 e1 e2 e3 e4 e5 e6 e8
  obtain ⟨s', c', e9⟩ := RowsAt.form hr
  cases e9
  exact ⟨⟨a, b, c, d, e, f, g, s, cap, l⟩, rfl, hr, in64_of_wf w0, in64_of_wf w1, in64_of_wf w2, in64_of_wf w3, in64_of_wf w4, in64_of_wf w5, in64_of_wf w6, hlen, hw⟩
set_option maxRecDepth 100000 in
theorem open_rules {H : Type} {enc : TypeId × Value → H} {w : World} {base : Nat} {v : Value} {d : DataW H} {p : List MemPlace} (hok : Value.okWide Try.prog w .any base 30 v) (h : DataW.Trod enc Try.prog w 0 (fun _ => true) true 30 v d p) :
    ∃ x : Ru, v = ruv x ∧ AisAt w x.v x.ais ∧ x.In := by
  obtain ⟨cs, rfl, hsz⟩ := okWide_struct Try.underlying30 hok
  obtain ⟨fuel, hf⟩ := h
  have hl : cs.toList.length = 8 := by rw [Array.length_toList]; exact hsz.trans cells_rules
  obtain ⟨a, e, h1, h2⟩ := trod_rules hl (by simpa [Value.cells] using hf)
  refine ⟨a, ?_, h1, h2⟩
  have : cs = (csRu a).toArray := by rw [← e]
  rw [this]
  rfl

theorem cells_two : Try.prog.cellsOf 36 = 2 := by kernel_rfl
theorem list2 {α : Type} {l : List α} (h : l.length = 2) : ∃ a b, l = [a, b] := by
  match l, h with
  | [a, b], _ => exact ⟨a, b, rfl⟩
set_option maxRecDepth 100000 in
theorem open_two {H : Type} {enc : TypeId × Value → H} {w : World} {base : Nat} {v : Value} {d : DataW H} {p : List MemPlace} (hok : Value.okWide Try.prog w .any base 36 v) (h : DataW.Trod enc Try.prog w 0 (fun _ => true) true 36 v d p) :
    ∃ x y : Int, v = .agg #[.int .u64 x, .int .u64 y] ∧ U64 x ∧ U64 y := by
  obtain ⟨cs, rfl, hsz⟩ := okWide_array Try.underlying36 hok
  obtain ⟨fuel, hf⟩ := h
  have hl : cs.toList.length = 2 := by rw [Array.length_toList]; exact hsz.trans cells_two
  obtain ⟨c0, c1, e⟩ := list2 hl
  have e2 : cs = #[c0, c1] := by rw [← e]
  subst e2
  obtain ⟨xs, m, _, _, _, hx, hel⟩ := DataW.trod_array Try.underlying36 hf
  have h0 := hel 0 (by decide)
  have h1 := hel 1 (by decide)
  simp only [Value.cells, cells_u64, Nat.zero_mul, Nat.one_mul, List.drop_zero, List.take_succ_cons, List.take_zero, List.drop_succ_cons, List.getElem?_eq_getElem (show 0 < xs.length by omega), List.getElem?_eq_getElem (show 1 < xs.length by omega)] at h0 h1
  obtain ⟨a, e0, _, w0⟩ := DataW.trod_int Try.underlying22 h0
  obtain ⟨b, e1, _, w1⟩ := DataW.trod_int Try.underlying22 h1
  simp at e0 e1
  subst e0 e1
  exact ⟨a, b, rfl, u64_bd w0, u64_bd w1⟩
end Go.Proofs.Ytmkepmjdckdpgaa
/- What the three laws of layer 22 lean on. -/
