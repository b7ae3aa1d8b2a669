/- Acts that come in, opened. -/
import Derived.Test.YtgfcgabaacdjlaaOpenBss
import Derived.Test.YtgfcgabaacdjlaaTapeActs
import Derived.Deep.Strs
namespace Go.Proofs.Ytgfcgabaacdjlaa
open Go.RowKit Go.ChangeShapes Go.WideShapes Go.Joins Go.Deep

theorem cells_act : Try.prog.cellsOf 31 = 3 := by kernel_rfl
theorem cells_int11 : Try.prog.cellsOf 3 = 1 := by kernel_rfl
theorem list3_11 {α : Type} {l : List α} (h : l.length = 3) : ∃ a b c, l = [a, b, c] := by
  match l, h with
  | [a, b, c], _ => exact ⟨a, b, c, rfl⟩
set_option maxRecDepth 100000 in
theorem trod_act {H : Type} {enc : TypeId × Value → H} {w : World} {fuel : Nat} {cs : List Value} {x : DataW H × List MemPlace} (hl : cs.length = 3) (h : DataW.trod enc Try.prog w 0 (fun _ => true) true fuel 31 cs = some x) : ∃ a : Ab, cs = csA a ∧ BytesAt w (sl a.s) a.b := by
  obtain ⟨c0, c1, c2, rfl⟩ := list3_11 hl
  obtain ⟨y0, y1, y2, k, _, _, h0, h1, h2⟩ := trod_struct3 Try.underlying31 h
  simp only [cells_int11, cells_bytes, List.drop_zero, List.take_succ_cons, List.take_zero, List.drop_succ_cons] at h0 h1 h2
  obtain ⟨a, e0, _, wa⟩ := DataW.trod_int Try.underlying3 h0
  obtain ⟨b, e1, _, wb⟩ := DataW.trod_int Try.underlying3 h1
  obtain ⟨s, len, cap, l, e2, hr, _⟩ := open_rows_in csB Try.underlying27 cells_byte (by decide) (by
    intro n xs x _ hx
    obtain ⟨a, e0, _, wa⟩ := DataW.trod_int Try.underlying5 hx
    have k1 : IntKind.u8.min = 0 := rfl
    have k2 : IntKind.u8.max = 255 := rfl
    simp only [Lit.wf, Bool.and_eq_true, decide_eq_true_eq, k1, k2] at wa
    refine ⟨UInt8.ofNat a.toNat, ?_⟩
    rw [e0]
    unfold csB
    rw [UInt8.toNat_ofNat']
    congr 2
    omega) h2
  simp at e0 e1 e2
  subst e0 e1 e2
  exact ⟨⟨a, b, (s, len, cap), l⟩, rfl, hr⟩
set_option maxRecDepth 100000 in
theorem open_acts {H : Type} {enc : TypeId × Value → H} {w : World} {base : Nat} {v : Value} {d : DataW H} {p : List MemPlace} (hok : Value.okWide Try.prog w .any base 22 v) (h : DataW.Trod enc Try.prog w 0 (fun _ => true) true 22 v d p) :
    ∃ l, ActsAt w v l ∧ l.length ≤ 9223372036854775807 := by
  obtain ⟨l, h1, h2, h3⟩ := open_rows csA (fun a => BytesAt w (sl a.s) a.b) Try.underlying22 cells_act (by decide) (fun _ _ _ hl h => trod_act hl h) hok h
  exact ⟨l, ⟨h1, h3⟩, h2⟩
end Go.Proofs.Ytgfcgabaacdjlaa
