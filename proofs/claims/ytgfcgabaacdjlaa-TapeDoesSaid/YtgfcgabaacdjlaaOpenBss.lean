/- Lists of lists of bytes that come in. -/
import Derived.Test.YtgfcgabaacdjlaaBss
namespace Go.Proofs.Ytgfcgabaacdjlaa
open Go.RowKit Go.ChangeShapes Go.WideShapes Go.Joins Go.Deep

set_option maxRecDepth 100000 in
/-- a slice that lies in a cell -/
theorem open_rows_in {α : Type} [Inhabited α] {H : Type} {enc : TypeId × Value → H} {w : World} {t e : TypeId} {K n0 : Nat} {xs0 : List Value} {z : DataW H × List MemPlace} (cs : α → List Value)
    (ht : Try.prog.underlying t = some (.slice e)) (ce : Try.prog.cellsOf e = K) (hK : 0 < K)
    (elem : ∀ n xs x, xs.length = K → DataW.trod enc Try.prog w 0 (fun _ => true) true n e xs = some x → ∃ y, xs = cs y)
    (hx0 : DataW.trod enc Try.prog w 0 (fun _ => true) true n0 t xs0 = some z) :
    ∃ a len cap l, xs0 = [.slice a len cap] ∧ RowsAt w K cs (.slice a len cap) l ∧ l.length ≤ 9223372036854775807 := by
  obtain ⟨d, p⟩ := z
  rcases open_slice ht hx0 with ⟨hcs, _⟩ | ⟨x, ln, c, m, n, D, Pl, hcs, _, hl, hm, hmm, _, hx⟩
  · exact ⟨none, 0, 0, [], hcs, RowsAt.nil _ _ _, by simp⟩
  · have hmc : m = c := by simpa using hmm
    subst hmc
    rw [ce] at hx
    have each : ∀ i, i < m → ∃ y : α, (∀ j u, (cs y)[j]? = some u → w.cell? ((x.add (i * K)).add j) = some u) ∧ (cs y).length = K := by
      intro i hi
      obtain ⟨xs, h1, h2⟩ := hx i hi
      obtain ⟨_, hlen, hcell⟩ := World.cells?_some h1
      obtain ⟨y, rfl⟩ := elem n xs _ hlen h2
      refine ⟨y, fun j u hu => ?_, hlen⟩
      have := hcell j (by rw [← hlen]; exact (List.getElem?_eq_some_iff.1 hu).1)
      rw [this, hu]
    obtain ⟨q, hq⟩ := choose_lt each
    have hll : ((List.range ln).map q).length = ln := by simp
    refine ⟨some x, ln, m, (List.range ln).map q, hcs, ⟨some x, m, by rw [hll], by rw [hll]; exact hl, fun h0 => ?_⟩, ?_⟩
    · rw [hll] at h0
      obtain ⟨h1, h3⟩ := hq 0 (by omega)
      obtain ⟨u, hu⟩ : ∃ u, (cs (q 0))[0]? = some u := ⟨_, List.getElem?_eq_getElem (by omega)⟩
      have h4 := h1 0 u hu
      obtain ⟨b, off, spot⟩ := x
      have hspot : spot = none := by simpa [Addr.add] using World.cell?_spot h4
      subst hspot
      rw [add_plain, add_plain] at h4
      refine ⟨b, off, rfl, World.block_lt_of_cell? _ _ h4, fun j y hj i u hu => ?_⟩
      have hjl : j < ln := by rw [← hll]; exact (List.getElem?_eq_some_iff.1 hj).1
      have hyq : q j = y := by simpa [hjl] using hj
      rw [← hyq] at hu
      have := (hq j (by omega)).1 i u hu
      rw [add_plain, add_plain] at this
      exact this
    · rw [hll]
      unfold maxLen at hm
      omega
theorem cells_bytes : Try.prog.cellsOf 27 = 1 := by kernel_rfl

set_option maxRecDepth 100000 in
theorem open_bss {H : Type} {enc : TypeId × Value → H} {w : World} {base : Nat} {v : Value} {d : DataW H} {p : List MemPlace} (hok : Value.okWide Try.prog w .any base 48 v) (h : DataW.Trod enc Try.prog w 0 (fun _ => true) true 48 v d p) :
    ∃ L, BssAt w v L ∧ L.length ≤ 9223372036854775807 := by
  obtain ⟨ts, h1, h2, h3⟩ := open_rows csS (fun t => ∃ l, BytesAt w (sl t) l) Try.underlying48 cells_bytes (by decide) (by
    intro n xs x _ hx
    obtain ⟨a, len, cap, l, e, hr, _⟩ := open_rows_in csB Try.underlying27 cells_byte (by decide) (by
      intro n xs x _ hx
      obtain ⟨a, e0, _, wa⟩ := DataW.trod_int Try.underlying5 hx
      have k1 : IntKind.u8.min = 0 := rfl
      have k2 : IntKind.u8.max = 255 := rfl
      simp only [Lit.wf, Bool.and_eq_true, decide_eq_true_eq, k1, k2] at wa
      refine ⟨UInt8.ofNat a.toNat, ?_⟩
      rw [e0]
      unfold csB
      rw [UInt8.toNat_ofNat']
      congr 2
      omega) hx
    exact ⟨(a, len, cap), e, l, hr⟩) hok h
  have each : ∀ i, i < ts.length → ∃ l : List UInt8, ∀ t, ts[i]? = some t → BytesAt w (sl t) l := fun i hi => by
    obtain ⟨l, hl⟩ := h3 ts[i] (List.getElem_mem hi)
    refine ⟨l, fun t ht => ?_⟩
    rw [List.getElem?_eq_getElem hi] at ht
    cases ht
    exact hl
  obtain ⟨q, hq⟩ := choose_lt each
  refine ⟨(List.range ts.length).map q, ⟨ts, h1, by simp, fun j t l e1 e2 => ⟨?_, fun _ a _ e => by cases e⟩⟩, by simpa using h2⟩
  have hj := (List.getElem?_eq_some_iff.1 e1).1
  have e3 : q j = l := by simpa [hj] using e2
  rw [← e3]
  exact hq j hj t e1
end Go.Proofs.Ytgfcgabaacdjlaa
