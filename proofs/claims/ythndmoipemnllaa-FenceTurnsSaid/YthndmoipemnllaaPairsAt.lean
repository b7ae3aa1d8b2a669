/- Lists of structs of two numbers in memory. -/
import Derived.Test.YthndmoipemnllaaRows
import Derived.WalkKit
import Derived.WideShapes
import Derived.Below
import Derived.Lib.SmallJoins
import Derived.ChangeArms
import Derived.Deep.SlicePairs
namespace Go.Proofs.Ythndmoipemnllaa
open Go.RowKit Go.ChangeShapes Go.WideShapes Go.Joins Go.Deep

/-- A slice that reads as these pairs of numbers. -/
def PairsAt (w : World) (v : Value) (l : List (Int × Int)) : Prop :=
  ∃ a cap, v = .slice a l.length cap ∧ l.length ≤ cap ∧ (0 < l.length → ∃ g o, a = some ⟨g, o, none⟩ ∧ g < w.heap.size ∧ ∀ j x, l[j]? = some x → w.cell? ⟨g, o + j * 2, none⟩ = some (.int .i64 x.1) ∧ w.cell? ⟨g, o + j * 2 + 1, none⟩ = some (.int .i64 x.2))

theorem PairsAt.nil (w : World) : PairsAt w (.slice none 0 0) [] := ⟨none, 0, rfl, Nat.le_refl _, fun h => absurd h (by simp)⟩

theorem PairsAt.below {w w' : World} {v : Value} {l : List (Int × Int)} {B : Nat} (h : PairsAt w v l) (hB : w.heap.size ≤ B) (hb : Below B w w') : PairsAt w' v l := by
  obtain ⟨a, cap, e, hc, h⟩ := h
  refine ⟨a, cap, e, hc, fun h0 => ?_⟩
  obtain ⟨g, o, e1, hg, hx⟩ := h h0
  exact ⟨g, o, e1, Nat.lt_of_lt_of_le hg hb.size, fun j x hj => ⟨(hb.cell (p := ⟨g, o + j * 2, none⟩) (Nat.lt_of_lt_of_le hg hB)).trans (hx j x hj).1, (hb.cell (p := ⟨g, o + j * 2 + 1, none⟩) (Nat.lt_of_lt_of_le hg hB)).trans (hx j x hj).2⟩⟩
theorem PairsAt.kept {w w' : World} {v : Value} {l : List (Int × Int)} (h : PairsAt w v l) (hb : Below w.heap.size w w') : PairsAt w' v l := h.below (Nat.le_refl _) hb

/-- a number's value -/
def numOf : Value → Int
  | .int _ n => n
  | _ => 0

set_option maxRecDepth 100000 in
theorem open_pairs {H : Type} {enc : TypeId × Value → H} {w : World} {base : Nat} {v : Value} {d : DataW H} {p : List MemPlace} {t e : TypeId} {f0 f1 : Field}
    (ht : Try.prog.underlying t = some (.slice e)) (he : Try.prog.underlying e = some (.struct #[f0, f1])) (ce : Try.prog.cellsOf e = 2) (o0 : f0.offset = 0) (o1 : f1.offset = 1) (t0 : f0.type = 3) (t1 : f1.type = 3) (c0 : Try.prog.cellsOf 3 = 1)
    (hok : Value.okWide Try.prog w .any base t v) (h : DataW.Trod enc Try.prog w 0 (fun _ => true) true t v d p) :
    ∃ l, PairsAt w v l ∧ l.length ≤ 9223372036854775807 ∧ ∀ x ∈ l, (-9223372036854775808 ≤ x.1 ∧ x.1 ≤ 9223372036854775807) ∧ (-9223372036854775808 ≤ x.2 ∧ x.2 ≤ 9223372036854775807) := by
  obtain ⟨a, len, cap, rfl⟩ := okWide_slice ht hok
  obtain ⟨fuel, hf⟩ := h
  rcases open_slice_pairs ht he ce o0 o1 (by rw [t0]; exact c0) (by rw [t1]; exact c0) hf with ⟨hcs, _⟩ | ⟨x, l, c, m, n, V0, V1, D0, D1, P0, P1, hcs, _, hl, hm, hmm, _, hx⟩
  · simp [Value.cells] at hcs
    obtain ⟨rfl, rfl, rfl⟩ := hcs
    exact ⟨[], PairsAt.nil _, by simp, by simp⟩
  · simp [Value.cells] at hcs
    obtain ⟨rfl, rfl, rfl⟩ := hcs
    have hmc : m = cap := by simpa using hmm
    subst hmc
    have each : ∀ i, i < m → V0 i = .int .i64 (numOf (V0 i)) ∧ V1 i = .int .i64 (numOf (V1 i)) ∧ (-9223372036854775808 ≤ numOf (V0 i) ∧ numOf (V0 i) ≤ 9223372036854775807) ∧ (-9223372036854775808 ≤ numOf (V1 i) ∧ numOf (V1 i) ≤ 9223372036854775807) := by
      intro i hi
      obtain ⟨_, _, g0, g1⟩ := hx i hi
      rw [t0] at g0
      rw [t1] at g1
      obtain ⟨y0, h0, _, w0⟩ := DataW.trod_int Try.underlying3 g0
      obtain ⟨y1, h1, _, w1⟩ := DataW.trod_int Try.underlying3 g1
      simp at h0 h1
      simp [Lit.wf] at w0 w1
      rw [h0, h1]
      exact ⟨rfl, rfl, w0, w1⟩
    have hlen : ((List.range len).map fun i => (numOf (V0 i), numOf (V1 i))).length = len := by simp
    refine ⟨(List.range len).map fun i => (numOf (V0 i), numOf (V1 i)), ⟨some x, m, by rw [hlen], by rw [hlen]; exact hl, fun h0 => ?_⟩, ?_, fun y hy => ?_⟩
    · rw [hlen] at h0
      have h1 := (hx 0 (by omega)).1
      obtain ⟨b, off, spot⟩ := x
      have hs : spot = none := by simpa [Addr.add] using World.cell?_spot h1
      subst hs
      refine ⟨b, off, rfl, ?_, ?_⟩
      · rcases Nat.lt_or_ge b w.heap.size with h | h
        · exact h
        · simp [World.cell?, Addr.add, Array.getElem?_eq_none h] at h1
      · intro j z hj
        have hjl : j < len := by have := (List.getElem?_eq_some_iff.1 hj).1; simpa using this
        obtain ⟨h2, h3, _, _⟩ := hx j (by omega)
        obtain ⟨v0, v1, _, _⟩ := each j (by omega)
        rw [List.getElem?_map, List.getElem?_range hjl] at hj
        simp only [Option.map_some, Option.some.injEq] at hj
        subst hj
        have ha : ∀ k : Nat, (⟨b, off, none⟩ : Addr).add k = ⟨b, off + k, none⟩ := fun k => by rcases k with _ | k <;> simp [Addr.add]
        rw [ha] at h2 h3
        exact ⟨h2.trans (by rw [← v0]), h3.trans (by rw [← v1])⟩
    · rw [hlen]
      unfold maxLen at hm
      omega
    · rw [List.mem_map] at hy
      obtain ⟨i, hi, rfl⟩ := hy
      obtain ⟨_, _, v0, v1⟩ := each i (by have := List.mem_range.1 hi; omega)
      exact ⟨v0, v1⟩

theorem cells_int' : Try.prog.cellsOf 3 = 1 := by kernel_rfl
end Go.Proofs.Ythndmoipemnllaa
