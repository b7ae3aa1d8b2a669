/- Lists of structs of any number of cells in memory: what is read, what a call gathers by itself, what comes in. -/
import Derived.Test.YtlgemfgikdaelaaRegion
import Derived.WideShapes
import Derived.Lib.SmallJoins
import Derived.Lib.Hide
import Derived.ChangeArms
import Derived.Deep.SlicePairs
import Derived.Laws.AppendOwn
namespace Go.Proofs.Ytlgemfgikdaelaa
open Go.RowKit Go.ChangeShapes Go.WideShapes Go.Joins Go.Deep

/-- A slice that reads as these things, of K cells each. -/
def RowsAt {α : Type} (w : World) (K : Nat) (cs : α → List Value) (v : Value) (l : List α) : Prop :=
  ∃ a cap, v = .slice a l.length cap ∧ l.length ≤ cap ∧ (0 < l.length → ∃ g o, a = some ⟨g, o, none⟩ ∧ g < w.heap.size ∧ ∀ j x, l[j]? = some x → ∀ i u, (cs x)[i]? = some u → w.cell? ⟨g, o + j * K + i, none⟩ = some u)
theorem RowsAt.nil {α : Type} (w : World) (K : Nat) (cs : α → List Value) : RowsAt w K cs (.slice none 0 0) [] := ⟨none, 0, rfl, Nat.le_refl _, fun h => absurd h (by simp)⟩
theorem RowsAt.form {α : Type} {w : World} {K : Nat} {cs : α → List Value} {v : Value} {l : List α} (h : RowsAt w K cs v l) : ∃ a c, v = .slice a l.length c := by
  obtain ⟨a, c, e, _⟩ := h
  exact ⟨a, c, e⟩
theorem RowsAt.below {α : Type} {w w' : World} {K : Nat} {cs : α → List Value} {v : Value} {l : List α} {B : Nat} (h : RowsAt w K cs v l) (hB : w.heap.size ≤ B) (hb : Below B w w') : RowsAt w' K cs v l := by
  obtain ⟨a, cap, e, hc, h⟩ := h
  refine ⟨a, cap, e, hc, fun h0 => ?_⟩
  obtain ⟨g, o, e1, hg, hx⟩ := h h0
  exact ⟨g, o, e1, Nat.lt_of_lt_of_le hg hb.size, fun j x hj i u hu => (hb.cell (p := ⟨g, o + j * K + i, none⟩) (Nat.lt_of_lt_of_le hg hB)).trans (hx j x hj i u hu)⟩
theorem RowsAt.kept {α : Type} {w w' : World} {K : Nat} {cs : α → List Value} {v : Value} {l : List α} (h : RowsAt w K cs v l) (hb : Below w.heap.size w w') : RowsAt w' K cs v l := h.below (Nat.le_refl _) hb
theorem RowsAt.spot {α : Type} {w : World} {K : Nat} {cs : α → List Value} {v : Value} {l : List α} (h : RowsAt w K cs v l) (k : Nat) (hk : k < l.length) :
    ∃ g o c, v = .slice (some ⟨g, o, none⟩) l.length c ∧ l.length ≤ c ∧ g < w.heap.size ∧ ∀ i u, (cs l[k])[i]? = some u → w.cell? ⟨g, o + k * K + i, none⟩ = some u := by
  obtain ⟨a, c, rfl, hc, hx⟩ := h
  obtain ⟨g, o, rfl, hg, hxa⟩ := hx (by omega)
  exact ⟨g, o, c, rfl, hc, hg, hxa k _ (List.getElem?_eq_getElem hk)⟩
/-- the front of a list -/
theorem RowsAt.front {α : Type} {w : World} {K : Nat} {cs : α → List Value} {a : Option Addr} {n cap : Nat} {l : List α} (h : RowsAt w K cs (.slice a n cap) l) (k : Nat) (hk : k ≤ l.length) : RowsAt w K cs (.slice a k cap) (l.take k) := by
  obtain ⟨a', c', e, hc, hx⟩ := h
  cases e
  refine ⟨a, cap, by rw [List.length_take, Nat.min_eq_left hk], by rw [List.length_take, Nat.min_eq_left hk]; omega, fun h0 => ?_⟩
  rw [List.length_take, Nat.min_eq_left hk] at h0
  obtain ⟨g, o, e, hg, hxa⟩ := hx (by omega)
  refine ⟨g, o, e, hg, fun j x hj => hxa j x ?_⟩
  rw [List.getElem?_take] at hj
  split at hj
  · exact hj
  · cases hj

/-- the cells of things -/
def flats {α : Type} (cs : α → List Value) (l : List α) : List Value := l.flatMap cs
theorem flats_append {α : Type} (cs : α → List Value) (a b : List α) : flats cs (a ++ b) = flats cs a ++ flats cs b := List.flatMap_append
theorem flats_length {α : Type} {cs : α → List Value} {K : Nat} (hK : ∀ x, (cs x).length = K) (l : List α) : (flats cs l).length = l.length * K := by
  induction l with
  | nil => simp [flats]
  | cons x l ih =>
    have e : flats cs (x :: l) = cs x ++ flats cs l := rfl
    rw [e, List.length_append, ih, hK, List.length_cons, Nat.add_mul]
    omega
theorem flats_at {α : Type} {cs : α → List Value} {K : Nat} (hK : ∀ x, (cs x).length = K) (l : List α) (j : Nat) (x : α) (h : l[j]? = some x) (i : Nat) (u : Value) (hu : (cs x)[i]? = some u) : (flats cs l)[j * K + i]? = some u := by
  induction l generalizing j with
  | nil => simp at h
  | cons y l ih =>
    have e : flats cs (y :: l) = cs y ++ flats cs l := rfl
    have hi : i < K := by rw [← hK x]; exact (List.getElem?_eq_some_iff.1 hu).1
    rw [e]
    cases j with
    | zero =>
      simp at h
      subst h
      rw [Nat.zero_mul, Nat.zero_add, List.getElem?_append_left (by rw [hK]; exact hi)]
      exact hu
    | succ j =>
      have h' := ih j (by simpa using h)
      rw [List.getElem?_append_right (by rw [hK, Nat.add_mul]; omega), hK]
      rw [show (j + 1) * K + i - K = j * K + i by rw [Nat.add_mul]; omega]
      exact h'
/-- a list that the call gathers by itself, in memory from B on -/
def OwnR {α : Type} (w : World) (B : Nat) (e : TypeId) (K : Nat) (cs : α → List Value) (v : Value) (l : List α) : Prop := w.ownsRow B e K v l.length (flats cs l)
theorem OwnR.nil {α : Type} (w : World) (B : Nat) (e : TypeId) (K : Nat) (cs : α → List Value) : OwnR w B e K cs (.slice none 0 0) [] := World.ownsRow_nil _ _ _ _
theorem OwnR.rows {α : Type} {w : World} {B : Nat} {e : TypeId} {K : Nat} {cs : α → List Value} {v : Value} {l : List α} (hK : ∀ x, (cs x).length = K) (h : OwnR w B e K cs v l) : RowsAt w K cs v l := by
  rcases h.2 with ⟨rfl, h0⟩ | ⟨g, cap, cur, rfl, hg, hh, hnc, hcp, hcs, htake⟩
  · rw [List.eq_nil_of_length_eq_zero h0]
    exact RowsAt.nil w K cs
  · refine ⟨_, cap, rfl, hnc, fun h0 => ⟨g, 0, rfl, lt_of_block hh, fun j x hj i u hu => ?_⟩⟩
    have h1 := flats_at hK l j x hj i u hu
    have hjl : j < l.length := (List.getElem?_eq_some_iff.1 hj).1
    have hi : i < K := by rw [← hK x]; exact (List.getElem?_eq_some_iff.1 hu).1
    have hlt : j * K + i < l.length * K := by
      have : (j + 1) * K ≤ l.length * K := Nat.mul_le_mul_right _ hjl
      rw [Nat.add_mul] at this
      omega
    rw [← htake, List.getElem?_take_of_lt hlt] at h1
    simp [World.cell?, hh]
    simpa using h1
theorem OwnR.below {α : Type} {w wq w1 : World} {B : Nat} {e : TypeId} {K : Nat} {cs : α → List Value} {v : Value} {l : List α} {wr : World} (hown : OwnR wr B e K cs v l) (hB : Below B w wq) (hz : B ≤ wq.heap.size) (hg : wq.grownBy w1 v.ownBlock) : Below B w w1 := by
  refine hB.grown hg hz fun k hk => ?_
  rcases hown.2 with ⟨rfl, _⟩ | ⟨g, cap, cur, rfl, hg, _⟩
  · simp [Value.ownBlock] at hk
  · simp [Value.ownBlock] at hk
    omega
theorem OwnR.alloc {α : Type} {w : World} {B : Nat} {e : TypeId} {K : Nat} {cs : α → List Value} {v : Value} {l : List α} (h : OwnR w B e K cs v l) (o : Obj) : OwnR (w.alloc o) B e K cs v l := World.ownsRow.alloc h o
theorem OwnR.kept {α : Type} {w w1 : World} {B : Nat} {e : TypeId} {K : Nat} {cs : α → List Value} {v : Value} {l : List α} (h : OwnR w B e K cs v l) (hb : Below w.heap.size w w1) : OwnR w1 B e K cs v l := by
  refine ⟨h.1, ?_⟩
  rcases h.2 with h0 | ⟨g, cap, cur, rfl, hg, hh, rest⟩
  · exact .inl h0
  · exact .inr ⟨g, cap, cur, rfl, hg, (hb.block g (lt_of_block hh)).trans hh, rest⟩
theorem OwnR.away {α : Type} {w : World} {B : Nat} {e : TypeId} {K : Nat} {cs : α → List Value} {v : Value} {l : List α} (h : OwnR w B e K cs v l) (p : Addr) (u : Value) (hne : v.ownBlock ≠ some p.block) : OwnR (w.setCell p u) B e K cs v l := by
  refine ⟨h.1, ?_⟩
  rcases h.2 with h0 | ⟨g, cap, cur, rfl, hg, hh, rest⟩
  · exact .inl h0
  · refine .inr ⟨g, cap, cur, rfl, hg, ?_, rest⟩
    have hgp : g ≠ p.block := fun e => hne (by simp [Value.ownBlock, e])
    rw [Below.heap_setCell w p u g (by intro e; exact hgp e)]
    exact hh
/-- behind an append of one -/
theorem OwnR.snoc {α : Type} {w : World} {B : Nat} {e : TypeId} {K : Nat} {cs : α → List Value} {v : Value} {l : List α} {x : α} {n : Nat} {L : List Value} (h : w.ownsRow B e K v n L) (hn : n = l.length + 1) (hL : L = flats cs l ++ cs x) : OwnR w B e K cs v (l ++ [x]) := by
  subst hn hL
  unfold OwnR
  rw [List.length_append, flats_append]
  have e : flats cs [x] = cs x := by simp [flats]
  rw [e]
  exact h

set_option maxRecDepth 100000 in
/-- a slice that comes in -/
theorem open_rows {α : Type} [Inhabited α] {H : Type} {enc : TypeId × Value → H} {w : World} {base : Nat} {v : Value} {d : DataW H} {p : List MemPlace} {t e : TypeId} {K : Nat} (cs : α → List Value) (good : α → Prop)
    (ht : Try.prog.underlying t = some (.slice e)) (ce : Try.prog.cellsOf e = K) (hK : 0 < K)
    (elem : ∀ n xs x, xs.length = K → DataW.trod enc Try.prog w 0 (fun _ => true) true n e xs = some x → ∃ y, xs = cs y ∧ good y)
    (hok : Value.okWide Try.prog w .any base t v) (h : DataW.Trod enc Try.prog w 0 (fun _ => true) true t v d p) :
    ∃ l, RowsAt w K cs v l ∧ l.length ≤ 9223372036854775807 ∧ ∀ x ∈ l, good x := by
  obtain ⟨a, len, cap, rfl⟩ := okWide_slice ht hok
  obtain ⟨fuel, hf⟩ := h
  rcases open_slice ht hf with ⟨hcs, _⟩ | ⟨x, ln, c, m, n, D, Pl, hcs, _, hl, hm, hmm, _, hx⟩
  · simp [Value.cells] at hcs
    obtain ⟨rfl, rfl, rfl⟩ := hcs
    exact ⟨[], RowsAt.nil _ _ _, by simp, by simp⟩
  · simp [Value.cells] at hcs
    obtain ⟨rfl, rfl, rfl⟩ := hcs
    have hmc : m = cap := by simpa using hmm
    subst hmc
    rw [ce] at hx
    have each : ∀ i, i < m → ∃ y : α, (∀ j u, (cs y)[j]? = some u → w.cell? ((x.add (i * K)).add j) = some u) ∧ good y ∧ (cs y).length = K := by
      intro i hi
      obtain ⟨xs, h1, h2⟩ := hx i hi
      obtain ⟨_, hlen, hcell⟩ := World.cells?_some h1
      obtain ⟨y, rfl, hg⟩ := elem n xs _ hlen h2
      refine ⟨y, fun j u hu => ?_, hg, hlen⟩
      have := hcell j (by rw [← hlen]; exact (List.getElem?_eq_some_iff.1 hu).1)
      rw [this, hu]
    obtain ⟨q, hq⟩ := choose_lt each
    have hll : ((List.range len).map q).length = len := by simp
    refine ⟨(List.range len).map q, ⟨some x, m, by rw [hll], by rw [hll]; exact hl, fun h0 => ?_⟩, ?_, fun y hy => ?_⟩
    · rw [hll] at h0
      obtain ⟨h1, _, h3⟩ := hq 0 (by omega)
      obtain ⟨u, hu⟩ : ∃ u, (cs (q 0))[0]? = some u := ⟨_, List.getElem?_eq_getElem (by omega)⟩
      have h4 := h1 0 u hu
      obtain ⟨b, off, spot⟩ := x
      have hspot : spot = none := by simpa [Addr.add] using World.cell?_spot h4
      subst hspot
      rw [add_plain, add_plain] at h4
      refine ⟨b, off, rfl, World.block_lt_of_cell? _ _ h4, fun j y hj i u hu => ?_⟩
      have hjl : j < len := by rw [← hll]; exact (List.getElem?_eq_some_iff.1 hj).1
      have hyq : q j = y := by simpa [hjl] using hj
      rw [← hyq] at hu
      have := (hq j (by omega)).1 i u hu
      rw [add_plain, add_plain] at this
      exact this
    · rw [hll]
      unfold maxLen at hm
      omega
    · rw [List.mem_map] at hy
      obtain ⟨i, hi, rfl⟩ := hy
      exact (hq i (by have := List.mem_range.1 hi; omega)).2.1
end Go.Proofs.Ytlgemfgikdaelaa
