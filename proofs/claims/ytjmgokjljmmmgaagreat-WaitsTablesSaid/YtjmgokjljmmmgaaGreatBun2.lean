/- Texts of this proof, joined: Flat; OwnInts; Bytes; Bss; OwnO; Off; OneI; GraphRefA; App1. -/
import Derived.Test.YtjmgokjljmmmgaaGreatBun1
import Derived.WideShapes
import Derived.Lib.SmallJoins
import Derived.Lib.Hide
import Derived.ChangeArms
import Derived.Deep.SlicePairs
import Derived.Laws.AppendOwn
import Derived.WalkSpells
import Derived.WalkLawsBesides
import Derived.Laws.AppendOwnNone
import Derived.Laws.IdiomStrings
import Derived.Laws.BytesString
import Derived.Maps.AppendAt
import Derived.Deep.AppendSrc
import Derived.Laws.Slices
/- Lists of structs of any number of cells in memory: what is read, what a call gathers by itself, what comes in. -/
namespace Go.Proofs.YtjmgokjljmmmgaaGreat
open Go.RowKit Go.ChangeShapes Go.WideShapes Go.Joins Go.Deep

/-- A slice that reads as these things, of K cells each. -/
def RowsAt {α : Type} (w : World) (K : Nat) (cs : α → List Value) (v : Value) (l : List α) : Prop :=
  ∃ a cap, v = .slice a l.length cap ∧ l.length ≤ cap ∧ (0 < l.length → ∃ g o, a = some ⟨g, o, none⟩ ∧ g < w.heap.size ∧ ∀ j x, l[j]? = some x → ∀ i u, (cs x)[i]? = some u → w.cell? ⟨g, o + j * K + i, none⟩ = some u)
theorem RowsAt.nil {α : Type} (w : World) (K : Nat) (cs : α → List Value) : RowsAt w K cs (.slice none 0 0) [] := ⟨none, 0, rfl, Nat.le_refl _, fun h => absurd h (by simp)⟩
theorem RowsAt.form {α : Type} {w : World} {K : Nat} {cs : α → List Value} {v : Value} {l : List α} (h : RowsAt w K cs v l) : ∃ a c, v = .slice a l.length c := by
  obtain ⟨a, c, e, _⟩ := h
  exact ⟨a, c, e⟩
theorem RowsAt.below {α : Type} {w w' : World} {K : Nat} {cs : α → List Value} {v : Value} {l : List α} {B : Nat} (h : RowsAt w K cs v l) (hB : w.heap.size ≤ B) (hb : Below B w w') : RowsAt w' K cs v l := by
  obtain ⟨a, cap, e, hc, h⟩ := h
  refine ⟨a, cap, e, hc, fun h0 => ?_⟩
  obtain ⟨g, o, e1, hg, hx⟩ := h h0
  exact ⟨g, o, e1, Nat.lt_of_lt_of_le hg hb.size, fun j x hj i u hu => (hb.cell (p := ⟨g, o + j * K + i, none⟩) (Nat.lt_of_lt_of_le hg hB)).trans (hx j x hj i u hu)⟩
theorem RowsAt.kept {α : Type} {w w' : World} {K : Nat} {cs : α → List Value} {v : Value} {l : List α} (h : RowsAt w K cs v l) (hb : Below w.heap.size w w') : RowsAt w' K cs v l := h.below (Nat.le_refl _) hb
theorem RowsAt.spot {α : Type} {w : World} {K : Nat} {cs : α → List Value} {v : Value} {l : List α} (h : RowsAt w K cs v l) (k : Nat) (hk : k < l.length) :
    ∃ g o c, v = .slice (some ⟨g, o, none⟩) l.length c ∧ l.length ≤ c ∧ g < w.heap.size ∧ ∀ i u, (cs l[k])[i]? = some u → w.cell? ⟨g, o + k * K + i, none⟩ = some u := by
  obtain ⟨a, c, rfl, hc, hx⟩ := h
  obtain ⟨g, o, rfl, hg, hxa⟩ := hx (by omega)
  exact ⟨g, o, c, rfl, hc, hg, hxa k _ (List.getElem?_eq_getElem hk)⟩
/-- the front of a list -/
theorem RowsAt.front {α : Type} {w : World} {K : Nat} {cs : α → List Value} {a : Option Addr} {n cap : Nat} {l : List α} (h : RowsAt w K cs (.slice a n cap) l) (k : Nat) (hk : k ≤ l.length) : RowsAt w K cs (.slice a k cap) (l.take k) := by
  obtain ⟨a', c', e, hc, hx⟩ := h
  cases e
  refine ⟨a, cap, by rw [List.length_take, Nat.min_eq_left hk], by rw [List.length_take, Nat.min_eq_left hk]; omega, fun h0 => ?_⟩
  rw [List.length_take, Nat.min_eq_left hk] at h0
  obtain ⟨g, o, e, hg, hxa⟩ := hx (by omega)
  refine ⟨g, o, e, hg, fun j x hj => hxa j x ?_⟩
  rw [List.getElem?_take] at hj
  split at hj
  · exact hj
  · cases hj

/-- the cells of things -/
def flats {α : Type} (cs : α → List Value) (l : List α) : List Value := l.flatMap cs
theorem flats_append {α : Type} (cs : α → List Value) (a b : List α) : flats cs (a ++ b) = flats cs a ++ flats cs b := List.flatMap_append
theorem flats_length {α : Type} {cs : α → List Value} {K : Nat} (hK : ∀ x, (cs x).length = K) (l : List α) : (flats cs l).length = l.length * K := by
  induction l with
  | nil => simp [flats]
  | cons x l ih =>
    have e : flats cs (x :: l) = cs x ++ flats cs l := rfl
    rw [e, List.length_append, ih, hK, List.length_cons, Nat.add_mul]
    omega
theorem flats_at {α : Type} {cs : α → List Value} {K : Nat} (hK : ∀ x, (cs x).length = K) (l : List α) (j : Nat) (x : α) (h : l[j]? = some x) (i : Nat) (u : Value) (hu : (cs x)[i]? = some u) : (flats cs l)[j * K + i]? = some u := by
  induction l generalizing j with
  | nil => simp at h
  | cons y l ih =>
    have e : flats cs (y :: l) = cs y ++ flats cs l := rfl
    have hi : i < K := by rw [← hK x]; exact (List.getElem?_eq_some_iff.1 hu).1
    rw [e]
    cases j with
    | zero =>
      simp at h
      subst h
      rw [Nat.zero_mul, Nat.zero_add, List.getElem?_append_left (by rw [hK]; exact hi)]
      exact hu
    | succ j =>
      have h' := ih j (by simpa using h)
      rw [List.getElem?_append_right (by rw [hK, Nat.add_mul]; omega), hK]
      rw [show (j + 1) * K + i - K = j * K + i by rw [Nat.add_mul]; omega]
      exact h'
/-- a list that the call gathers by itself, in memory from B on -/
def OwnR {α : Type} (w : World) (B : Nat) (e : TypeId) (K : Nat) (cs : α → List Value) (v : Value) (l : List α) : Prop := w.ownsRow B e K v l.length (flats cs l)
theorem OwnR.nil {α : Type} (w : World) (B : Nat) (e : TypeId) (K : Nat) (cs : α → List Value) : OwnR w B e K cs (.slice none 0 0) [] := World.ownsRow_nil _ _ _ _
theorem OwnR.rows {α : Type} {w : World} {B : Nat} {e : TypeId} {K : Nat} {cs : α → List Value} {v : Value} {l : List α} (hK : ∀ x, (cs x).length = K) (h : OwnR w B e K cs v l) : RowsAt w K cs v l := by
  rcases h.2 with ⟨rfl, h0⟩ | ⟨g, cap, cur, rfl, hg, hh, hnc, hcp, hcs, htake⟩
  · rw [List.eq_nil_of_length_eq_zero h0]
    exact RowsAt.nil w K cs
  · refine ⟨_, cap, rfl, hnc, fun h0 => ⟨g, 0, rfl, lt_of_block hh, fun j x hj i u hu => ?_⟩⟩
    have h1 := flats_at hK l j x hj i u hu
    have hjl : j < l.length := (List.getElem?_eq_some_iff.1 hj).1
    have hi : i < K := by rw [← hK x]; exact (List.getElem?_eq_some_iff.1 hu).1
    have hlt : j * K + i < l.length * K := by
      have : (j + 1) * K ≤ l.length * K := Nat.mul_le_mul_right _ hjl
      rw [Nat.add_mul] at this
      omega
    rw [← htake, List.getElem?_take_of_lt hlt] at h1
    simp [World.cell?, hh]
    simpa using h1
theorem OwnR.below {α : Type} {w wq w1 : World} {B : Nat} {e : TypeId} {K : Nat} {cs : α → List Value} {v : Value} {l : List α} {wr : World} (hown : OwnR wr B e K cs v l) (hB : Below B w wq) (hz : B ≤ wq.heap.size) (hg : wq.grownBy w1 v.ownBlock) : Below B w w1 := by
  refine hB.grown hg hz fun k hk => ?_
  rcases hown.2 with ⟨rfl, _⟩ | ⟨g, cap, cur, rfl, hg, _⟩
  · simp [Value.ownBlock] at hk
  · simp [Value.ownBlock] at hk
    omega
theorem OwnR.alloc {α : Type} {w : World} {B : Nat} {e : TypeId} {K : Nat} {cs : α → List Value} {v : Value} {l : List α} (h : OwnR w B e K cs v l) (o : Obj) : OwnR (w.alloc o) B e K cs v l := World.ownsRow.alloc h o
theorem OwnR.kept {α : Type} {w w1 : World} {B : Nat} {e : TypeId} {K : Nat} {cs : α → List Value} {v : Value} {l : List α} (h : OwnR w B e K cs v l) (hb : Below w.heap.size w w1) : OwnR w1 B e K cs v l := by
  refine ⟨h.1, ?_⟩
  rcases h.2 with h0 | ⟨g, cap, cur, rfl, hg, hh, rest⟩
  · exact .inl h0
  · exact .inr ⟨g, cap, cur, rfl, hg, (hb.block g (lt_of_block hh)).trans hh, rest⟩
theorem OwnR.away {α : Type} {w : World} {B : Nat} {e : TypeId} {K : Nat} {cs : α → List Value} {v : Value} {l : List α} (h : OwnR w B e K cs v l) (p : Addr) (u : Value) (hne : v.ownBlock ≠ some p.block) : OwnR (w.setCell p u) B e K cs v l := by
  refine ⟨h.1, ?_⟩
  rcases h.2 with h0 | ⟨g, cap, cur, rfl, hg, hh, rest⟩
  · exact .inl h0
  · refine .inr ⟨g, cap, cur, rfl, hg, ?_, rest⟩
    have hgp : g ≠ p.block := fun e => hne (by simp [Value.ownBlock, e])
    rw [Below.heap_setCell w p u g (by intro e; exact hgp e)]
    exact hh
/-- behind an append of one -/
theorem OwnR.snoc {α : Type} {w : World} {B : Nat} {e : TypeId} {K : Nat} {cs : α → List Value} {v : Value} {l : List α} {x : α} {n : Nat} {L : List Value} (h : w.ownsRow B e K v n L) (hn : n = l.length + 1) (hL : L = flats cs l ++ cs x) : OwnR w B e K cs v (l ++ [x]) := by
  subst hn hL
  unfold OwnR
  rw [List.length_append, flats_append]
  have e : flats cs [x] = cs x := by simp [flats]
  rw [e]
  exact h

set_option maxRecDepth 100000 in
/-- a slice that comes in -/
theorem open_rows {α : Type} [Inhabited α] {H : Type} {enc : TypeId × Value → H} {w : World} {base : Nat} {v : Value} {d : DataW H} {p : List MemPlace} {t e : TypeId} {K : Nat} (cs : α → List Value) (good : α → Prop)
    (ht : Tryz.prog.underlying t = some (.slice e)) (ce : Tryz.prog.cellsOf e = K) (hK : 0 < K)
    (elem : ∀ n xs x, xs.length = K → DataW.trod enc Tryz.prog w 0 (fun _ => true) true n e xs = some x → ∃ y, xs = cs y ∧ good y)
    (hok : Value.okWide Tryz.prog w .any base t v) (h : DataW.Trod enc Tryz.prog w 0 (fun _ => true) true t v d p) :
    ∃ l, RowsAt w K cs v l ∧ l.length ≤ 9223372036854775807 ∧ ∀ x ∈ l, good x := by
  obtain ⟨a, len, cap, rfl⟩ := okWide_slice ht hok
  obtain ⟨fuel, hf⟩ := h
  rcases open_slice ht hf with ⟨hcs, _⟩ | ⟨x, ln, c, m, n, D, Pl, hcs, _, hl, hm, hmm, _, hx⟩
  · simp [Value.cells] at hcs
    obtain ⟨rfl, rfl, rfl⟩ := hcs
    exact ⟨[], RowsAt.nil _ _ _, by simp, by simp⟩
  · simp [Value.cells] at hcs
    obtain ⟨rfl, rfl, rfl⟩ := hcs
    have hmc : m = cap := by simpa using hmm
    subst hmc
    rw [ce] at hx
    have each : ∀ i, i < m → ∃ y : α, (∀ j u, (cs y)[j]? = some u → w.cell? ((x.add (i * K)).add j) = some u) ∧ good y ∧ (cs y).length = K := by
      intro i hi
      obtain ⟨xs, h1, h2⟩ := hx i hi
      obtain ⟨_, hlen, hcell⟩ := World.cells?_some h1
      obtain ⟨y, rfl, hg⟩ := elem n xs _ hlen h2
      refine ⟨y, fun j u hu => ?_, hg, hlen⟩
      have := hcell j (by rw [← hlen]; exact (List.getElem?_eq_some_iff.1 hu).1)
      rw [this, hu]
    obtain ⟨q, hq⟩ := choose_lt each
    have hll : ((List.range len).map q).length = len := by simp
    refine ⟨(List.range len).map q, ⟨some x, m, by rw [hll], by rw [hll]; exact hl, fun h0 => ?_⟩, ?_, fun y hy => ?_⟩
    · rw [hll] at h0
      obtain ⟨h1, _, h3⟩ := hq 0 (by omega)
      obtain ⟨u, hu⟩ : ∃ u, (cs (q 0))[0]? = some u := ⟨_, List.getElem?_eq_getElem (by omega)⟩
      have h4 := h1 0 u hu
      obtain ⟨b, off, spot⟩ := x
      have hspot : spot = none := by simpa [Addr.add] using World.cell?_spot h4
      subst hspot
      rw [add_plain, add_plain] at h4
      refine ⟨b, off, rfl, World.block_lt_of_cell? _ _ h4, fun j y hj i u hu => ?_⟩
      have hjl : j < len := by rw [← hll]; exact (List.getElem?_eq_some_iff.1 hj).1
      have hyq : q j = y := by simpa [hjl] using hj
      rw [← hyq] at hu
      have := (hq j (by omega)).1 i u hu
      rw [add_plain, add_plain] at this
      exact this
    · rw [hll]
      unfold maxLen at hm
      omega
    · rw [List.mem_map] at hy
      obtain ⟨i, hi, rfl⟩ := hy
      exact (hq i (by have := List.mem_range.1 hi; omega)).2.1
end Go.Proofs.YtjmgokjljmmmgaaGreat
/- Lists of numbers that a call gathers; are two lists of numbers the same. -/
namespace Go.Proofs.YtjmgokjljmmmgaaGreat
open Go.RowKit

theorem beq_noI {a b : Int} (h : a ≠ b) : (a == b) = false := by simp [h]
def csI (n : Int) : List Value := [.int .i64 n]
theorem csI_len (n : Int) : (csI n).length = 1 := rfl
theorem info_int : (Tryz.prog.info? 3).map (fun i => (i.zero, i.size, i.bytes)) = some (some (.int .i64 0), 1, 8) := by kernel_rfl
theorem IntsAt.rows {w : World} {v : Value} {l : List Int} (h : IntsAt w v l) : RowsAt w 1 csI v l := by
  obtain ⟨a, cap, e, hc, h⟩ := h
  refine ⟨a, cap, e, hc, fun h0 => ?_⟩
  obtain ⟨g, o, e1, hg, hx⟩ := h h0
  refine ⟨g, o, e1, hg, fun j x hj i u hu => ?_⟩
  have h0 : i = 0 ∧ u = .int .i64 x := by
    cases i with
    | zero => simp [csI] at hu; exact ⟨rfl, hu.symm⟩
    | succ i => simp [csI] at hu
  obtain ⟨rfl, rfl⟩ := h0
  rw [Nat.mul_one, Nat.add_zero]
  exact hx j x hj
theorem RowsAt.ints {w : World} {v : Value} {l : List Int} (h : RowsAt w 1 csI v l) : IntsAt w v l := by
  obtain ⟨a, cap, e, hc, h⟩ := h
  refine ⟨a, cap, e, hc, fun h0 => ?_⟩
  obtain ⟨g, o, e1, hg, hx⟩ := h h0
  refine ⟨g, o, e1, hg, fun j x hj => ?_⟩
  have := hx j x hj 0 _ rfl
  rwa [Nat.mul_one, Nat.add_zero] at this
/-- numbers that the call gathers by itself -/
abbrev OwnI (w : World) (B : Nat) (v : Value) (l : List Int) : Prop := OwnR w B 3 1 csI v l
theorem OwnI.ints {w : World} {B : Nat} {v : Value} {l : List Int} (h : OwnI w B v l) : IntsAt w v l := (OwnR.rows csI_len h).ints
theorem IntsAt.form {w : World} {v : Value} {l : List Int} (h : IntsAt w v l) : ∃ a c, v = .slice a l.length c := by
  obtain ⟨a, c, e, _⟩ := h
  exact ⟨a, c, e⟩
theorem IntsAt.spot {w : World} {v : Value} {l : List Int} (h : IntsAt w v l) (k : Nat) (hk : k < l.length) : ∃ g o c, v = .slice (some ⟨g, o, none⟩) l.length c ∧ l.length ≤ c ∧ g < w.heap.size ∧ w.cell? ⟨g, o + k, none⟩ = some (.int .i64 l[k]) := by
  obtain ⟨a, c, rfl, hc, hx⟩ := h
  obtain ⟨g, o, rfl, hg, hxa⟩ := hx (by omega)
  exact ⟨g, o, c, rfl, hc, hg, hxa k _ (List.getElem?_eq_getElem hk)⟩

set_option maxHeartbeats 2000000 in
set_option maxRecDepth 100000 in
theorem refInts_any (va vb : Value) (l r : List Int) (w : World) (ha : IntsAt w va l) (hb : IntsAt w vb r) (hl : l.length ≤ 1000000) (_hr : r.length ≤ 1000000) :
    Calls Tryz.prog 19 #[va, vb] w fun e w' => e = .returned (.bool (decide (l = r))) ∧ Below w.heap.size w w' := by
  obtain ⟨a, c, rfl⟩ := ha.form
  obtain ⟨b, d, rfl⟩ := hb.form
  have HA := Lib.hid ha
  have HB := Lib.hid hb
  clear ha hb
  by_cases hne : l.length = r.length
  · go_enter Tryz.func19, Tryz.ntmps19
    rw [← hne]
    have HNE := Lib.hid hne
    clear hne
    go_wp2
    go_loopw [5] (fun i wr => ∃ k : Nat, k ≤ l.length ∧ i = .int .i64 k ∧ Below w.heap.size w wr ∧ ∀ i (h : i < l.length) (h' : i < r.length), i < k → l[i] = r[i]) (fun i _ => l.length - (intOf i).toNat)
    case atStart => exact ⟨0, Nat.zero_le _, rfl, Below.refl _ _, fun i _ _ hi => absurd hi (by omega)⟩
    case round =>
      obtain ⟨k, hk, rfl, hB, hs⟩ := hrel
      have HS := Lib.hid hs
      clear hs
      by_cases hlt : k < l.length
      · have hlt' : k < r.length := by have := HNE.out; omega
        obtain ⟨g, o, c', ev, hc, hg, p0⟩ := (HA.out.below hB).spot k hlt
        cases ev
        obtain ⟨g', o', c', ev, hc', hg', q0⟩ := (HB.out.below hB).spot k hlt'
        rw [← HNE.out] at ev hc'
        cases ev
        have j0 : (0 : Int) ≤ (k : Int) := by omega
        have j1 : (k : Int) < (l.length : Int) := by omega
        obtain ⟨x, hx⟩ : ∃ x, l[k] = x := ⟨_, rfl⟩
        obtain ⟨y, hy⟩ : ∃ y, r[k] = y := ⟨_, rfl⟩
        rw [hx] at p0
        rw [hy] at q0
        have HX := Lib.hid hx
        have HY := Lib.hid hy
        clear hx hy
        by_cases he : x = y
        · subst he
          go_wp2
          refine wp_region_calm0 (by kernel_rfl) (by kernel_rfl) fun M => ?_
          have e0 := fun n : In M.w => n.cell (M.cell p0)
          have f0 := fun n : In M.w => n.cell (M.cell q0)
          repeat (go_big_quiet_step (fail))
          refine wpQuiet_nil ?_
          intro w1 hb
          replace hB := hB.trans (hb.mono hB.size)
          clear e0 f0 M hb p0 q0
          go_wp2
          go_roundw
          case rel =>
            refine ⟨k + 1, by omega, by go_num, hB, fun i h h' hi => ?_⟩
            by_cases e : i = k
            · subst e
              rw [HX.out, HY.out]
            · exact HS.out i h h' (by omega)
          case measure => simp [intOf]; omega
        · have HN := Lib.hid (decide_eq_false (fun e : l = r => he (by rw [← HX.out, ← HY.out]; simp only [e])))
          have m0 : (x != y) = true := by simp [bne, he]
          have m1 := beq_noI he
          clear he
          go_wp2
          refine wp_region_calm0 (by kernel_rfl) (by kernel_rfl) fun M => ?_
          have e0 := fun n : In M.w => n.cell (M.cell p0)
          have f0 := fun n : In M.w => n.cell (M.cell q0)
          repeat (go_big_quiet_step (fail))
          refine wpQuiet_nil ?_
          intro w1 hb
          replace hB := hB.trans (hb.mono hB.size)
          clear e0 f0 M hb p0 q0
          go_wp2
          go_ret
          exact ⟨ret_b HN.out.symm, hB⟩
      · have hk2 : k = l.length := by omega
        have hd : decide (l = r) = true := decide_eq_true (List.ext_getElem HNE.out fun i h1 h2 => HS.out i h1 h2 (by omega))
        have HD := Lib.hid hd
        clear hk hk2 hd
        go_wp2
        go_ret
        exact ⟨ret_b HD.out.symm, hB⟩
  · have e : decide (l = r) = false := decide_eq_false fun h => hne (by rw [h])
    have h2 : ((l.length : Int) == (r.length : Int)) = false := beq_noI (by omega)
    rw [e]
    go_enter Tryz.func19, Tryz.ntmps19
    go_wp2
    go_ret
    exact ⟨rfl, Below.refl _ _⟩
end Go.Proofs.YtjmgokjljmmmgaaGreat
/- Bytes in memory: what is read, what a call gathers by itself, what comes in; more behind them; as a string. -/
namespace Go.Proofs.YtjmgokjljmmmgaaGreat
open Go.RowKit Go.ChangeShapes Go.WideShapes Go.Joins Go.Deep

def csB (b : UInt8) : List Value := [.int .u8 (b.toNat : Int)]
theorem csB_len (b : UInt8) : (csB b).length = 1 := rfl
/-- bytes in memory -/
abbrev BytesAt (w : World) (v : Value) (l : List UInt8) : Prop := RowsAt w 1 csB v l
/-- bytes that the call gathers by itself -/
abbrev OwnB (w : World) (B : Nat) (v : Value) (l : List UInt8) : Prop := OwnR w B 5 1 csB v l
theorem info_byte : (Tryz.prog.info? 5).map (fun i => (i.zero, i.size, i.bytes)) = some (some (.int .u8 0), 1, 1) := by kernel_rfl
theorem cells_byte : Tryz.prog.cellsOf 5 = 1 := by kernel_rfl
theorem OwnB.bytes {w : World} {B : Nat} {v : Value} {l : List UInt8} (h : OwnB w B v l) : BytesAt w v l := OwnR.rows csB_len h
theorem OwnB.kept {w w' : World} {B : Nat} {v : Value} {l : List UInt8} (h : OwnB w B v l) (hb : Below w.heap.size w w') : OwnB w' B v l := OwnR.kept h hb
theorem OwnB.base {w : World} {B B' : Nat} {v : Value} {l : List UInt8} (h : OwnB w B v l) (hB : B' ≤ B) : OwnB w B' v l := by
  refine ⟨h.1, ?_⟩
  rcases h.2 with h1 | ⟨g, cap, cur, e, hg, hr⟩
  · exact .inl h1
  · exact .inr ⟨g, cap, cur, e, Nat.le_trans hB hg, hr⟩
theorem BytesAt.at {w : World} {v : Value} {l : List UInt8} (h : BytesAt w v l) (k : Nat) (hk : k < l.length) :
    ∃ g o c, v = .slice (some ⟨g, o, none⟩) l.length c ∧ l.length ≤ c ∧ g < w.heap.size ∧ w.cell? ⟨g, o + k, none⟩ = some (.int .u8 (l[k].toNat : Int)) := by
  obtain ⟨g, o, c, e, hc, hg, hx⟩ := RowsAt.spot h k hk
  have := hx 0 _ rfl
  rw [Nat.mul_one, Nat.add_zero] at this
  exact ⟨g, o, c, e, hc, hg, this⟩

/-! ### More behind what is the call's own -/
theorem flats_inv {α : Type} {cs : α → List Value} {K : Nat} (hK : ∀ x, (cs x).length = K) (l : List α) : ∀ (j : Nat) (u : Value), (flats cs l)[j]? = some u → ∃ q i x, j = q * K + i ∧ l[q]? = some x ∧ (cs x)[i]? = some u := by
  induction l with
  | nil => intro j u h; simp [flats] at h
  | cons y l ih =>
    intro j u h
    have e : flats cs (y :: l) = cs y ++ flats cs l := rfl
    rw [e] at h
    rcases Nat.lt_or_ge j K with hj | hj
    · rw [List.getElem?_append_left (by rw [hK]; exact hj)] at h
      exact ⟨0, j, y, by omega, rfl, h⟩
    · rw [List.getElem?_append_right (by rw [hK]; exact hj), hK] at h
      obtain ⟨q, i, x, e1, e2, e3⟩ := ih _ _ h
      exact ⟨q + 1, i, x, by rw [Nat.add_mul]; omega, by simpa using e2, e3⟩
section
variable {P : Program} {w : World}
theorem run_append_nil' (base : Nat) (t ty e : TypeId) (i : TypeInfo) (size c : Nat) (ht : P.underlying t = some (.slice e)) (hi : P.info? e = some i)
    (v : Value) (n : Nat) (xs : List Value) (hown : w.ownsRow base e size v n xs) :
    (Builtin.append_ #[t, t] ty #[v, .slice none 0 c]).run P w = .ok v w := by
  rcases hown.2 with ⟨rfl, rfl⟩ | ⟨g, cap, cur, rfl, _, _, hnc, _⟩
  · simp [Builtin.append_, run_underlying ht, sizeOf, typeInfo, hi, Builtin.lenOf, Builtin.firstCells]
  · simp [Builtin.append_, run_underlying ht, sizeOf, typeInfo, hi, Builtin.lenOf, Builtin.firstCells, hnc, storeCells]
theorem wpList_append_rows {α : Type} {cs : α → List Value} {K : Nat} (hK : ∀ x, (cs x).length = K) (hK0 : 0 < K) (hone : ∀ x, ∀ u ∈ cs x, u.oneCell' = true)
    {ops : Array Oper} {rest : List Oper} {o : Oper} {a : Act} {Q : Exit → Act → World → Prop} (hgd : o.guard = none) (s x : Operand) (t : TypeId)
    (ho : o.op = .call { callee := .builtin .append, args := #[s, x], argTypes := #[t, t] })
    (base : Nat) (e : TypeId) (i : TypeInfo) (z : Value) (bytes : Nat) (ht : P.underlying t = some (.slice e)) (hi : P.info? e = some i) (hz : i.zero = some z) (hsize : i.size = K) (hby : i.bytes = bytes) (hzs : z.cells.size = K)
    (v : Value) (l1 : List α) (hs : a.eval s = v) (hown : OwnR w base e K cs v l1) (va : Value) (l : List α) (hx : a.eval x = va) (hp : RowsAt w K cs va l) (h63 : l1.length + l.length ≤ maxLen) (hbytes : (l1.length + l.length) * bytes ≤ 140737488355328) (hbase : base ≤ w.heap.size)
    (h : ∀ v' w', OwnR w' base e K cs v' (l1 ++ l) → w.grownBy w' v.ownBlock → wpList P ops Q rest (a.put o.dst v') w') : wpList P ops Q (o :: rest) a w := by
  obtain ⟨ad, cap, rfl, hcap, hc⟩ := hp
  cases ad with
  | none =>
    have hl0 : l.length = 0 := by
      rcases Nat.eq_zero_or_pos l.length with h0 | h0
      · exact h0
      · obtain ⟨g, o', e', _⟩ := hc h0
        cases e'
    have : l = [] := List.eq_nil_of_length_eq_zero hl0
    subst this
    refine wpList_plain hgd fun K' hK' => ?_
    have hrun := run_append_nil' (P := P) (w := w) base t o.type e i K cap ht hi v _ _ hown
    unfold Oper.wp
    simp only [List.length_nil] at hx
    simp [execOp, ho, resolve, invoke, builtin, hs, hx, hrun, Result.andThen]
    exact hK' _ _ (h v w (by simpa using hown) ⟨rfl, rfl, rfl, Nat.le_refl _, fun _ _ _ => rfl⟩)
  | some ad =>
    refine wpList_append_own w hgd s x t ho base e i z K bytes ht hi hz hsize hby hzs hK0 v l1.length (flats cs l1) hs hown ad l.length cap (flats cs l) hx (flats_length hK l) ?_ ?_ h63 hbytes hbase fun v' w' h1 h2 _ => h v' w' ?_ h2
    · intro j u hu
      obtain ⟨q, i', y, e1, e2, e3⟩ := flats_inv hK l j u hu
      obtain ⟨g, o', e', hg, hcell⟩ := hc (by have := (List.getElem?_eq_some_iff.1 e2).1; omega)
      cases e'
      have := hcell q y e2 i' u e3
      subst e1
      rw [add_plain]
      rw [← this]
      congr 2
      omega
    · intro u hu
      obtain ⟨j, hj, rfl⟩ := List.getElem_of_mem hu
      obtain ⟨q, i', y, e1, e2, e3⟩ := flats_inv hK l j _ (List.getElem?_eq_getElem hj)
      exact hone y _ (List.mem_of_getElem? e3)
    · unfold OwnR
      rw [List.length_append, flats_append]
      exact h1
end
theorem csB_one (b : UInt8) : ∀ u ∈ csB b, u.oneCell' = true := by
  intro u hu
  simp [csB] at hu
  subst hu
  rfl
/-- a new row of nothing -/
theorem ownb_empty (w : World) : OwnB (w.alloc (.cells #[] 5)) w.heap.size (.slice (some ⟨w.heap.size, 0, none⟩) 0 0) [] :=
  ⟨rfl, .inr ⟨w.heap.size, 0, #[], rfl, Nat.le_refl _, Array.getElem?_push_size, Nat.le_refl _, by simp [maxLen], rfl, rfl⟩⟩

/-! ### As a string -/
theorem str_eq (l r : List UInt8) : (decide ((⟨l.toArray⟩ : ByteArray) = ⟨r.toArray⟩)) = decide (l = r) := by
  apply decide_eq_decide.2
  constructor
  · intro h
    have := congrArg ByteArray.data h
    simpa using this
  · rintro rfl
    rfl

/-- what fits -/
theorem u64_bd {n : Int} (h : (Lit.int .u64 n).wf = true) : 0 ≤ n ∧ n < 18446744073709551616 := by
  have k1 : IntKind.u64.min = 0 := rfl
  have k2 : IntKind.u64.max = 18446744073709551615 := rfl
  simp only [Lit.wf, Bool.and_eq_true, decide_eq_true_eq, k1, k2] at h
  omega
theorem u8_bd {n : Int} (h : (Lit.int .u8 n).wf = true) : 0 ≤ n ∧ n < 256 := by
  have k1 : IntKind.u8.min = 0 := rfl
  have k2 : IntKind.u8.max = 255 := rfl
  simp only [Lit.wf, Bool.and_eq_true, decide_eq_true_eq, k1, k2] at h
  omega
theorem u32_bd {n : Int} (h : (Lit.int .u32 n).wf = true) : 0 ≤ n ∧ n < 4294967296 := by
  have k1 : IntKind.u32.min = 0 := rfl
  have k2 : IntKind.u32.max = 4294967295 := rfl
  simp only [Lit.wf, Bool.and_eq_true, decide_eq_true_eq, k1, k2] at h
  omega
theorem u16_bd {n : Int} (h : (Lit.int .u16 n).wf = true) : 0 ≤ n ∧ n < 65536 := by
  have k1 : IntKind.u16.min = 0 := rfl
  have k2 : IntKind.u16.max = 65535 := rfl
  simp only [Lit.wf, Bool.and_eq_true, decide_eq_true_eq, k1, k2] at h
  omega
end Go.Proofs.YtjmgokjljmmmgaaGreat
/- Lists of lists of bytes in memory. -/
namespace Go.Proofs.YtjmgokjljmmmgaaGreat
open Go.RowKit

abbrev Sl := Option Addr × Nat × Nat
def sl (t : Sl) : Value := .slice t.1 t.2.1 t.2.2
def csS (t : Sl) : List Value := [sl t]
theorem csS_len (t : Sl) : (csS t).length = 1 := rfl
theorem csS_one (t : Sl) : ∀ u ∈ csS t, u.oneCell' = true := by
  intro u hu
  simp [csS, sl] at hu
  subst hu
  rfl
/-- the lists that the cells name; none of them lies in the block ob -/
def EachB (w : World) (ob : Option Nat) (ts : List Sl) (L : List (List UInt8)) : Prop :=
  ts.length = L.length ∧ ∀ (j : Nat) (t : Sl) (l : List UInt8), ts[j]? = some t → L[j]? = some l → BytesAt w (sl t) l ∧ (0 < l.length → ∀ a, t.1 = some a → some a.block ≠ ob)
def BssAt (w : World) (v : Value) (L : List (List UInt8)) : Prop := ∃ ts, RowsAt w 1 csS v ts ∧ EachB w none ts L
theorem EachB.kept {w w' : World} {ob : Option Nat} {ts : List Sl} {L : List (List UInt8)} (h : EachB w ob ts L) (hb : Below w.heap.size w w') : EachB w' ob ts L :=
  ⟨h.1, fun j t l h1 h2 => ⟨(h.2 j t l h1 h2).1.kept hb, (h.2 j t l h1 h2).2⟩⟩
theorem EachB.free {w : World} {ob : Option Nat} {ts : List Sl} {L : List (List UInt8)} (h : EachB w ob ts L) : EachB w none ts L :=
  ⟨h.1, fun j t l h1 h2 => ⟨(h.2 j t l h1 h2).1, fun _ a _ e => by cases e⟩⟩
theorem BytesAt.grown {w w' : World} {row : Option Nat} {t : Sl} {l : List UInt8} (h : BytesAt w (sl t) l) (hg : w.grownBy w' row) (ha : 0 < l.length → ∀ a, t.1 = some a → some a.block ≠ row) : BytesAt w' (sl t) l := by
  obtain ⟨a, c, e, hc, hx⟩ := h
  refine ⟨a, c, e, hc, fun h0 => ?_⟩
  obtain ⟨g, o, e1, hgs, hcell⟩ := hx h0
  have e2 : t.1 = some ⟨g, o, none⟩ := by
    subst e1
    obtain ⟨t1, t2, t3⟩ := t
    simp only [sl, Value.slice.injEq] at e
    exact e.1
  have hne := ha h0 _ e2
  exact ⟨g, o, e1, Nat.lt_of_lt_of_le hgs hg.size, fun j x hj i u hu => hg.cell (hcell j x hj i u hu) hne⟩
theorem BytesAt.block {w : World} {t : Sl} {l : List UInt8} (h : BytesAt w (sl t) l) (h0 : 0 < l.length) (a : Addr) (ha : t.1 = some a) : a.block < w.heap.size := by
  obtain ⟨b, c, e, hc, hx⟩ := h
  obtain ⟨g, o, e1, hgs, _⟩ := hx h0
  subst e1
  obtain ⟨t1, t2, t3⟩ := t
  simp only [sl, Value.slice.injEq] at e
  rw [e.1] at ha
  cases ha
  exact hgs
theorem EachB.grow {w w' : World} {ob ob' : Option Nat} {ts : List Sl} {L : List (List UInt8)} (h : EachB w ob ts L) (hg : w.grownBy w' ob) (h4 : ob' = ob ∨ ob' = some w.heap.size) : EachB w' ob' ts L := by
  refine ⟨h.1, fun j t l h1 h2 => ?_⟩
  obtain ⟨hb, ha⟩ := h.2 j t l h1 h2
  refine ⟨hb.grown hg ha, fun h0 a e => ?_⟩
  rcases h4 with rfl | rfl
  · exact ha h0 a e
  · intro he
    have := hb.block h0 a e
    have := Option.some.inj he
    omega
theorem EachB.snoc {w : World} {ob : Option Nat} {ts : List Sl} {L : List (List UInt8)} {t : Sl} {l : List UInt8} (h : EachB w ob ts L) (ht : BytesAt w (sl t) l) (ha : 0 < l.length → ∀ a, t.1 = some a → some a.block ≠ ob) : EachB w ob (ts ++ [t]) (L ++ [l]) := by
  refine ⟨by simp [h.1], fun j t' l' h1 h2 => ?_⟩
  rcases Nat.lt_trichotomy j ts.length with hj | hj | hj
  · rw [List.getElem?_append_left hj] at h1
    rw [List.getElem?_append_left (by have := h.1; omega)] at h2
    exact h.2 j t' l' h1 h2
  · subst hj
    rw [List.getElem?_append_right (Nat.le_refl _), Nat.sub_self] at h1
    rw [h.1, List.getElem?_append_right (Nat.le_refl _), Nat.sub_self] at h2
    simp at h1 h2
    subst h1
    subst h2
    exact ⟨ht, ha⟩
  · rw [List.getElem?_eq_none (by simp; omega)] at h1
    cases h1
theorem BssAt.kept {w w' : World} {v : Value} {L : List (List UInt8)} (h : BssAt w v L) (hb : Below w.heap.size w w') : BssAt w' v L := by
  obtain ⟨ts, h1, h2⟩ := h
  exact ⟨ts, h1.kept hb, h2.kept hb⟩
theorem BssAt.nil (w : World) : BssAt w (.slice none 0 0) [] := ⟨[], RowsAt.nil _ _ _, rfl, fun j t l h => by simp at h⟩
theorem BssAt.form {w : World} {v : Value} {L : List (List UInt8)} (h : BssAt w v L) : ∃ a c, v = .slice a L.length c := by
  obtain ⟨ts, h1, h2⟩ := h
  obtain ⟨a, c, e⟩ := h1.form
  rw [h2.1] at e
  exact ⟨a, c, e⟩
/-- the cell of one, and what it names -/
theorem BssAt.at {w : World} {v : Value} {L : List (List UInt8)} (h : BssAt w v L) (k : Nat) (hk : k < L.length) :
    ∃ g o c a n, v = .slice (some ⟨g, o, none⟩) L.length c ∧ g < w.heap.size ∧ w.cell? ⟨g, o + k, none⟩ = some (.slice a L[k].length n) ∧ BytesAt w (.slice a L[k].length n) L[k] := by
  obtain ⟨ts, h1, h2⟩ := h
  obtain ⟨a, c, e, hc, hx⟩ := h1
  have hkt : k < ts.length := by rw [h2.1]; exact hk
  obtain ⟨g, o, e', hg, hcell⟩ := hx (by omega)
  subst e'
  have hb := (h2.2 k ts[k] L[k] (List.getElem?_eq_getElem hkt) (List.getElem?_eq_getElem hk)).1
  obtain ⟨a', n, e2⟩ := RowsAt.form hb
  have hcl := hcell k ts[k] (List.getElem?_eq_getElem hkt) 0 (sl ts[k]) rfl
  rw [e2] at hb hcl
  rw [h2.1] at e
  refine ⟨g, o, c, a', n, e, hg, ?_, hb⟩
  rw [← hcl]
  congr 2
  simp
end Go.Proofs.YtjmgokjljmmmgaaGreat
/- Objects that are kept from call to call: a block of cells; a list of one's own that may begin behind its block's first cell; what a call may have changed. -/
namespace Go.Proofs.YtjmgokjljmmmgaaGreat
open Go.RowKit Go.ChangeShapes Go.WideShapes Go.Joins Go.Deep

/-- a block of cells that may be written -/
def Blk (w : World) (b : Nat) (vs : List Value) : Prop := ∀ j u, vs[j]? = some u → w.cell? ⟨b, j, none⟩ = some u ∧ w.frozen? ⟨b, j, none⟩ = false
theorem Blk.cell {w : World} {b : Nat} {vs : List Value} (h : Blk w b vs) (j : Nat) {u : Value} (hu : vs[j]? = some u) : w.cell? ⟨b, j, none⟩ = some u := (h j u hu).1
theorem Blk.free {w : World} {b : Nat} {vs : List Value} (h : Blk w b vs) (j : Nat) {u : Value} (hu : vs[j]? = some u) : w.frozen? ⟨b, j, none⟩ = false := (h j u hu).2
theorem Blk.lt {w : World} {b : Nat} {v : Value} {vs : List Value} (h : Blk w b (v :: vs)) : b < w.heap.size := World.block_lt_of_cell? w ⟨b, 0, none⟩ (h 0 v rfl).1
theorem Blk.same {w w' : World} {b : Nat} {vs : List Value} (h : Blk w b vs) (he : w'.heap[b]? = w.heap[b]?) : Blk w' b vs := fun j u hu =>
  ⟨(World.cell?_of_block (a := ⟨b, j, none⟩) he).trans (h j u hu).1, (World.frozen?_of_block (a := ⟨b, j, none⟩) he).trans (h j u hu).2⟩
theorem Blk.new (w : World) (vs : List Value) (t : TypeId) : Blk (w.alloc (.cells vs.toArray t)) w.heap.size vs := fun j u hu => by
  have hh : (w.alloc (.cells vs.toArray t)).heap[w.heap.size]? = some (.cells vs.toArray t) := heap_alloc_new w _
  exact ⟨by unfold World.cell?; simp only [hh]; simpa using hu, by unfold World.frozen?; simp only [hh]; simp⟩
theorem Blk.kept {w w1 : World} {b : Nat} {v : Value} {vs : List Value} (h : Blk w b (v :: vs)) (hb : Below w.heap.size w w1) : Blk w1 b (v :: vs) := h.same (hb.block b h.lt)
theorem Blk.grown {w w1 : World} {b : Nat} {v : Value} {vs : List Value} {row : Option Nat} (h : Blk w b (v :: vs)) (hg : w.grownBy w1 row) (hne : some b ≠ row) : Blk w1 b (v :: vs) := h.same (hg.block b h.lt hne)
theorem Blk.away {w : World} {b : Nat} {vs : List Value} (h : Blk w b vs) (a : Addr) (u : Value) (hne : b ≠ a.block) : Blk (w.setCell a u) b vs := h.same (Below.heap_setCell w a u b hne)
theorem Blk.set {w : World} {b : Nat} {vs : List Value} (h : Blk w b vs) (k : Nat) (u : Value) : Blk (w.setCell ⟨b, k, none⟩ u) b (vs.set k u) := by
  intro j x hx
  rw [List.getElem?_set] at hx
  by_cases hj : k = j
  · subst hj
    rw [if_pos rfl] at hx
    split at hx
    · rename_i hk
      cases hx
      obtain ⟨h1, h2⟩ := h k _ (List.getElem?_eq_getElem hk)
      exact ⟨World.cell?_setCell_same _ _ _ (by rw [h1]), by rw [World.frozen?_setCell]; exact h2⟩
    · cases hx
  · rw [if_neg hj] at hx
    obtain ⟨h1, h2⟩ := h j x hx
    exact ⟨by rw [World.cell?_setCell_other _ _ _ _ (by intro e; cases e; exact hj rfl)]; exact h1, by rw [World.frozen?_setCell]; exact h2⟩

/-- a list of one's own -/
def OwnO {α : Type} (w : World) (K : Nat) (cs : α → List Value) (v : Value) (l : List α) : Prop :=
  (v = .slice none 0 0 ∧ l = []) ∨ ∃ g o cap, v = .slice (some ⟨g, o, none⟩) l.length cap ∧ g < w.heap.size ∧ l.length ≤ cap ∧ cap ≤ maxLen ∧
    (∀ j, j < l.length * K → w.cell? ⟨g, o + j, none⟩ = (flats cs l)[j]?) ∧ ∀ j, j < cap * K → (w.cell? ⟨g, o + j, none⟩).isSome = true ∧ w.frozen? ⟨g, o + j, none⟩ = false
section
variable {α : Type} {w : World} {K : Nat} {cs : α → List Value} {v : Value} {l : List α}
theorem OwnO.nil (w : World) (K : Nat) (cs : α → List Value) : OwnO w K cs (.slice none 0 0) [] := .inl ⟨rfl, rfl⟩
theorem OwnO.lt (h : OwnO w K cs v l) : ∀ k, v.ownBlock = some k → k < w.heap.size := by
  intro k hk
  rcases h with ⟨rfl, _⟩ | ⟨g, o, cap, rfl, hg, _⟩
  · simp [Value.ownBlock] at hk
  · simp [Value.ownBlock] at hk
    omega
theorem OwnO.form (h : OwnO w K cs v l) : ∃ a c, v = .slice a l.length c := by
  rcases h with ⟨rfl, rfl⟩ | ⟨g, o, cap, rfl, _⟩
  · exact ⟨none, 0, rfl⟩
  · exact ⟨_, _, rfl⟩
theorem OwnO.same {w' : World} (h : OwnO w K cs v l) (hz : w.heap.size ≤ w'.heap.size) (he : ∀ k, v.ownBlock = some k → w'.heap[k]? = w.heap[k]?) : OwnO w' K cs v l := by
  rcases h with h0 | ⟨g, o, cap, rfl, hg, hl, hc, h1, h2⟩
  · exact .inl h0
  · have e := he g rfl
    exact .inr ⟨g, o, cap, rfl, by omega, hl, hc, fun j hj => (World.cell?_of_block (a := ⟨g, o + j, none⟩) e).trans (h1 j hj),
      fun j hj => ⟨by rw [World.cell?_of_block (a := ⟨g, o + j, none⟩) e]; exact (h2 j hj).1, (World.frozen?_of_block (a := ⟨g, o + j, none⟩) e).trans (h2 j hj).2⟩⟩
theorem OwnO.kept {w' : World} (h : OwnO w K cs v l) (hb : Below w.heap.size w w') : OwnO w' K cs v l := h.same hb.size fun k hk => hb.block k (h.lt k hk)
theorem OwnO.grown {w' : World} {row : Option Nat} (h : OwnO w K cs v l) (hg : w.grownBy w' row) (hne : ∀ k, v.ownBlock = some k → some k ≠ row) : OwnO w' K cs v l := h.same hg.size fun k hk => hg.block k (h.lt k hk) (hne k hk)
theorem OwnO.away (h : OwnO w K cs v l) (a : Addr) (u : Value) (hne : ∀ k, v.ownBlock = some k → k ≠ a.block) : OwnO (w.setCell a u) K cs v l :=
  h.same (by simp [World.setCell]) fun k hk => Below.heap_setCell w a u k (hne k hk)
theorem OwnR.own {B : Nat} {e : TypeId} (h : OwnR w B e K cs v l) : OwnO w K cs v l := by
  rcases h.2 with ⟨rfl, h0⟩ | ⟨g, cap, cur, rfl, hg, hh, hnc, hcp, hcs, htake⟩
  · exact .inl ⟨rfl, List.eq_nil_of_length_eq_zero h0⟩
  · refine .inr ⟨g, 0, cap, rfl, lt_of_block hh, hnc, hcp, fun j hj => ?_, fun j hj => ?_⟩
    · rw [← htake, List.getElem?_take_of_lt hj]
      simp [World.cell?, hh]
    · rw [Nat.zero_add]
      refine ⟨?_, by simp [World.frozen?, hh]⟩
      simp only [World.cell?, hh]
      have : cur[j]? = some (cur[j]'(by omega)) := Array.getElem?_eq_getElem _
      simp [this]
theorem OwnO.rows (hK : ∀ x, (cs x).length = K) (h : OwnO w K cs v l) : RowsAt w K cs v l := by
  rcases h with ⟨rfl, rfl⟩ | ⟨g, o, cap, rfl, hg, hl, hc, h1, h2⟩
  · exact RowsAt.nil w K cs
  · refine ⟨_, cap, rfl, hl, fun h0 => ⟨g, o, rfl, hg, fun j x hj i u hu => ?_⟩⟩
    have h3 := flats_at hK l j x hj i u hu
    have hlt := (List.getElem?_eq_some_iff.1 h3).1
    rw [flats_length hK] at hlt
    rw [Nat.add_assoc, h1 _ hlt]
    exact h3
theorem OwnO.src {P : Program} {tx e : TypeId} (ht : P.underlying tx = some (.slice e)) (hK : ∀ x, (cs x).length = K) (hone : ∀ x, ∀ u ∈ cs x, u.oneCell' = true) (h : RowsAt w K cs v l) : Src P K tx v l.length (flats cs l) w := by
  obtain ⟨a, cap, rfl, hc, hx⟩ := h
  rcases Nat.eq_zero_or_pos l.length with h0 | h0
  · have : l = [] := List.eq_nil_of_length_eq_zero h0
    subst this
    cases a with
    | none => exact Src.ofNil w ht cap
    | some a => exact Src.ofSlice w ht a 0 cap [] (by simp) (by simp) (by simp)
  · obtain ⟨g, o, rfl, hg, hcell⟩ := hx h0
    refine Src.ofSlice w ht _ _ cap (flats cs l) (flats_length hK l) (fun j u hu => ?_) fun u hu => ?_
    · obtain ⟨q, i, x, rfl, e2, e3⟩ := flats_inv hK l j u hu
      rw [add_plain, ← Nat.add_assoc]
      exact hcell q x e2 i u e3
    · obtain ⟨j, hj, rfl⟩ := List.getElem_of_mem hu
      obtain ⟨q, i, x, _, e2, e3⟩ := flats_inv hK l j _ (List.getElem?_eq_getElem hj)
      exact hone x _ (List.mem_of_getElem? e3)
theorem OwnO.hold (hK : ∀ x, (cs x).length = K) {P : Program} {base : Option Addr} {n cap : Nat} (h : OwnO w K cs (.slice base n cap) l) : (Builtin.firstCells K n (.slice base n cap)).run P w.drew = .ok (flats cs l).toArray w.drew := by
  rcases h with ⟨e, rfl⟩ | ⟨g, o, c, e, hg, hl, hc, h1, h2⟩
  · cases e
    exact run_firstCells_none w.drew K 0 0 0
  · cases e
    refine run_firstCells_some w.drew K _ _ _ _ _ (flats_length hK l) fun j u hu => ?_
    rw [add_plain]
    show w.cell? ⟨g, o + j, none⟩ = some u
    have hlt := (List.getElem?_eq_some_iff.1 hu).1
    rw [flats_length hK] at hlt
    rw [h1 j hlt]
    exact hu
theorem tape_setCells (b : Nat) : ∀ (vs : List Value) (o : Nat) (w : World), (w.setCells b o vs).tape = w.tape
  | [], _, _ => rfl
  | v :: r, o, w => by rw [World.setCells, tape_setCells b r (o + 1)]; rfl
theorem os_setCells (b : Nat) : ∀ (vs : List Value) (o : Nat) (w : World), (w.setCells b o vs).os = w.os
  | [], _, _ => rfl
  | v :: r, o, w => by rw [World.setCells, os_setCells b r (o + 1)]; rfl
theorem output_setCells (b : Nat) : ∀ (vs : List Value) (o : Nat) (w : World), (w.setCells b o vs).output = w.output
  | [], _, _ => rfl
  | v :: r, o, w => by rw [World.setCells, output_setCells b r (o + 1)]; rfl
theorem size_setCells (b : Nat) : ∀ (vs : List Value) (o : Nat) (w : World), (w.setCells b o vs).heap.size = w.heap.size
  | [], _, _ => rfl
  | v :: r, o, w => by rw [World.setCells, size_setCells b r (o + 1)]; simp [World.setCell]
theorem heap_setCells (b : Nat) {k : Nat} (hk : k ≠ b) : ∀ (vs : List Value) (o : Nat) (w : World), (w.setCells b o vs).heap[k]? = w.heap[k]?
  | [], _, _ => rfl
  | v :: r, o, w => by rw [World.setCells, heap_setCells b hk r (o + 1)]; exact Below.heap_setCell w _ v k hk
theorem flats_get_append {a b : List α} (hK : ∀ x, (cs x).length = K) (j : Nat) : (flats cs (a ++ b))[j]? = if j < a.length * K then (flats cs a)[j]? else (flats cs b)[j - a.length * K]? := by
  rw [flats_append]
  split
  · rename_i h
    exact List.getElem?_append_left (by rw [flats_length hK]; exact h)
  · rename_i h
    rw [List.getElem?_append_right (by rw [flats_length hK]; omega), flats_length hK]

/-- more behind it -/
theorem run_append_o {P : Program} (hK : ∀ x, (cs x).length = K) (hK0 : 0 < K) (hone : ∀ x, ∀ u ∈ cs x, u.oneCell' = true) (t tx ty e ex : TypeId) (i : TypeInfo) (z : Value) (ht : P.underlying t = some (.slice e)) (htx : P.underlying tx = some (.slice ex)) (hi : P.info? e = some i) (hz : i.zero = some z) (hsize : i.size = K) (hzs : z.cells.size = K)
    (h : OwnO w K cs v l) (x : Value) (m : List α) (hx : RowsAt w K cs x m) (hlen : l.length + m.length ≤ maxLen) (hbytes : (l.length + m.length) * i.bytes ≤ 140737488355328) :
    ∃ v' w', (Builtin.append_ #[t, tx] ty #[v, x]).run P w = .ok v' w' ∧ OwnO w' K cs v' (l ++ m) ∧ w.grownBy w' v.ownBlock ∧ (v'.ownBlock = v.ownBlock ∨ v'.ownBlock = some w.heap.size) := by
  have hs := OwnO.src htx hK hone hx
  have hfl := flats_length hK l
  have hfm := flats_length hK m
  have hsmall : l.length + m.length ≤ 9223372036854775807 := by simp only [maxLen] at hlen; omega
  subst hsize
  have grow : ∀ (bs : Option Addr) (c : Nat), v = .slice bs l.length c → c < l.length + m.length →
      ∃ v' w', (Builtin.append_ #[t, tx] ty #[v, x]).run P w = .ok v' w' ∧ OwnO w' i.size cs v' (l ++ m) ∧ w.grownBy w' v.ownBlock ∧ (v'.ownBlock = v.ownBlock ∨ v'.ownBlock = some w.heap.size) := by
    rintro bs c rfl hc
    have hrun := run_append_grow_src (P := P) w t tx ty e i z ht hi hz bs l.length c (flats cs l) (h.hold hK) x m.length (flats cs m) hs hc (by omega) (growslice_fits hc hbytes)
    have hge := grownCap_ge w (l.length + m.length) c e
    have hcm := grownCap_le_maxLen w (l.length + m.length) c e hlen
    refine ⟨_, _, hrun, .inr ⟨w.heap.size, 0, _, by rw [List.length_append], by simp, by rw [List.length_append]; exact hge, hcm, fun j hj => ?_, fun j hj => ?_⟩, ⟨rfl, rfl, rfl, by simp, fun k hk _ => Below.heap_alloc w.drew _ k hk⟩, .inr rfl⟩
    · have e1 := World.cell?_alloc_new w.drew ((flats cs l ++ flats cs m).toArray ++ Builtin.zeroCells z.cells (grownCap w (l.length + m.length) c e - (l.length + m.length))) e j
      rw [Nat.zero_add]
      refine e1.trans ?_
      rw [List.length_append, Nat.add_mul] at hj
      rw [Array.getElem?_append_left (by simp only [List.size_toArray, List.length_append]; omega), List.getElem?_toArray, flats_append]
    · have e1 := World.cell?_alloc_new w.drew ((flats cs l ++ flats cs m).toArray ++ Builtin.zeroCells z.cells (grownCap w (l.length + m.length) c e - (l.length + m.length))) e j
      have hsz : ((flats cs l ++ flats cs m).toArray ++ Builtin.zeroCells z.cells (grownCap w (l.length + m.length) c e - (l.length + m.length))).size = grownCap w (l.length + m.length) c e * i.size := by
        rw [Array.size_append, List.size_toArray, List.length_append, hfl, hfm, size_zeroCells, hzs, ← Nat.add_mul, ← Nat.add_mul]
        congr 1
        omega
      rw [Nat.zero_add]
      refine ⟨?_, World.frozen?_alloc_new w.drew _ _ j⟩
      have e2 : ((w.drew.alloc (.cells ((flats cs l ++ flats cs m).toArray ++ Builtin.zeroCells z.cells (grownCap w (l.length + m.length) c e - (l.length + m.length))) e)).cell? ⟨w.heap.size, j, none⟩).isSome = true := by
        refine (congrArg Option.isSome e1).trans ?_
        rw [Array.getElem?_eq_getElem (by rw [hsz]; exact hj)]
        rfl
      exact e2
  rcases h with ⟨rfl, rfl⟩ | ⟨g, o, c, rfl, hg, hl, hc, h1, h2⟩
  · by_cases hm : m.length = 0
    · have : m = [] := List.eq_nil_of_length_eq_zero hm
      subst this
      obtain ⟨xa, xc, rfl⟩ := RowsAt.form hx
      refine ⟨.slice none 0 0, w, ?_, .inl ⟨rfl, rfl⟩, ⟨rfl, rfl, rfl, Nat.le_refl _, fun _ _ _ => rfl⟩, .inl rfl⟩
      have h5 := hs.cells
      simp only [List.length_nil] at h5
      simp [Builtin.append_, run_underlying ht, run_underlying htx, sizeOf, typeInfo, hi, Builtin.lenOf, h5, flats]
    · exact grow none 0 rfl (by simp; omega)
  · by_cases hroom : l.length + m.length ≤ c
    · have hfit : (l.length + m.length) * i.size ≤ c * i.size := Nat.mul_le_mul_right _ hroom
      rw [Nat.add_mul] at hfit
      have hc1 : ∀ j, j < (flats cs m).length → (w.cell? ⟨g, o + l.length * i.size + j, none⟩).isSome = true ∧ w.frozen? ⟨g, o + l.length * i.size + j, none⟩ = false := fun j hj => by
        have := h2 (l.length * i.size + j) (by omega)
        rwa [← Nat.add_assoc] at this
      have hrun := run_append_room_src (P := P) w t tx ty e i ht hi g o l.length c x m.length (flats cs m) hs hroom (fun j hj => (hc1 j hj).1) (fun j hj => (hc1 j hj).2)
      refine ⟨_, _, hrun, .inr ⟨g, o, c, by rw [List.length_append], by rw [size_setCells]; exact hg, by rw [List.length_append]; exact hroom, hc, fun j hj => ?_, fun j hj => ?_⟩,
        ⟨os_setCells _ _ _ _, tape_setCells _ _ _ _, output_setCells _ _ _ _, by rw [size_setCells]; exact Nat.le_refl _, fun k _ hk => heap_setCells g (fun e => hk (by rw [e]; rfl)) _ _ _⟩, .inl rfl⟩
      · rw [flats_get_append hK]
        rw [List.length_append, Nat.add_mul] at hj
        split
        · rename_i h6
          rw [World.cell?_setCells_out g _ _ _ _ (fun _ _ => .inl (by show o + j < o + l.length * i.size; omega))]
          exact h1 j h6
        · rename_i h6
          have h7 : j - l.length * i.size < (flats cs m).length := by omega
          have := World.cell?_setCells_in g (flats cs m) (o + l.length * i.size) w (fun j hj => (hc1 j hj).1) (j - l.length * i.size) h7
          rw [show o + l.length * i.size + (j - l.length * i.size) = o + j by omega] at this
          rw [this, List.getElem?_eq_getElem h7]
      · refine ⟨?_, by rw [World.frozen?_setCells]; exact (h2 j hj).2⟩
        by_cases h6 : l.length * i.size ≤ j ∧ j < l.length * i.size + (flats cs m).length
        · have := World.cell?_setCells_in g (flats cs m) (o + l.length * i.size) w (fun j hj => (hc1 j hj).1) (j - l.length * i.size) (by omega)
          rw [show o + l.length * i.size + (j - l.length * i.size) = o + j by omega] at this
          rw [this]
          rfl
        · rw [World.cell?_setCells_out g _ _ _ _ (fun _ _ => by show o + j < o + l.length * i.size ∨ o + l.length * i.size + (flats cs m).length ≤ o + j; omega)]
          exact (h2 j hj).1
    · exact grow _ c rfl (by omega)

theorem wpList_append_o {P : Program} {ops : Array Oper} {rest : List Oper} {o : Oper} {a : Act} {Q : Exit → Act → World → Prop} (hgd : o.guard = none) (s x : Operand) (t tx : TypeId)
    (ho : o.op = .call { callee := .builtin .append, args := #[s, x], argTypes := #[t, tx] })
    (hK : ∀ x, (cs x).length = K) (hK0 : 0 < K) (hone : ∀ x, ∀ u ∈ cs x, u.oneCell' = true) (e ex : TypeId) (i : TypeInfo) (z : Value) (ht : P.underlying t = some (.slice e)) (htx : P.underlying tx = some (.slice ex)) (hi : P.info? e = some i) (hz : i.zero = some z) (hsize : i.size = K) (hzs : z.cells.size = K)
    (hs : a.eval s = v) (h : OwnO w K cs v l) (vx : Value) (m : List α) (hvx : a.eval x = vx) (hx : RowsAt w K cs vx m) (hlen : l.length + m.length ≤ maxLen) (hbytes : (l.length + m.length) * i.bytes ≤ 140737488355328)
    (hk : ∀ v' w', OwnO w' K cs v' (l ++ m) → w.grownBy w' v.ownBlock → (v'.ownBlock = v.ownBlock ∨ v'.ownBlock = some w.heap.size) → wpList P ops Q rest (a.put o.dst v') w') : wpList P ops Q (o :: rest) a w := by
  refine wpList_plain hgd fun K' hK' => ?_
  obtain ⟨v', w', hrun, h1, h2, h3⟩ := run_append_o (P := P) hK hK0 hone t tx o.type e ex i z ht htx hi hz hsize hzs h vx m hx hlen hbytes
  unfold Oper.wp
  simp [execOp, ho, resolve, invoke, builtin, hs, hvx, hrun, Result.andThen]
  exact hK' _ _ (hk v' w' h1 h2 h3)

/-- its rest -/
theorem OwnO.drop {a : Option Addr} {n cap : Nat} (h : OwnO w K cs (.slice a n cap) l) (k : Nat) (hk : k ≤ l.length) (hK : ∀ x, (cs x).length = K) (a' : Option Addr) (ha : k < cap → ∀ g o, a = some ⟨g, o, none⟩ → a' = some ⟨g, o + k * K, none⟩) (ha' : cap ≤ k → a' = a) : OwnO w K cs (.slice a' (n - k) (cap - k)) (l.drop k) := by
  rcases h with ⟨e, rfl⟩ | ⟨g, o, c, e, hg, hl, hc, h1, h2⟩
  · cases e
    simp at hk
    subst hk
    rw [ha' (Nat.le_refl _)]
    exact .inl ⟨rfl, rfl⟩
  · cases e
    by_cases hkc : k < cap
    · rw [ha hkc g o rfl]
      refine .inr ⟨g, o + k * K, cap - k, by rw [List.length_drop], hg, by rw [List.length_drop]; omega, by omega, fun j hj => ?_, fun j hj => ?_⟩
      · rw [List.length_drop, Nat.sub_mul] at hj
        have hkl : k * K ≤ l.length * K := Nat.mul_le_mul_right _ hk
        have h3 : (flats cs l)[k * K + j]? = (flats cs (l.drop k))[j]? := by
          have h4 : flats cs l = flats cs (l.take k) ++ flats cs (l.drop k) := by rw [← flats_append, List.take_append_drop]
          have h5 : (flats cs (l.take k)).length = k * K := by rw [flats_length hK, List.length_take, Nat.min_eq_left hk]
          rw [h4, List.getElem?_append_right (by omega), h5]
          congr 1
          omega
        rw [← h3, Nat.add_assoc]
        exact h1 _ (by omega)
      · rw [Nat.sub_mul] at hj
        rw [Nat.add_assoc]
        exact h2 _ (by omega)
    · have hkl : k = l.length := by omega
      subst hkl
      rw [ha' (by omega)]
      refine .inr ⟨g, o, cap - l.length, by rw [List.length_drop], hg, by rw [List.length_drop]; omega, by omega, fun j hj => ?_, fun j hj => ?_⟩
      · rw [List.length_drop, Nat.sub_self, Nat.zero_mul] at hj
        omega
      · rw [show cap - l.length = 0 by omega, Nat.zero_mul] at hj
        omega
end

/-- what lies outside F is as it was -/
structure Only (F : Nat → Prop) (w w' : World) : Prop where
  os : w'.os = w.os
  tape : w'.tape = w.tape
  output : w'.output = w.output
  size : w.heap.size ≤ w'.heap.size
  block : ∀ k, k < w.heap.size → ¬ F k → w'.heap[k]? = w.heap[k]?
/-- .. and what an object has behind it is of what it had, or new -/
structure Mv (F F' : Nat → Prop) (w w' : World) : Prop where
  only : Only F w w'
  sub : ∀ k, F' k → F k ∨ w.heap.size ≤ k
section
variable {F F' F'' : Nat → Prop} {w w' w'' : World}
theorem Only.refl (F : Nat → Prop) (w : World) : Only F w w := ⟨rfl, rfl, rfl, Nat.le_refl _, fun _ _ _ => rfl⟩
theorem Only.of_below (h : Below w.heap.size w w') : Only F w w' := ⟨h.os, h.tape, h.output, h.size, fun k hk _ => h.block k hk⟩
theorem Only.below {B : Nat} (h : Only F w w') (hF : ∀ k, F k → B ≤ k) (hB : B ≤ w.heap.size) : Below B w w' := ⟨h.os, h.tape, h.output, h.size, fun k hk => h.block k (by omega) fun hf => by have := hF k hf; omega⟩
theorem Only.mono (h : Only F w w') (hs : ∀ k, F k → F' k) : Only F' w w' := ⟨h.os, h.tape, h.output, h.size, fun k hk hf => h.block k hk fun h1 => hf (hs k h1)⟩
theorem Only.trans (h : Only F w w') (h2 : Only F w' w'') : Only F w w'' :=
  ⟨h2.os.trans h.os, h2.tape.trans h.tape, h2.output.trans h.output, Nat.le_trans h.size h2.size, fun k hk hf => (h2.block k (Nat.lt_of_lt_of_le hk h.size) hf).trans (h.block k hk hf)⟩
theorem Only.grown {row : Option Nat} (hg : w.grownBy w' row) (hr : ∀ k, row = some k → F k) : Only F w w' := ⟨hg.os, hg.tape, hg.output, hg.size, fun k hk hf => hg.block k hk fun e => hf (hr k e.symm)⟩
theorem Only.set (h : Only F w w') (a : Addr) (u : Value) (hf : F a.block) : Only F w (w'.setCell a u) :=
  h.trans ⟨rfl, rfl, rfl, by simp [World.setCell], fun k _ hk => Below.heap_setCell w' a u k fun e => hk (e ▸ hf)⟩
theorem Mv.refl (F : Nat → Prop) (w : World) : Mv F F w w := ⟨Only.refl _ _, fun _ h => .inl h⟩
theorem Mv.of_below (h : Below w.heap.size w w') : Mv F F w w' := ⟨Only.of_below h, fun _ h => .inl h⟩
theorem Mv.trans (h : Mv F F' w w') (h2 : Mv F' F'' w' w'') : Mv F F'' w w'' := by
  refine ⟨⟨h2.only.os.trans h.only.os, h2.only.tape.trans h.only.tape, h2.only.output.trans h.only.output, Nat.le_trans h.only.size h2.only.size, fun k hk hf => ?_⟩, fun k hk => ?_⟩
  · refine (h2.only.block k (Nat.lt_of_lt_of_le hk h.only.size) fun h3 => ?_).trans (h.only.block k hk hf)
    rcases h.sub k h3 with h4 | h4
    · exact hf h4
    · omega
  · rcases h2.sub k hk with h3 | h3
    · exact h.sub k h3
    · exact .inr (Nat.le_trans h.only.size h3)
theorem Mv.off (h : Mv F F' w w') {k : Nat} (hk : k < w.heap.size) (hf : ¬ F k) : ¬ F' k := fun h1 => (h.sub k h1).elim hf (fun h2 => by omega)
theorem Mv.from_ {B : Nat} (h : Mv F F' w w') (hF : ∀ k, F k → B ≤ k) (hB : B ≤ w.heap.size) : ∀ k, F' k → B ≤ k := fun k hk => (h.sub k hk).elim (hF k) (fun h2 => Nat.le_trans hB h2)
end
end Go.Proofs.YtjmgokjljmmmgaaGreat
/- Lists in memory that lie outside what an object has. -/
namespace Go.Proofs.YtjmgokjljmmmgaaGreat
open Go.RowKit

/-- a list of n things that lies outside X -/
def OffV (X : Nat → Prop) (v : Value) (n : Nat) : Prop := 0 < n → ∀ g, v.ownBlock = some g → ¬ X g
section
variable {α : Type} {w w' : World} {K : Nat} {cs : α → List Value} {v : Value} {l : List α} {F F' X Y : Nat → Prop}
theorem RowsAt.lt (h : RowsAt w K cs v l) (h0 : 0 < l.length) : ∀ g, v.ownBlock = some g → g < w.heap.size := by
  obtain ⟨a, c, rfl, hc, hx⟩ := h
  obtain ⟨g, o, rfl, hg, _⟩ := hx h0
  intro k hk
  simp [Value.ownBlock] at hk
  omega
theorem RowsAt.same (h : RowsAt w K cs v l) (hz : w.heap.size ≤ w'.heap.size) (he : 0 < l.length → ∀ g, v.ownBlock = some g → w'.heap[g]? = w.heap[g]?) : RowsAt w' K cs v l := by
  obtain ⟨a, c, rfl, hc, hx⟩ := h
  refine ⟨a, c, rfl, hc, fun h0 => ?_⟩
  obtain ⟨g, o, rfl, hg, hcell⟩ := hx h0
  have e := he h0 g rfl
  exact ⟨g, o, rfl, by omega, fun j x hj i u hu => (World.cell?_of_block (a := ⟨g, o + j * K + i, none⟩) e).trans (hcell j x hj i u hu)⟩
theorem RowsAt.only (h : RowsAt w K cs v l) (ho : Only F w w') (hf : OffV F v l.length) : RowsAt w' K cs v l := h.same ho.size fun h0 g hg => ho.block g (h.lt h0 g hg) (hf h0 g hg)
theorem RowsAt.awayV (h : RowsAt w K cs v l) (a : Addr) (u : Value) (hf : OffV (fun k => k = a.block) v l.length) : RowsAt (w.setCell a u) K cs v l :=
  h.same (by simp [World.setCell]) fun h0 g hg => Below.heap_setCell w a u g (hf h0 g hg)
theorem OffV.mv (h : OffV F v l.length) (hb : RowsAt w K cs v l) (hm : Mv F F' w w') : OffV F' v l.length := fun h0 g hg => hm.off (hb.lt h0 g hg) (h h0 g hg)
theorem OffV.mono {n : Nat} (h : OffV X v n) (hs : ∀ k, Y k → X k) : OffV Y v n := fun h0 g hg hy => h h0 g hg (hs g hy)
theorem OffV.nil : OffV X v 0 := fun h => absurd h (Nat.lt_irrefl 0)
/-- what a call has gathered by itself lies outside what was there -/
theorem OwnR.off {B n : Nat} {e : TypeId} (h : OwnR w B e K cs v l) (hX : ∀ k, X k → k < B) : OffV X v n := fun _ g hg hx => by
  have h1 := (World.ownsRow.lt h g hg).1
  have h2 := hX g hx
  omega
end
/-- the rest of a list, as the model cuts it -/
theorem restAt13 {α : Type} {w : World} {K : Nat} {cs : α → List Value} {a : Option Addr} {n c : Nat} {l : List α} (h : RowsAt w K cs (.slice a n c) l) (k : Nat) (hk : k ≤ l.length) (a' : Option Addr) (ha : k < c → ∀ g o, a = some ⟨g, o, none⟩ → a' = some ⟨g, o + k * K, none⟩) : RowsAt w K cs (.slice a' (n - k) (c - k)) (l.drop k) := by
  obtain ⟨a0, c0, e, hc, hx⟩ := h
  cases e
  refine ⟨a', c - k, by rw [List.length_drop], by rw [List.length_drop]; omega, fun h0 => ?_⟩
  rw [List.length_drop] at h0
  obtain ⟨g, o, rfl, hg, hcell⟩ := hx (by omega)
  refine ⟨g, o + k * K, ha (by omega) g o rfl, hg, fun j x hj i u hu => ?_⟩
  rw [List.getElem?_drop] at hj
  have := hcell (k + j) x hj i u hu
  rw [Nat.add_mul] at this
  rw [← this]
  congr 2
  omega
theorem OwnR.base13 {α : Type} {w : World} {B B' : Nat} {e : TypeId} {K : Nat} {cs : α → List Value} {v : Value} {l : List α} (h : OwnR w B e K cs v l) (hB : B' ≤ B) : OwnR w B' e K cs v l := by
  refine ⟨h.1, ?_⟩
  rcases h.2 with h1 | ⟨g, cap, cur, e, hg, hr⟩
  · exact .inl h1
  · exact .inr ⟨g, cap, cur, e, Nat.le_trans hB hg, hr⟩
/-- a new row of nothing -/
theorem OwnR.empty (w : World) {α : Type} (K : Nat) (cs : α → List Value) (e : TypeId) (B : Nat) (hB : w.heap.size = B) : OwnR (w.alloc (.cells #[] e)) B e K cs (.slice (some ⟨B, 0, none⟩) 0 0) [] := by
  subst hB
  exact ⟨by simp [flats], .inr ⟨w.heap.size, 0, #[], rfl, Nat.le_refl _, heap_alloc_new w _, Nat.le_refl _, by simp [maxLen], by simp, by simp [flats]⟩⟩
end Go.Proofs.YtjmgokjljmmmgaaGreat
/- One number in new memory. -/
namespace Go.Proofs.YtjmgokjljmmmgaaGreat
open Go.RowKit

theorem oneI13 (w : World) (n : Int) : RowsAt (w.alloc (.cells #[.int .i64 n] 3)) 1 csI (.slice (some ⟨w.heap.size, 0, none⟩) 1 1) [n] := by
  refine ⟨_, 1, rfl, Nat.le_refl _, fun _ => ⟨w.heap.size, 0, rfl, by simp, fun j x hj i u hu => ?_⟩⟩
  have h0 : j = 0 ∧ x = n := by
    cases j with
    | zero => simp at hj; exact ⟨rfl, hj.symm⟩
    | succ j => simp at hj
  obtain ⟨rfl, rfl⟩ := h0
  have h1 : i = 0 ∧ u = .int .i64 x := by
    cases i with
    | zero => simp [csI] at hu; exact ⟨rfl, hu.symm⟩
    | succ i => simp [csI] at hu
  obtain ⟨rfl, rfl⟩ := h1
  go_simp
theorem csI_one13 (n : Int) : ∀ u ∈ csI n, u.oneCell' = true := by
  intro u hu
  simp [csI] at hu
  subst hu
  rfl
end Go.Proofs.YtjmgokjljmmmgaaGreat
/- Stage 16: the document's In, Set, free. -/
namespace Go.Proofs.YtjmgokjljmmmgaaGreat
open Go.RowKit

def csArc (a : Arc16) : List Value := [.int .i64 a.src, .int .i64 a.dst]
theorem csArc_len (a : Arc16) : (csArc a).length = 2 := rfl
abbrev ArcsAt (w : World) (v : Value) (l : List Arc16) : Prop := RowsAt w 2 csArc v l
theorem ArcsAt.at {w : World} {v : Value} {l : List Arc16} (h : ArcsAt w v l) (k : Nat) (hk : k < l.length) :
    ∃ g o c, v = .slice (some ⟨g, o, none⟩) l.length c ∧ l.length ≤ c ∧ g < w.heap.size ∧ w.cell? ⟨g, o + k * 2, none⟩ = some (.int .i64 l[k].src) ∧ w.cell? ⟨g, o + k * 2 + 1, none⟩ = some (.int .i64 l[k].dst) := by
  obtain ⟨a, c, rfl, hc, hx⟩ := h
  obtain ⟨g, o, rfl, hg, hcell⟩ := hx (by omega)
  exact ⟨g, o, c, rfl, hc, hg, hcell k _ (List.getElem?_eq_getElem hk) 0 _ rfl, hcell k _ (List.getElem?_eq_getElem hk) 1 _ rfl⟩
theorem inL_take (l : List Int) (n : Int) (k : Nat) (hk : k < l.length) (h : l[k] ≠ n) (h0 : n ∉ l.take k) : n ∉ l.take (k + 1) := by
  rw [List.take_succ_eq_append_getElem hk, List.mem_append, List.mem_singleton]
  rintro (h1 | h1)
  · exact h0 h1
  · exact h h1.symm

end Go.Proofs.YtjmgokjljmmmgaaGreat
/- One number behind a list of one's own: the builtin's law with all its side conditions met. FOR ALL LATER STAGES. -/
namespace Go.Proofs.YtjmgokjljmmmgaaGreat
open Go.RowKit

theorem app1 {ops : Array Oper} {rest : List Oper} {o : Oper} {a : Act} {Q : Exit → Act → World → Prop} {B : Nat} {w : World} {n : Int} {v : Value} {l : List Int} (hown : OwnI w B v l) (hB : B ≤ w.heap.size) (hl : l.length ≤ 1000000)
    (hgd : o.guard = none) (s x : Operand) (ho : o.op = .call { callee := .builtin .append, args := #[s, x], argTypes := #[22, 22] }) (hs : a.eval s = v) (hx : a.eval x = .slice (some ⟨w.heap.size, 0, none⟩) 1 1)
    (hK : ∀ v' w', OwnI w' B v' (l ++ [n]) → Below B w w' → wpList Tryz.prog ops Q rest (a.put o.dst v') w') : wpList Tryz.prog ops Q (o :: rest) a (w.alloc (.cells #[.int .i64 n] 3)) := by
  obtain ⟨i0, hi, hz0, hz1, hz2⟩ := info_parts info_int
  have ha := (Below.refl B w).alloc hB (.cells #[.int .i64 n] 3)
  have h1 := OwnR.alloc hown (.cells #[.int .i64 n] 3)
  have h2 : B ≤ (w.alloc (.cells #[.int .i64 n] 3)).heap.size := Nat.le_trans hB ha.size
  refine wpList_append_rows csI_len (by decide) csI_one13 hgd s x 22 ho B 3 i0 (.int .i64 0) 8 Tryz.underlying22 hi hz0 hz1 hz2 rfl v l hs h1 _ [n] hx (oneI13 w n) (by unfold maxLen; simp; omega) (by simp; omega) h2 fun v' w' k1 k2 => ?_
  exact hK v' w' k1 (OwnR.below h1 ha h2 k2)
end Go.Proofs.YtjmgokjljmmmgaaGreat
