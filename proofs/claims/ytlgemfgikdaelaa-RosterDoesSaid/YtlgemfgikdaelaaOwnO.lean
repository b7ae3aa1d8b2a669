/- Objects that are kept from call to call: a block of cells; a list of one's own that may begin behind its block's first cell; what a call may have changed. -/
import Derived.Test.YtlgemfgikdaelaaBss
import Derived.Deep.AppendSrc
import Derived.Laws.Slices
namespace Go.Proofs.Ytlgemfgikdaelaa
open Go.RowKit Go.ChangeShapes Go.WideShapes Go.Joins Go.Deep

/-- a block of cells that may be written -/
def Blk (w : World) (b : Nat) (vs : List Value) : Prop := ∀ j u, vs[j]? = some u → w.cell? ⟨b, j, none⟩ = some u ∧ w.frozen? ⟨b, j, none⟩ = false
theorem Blk.cell {w : World} {b : Nat} {vs : List Value} (h : Blk w b vs) (j : Nat) {u : Value} (hu : vs[j]? = some u) : w.cell? ⟨b, j, none⟩ = some u := (h j u hu).1
theorem Blk.free {w : World} {b : Nat} {vs : List Value} (h : Blk w b vs) (j : Nat) {u : Value} (hu : vs[j]? = some u) : w.frozen? ⟨b, j, none⟩ = false := (h j u hu).2
theorem Blk.lt {w : World} {b : Nat} {v : Value} {vs : List Value} (h : Blk w b (v :: vs)) : b < w.heap.size := World.block_lt_of_cell? w ⟨b, 0, none⟩ (h 0 v rfl).1
theorem Blk.same {w w' : World} {b : Nat} {vs : List Value} (h : Blk w b vs) (he : w'.heap[b]? = w.heap[b]?) : Blk w' b vs := fun j u hu =>
  ⟨(World.cell?_of_block (a := ⟨b, j, none⟩) he).trans (h j u hu).1, (World.frozen?_of_block (a := ⟨b, j, none⟩) he).trans (h j u hu).2⟩
theorem Blk.new (w : World) (vs : List Value) (t : TypeId) : Blk (w.alloc (.cells vs.toArray t)) w.heap.size vs := fun j u hu => by
  have hh : (w.alloc (.cells vs.toArray t)).heap[w.heap.size]? = some (.cells vs.toArray t) := heap_alloc_new w _
  exact ⟨by unfold World.cell?; simp only [hh]; simpa using hu, by unfold World.frozen?; simp only [hh]; simp⟩
theorem Blk.kept {w w1 : World} {b : Nat} {v : Value} {vs : List Value} (h : Blk w b (v :: vs)) (hb : Below w.heap.size w w1) : Blk w1 b (v :: vs) := h.same (hb.block b h.lt)
theorem Blk.grown {w w1 : World} {b : Nat} {v : Value} {vs : List Value} {row : Option Nat} (h : Blk w b (v :: vs)) (hg : w.grownBy w1 row) (hne : some b ≠ row) : Blk w1 b (v :: vs) := h.same (hg.block b h.lt hne)
theorem Blk.away {w : World} {b : Nat} {vs : List Value} (h : Blk w b vs) (a : Addr) (u : Value) (hne : b ≠ a.block) : Blk (w.setCell a u) b vs := h.same (Below.heap_setCell w a u b hne)
theorem Blk.set {w : World} {b : Nat} {vs : List Value} (h : Blk w b vs) (k : Nat) (u : Value) : Blk (w.setCell ⟨b, k, none⟩ u) b (vs.set k u) := by
  intro j x hx
  rw [List.getElem?_set] at hx
  by_cases hj : k = j
  · subst hj
    rw [if_pos rfl] at hx
    split at hx
    · rename_i hk
      cases hx
      obtain ⟨h1, h2⟩ := h k _ (List.getElem?_eq_getElem hk)
      exact ⟨World.cell?_setCell_same _ _ _ (by rw [h1]), by rw [World.frozen?_setCell]; exact h2⟩
    · cases hx
  · rw [if_neg hj] at hx
    obtain ⟨h1, h2⟩ := h j x hx
    exact ⟨by rw [World.cell?_setCell_other _ _ _ _ (by intro e; cases e; exact hj rfl)]; exact h1, by rw [World.frozen?_setCell]; exact h2⟩

/-- a list of one's own -/
def OwnO {α : Type} (w : World) (K : Nat) (cs : α → List Value) (v : Value) (l : List α) : Prop :=
  (v = .slice none 0 0 ∧ l = []) ∨ ∃ g o cap, v = .slice (some ⟨g, o, none⟩) l.length cap ∧ g < w.heap.size ∧ l.length ≤ cap ∧ cap ≤ maxLen ∧
    (∀ j, j < l.length * K → w.cell? ⟨g, o + j, none⟩ = (flats cs l)[j]?) ∧ ∀ j, j < cap * K → (w.cell? ⟨g, o + j, none⟩).isSome = true ∧ w.frozen? ⟨g, o + j, none⟩ = false
section
variable {α : Type} {w : World} {K : Nat} {cs : α → List Value} {v : Value} {l : List α}
theorem OwnO.nil (w : World) (K : Nat) (cs : α → List Value) : OwnO w K cs (.slice none 0 0) [] := .inl ⟨rfl, rfl⟩
theorem OwnO.lt (h : OwnO w K cs v l) : ∀ k, v.ownBlock = some k → k < w.heap.size := by
  intro k hk
  rcases h with ⟨rfl, _⟩ | ⟨g, o, cap, rfl, hg, _⟩
  · simp [Value.ownBlock] at hk
  · simp [Value.ownBlock] at hk
    omega
theorem OwnO.form (h : OwnO w K cs v l) : ∃ a c, v = .slice a l.length c := by
  rcases h with ⟨rfl, rfl⟩ | ⟨g, o, cap, rfl, _⟩
  · exact ⟨none, 0, rfl⟩
  · exact ⟨_, _, rfl⟩
theorem OwnO.same {w' : World} (h : OwnO w K cs v l) (hz : w.heap.size ≤ w'.heap.size) (he : ∀ k, v.ownBlock = some k → w'.heap[k]? = w.heap[k]?) : OwnO w' K cs v l := by
  rcases h with h0 | ⟨g, o, cap, rfl, hg, hl, hc, h1, h2⟩
  · exact .inl h0
  · have e := he g rfl
    exact .inr ⟨g, o, cap, rfl, by omega, hl, hc, fun j hj => (World.cell?_of_block (a := ⟨g, o + j, none⟩) e).trans (h1 j hj),
      fun j hj => ⟨by rw [World.cell?_of_block (a := ⟨g, o + j, none⟩) e]; exact (h2 j hj).1, (World.frozen?_of_block (a := ⟨g, o + j, none⟩) e).trans (h2 j hj).2⟩⟩
theorem OwnO.kept {w' : World} (h : OwnO w K cs v l) (hb : Below w.heap.size w w') : OwnO w' K cs v l := h.same hb.size fun k hk => hb.block k (h.lt k hk)
theorem OwnO.grown {w' : World} {row : Option Nat} (h : OwnO w K cs v l) (hg : w.grownBy w' row) (hne : ∀ k, v.ownBlock = some k → some k ≠ row) : OwnO w' K cs v l := h.same hg.size fun k hk => hg.block k (h.lt k hk) (hne k hk)
theorem OwnO.away (h : OwnO w K cs v l) (a : Addr) (u : Value) (hne : ∀ k, v.ownBlock = some k → k ≠ a.block) : OwnO (w.setCell a u) K cs v l :=
  h.same (by simp [World.setCell]) fun k hk => Below.heap_setCell w a u k (hne k hk)
theorem OwnR.own {B : Nat} {e : TypeId} (h : OwnR w B e K cs v l) : OwnO w K cs v l := by
  rcases h.2 with ⟨rfl, h0⟩ | ⟨g, cap, cur, rfl, hg, hh, hnc, hcp, hcs, htake⟩
  · exact .inl ⟨rfl, List.eq_nil_of_length_eq_zero h0⟩
  · refine .inr ⟨g, 0, cap, rfl, lt_of_block hh, hnc, hcp, fun j hj => ?_, fun j hj => ?_⟩
    · rw [← htake, List.getElem?_take_of_lt hj]
      simp [World.cell?, hh]
    · rw [Nat.zero_add]
      refine ⟨?_, by simp [World.frozen?, hh]⟩
      simp only [World.cell?, hh]
      have : cur[j]? = some (cur[j]'(by omega)) := Array.getElem?_eq_getElem _
      simp [this]
theorem OwnO.rows (hK : ∀ x, (cs x).length = K) (h : OwnO w K cs v l) : RowsAt w K cs v l := by
  rcases h with ⟨rfl, rfl⟩ | ⟨g, o, cap, rfl, hg, hl, hc, h1, h2⟩
  · exact RowsAt.nil w K cs
  · refine ⟨_, cap, rfl, hl, fun h0 => ⟨g, o, rfl, hg, fun j x hj i u hu => ?_⟩⟩
    have h3 := flats_at hK l j x hj i u hu
    have hlt := (List.getElem?_eq_some_iff.1 h3).1
    rw [flats_length hK] at hlt
    rw [Nat.add_assoc, h1 _ hlt]
    exact h3
theorem OwnO.src {P : Program} {tx e : TypeId} (ht : P.underlying tx = some (.slice e)) (hK : ∀ x, (cs x).length = K) (hone : ∀ x, ∀ u ∈ cs x, u.oneCell' = true) (h : RowsAt w K cs v l) : Src P K tx v l.length (flats cs l) w := by
  obtain ⟨a, cap, rfl, hc, hx⟩ := h
  rcases Nat.eq_zero_or_pos l.length with h0 | h0
  · have : l = [] := List.eq_nil_of_length_eq_zero h0
    subst this
    cases a with
    | none => exact Src.ofNil w ht cap
    | some a => exact Src.ofSlice w ht a 0 cap [] (by simp) (by simp) (by simp)
  · obtain ⟨g, o, rfl, hg, hcell⟩ := hx h0
    refine Src.ofSlice w ht _ _ cap (flats cs l) (flats_length hK l) (fun j u hu => ?_) fun u hu => ?_
    · obtain ⟨q, i, x, rfl, e2, e3⟩ := flats_inv hK l j u hu
      rw [add_plain, ← Nat.add_assoc]
      exact hcell q x e2 i u e3
    · obtain ⟨j, hj, rfl⟩ := List.getElem_of_mem hu
      obtain ⟨q, i, x, _, e2, e3⟩ := flats_inv hK l j _ (List.getElem?_eq_getElem hj)
      exact hone x _ (List.mem_of_getElem? e3)
theorem OwnO.hold (hK : ∀ x, (cs x).length = K) {P : Program} {base : Option Addr} {n cap : Nat} (h : OwnO w K cs (.slice base n cap) l) : (Builtin.firstCells K n (.slice base n cap)).run P w.drew = .ok (flats cs l).toArray w.drew := by
  rcases h with ⟨e, rfl⟩ | ⟨g, o, c, e, hg, hl, hc, h1, h2⟩
  · cases e
    exact run_firstCells_none w.drew K 0 0 0
  · cases e
    refine run_firstCells_some w.drew K _ _ _ _ _ (flats_length hK l) fun j u hu => ?_
    rw [add_plain]
    show w.cell? ⟨g, o + j, none⟩ = some u
    have hlt := (List.getElem?_eq_some_iff.1 hu).1
    rw [flats_length hK] at hlt
    rw [h1 j hlt]
    exact hu
theorem tape_setCells (b : Nat) : ∀ (vs : List Value) (o : Nat) (w : World), (w.setCells b o vs).tape = w.tape
  | [], _, _ => rfl
  | v :: r, o, w => by rw [World.setCells, tape_setCells b r (o + 1)]; rfl
theorem os_setCells (b : Nat) : ∀ (vs : List Value) (o : Nat) (w : World), (w.setCells b o vs).os = w.os
  | [], _, _ => rfl
  | v :: r, o, w => by rw [World.setCells, os_setCells b r (o + 1)]; rfl
theorem output_setCells (b : Nat) : ∀ (vs : List Value) (o : Nat) (w : World), (w.setCells b o vs).output = w.output
  | [], _, _ => rfl
  | v :: r, o, w => by rw [World.setCells, output_setCells b r (o + 1)]; rfl
theorem size_setCells (b : Nat) : ∀ (vs : List Value) (o : Nat) (w : World), (w.setCells b o vs).heap.size = w.heap.size
  | [], _, _ => rfl
  | v :: r, o, w => by rw [World.setCells, size_setCells b r (o + 1)]; simp [World.setCell]
theorem heap_setCells (b : Nat) {k : Nat} (hk : k ≠ b) : ∀ (vs : List Value) (o : Nat) (w : World), (w.setCells b o vs).heap[k]? = w.heap[k]?
  | [], _, _ => rfl
  | v :: r, o, w => by rw [World.setCells, heap_setCells b hk r (o + 1)]; exact Below.heap_setCell w _ v k hk
theorem flats_get_append {a b : List α} (hK : ∀ x, (cs x).length = K) (j : Nat) : (flats cs (a ++ b))[j]? = if j < a.length * K then (flats cs a)[j]? else (flats cs b)[j - a.length * K]? := by
  rw [flats_append]
  split
  · rename_i h
    exact List.getElem?_append_left (by rw [flats_length hK]; exact h)
  · rename_i h
    rw [List.getElem?_append_right (by rw [flats_length hK]; omega), flats_length hK]

/-- more behind it -/
theorem run_append_o {P : Program} (hK : ∀ x, (cs x).length = K) (hK0 : 0 < K) (hone : ∀ x, ∀ u ∈ cs x, u.oneCell' = true) (t tx ty e ex : TypeId) (i : TypeInfo) (z : Value) (ht : P.underlying t = some (.slice e)) (htx : P.underlying tx = some (.slice ex)) (hi : P.info? e = some i) (hz : i.zero = some z) (hsize : i.size = K) (hzs : z.cells.size = K)
    (h : OwnO w K cs v l) (x : Value) (m : List α) (hx : RowsAt w K cs x m) (hlen : l.length + m.length ≤ maxLen) (hbytes : (l.length + m.length) * i.bytes ≤ 140737488355328) :
    ∃ v' w', (Builtin.append_ #[t, tx] ty #[v, x]).run P w = .ok v' w' ∧ OwnO w' K cs v' (l ++ m) ∧ w.grownBy w' v.ownBlock ∧ (v'.ownBlock = v.ownBlock ∨ v'.ownBlock = some w.heap.size) := by
  have hs := OwnO.src htx hK hone hx
  have hfl := flats_length hK l
  have hfm := flats_length hK m
  have hsmall : l.length + m.length ≤ 9223372036854775807 := by simp only [maxLen] at hlen; omega
  subst hsize
  have grow : ∀ (bs : Option Addr) (c : Nat), v = .slice bs l.length c → c < l.length + m.length →
      ∃ v' w', (Builtin.append_ #[t, tx] ty #[v, x]).run P w = .ok v' w' ∧ OwnO w' i.size cs v' (l ++ m) ∧ w.grownBy w' v.ownBlock ∧ (v'.ownBlock = v.ownBlock ∨ v'.ownBlock = some w.heap.size) := by
    rintro bs c rfl hc
    have hrun := run_append_grow_src (P := P) w t tx ty e i z ht hi hz bs l.length c (flats cs l) (h.hold hK) x m.length (flats cs m) hs hc (by omega) (growslice_fits hc hbytes)
    have hge := grownCap_ge w (l.length + m.length) c e
    have hcm := grownCap_le_maxLen w (l.length + m.length) c e hlen
    refine ⟨_, _, hrun, .inr ⟨w.heap.size, 0, _, by rw [List.length_append], by simp, by rw [List.length_append]; exact hge, hcm, fun j hj => ?_, fun j hj => ?_⟩, ⟨rfl, rfl, rfl, by simp, fun k hk _ => Below.heap_alloc w.drew _ k hk⟩, .inr rfl⟩
    · have e1 := World.cell?_alloc_new w.drew ((flats cs l ++ flats cs m).toArray ++ Builtin.zeroCells z.cells (grownCap w (l.length + m.length) c e - (l.length + m.length))) e j
      rw [Nat.zero_add]
      refine e1.trans ?_
      rw [List.length_append, Nat.add_mul] at hj
      rw [Array.getElem?_append_left (by simp only [List.size_toArray, List.length_append]; omega), List.getElem?_toArray, flats_append]
    · have e1 := World.cell?_alloc_new w.drew ((flats cs l ++ flats cs m).toArray ++ Builtin.zeroCells z.cells (grownCap w (l.length + m.length) c e - (l.length + m.length))) e j
      have hsz : ((flats cs l ++ flats cs m).toArray ++ Builtin.zeroCells z.cells (grownCap w (l.length + m.length) c e - (l.length + m.length))).size = grownCap w (l.length + m.length) c e * i.size := by
        rw [Array.size_append, List.size_toArray, List.length_append, hfl, hfm, size_zeroCells, hzs, ← Nat.add_mul, ← Nat.add_mul]
        congr 1
        omega
      rw [Nat.zero_add]
      refine ⟨?_, World.frozen?_alloc_new w.drew _ _ j⟩
      have e2 : ((w.drew.alloc (.cells ((flats cs l ++ flats cs m).toArray ++ Builtin.zeroCells z.cells (grownCap w (l.length + m.length) c e - (l.length + m.length))) e)).cell? ⟨w.heap.size, j, none⟩).isSome = true := by
        refine (congrArg Option.isSome e1).trans ?_
        rw [Array.getElem?_eq_getElem (by rw [hsz]; exact hj)]
        rfl
      exact e2
  rcases h with ⟨rfl, rfl⟩ | ⟨g, o, c, rfl, hg, hl, hc, h1, h2⟩
  · by_cases hm : m.length = 0
    · have : m = [] := List.eq_nil_of_length_eq_zero hm
      subst this
      obtain ⟨xa, xc, rfl⟩ := RowsAt.form hx
      refine ⟨.slice none 0 0, w, ?_, .inl ⟨rfl, rfl⟩, ⟨rfl, rfl, rfl, Nat.le_refl _, fun _ _ _ => rfl⟩, .inl rfl⟩
      have h5 := hs.cells
      simp only [List.length_nil] at h5
      simp [Builtin.append_, run_underlying ht, run_underlying htx, sizeOf, typeInfo, hi, Builtin.lenOf, h5, flats]
    · exact grow none 0 rfl (by simp; omega)
  · by_cases hroom : l.length + m.length ≤ c
    · have hfit : (l.length + m.length) * i.size ≤ c * i.size := Nat.mul_le_mul_right _ hroom
      rw [Nat.add_mul] at hfit
      have hc1 : ∀ j, j < (flats cs m).length → (w.cell? ⟨g, o + l.length * i.size + j, none⟩).isSome = true ∧ w.frozen? ⟨g, o + l.length * i.size + j, none⟩ = false := fun j hj => by
        have := h2 (l.length * i.size + j) (by omega)
        rwa [← Nat.add_assoc] at this
      have hrun := run_append_room_src (P := P) w t tx ty e i ht hi g o l.length c x m.length (flats cs m) hs hroom (fun j hj => (hc1 j hj).1) (fun j hj => (hc1 j hj).2)
      refine ⟨_, _, hrun, .inr ⟨g, o, c, by rw [List.length_append], by rw [size_setCells]; exact hg, by rw [List.length_append]; exact hroom, hc, fun j hj => ?_, fun j hj => ?_⟩,
        ⟨os_setCells _ _ _ _, tape_setCells _ _ _ _, output_setCells _ _ _ _, by rw [size_setCells]; exact Nat.le_refl _, fun k _ hk => heap_setCells g (fun e => hk (by rw [e]; rfl)) _ _ _⟩, .inl rfl⟩
      · rw [flats_get_append hK]
        rw [List.length_append, Nat.add_mul] at hj
        split
        · rename_i h6
          rw [World.cell?_setCells_out g _ _ _ _ (fun _ _ => .inl (by show o + j < o + l.length * i.size; omega))]
          exact h1 j h6
        · rename_i h6
          have h7 : j - l.length * i.size < (flats cs m).length := by omega
          have := World.cell?_setCells_in g (flats cs m) (o + l.length * i.size) w (fun j hj => (hc1 j hj).1) (j - l.length * i.size) h7
          rw [show o + l.length * i.size + (j - l.length * i.size) = o + j by omega] at this
          rw [this, List.getElem?_eq_getElem h7]
      · refine ⟨?_, by rw [World.frozen?_setCells]; exact (h2 j hj).2⟩
        by_cases h6 : l.length * i.size ≤ j ∧ j < l.length * i.size + (flats cs m).length
        · have := World.cell?_setCells_in g (flats cs m) (o + l.length * i.size) w (fun j hj => (hc1 j hj).1) (j - l.length * i.size) (by omega)
          rw [show o + l.length * i.size + (j - l.length * i.size) = o + j by omega] at this
          rw [this]
          rfl
        · rw [World.cell?_setCells_out g _ _ _ _ (fun _ _ => by show o + j < o + l.length * i.size ∨ o + l.length * i.size + (flats cs m).length ≤ o + j; omega)]
          exact (h2 j hj).1
    · exact grow _ c rfl (by omega)

theorem wpList_append_o {P : Program} {ops : Array Oper} {rest : List Oper} {o : Oper} {a : Act} {Q : Exit → Act → World → Prop} (hgd : o.guard = none) (s x : Operand) (t tx : TypeId)
    (ho : o.op = .call { callee := .builtin .append, args := #[s, x], argTypes := #[t, tx] })
    (hK : ∀ x, (cs x).length = K) (hK0 : 0 < K) (hone : ∀ x, ∀ u ∈ cs x, u.oneCell' = true) (e ex : TypeId) (i : TypeInfo) (z : Value) (ht : P.underlying t = some (.slice e)) (htx : P.underlying tx = some (.slice ex)) (hi : P.info? e = some i) (hz : i.zero = some z) (hsize : i.size = K) (hzs : z.cells.size = K)
    (hs : a.eval s = v) (h : OwnO w K cs v l) (vx : Value) (m : List α) (hvx : a.eval x = vx) (hx : RowsAt w K cs vx m) (hlen : l.length + m.length ≤ maxLen) (hbytes : (l.length + m.length) * i.bytes ≤ 140737488355328)
    (hk : ∀ v' w', OwnO w' K cs v' (l ++ m) → w.grownBy w' v.ownBlock → (v'.ownBlock = v.ownBlock ∨ v'.ownBlock = some w.heap.size) → wpList P ops Q rest (a.put o.dst v') w') : wpList P ops Q (o :: rest) a w := by
  refine wpList_plain hgd fun K' hK' => ?_
  obtain ⟨v', w', hrun, h1, h2, h3⟩ := run_append_o (P := P) hK hK0 hone t tx o.type e ex i z ht htx hi hz hsize hzs h vx m hx hlen hbytes
  unfold Oper.wp
  simp [execOp, ho, resolve, invoke, builtin, hs, hvx, hrun, Result.andThen]
  exact hK' _ _ (hk v' w' h1 h2 h3)

/-- its rest -/
theorem OwnO.drop {a : Option Addr} {n cap : Nat} (h : OwnO w K cs (.slice a n cap) l) (k : Nat) (hk : k ≤ l.length) (hK : ∀ x, (cs x).length = K) (a' : Option Addr) (ha : k < cap → ∀ g o, a = some ⟨g, o, none⟩ → a' = some ⟨g, o + k * K, none⟩) (ha' : cap ≤ k → a' = a) : OwnO w K cs (.slice a' (n - k) (cap - k)) (l.drop k) := by
  rcases h with ⟨e, rfl⟩ | ⟨g, o, c, e, hg, hl, hc, h1, h2⟩
  · cases e
    simp at hk
    subst hk
    rw [ha' (Nat.le_refl _)]
    exact .inl ⟨rfl, rfl⟩
  · cases e
    by_cases hkc : k < cap
    · rw [ha hkc g o rfl]
      refine .inr ⟨g, o + k * K, cap - k, by rw [List.length_drop], hg, by rw [List.length_drop]; omega, by omega, fun j hj => ?_, fun j hj => ?_⟩
      · rw [List.length_drop, Nat.sub_mul] at hj
        have hkl : k * K ≤ l.length * K := Nat.mul_le_mul_right _ hk
        have h3 : (flats cs l)[k * K + j]? = (flats cs (l.drop k))[j]? := by
          have h4 : flats cs l = flats cs (l.take k) ++ flats cs (l.drop k) := by rw [← flats_append, List.take_append_drop]
          have h5 : (flats cs (l.take k)).length = k * K := by rw [flats_length hK, List.length_take, Nat.min_eq_left hk]
          rw [h4, List.getElem?_append_right (by omega), h5]
          congr 1
          omega
        rw [← h3, Nat.add_assoc]
        exact h1 _ (by omega)
      · rw [Nat.sub_mul] at hj
        rw [Nat.add_assoc]
        exact h2 _ (by omega)
    · have hkl : k = l.length := by omega
      subst hkl
      rw [ha' (by omega)]
      refine .inr ⟨g, o, cap - l.length, by rw [List.length_drop], hg, by rw [List.length_drop]; omega, by omega, fun j hj => ?_, fun j hj => ?_⟩
      · rw [List.length_drop, Nat.sub_self, Nat.zero_mul] at hj
        omega
      · rw [show cap - l.length = 0 by omega, Nat.zero_mul] at hj
        omega
end

/-- what lies outside F is as it was -/
structure Only (F : Nat → Prop) (w w' : World) : Prop where
  os : w'.os = w.os
  tape : w'.tape = w.tape
  output : w'.output = w.output
  size : w.heap.size ≤ w'.heap.size
  block : ∀ k, k < w.heap.size → ¬ F k → w'.heap[k]? = w.heap[k]?
/-- .. and what an object has behind it is of what it had, or new -/
structure Mv (F F' : Nat → Prop) (w w' : World) : Prop where
  only : Only F w w'
  sub : ∀ k, F' k → F k ∨ w.heap.size ≤ k
section
variable {F F' F'' : Nat → Prop} {w w' w'' : World}
theorem Only.refl (F : Nat → Prop) (w : World) : Only F w w := ⟨rfl, rfl, rfl, Nat.le_refl _, fun _ _ _ => rfl⟩
theorem Only.of_below (h : Below w.heap.size w w') : Only F w w' := ⟨h.os, h.tape, h.output, h.size, fun k hk _ => h.block k hk⟩
theorem Only.below {B : Nat} (h : Only F w w') (hF : ∀ k, F k → B ≤ k) (hB : B ≤ w.heap.size) : Below B w w' := ⟨h.os, h.tape, h.output, h.size, fun k hk => h.block k (by omega) fun hf => by have := hF k hf; omega⟩
theorem Only.mono (h : Only F w w') (hs : ∀ k, F k → F' k) : Only F' w w' := ⟨h.os, h.tape, h.output, h.size, fun k hk hf => h.block k hk fun h1 => hf (hs k h1)⟩
theorem Only.trans (h : Only F w w') (h2 : Only F w' w'') : Only F w w'' :=
  ⟨h2.os.trans h.os, h2.tape.trans h.tape, h2.output.trans h.output, Nat.le_trans h.size h2.size, fun k hk hf => (h2.block k (Nat.lt_of_lt_of_le hk h.size) hf).trans (h.block k hk hf)⟩
theorem Only.grown {row : Option Nat} (hg : w.grownBy w' row) (hr : ∀ k, row = some k → F k) : Only F w w' := ⟨hg.os, hg.tape, hg.output, hg.size, fun k hk hf => hg.block k hk fun e => hf (hr k e.symm)⟩
theorem Only.set (h : Only F w w') (a : Addr) (u : Value) (hf : F a.block) : Only F w (w'.setCell a u) :=
  h.trans ⟨rfl, rfl, rfl, by simp [World.setCell], fun k _ hk => Below.heap_setCell w' a u k fun e => hk (e ▸ hf)⟩
theorem Mv.refl (F : Nat → Prop) (w : World) : Mv F F w w := ⟨Only.refl _ _, fun _ h => .inl h⟩
theorem Mv.of_below (h : Below w.heap.size w w') : Mv F F w w' := ⟨Only.of_below h, fun _ h => .inl h⟩
theorem Mv.trans (h : Mv F F' w w') (h2 : Mv F' F'' w' w'') : Mv F F'' w w'' := by
  refine ⟨⟨h2.only.os.trans h.only.os, h2.only.tape.trans h.only.tape, h2.only.output.trans h.only.output, Nat.le_trans h.only.size h2.only.size, fun k hk hf => ?_⟩, fun k hk => ?_⟩
  · refine (h2.only.block k (Nat.lt_of_lt_of_le hk h.only.size) fun h3 => ?_).trans (h.only.block k hk hf)
    rcases h.sub k h3 with h4 | h4
    · exact hf h4
    · omega
  · rcases h2.sub k hk with h3 | h3
    · exact h.sub k h3
    · exact .inr (Nat.le_trans h.only.size h3)
theorem Mv.off (h : Mv F F' w w') {k : Nat} (hk : k < w.heap.size) (hf : ¬ F k) : ¬ F' k := fun h1 => (h.sub k h1).elim hf (fun h2 => by omega)
theorem Mv.from_ {B : Nat} (h : Mv F F' w w') (hF : ∀ k, F k → B ≤ k) (hB : B ≤ w.heap.size) : ∀ k, F' k → B ≤ k := fun k hk => (h.sub k hk).elim (hF k) (fun h2 => Nat.le_trans hB h2)
end
end Go.Proofs.Ytlgemfgikdaelaa
