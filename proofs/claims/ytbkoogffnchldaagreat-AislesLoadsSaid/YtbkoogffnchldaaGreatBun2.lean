/- Texts of this proof, joined: OwnO; MapG; MapB; MapR; GraphMath. -/
import Derived.Test.YtbkoogffnchldaaGreatBun1
import Derived.Deep.AppendSrc
import Derived.Laws.Slices
import Derived.Maps.OwnSet
import Derived.Maps.OwnOps
import Derived.WalkArith
import Derived.Maps.RangeWalk
import Derived.Test.YtbkoogffnchldaaGreatRows
/- Objects that are kept from call to call: a block of cells; a list of one's own that may begin behind its block's first cell; what a call may have changed. -/
namespace Go.Proofs.YtbkoogffnchldaaGreat
open Go.RowKit Go.ChangeShapes Go.WideShapes Go.Joins Go.Deep

/-- a block of cells that may be written -/
def Blk (w : World) (b : Nat) (vs : List Value) : Prop := ∀ j u, vs[j]? = some u → w.cell? ⟨b, j, none⟩ = some u ∧ w.frozen? ⟨b, j, none⟩ = false
theorem Blk.cell {w : World} {b : Nat} {vs : List Value} (h : Blk w b vs) (j : Nat) {u : Value} (hu : vs[j]? = some u) : w.cell? ⟨b, j, none⟩ = some u := (h j u hu).1
theorem Blk.free {w : World} {b : Nat} {vs : List Value} (h : Blk w b vs) (j : Nat) {u : Value} (hu : vs[j]? = some u) : w.frozen? ⟨b, j, none⟩ = false := (h j u hu).2
theorem Blk.lt {w : World} {b : Nat} {v : Value} {vs : List Value} (h : Blk w b (v :: vs)) : b < w.heap.size := World.block_lt_of_cell? w ⟨b, 0, none⟩ (h 0 v rfl).1
theorem Blk.same {w w' : World} {b : Nat} {vs : List Value} (h : Blk w b vs) (he : w'.heap[b]? = w.heap[b]?) : Blk w' b vs := fun j u hu =>
  ⟨(World.cell?_of_block (a := ⟨b, j, none⟩) he).trans (h j u hu).1, (World.frozen?_of_block (a := ⟨b, j, none⟩) he).trans (h j u hu).2⟩
theorem Blk.new (w : World) (vs : List Value) (t : TypeId) : Blk (w.alloc (.cells vs.toArray t)) w.heap.size vs := fun j u hu => by
  have hh : (w.alloc (.cells vs.toArray t)).heap[w.heap.size]? = some (.cells vs.toArray t) := heap_alloc_new w _
  exact ⟨by unfold World.cell?; simp only [hh]; simpa using hu, by unfold World.frozen?; simp only [hh]; simp⟩
theorem Blk.kept {w w1 : World} {b : Nat} {v : Value} {vs : List Value} (h : Blk w b (v :: vs)) (hb : Below w.heap.size w w1) : Blk w1 b (v :: vs) := h.same (hb.block b h.lt)
theorem Blk.grown {w w1 : World} {b : Nat} {v : Value} {vs : List Value} {row : Option Nat} (h : Blk w b (v :: vs)) (hg : w.grownBy w1 row) (hne : some b ≠ row) : Blk w1 b (v :: vs) := h.same (hg.block b h.lt hne)
theorem Blk.away {w : World} {b : Nat} {vs : List Value} (h : Blk w b vs) (a : Addr) (u : Value) (hne : b ≠ a.block) : Blk (w.setCell a u) b vs := h.same (Below.heap_setCell w a u b hne)
theorem Blk.set {w : World} {b : Nat} {vs : List Value} (h : Blk w b vs) (k : Nat) (u : Value) : Blk (w.setCell ⟨b, k, none⟩ u) b (vs.set k u) := by
  intro j x hx
  rw [List.getElem?_set] at hx
  by_cases hj : k = j
  · subst hj
    rw [if_pos rfl] at hx
    split at hx
    · rename_i hk
      cases hx
      obtain ⟨h1, h2⟩ := h k _ (List.getElem?_eq_getElem hk)
      exact ⟨World.cell?_setCell_same _ _ _ (by rw [h1]), by rw [World.frozen?_setCell]; exact h2⟩
    · cases hx
  · rw [if_neg hj] at hx
    obtain ⟨h1, h2⟩ := h j x hx
    exact ⟨by rw [World.cell?_setCell_other _ _ _ _ (by intro e; cases e; exact hj rfl)]; exact h1, by rw [World.frozen?_setCell]; exact h2⟩

/-- a list of one's own -/
def OwnO {α : Type} (w : World) (K : Nat) (cs : α → List Value) (v : Value) (l : List α) : Prop :=
  (v = .slice none 0 0 ∧ l = []) ∨ ∃ g o cap, v = .slice (some ⟨g, o, none⟩) l.length cap ∧ g < w.heap.size ∧ l.length ≤ cap ∧ cap ≤ maxLen ∧
    (∀ j, j < l.length * K → w.cell? ⟨g, o + j, none⟩ = (flats cs l)[j]?) ∧ ∀ j, j < cap * K → (w.cell? ⟨g, o + j, none⟩).isSome = true ∧ w.frozen? ⟨g, o + j, none⟩ = false
section
variable {α : Type} {w : World} {K : Nat} {cs : α → List Value} {v : Value} {l : List α}
theorem OwnO.nil (w : World) (K : Nat) (cs : α → List Value) : OwnO w K cs (.slice none 0 0) [] := .inl ⟨rfl, rfl⟩
theorem OwnO.lt (h : OwnO w K cs v l) : ∀ k, v.ownBlock = some k → k < w.heap.size := by
  intro k hk
  rcases h with ⟨rfl, _⟩ | ⟨g, o, cap, rfl, hg, _⟩
  · simp [Value.ownBlock] at hk
  · simp [Value.ownBlock] at hk
    omega
theorem OwnO.form (h : OwnO w K cs v l) : ∃ a c, v = .slice a l.length c := by
  rcases h with ⟨rfl, rfl⟩ | ⟨g, o, cap, rfl, _⟩
  · exact ⟨none, 0, rfl⟩
  · exact ⟨_, _, rfl⟩
theorem OwnO.same {w' : World} (h : OwnO w K cs v l) (hz : w.heap.size ≤ w'.heap.size) (he : ∀ k, v.ownBlock = some k → w'.heap[k]? = w.heap[k]?) : OwnO w' K cs v l := by
  rcases h with h0 | ⟨g, o, cap, rfl, hg, hl, hc, h1, h2⟩
  · exact .inl h0
  · have e := he g rfl
    exact .inr ⟨g, o, cap, rfl, by omega, hl, hc, fun j hj => (World.cell?_of_block (a := ⟨g, o + j, none⟩) e).trans (h1 j hj),
      fun j hj => ⟨by rw [World.cell?_of_block (a := ⟨g, o + j, none⟩) e]; exact (h2 j hj).1, (World.frozen?_of_block (a := ⟨g, o + j, none⟩) e).trans (h2 j hj).2⟩⟩
theorem OwnO.kept {w' : World} (h : OwnO w K cs v l) (hb : Below w.heap.size w w') : OwnO w' K cs v l := h.same hb.size fun k hk => hb.block k (h.lt k hk)
theorem OwnO.grown {w' : World} {row : Option Nat} (h : OwnO w K cs v l) (hg : w.grownBy w' row) (hne : ∀ k, v.ownBlock = some k → some k ≠ row) : OwnO w' K cs v l := h.same hg.size fun k hk => hg.block k (h.lt k hk) (hne k hk)
theorem OwnO.away (h : OwnO w K cs v l) (a : Addr) (u : Value) (hne : ∀ k, v.ownBlock = some k → k ≠ a.block) : OwnO (w.setCell a u) K cs v l :=
  h.same (by simp [World.setCell]) fun k hk => Below.heap_setCell w a u k (hne k hk)
theorem OwnR.own {B : Nat} {e : TypeId} (h : OwnR w B e K cs v l) : OwnO w K cs v l := by
  rcases h.2 with ⟨rfl, h0⟩ | ⟨g, cap, cur, rfl, hg, hh, hnc, hcp, hcs, htake⟩
  · exact .inl ⟨rfl, List.eq_nil_of_length_eq_zero h0⟩
  · refine .inr ⟨g, 0, cap, rfl, lt_of_block hh, hnc, hcp, fun j hj => ?_, fun j hj => ?_⟩
    · rw [← htake, List.getElem?_take_of_lt hj]
      simp [World.cell?, hh]
    · rw [Nat.zero_add]
      refine ⟨?_, by simp [World.frozen?, hh]⟩
      simp only [World.cell?, hh]
      have : cur[j]? = some (cur[j]'(by omega)) := Array.getElem?_eq_getElem _
      simp [this]
theorem OwnO.rows (hK : ∀ x, (cs x).length = K) (h : OwnO w K cs v l) : RowsAt w K cs v l := by
  rcases h with ⟨rfl, rfl⟩ | ⟨g, o, cap, rfl, hg, hl, hc, h1, h2⟩
  · exact RowsAt.nil w K cs
  · refine ⟨_, cap, rfl, hl, fun h0 => ⟨g, o, rfl, hg, fun j x hj i u hu => ?_⟩⟩
    have h3 := flats_at hK l j x hj i u hu
    have hlt := (List.getElem?_eq_some_iff.1 h3).1
    rw [flats_length hK] at hlt
    rw [Nat.add_assoc, h1 _ hlt]
    exact h3
theorem OwnO.src {P : Program} {tx e : TypeId} (ht : P.underlying tx = some (.slice e)) (hK : ∀ x, (cs x).length = K) (hone : ∀ x, ∀ u ∈ cs x, u.oneCell' = true) (h : RowsAt w K cs v l) : Src P K tx v l.length (flats cs l) w := by
  obtain ⟨a, cap, rfl, hc, hx⟩ := h
  rcases Nat.eq_zero_or_pos l.length with h0 | h0
  · have : l = [] := List.eq_nil_of_length_eq_zero h0
    subst this
    cases a with
    | none => exact Src.ofNil w ht cap
    | some a => exact Src.ofSlice w ht a 0 cap [] (by simp) (by simp) (by simp)
  · obtain ⟨g, o, rfl, hg, hcell⟩ := hx h0
    refine Src.ofSlice w ht _ _ cap (flats cs l) (flats_length hK l) (fun j u hu => ?_) fun u hu => ?_
    · obtain ⟨q, i, x, rfl, e2, e3⟩ := flats_inv hK l j u hu
      rw [add_plain, ← Nat.add_assoc]
      exact hcell q x e2 i u e3
    · obtain ⟨j, hj, rfl⟩ := List.getElem_of_mem hu
      obtain ⟨q, i, x, _, e2, e3⟩ := flats_inv hK l j _ (List.getElem?_eq_getElem hj)
      exact hone x _ (List.mem_of_getElem? e3)
theorem OwnO.hold (hK : ∀ x, (cs x).length = K) {P : Program} {base : Option Addr} {n cap : Nat} (h : OwnO w K cs (.slice base n cap) l) : (Builtin.firstCells K n (.slice base n cap)).run P w.drew = .ok (flats cs l).toArray w.drew := by
  rcases h with ⟨e, rfl⟩ | ⟨g, o, c, e, hg, hl, hc, h1, h2⟩
  · cases e
    exact run_firstCells_none w.drew K 0 0 0
  · cases e
    refine run_firstCells_some w.drew K _ _ _ _ _ (flats_length hK l) fun j u hu => ?_
    rw [add_plain]
    show w.cell? ⟨g, o + j, none⟩ = some u
    have hlt := (List.getElem?_eq_some_iff.1 hu).1
    rw [flats_length hK] at hlt
    rw [h1 j hlt]
    exact hu
theorem tape_setCells (b : Nat) : ∀ (vs : List Value) (o : Nat) (w : World), (w.setCells b o vs).tape = w.tape
  | [], _, _ => rfl
  | v :: r, o, w => by rw [World.setCells, tape_setCells b r (o + 1)]; rfl
theorem os_setCells (b : Nat) : ∀ (vs : List Value) (o : Nat) (w : World), (w.setCells b o vs).os = w.os
  | [], _, _ => rfl
  | v :: r, o, w => by rw [World.setCells, os_setCells b r (o + 1)]; rfl
theorem output_setCells (b : Nat) : ∀ (vs : List Value) (o : Nat) (w : World), (w.setCells b o vs).output = w.output
  | [], _, _ => rfl
  | v :: r, o, w => by rw [World.setCells, output_setCells b r (o + 1)]; rfl
theorem size_setCells (b : Nat) : ∀ (vs : List Value) (o : Nat) (w : World), (w.setCells b o vs).heap.size = w.heap.size
  | [], _, _ => rfl
  | v :: r, o, w => by rw [World.setCells, size_setCells b r (o + 1)]; simp [World.setCell]
theorem heap_setCells (b : Nat) {k : Nat} (hk : k ≠ b) : ∀ (vs : List Value) (o : Nat) (w : World), (w.setCells b o vs).heap[k]? = w.heap[k]?
  | [], _, _ => rfl
  | v :: r, o, w => by rw [World.setCells, heap_setCells b hk r (o + 1)]; exact Below.heap_setCell w _ v k hk
theorem flats_get_append {a b : List α} (hK : ∀ x, (cs x).length = K) (j : Nat) : (flats cs (a ++ b))[j]? = if j < a.length * K then (flats cs a)[j]? else (flats cs b)[j - a.length * K]? := by
  rw [flats_append]
  split
  · rename_i h
    exact List.getElem?_append_left (by rw [flats_length hK]; exact h)
  · rename_i h
    rw [List.getElem?_append_right (by rw [flats_length hK]; omega), flats_length hK]

/-- more behind it -/
theorem run_append_o {P : Program} (hK : ∀ x, (cs x).length = K) (hK0 : 0 < K) (hone : ∀ x, ∀ u ∈ cs x, u.oneCell' = true) (t tx ty e ex : TypeId) (i : TypeInfo) (z : Value) (ht : P.underlying t = some (.slice e)) (htx : P.underlying tx = some (.slice ex)) (hi : P.info? e = some i) (hz : i.zero = some z) (hsize : i.size = K) (hzs : z.cells.size = K)
    (h : OwnO w K cs v l) (x : Value) (m : List α) (hx : RowsAt w K cs x m) (hlen : l.length + m.length ≤ maxLen) (hbytes : (l.length + m.length) * i.bytes ≤ 140737488355328) :
    ∃ v' w', (Builtin.append_ #[t, tx] ty #[v, x]).run P w = .ok v' w' ∧ OwnO w' K cs v' (l ++ m) ∧ w.grownBy w' v.ownBlock ∧ (v'.ownBlock = v.ownBlock ∨ v'.ownBlock = some w.heap.size) := by
  have hs := OwnO.src htx hK hone hx
  have hfl := flats_length hK l
  have hfm := flats_length hK m
  have hsmall : l.length + m.length ≤ 9223372036854775807 := by simp only [maxLen] at hlen; omega
  subst hsize
  have grow : ∀ (bs : Option Addr) (c : Nat), v = .slice bs l.length c → c < l.length + m.length →
      ∃ v' w', (Builtin.append_ #[t, tx] ty #[v, x]).run P w = .ok v' w' ∧ OwnO w' i.size cs v' (l ++ m) ∧ w.grownBy w' v.ownBlock ∧ (v'.ownBlock = v.ownBlock ∨ v'.ownBlock = some w.heap.size) := by
    rintro bs c rfl hc
    have hrun := run_append_grow_src (P := P) w t tx ty e i z ht hi hz bs l.length c (flats cs l) (h.hold hK) x m.length (flats cs m) hs hc (by omega) (growslice_fits hc hbytes)
    have hge := grownCap_ge w (l.length + m.length) c e
    have hcm := grownCap_le_maxLen w (l.length + m.length) c e hlen
    refine ⟨_, _, hrun, .inr ⟨w.heap.size, 0, _, by rw [List.length_append], by simp, by rw [List.length_append]; exact hge, hcm, fun j hj => ?_, fun j hj => ?_⟩, ⟨rfl, rfl, rfl, by simp, fun k hk _ => Below.heap_alloc w.drew _ k hk⟩, .inr rfl⟩
    · have e1 := World.cell?_alloc_new w.drew ((flats cs l ++ flats cs m).toArray ++ Builtin.zeroCells z.cells (grownCap w (l.length + m.length) c e - (l.length + m.length))) e j
      rw [Nat.zero_add]
      refine e1.trans ?_
      rw [List.length_append, Nat.add_mul] at hj
      rw [Array.getElem?_append_left (by simp only [List.size_toArray, List.length_append]; omega), List.getElem?_toArray, flats_append]
    · have e1 := World.cell?_alloc_new w.drew ((flats cs l ++ flats cs m).toArray ++ Builtin.zeroCells z.cells (grownCap w (l.length + m.length) c e - (l.length + m.length))) e j
      have hsz : ((flats cs l ++ flats cs m).toArray ++ Builtin.zeroCells z.cells (grownCap w (l.length + m.length) c e - (l.length + m.length))).size = grownCap w (l.length + m.length) c e * i.size := by
        rw [Array.size_append, List.size_toArray, List.length_append, hfl, hfm, size_zeroCells, hzs, ← Nat.add_mul, ← Nat.add_mul]
        congr 1
        omega
      rw [Nat.zero_add]
      refine ⟨?_, World.frozen?_alloc_new w.drew _ _ j⟩
      have e2 : ((w.drew.alloc (.cells ((flats cs l ++ flats cs m).toArray ++ Builtin.zeroCells z.cells (grownCap w (l.length + m.length) c e - (l.length + m.length))) e)).cell? ⟨w.heap.size, j, none⟩).isSome = true := by
        refine (congrArg Option.isSome e1).trans ?_
        rw [Array.getElem?_eq_getElem (by rw [hsz]; exact hj)]
        rfl
      exact e2
  rcases h with ⟨rfl, rfl⟩ | ⟨g, o, c, rfl, hg, hl, hc, h1, h2⟩
  · by_cases hm : m.length = 0
    · have : m = [] := List.eq_nil_of_length_eq_zero hm
      subst this
      obtain ⟨xa, xc, rfl⟩ := RowsAt.form hx
      refine ⟨.slice none 0 0, w, ?_, .inl ⟨rfl, rfl⟩, ⟨rfl, rfl, rfl, Nat.le_refl _, fun _ _ _ => rfl⟩, .inl rfl⟩
      have h5 := hs.cells
      simp only [List.length_nil] at h5
      simp [Builtin.append_, run_underlying ht, run_underlying htx, sizeOf, typeInfo, hi, Builtin.lenOf, h5, flats]
    · exact grow none 0 rfl (by simp; omega)
  · by_cases hroom : l.length + m.length ≤ c
    · have hfit : (l.length + m.length) * i.size ≤ c * i.size := Nat.mul_le_mul_right _ hroom
      rw [Nat.add_mul] at hfit
      have hc1 : ∀ j, j < (flats cs m).length → (w.cell? ⟨g, o + l.length * i.size + j, none⟩).isSome = true ∧ w.frozen? ⟨g, o + l.length * i.size + j, none⟩ = false := fun j hj => by
        have := h2 (l.length * i.size + j) (by omega)
        rwa [← Nat.add_assoc] at this
      have hrun := run_append_room_src (P := P) w t tx ty e i ht hi g o l.length c x m.length (flats cs m) hs hroom (fun j hj => (hc1 j hj).1) (fun j hj => (hc1 j hj).2)
      refine ⟨_, _, hrun, .inr ⟨g, o, c, by rw [List.length_append], by rw [size_setCells]; exact hg, by rw [List.length_append]; exact hroom, hc, fun j hj => ?_, fun j hj => ?_⟩,
        ⟨os_setCells _ _ _ _, tape_setCells _ _ _ _, output_setCells _ _ _ _, by rw [size_setCells]; exact Nat.le_refl _, fun k _ hk => heap_setCells g (fun e => hk (by rw [e]; rfl)) _ _ _⟩, .inl rfl⟩
      · rw [flats_get_append hK]
        rw [List.length_append, Nat.add_mul] at hj
        split
        · rename_i h6
          rw [World.cell?_setCells_out g _ _ _ _ (fun _ _ => .inl (by show o + j < o + l.length * i.size; omega))]
          exact h1 j h6
        · rename_i h6
          have h7 : j - l.length * i.size < (flats cs m).length := by omega
          have := World.cell?_setCells_in g (flats cs m) (o + l.length * i.size) w (fun j hj => (hc1 j hj).1) (j - l.length * i.size) h7
          rw [show o + l.length * i.size + (j - l.length * i.size) = o + j by omega] at this
          rw [this, List.getElem?_eq_getElem h7]
      · refine ⟨?_, by rw [World.frozen?_setCells]; exact (h2 j hj).2⟩
        by_cases h6 : l.length * i.size ≤ j ∧ j < l.length * i.size + (flats cs m).length
        · have := World.cell?_setCells_in g (flats cs m) (o + l.length * i.size) w (fun j hj => (hc1 j hj).1) (j - l.length * i.size) (by omega)
          rw [show o + l.length * i.size + (j - l.length * i.size) = o + j by omega] at this
          rw [this]
          rfl
        · rw [World.cell?_setCells_out g _ _ _ _ (fun _ _ => by show o + j < o + l.length * i.size ∨ o + l.length * i.size + (flats cs m).length ≤ o + j; omega)]
          exact (h2 j hj).1
    · exact grow _ c rfl (by omega)

theorem wpList_append_o {P : Program} {ops : Array Oper} {rest : List Oper} {o : Oper} {a : Act} {Q : Exit → Act → World → Prop} (hgd : o.guard = none) (s x : Operand) (t tx : TypeId)
    (ho : o.op = .call { callee := .builtin .append, args := #[s, x], argTypes := #[t, tx] })
    (hK : ∀ x, (cs x).length = K) (hK0 : 0 < K) (hone : ∀ x, ∀ u ∈ cs x, u.oneCell' = true) (e ex : TypeId) (i : TypeInfo) (z : Value) (ht : P.underlying t = some (.slice e)) (htx : P.underlying tx = some (.slice ex)) (hi : P.info? e = some i) (hz : i.zero = some z) (hsize : i.size = K) (hzs : z.cells.size = K)
    (hs : a.eval s = v) (h : OwnO w K cs v l) (vx : Value) (m : List α) (hvx : a.eval x = vx) (hx : RowsAt w K cs vx m) (hlen : l.length + m.length ≤ maxLen) (hbytes : (l.length + m.length) * i.bytes ≤ 140737488355328)
    (hk : ∀ v' w', OwnO w' K cs v' (l ++ m) → w.grownBy w' v.ownBlock → (v'.ownBlock = v.ownBlock ∨ v'.ownBlock = some w.heap.size) → wpList P ops Q rest (a.put o.dst v') w') : wpList P ops Q (o :: rest) a w := by
  refine wpList_plain hgd fun K' hK' => ?_
  obtain ⟨v', w', hrun, h1, h2, h3⟩ := run_append_o (P := P) hK hK0 hone t tx o.type e ex i z ht htx hi hz hsize hzs h vx m hx hlen hbytes
  unfold Oper.wp
  simp [execOp, ho, resolve, invoke, builtin, hs, hvx, hrun, Result.andThen]
  exact hK' _ _ (hk v' w' h1 h2 h3)

/-- its rest -/
theorem OwnO.drop {a : Option Addr} {n cap : Nat} (h : OwnO w K cs (.slice a n cap) l) (k : Nat) (hk : k ≤ l.length) (hK : ∀ x, (cs x).length = K) (a' : Option Addr) (ha : k < cap → ∀ g o, a = some ⟨g, o, none⟩ → a' = some ⟨g, o + k * K, none⟩) (ha' : cap ≤ k → a' = a) : OwnO w K cs (.slice a' (n - k) (cap - k)) (l.drop k) := by
  rcases h with ⟨e, rfl⟩ | ⟨g, o, c, e, hg, hl, hc, h1, h2⟩
  · cases e
    simp at hk
    subst hk
    rw [ha' (Nat.le_refl _)]
    exact .inl ⟨rfl, rfl⟩
  · cases e
    by_cases hkc : k < cap
    · rw [ha hkc g o rfl]
      refine .inr ⟨g, o + k * K, cap - k, by rw [List.length_drop], hg, by rw [List.length_drop]; omega, by omega, fun j hj => ?_, fun j hj => ?_⟩
      · rw [List.length_drop, Nat.sub_mul] at hj
        have hkl : k * K ≤ l.length * K := Nat.mul_le_mul_right _ hk
        have h3 : (flats cs l)[k * K + j]? = (flats cs (l.drop k))[j]? := by
          have h4 : flats cs l = flats cs (l.take k) ++ flats cs (l.drop k) := by rw [← flats_append, List.take_append_drop]
          have h5 : (flats cs (l.take k)).length = k * K := by rw [flats_length hK, List.length_take, Nat.min_eq_left hk]
          rw [h4, List.getElem?_append_right (by omega), h5]
          congr 1
          omega
        rw [← h3, Nat.add_assoc]
        exact h1 _ (by omega)
      · rw [Nat.sub_mul] at hj
        rw [Nat.add_assoc]
        exact h2 _ (by omega)
    · have hkl : k = l.length := by omega
      subst hkl
      rw [ha' (by omega)]
      refine .inr ⟨g, o, cap - l.length, by rw [List.length_drop], hg, by rw [List.length_drop]; omega, by omega, fun j hj => ?_, fun j hj => ?_⟩
      · rw [List.length_drop, Nat.sub_self, Nat.zero_mul] at hj
        omega
      · rw [show cap - l.length = 0 by omega, Nat.zero_mul] at hj
        omega
end

/-- what lies outside F is as it was -/
structure Only (F : Nat → Prop) (w w' : World) : Prop where
  os : w'.os = w.os
  tape : w'.tape = w.tape
  output : w'.output = w.output
  size : w.heap.size ≤ w'.heap.size
  block : ∀ k, k < w.heap.size → ¬ F k → w'.heap[k]? = w.heap[k]?
/-- .. and what an object has behind it is of what it had, or new -/
structure Mv (F F' : Nat → Prop) (w w' : World) : Prop where
  only : Only F w w'
  sub : ∀ k, F' k → F k ∨ w.heap.size ≤ k
section
variable {F F' F'' : Nat → Prop} {w w' w'' : World}
theorem Only.refl (F : Nat → Prop) (w : World) : Only F w w := ⟨rfl, rfl, rfl, Nat.le_refl _, fun _ _ _ => rfl⟩
theorem Only.of_below (h : Below w.heap.size w w') : Only F w w' := ⟨h.os, h.tape, h.output, h.size, fun k hk _ => h.block k hk⟩
theorem Only.below {B : Nat} (h : Only F w w') (hF : ∀ k, F k → B ≤ k) (hB : B ≤ w.heap.size) : Below B w w' := ⟨h.os, h.tape, h.output, h.size, fun k hk => h.block k (by omega) fun hf => by have := hF k hf; omega⟩
theorem Only.mono (h : Only F w w') (hs : ∀ k, F k → F' k) : Only F' w w' := ⟨h.os, h.tape, h.output, h.size, fun k hk hf => h.block k hk fun h1 => hf (hs k h1)⟩
theorem Only.trans (h : Only F w w') (h2 : Only F w' w'') : Only F w w'' :=
  ⟨h2.os.trans h.os, h2.tape.trans h.tape, h2.output.trans h.output, Nat.le_trans h.size h2.size, fun k hk hf => (h2.block k (Nat.lt_of_lt_of_le hk h.size) hf).trans (h.block k hk hf)⟩
theorem Only.grown {row : Option Nat} (hg : w.grownBy w' row) (hr : ∀ k, row = some k → F k) : Only F w w' := ⟨hg.os, hg.tape, hg.output, hg.size, fun k hk hf => hg.block k hk fun e => hf (hr k e.symm)⟩
theorem Only.set (h : Only F w w') (a : Addr) (u : Value) (hf : F a.block) : Only F w (w'.setCell a u) :=
  h.trans ⟨rfl, rfl, rfl, by simp [World.setCell], fun k _ hk => Below.heap_setCell w' a u k fun e => hk (e ▸ hf)⟩
theorem Mv.refl (F : Nat → Prop) (w : World) : Mv F F w w := ⟨Only.refl _ _, fun _ h => .inl h⟩
theorem Mv.of_below (h : Below w.heap.size w w') : Mv F F w w' := ⟨Only.of_below h, fun _ h => .inl h⟩
theorem Mv.trans (h : Mv F F' w w') (h2 : Mv F' F'' w' w'') : Mv F F'' w w'' := by
  refine ⟨⟨h2.only.os.trans h.only.os, h2.only.tape.trans h.only.tape, h2.only.output.trans h.only.output, Nat.le_trans h.only.size h2.only.size, fun k hk hf => ?_⟩, fun k hk => ?_⟩
  · refine (h2.only.block k (Nat.lt_of_lt_of_le hk h.only.size) fun h3 => ?_).trans (h.only.block k hk hf)
    rcases h.sub k h3 with h4 | h4
    · exact hf h4
    · omega
  · rcases h2.sub k hk with h3 | h3
    · exact h.sub k h3
    · exact .inr (Nat.le_trans h.only.size h3)
theorem Mv.off (h : Mv F F' w w') {k : Nat} (hk : k < w.heap.size) (hf : ¬ F k) : ¬ F' k := fun h1 => (h.sub k h1).elim hf (fun h2 => by omega)
theorem Mv.from_ {B : Nat} (h : Mv F F' w w') (hF : ∀ k, F k → B ≤ k) (hB : B ≤ w.heap.size) : ∀ k, F' k → B ≤ k := fun k hk => (h.sub k hk).elim (hF k) (fun h2 => Nat.le_trans hB h2)
end
end Go.Proofs.YtbkoogffnchldaaGreat
/- A map with keys of kind int in memory, told as a function: each key's element, or none; how many there are. The laws at the operations, for the walk. FOR ALL STAGES WITH MAPS. -/
namespace Go.Proofs.YtbkoogffnchldaaGreat
open Go.RowKit Go.Maps

/-- how elements stand in the map -/
structure Elt (P : Program) (e : TypeId) where
  α : Type
  val : α → Value
  enc : α → DataW Unit
  ok : α → Prop
  z : α
  R : Value → Option (DataW Unit × List MemPlace)
  out : ∀ x, ok x → R (val x) = some (enc x, [])
  inv : ∀ v x ps, R v = some (enc x, ps) → v = val x
  okz : ok z
  hz : ∀ w, (zeroValue e).run P w = .ok (val z) w

/-- in the range of int -/
def I64 (n : Int) : Prop := -9223372036854775808 ≤ n ∧ n ≤ 9223372036854775807
theorem I64.wf {n : Int} (h : I64 n) : (Lit.int .i64 n).wf = true := WalkArith.wf_i64 h
theorem kl_ne {a b : Int} (h : a ≠ b) : Lit.int .i64 a ≠ Lit.int .i64 b := fun e => h (by injection e)
/-- what a map is turned into at one key -/
def updG {α : Type} (g : Int → Option α) (id : Int) (v : Option α) : Int → Option α := fun k => if k = id then v else g k
theorem updG_same {α : Type} (g : Int → Option α) (id : Int) (v : Option α) : updG g id v id = v := if_pos rfl
theorem updG_other {α : Type} (g : Int → Option α) {id k : Int} (v : Option α) (h : k ≠ id) : updG g id v k = g k := if_neg h

/-- elements that are ints -/
def eltI (P : Program) (e : TypeId) (he : P.underlying e = some (.int .i64)) (hz : ∀ w, (zeroValue e).run P w = .ok (.int .i64 0) w) : Elt P e where
  α := Int
  val := fun n => .int .i64 n
  enc := fun n => .lit (.int .i64 n)
  ok := I64
  z := 0
  R := plainElem P e
  out := fun x hx => plainElem_int he hx.wf
  inv := fun v x ps h => by
    obtain ⟨a, rfl, e2, _⟩ := plainElem_int_inv he h
    have := congrArg Prod.fst e2
    simp at this
    rw [this]
  okz := by unfold I64; omega
  hz := hz

section
variable {P : Program} {kt e : TypeId} (E : Elt P e)

/-- block b is a map of m entries: at each number of the range of int what g tells -/
def MapG (kt : TypeId) (w : World) (b m : Nat) (g : Int → Option E.α) : Prop :=
  ∃ D, w.ownsMap P kt E.R b m D ∧ Maps.size D = m ∧ ∀ id, I64 id → match g id with
    | none => Maps.has D (.int .i64 id) = false
    | some x => Maps.has D (.int .i64 id) = true ∧ ∀ z, D.atKey (.int .i64 id) z = E.enc x
variable {E} {w w' : World} {b m : Nat} {g : Int → Option E.α}
theorem MapG.lt (h : MapG E kt w b m g) : b < w.heap.size := by
  obtain ⟨D, h1, _⟩ := h
  exact h1.lt
theorem MapG.same (h : MapG E kt w b m g) (he : w'.heap[b]? = w.heap[b]?) : MapG E kt w' b m g := by
  obtain ⟨D, ⟨es, clock, hb, r⟩, h2⟩ := h
  exact ⟨D, ⟨es, clock, he.trans hb, r⟩, h2⟩
theorem MapG.kept (h : MapG E kt w b m g) (hb : Below w.heap.size w w') : MapG E kt w' b m g := h.same (hb.block b h.lt)
theorem MapG.away (h : MapG E kt w b m g) (a : Addr) (u : Value) (hne : b ≠ a.block) : MapG E kt (w.setCell a u) b m g := h.same (Below.heap_setCell w a u b hne)
theorem MapG.grown {row : Option Nat} (h : MapG E kt w b m g) (hg : w.grownBy w' row) (hne : some b ≠ row) : MapG E kt w' b m g := h.same (hg.block b h.lt hne)
theorem MapG.new (w : World) : MapG E kt (w.alloc (.map #[] 0)) w.heap.size 0 (fun _ => none) :=
  ⟨.map [], World.ownsMap_made _ _ _ _, rfl, fun _ _ => rfl⟩
/-- a map's block is no row of cells -/
theorem MapG.ne {k : Nat} {cs : Array Value} {t : TypeId} {fz : Nat × Nat} (h : MapG E kt w b m g) (hk : w.heap[k]? = some (.cells cs t fz)) : b ≠ k := fun e => by
  obtain ⟨D, ⟨es, clock, hb, r⟩, h2⟩ := h
  rw [e, hk] at hb
  cases hb
theorem MapG.ne_cell {a : Addr} {u : Value} (h : MapG E kt w b m g) (hk : w.cell? a = some u) : b ≠ a.block := fun e => by
  obtain ⟨D, ⟨es, clock, hb, r⟩, h2⟩ := h
  rw [e] at hb
  simp [World.cell?, hb] at hk

/-! ### At the operations -/
variable {ops : Array Oper} {rest : List Oper} {o : Oper} {a : Act} {Q : Exit → Act → World → Prop}
theorem wpList_lookG2 (hg : o.guard = none) (mo x : Operand) (t : TypeId) (hop : o.op = Op.lookup t mo x true) (hk : P.underlying kt = some (.int .i64)) (ht : P.underlying t = some (.map kt e))
    (hm : a.eval mo = .map (some b)) (h : MapG E kt w b m g) (id : Int) (hi : I64 id) (hx : a.eval x = .int .i64 id)
    (hK : wpList P ops Q rest (a.put o.dst (.tuple #[E.val ((g id).getD E.z), .bool (g id).isSome])) w) : wpList P ops Q (o :: rest) a w := by
  obtain ⟨D, h1, _, h3⟩ := h
  refine wpList_lookup_own_ok w hg mo x t hop kt e (int_keyed hk) ht E.R (E.hz w) (E.enc E.z) [] (E.out _ E.okz) b m D hm h1 _ _ hx (keyOf_int_mk hk hi.wf) fun v ps hv => ?_
  have := h3 id hi
  cases hgi : g id with
  | none =>
    rw [hgi] at this hK
    simp only at this
    rw [Maps.atKey_of_not_has this] at hv
    rw [E.inv _ _ _ hv, this]
    exact hK
  | some y =>
    rw [hgi] at this hK
    simp only at this
    rw [this.2] at hv
    rw [E.inv _ _ _ hv, this.1]
    exact hK
theorem wpList_putG (hg : o.guard = none) (mo x vo : Operand) (t : TypeId) (hop : o.op = Op.mapUpdate t mo x vo) (hk : P.underlying kt = some (.int .i64)) (ht : P.underlying t = some (.map kt e))
    (hm : a.eval mo = .map (some b)) (h : MapG E kt w b m g) (hn : m < maxLen) (id : Int) (hi : I64 id) (hx : a.eval x = .int .i64 id) (y : E.α) (hy : E.ok y) (hv : a.eval vo = E.val y)
    (hK : ∀ w', MapG E kt w' b (if (g id).isSome then m else m + 1) (updG g id (some y)) → w.grownBy w' (some b) → wpList P ops Q rest (a.put o.dst undef) w') : wpList P ops Q (o :: rest) a w := by
  obtain ⟨D, h1, h2, h3⟩ := h
  refine wpList_mapUpdate_in w hg mo x vo t hop kt e (int_keyed hk) ht E.R b m D hm h1 hn _ _ _ hx hv (keyOf_int_mk hk hi.wf) (E.enc y) [] (E.out y hy) fun w' h4 h5 => ?_
  have htidy := h1.tidy (int_keyed hk)
  have hsz := Maps.size_put (k := Lit.int .i64 id) htidy (E.enc y)
  have hh : Maps.has D (.int .i64 id) = (g id).isSome := by
    have := h3 id hi
    cases hgi : g id with
    | none => rw [hgi] at this; exact this
    | some y => rw [hgi] at this; exact this.1
  rw [hh, h2] at hsz
  refine hK w' ⟨D.put (.int .i64 id) (E.enc y), ?_, hsz, fun k hkk => ?_⟩ h5.grown
  · obtain ⟨es, clock, r1, r2, r3, r4⟩ := h4
    refine ⟨es, clock, r1, r2, ?_, r4⟩
    rw [← hsz, r4]
    simp [Maps.size, length_sorted]
  · by_cases ek : k = id
    · subst ek
      rw [updG_same]
      exact ⟨Maps.has_put_same (k := Lit.int .i64 k) htidy.isMap trivial _, fun z => Maps.atKey_put_same (k := Lit.int .i64 k) htidy.isMap trivial _ z⟩
    · rw [updG_other _ _ ek]
      have := h3 k hkk
      cases hgk : g k with
      | none =>
        rw [hgk] at this
        show Maps.has _ _ = false
        rw [Maps.has_put_other (kl_ne ek)]
        exact this
      | some y2 =>
        rw [hgk] at this
        refine ⟨?_, fun z => ?_⟩
        · rw [Maps.has_put_other (kl_ne ek)]; exact this.1
        · rw [Maps.atKey_put_other (kl_ne ek)]; exact this.2 z
theorem wpList_delG (hg : o.guard = none) (mo x : Operand) (t : TypeId) (hop : o.op = Op.call { callee := Callee.builtin Builtin.delete, args := #[mo, x], argTypes := #[t, kt] }) (hk : P.underlying kt = some (.int .i64)) (ht : P.underlying t = some (.map kt e))
    (hm : a.eval mo = .map (some b)) (h : MapG E kt w b m g) (id : Int) (hi : I64 id) (hx : a.eval x = .int .i64 id)
    (hK : ∀ w', MapG E kt w' b (if (g id).isSome then m - 1 else m) (updG g id none) → w.grownBy w' (some b) → wpList P ops Q rest (a.put o.dst (.tuple #[])) w') : wpList P ops Q (o :: rest) a w := by
  obtain ⟨D, h1, h2, h3⟩ := h
  refine wpList_delete_own w hg mo x t kt hop e (int_keyed hk) ht E.R b m D hm h1 _ _ hx (keyOf_int_mk hk hi.wf) fun w' h4 h5 => ?_
  have htidy := h1.tidy (int_keyed hk)
  have hsz := Maps.size_del (k := Lit.int .i64 id) htidy
  have hh : Maps.has D (.int .i64 id) = (g id).isSome := by
    have := h3 id hi
    cases hgi : g id with
    | none => rw [hgi] at this; exact this
    | some y => rw [hgi] at this; exact this.1
  rw [hh, h2] at hsz
  have hsz2 : Maps.size (D.del (.int .i64 id)) = if (g id).isSome then m - 1 else m := by
    by_cases hi2 : (g id).isSome = true
    · rw [if_pos hi2] at hsz ⊢; omega
    · rw [if_neg hi2] at hsz ⊢; omega
  refine hK w' ⟨D.del (.int .i64 id), ?_, hsz2, fun k hkk => ?_⟩ h5.grown
  · obtain ⟨es, clock, r1, r2, r3, r4⟩ := h4
    refine ⟨es, clock, r1, r2, ?_, r4⟩
    rw [← hsz2, r4]
    simp [Maps.size, length_sorted]
  · by_cases ek : k = id
    · subst ek
      rw [updG_same]
      exact Maps.has_del_same
    · rw [updG_other _ _ ek]
      have := h3 k hkk
      cases hgk : g k with
      | none =>
        rw [hgk] at this
        show Maps.has _ _ = false
        rw [Maps.has_del_other (kl_ne ek)]
        exact this
      | some y2 =>
        rw [hgk] at this
        refine ⟨?_, fun z => ?_⟩
        · rw [Maps.has_del_other (kl_ne ek)]; exact this.1
        · rw [Maps.atKey_del_other (kl_ne ek)]; exact this.2 z
theorem wpList_lenG (hg : o.guard = none) (mo : Operand) (t : TypeId) (hop : o.op = Op.call { callee := Callee.builtin Builtin.len, args := #[mo], argTypes := #[t] }) (ht : P.underlying t = some (.map kt e))
    (hm : a.eval mo = .map (some b)) (h : MapG E kt w b m g) (hK : wpList P ops Q rest (a.put o.dst (.int .i64 m)) w) : wpList P ops Q (o :: rest) a w := by
  obtain ⟨D, h1, h2, _⟩ := h
  refine wpList_len_own w hg mo t hop kt e ht E.R b m D hm h1 ?_
  rw [h2]
  exact hK
/-- 'm[k]' and 'v, ok := m[k]' as equations, for regions that draw -/
theorem MapG.look (h : MapG E kt w b m g) (hk : P.underlying kt = some (.int .i64)) {t : TypeId} (ht : P.underlying t = some (.map kt e)) {id : Int} (hi : I64 id) :
    (Instr.lookup t (.map (some b)) (.int .i64 id) true).run P w = .ok (.tuple #[E.val ((g id).getD E.z), .bool (g id).isSome]) w := by
  obtain ⟨D, h1, _, h3⟩ := h
  obtain ⟨v, ps, hrun, hv⟩ := h1.look_ok (int_keyed hk) ht (E.hz w) (E.out _ E.okz) (keyOf_int_mk hk hi.wf)
  rw [hrun]
  have := h3 id hi
  cases hgi : g id with
  | none =>
    rw [hgi] at this
    simp only at this
    rw [Maps.atKey_of_not_has this] at hv
    rw [E.inv _ _ _ hv, this]
    rfl
  | some y =>
    rw [hgi] at this
    simp only at this
    rw [this.2] at hv
    rw [E.inv _ _ _ hv, this.1]
    rfl
theorem MapG.look1 (h : MapG E kt w b m g) (hk : P.underlying kt = some (.int .i64)) {t : TypeId} (ht : P.underlying t = some (.map kt e)) {id : Int} (hi : I64 id) :
    (Instr.lookup t (.map (some b)) (.int .i64 id) false).run P w = .ok (E.val ((g id).getD E.z)) w := by
  obtain ⟨D, h1, _, h3⟩ := h
  obtain ⟨v, ps, hrun, hv⟩ := h1.lookup (int_keyed hk) ht (E.hz w) (E.out _ E.okz) (keyOf_int_mk hk hi.wf)
  rw [hrun]
  have := h3 id hi
  cases hgi : g id with
  | none =>
    rw [hgi] at this
    simp only at this
    rw [Maps.atKey_of_not_has this] at hv
    rw [E.inv _ _ _ hv]
    rfl
  | some y =>
    rw [hgi] at this
    simp only at this
    rw [this.2] at hv
    rw [E.inv _ _ _ hv]
    rfl
theorem MapG.len (h : MapG E kt w b m g) {t : TypeId} (ht : P.underlying t = some (.map kt e)) (ty : TypeId) : (Builtin.len_ #[t] ty #[.map (some b)]).run P w = .ok (.int .i64 m) w := by
  obtain ⟨D, h1, h2, _⟩ := h
  rw [h1.len ht ty, h2]
end
end Go.Proofs.YtbkoogffnchldaaGreat
/- Maps from ints to bools (map[int]bool): XMapG's laws in plain words. FOR ALL LATER STAGES (without XMapI's map[int]int). -/
namespace Go.Proofs.YtbkoogffnchldaaGreat
open Go.RowKit Go.Maps

/-- what a store does, as an equation of its run -/
theorem MapG.stored {P : Program} {kt e : TypeId} {E : Elt P e} {w : World} {b m : Nat} {g : Int → Option E.α} (h : MapG E kt w b m g) (hk : P.underlying kt = some (.int .i64)) {t : TypeId} (ht : P.underlying t = some (.map kt e)) (hn : m < maxLen) {id : Int} (hi : I64 id) (y : E.α) (hy : E.ok y) :
    ∃ w', (Instr.mapUpdate t (.map (some b)) (.int .i64 id) (E.val y)).run P w = .ok () w' ∧ MapG E kt w' b (if (g id).isSome then m else m + 1) (updG g id (some y)) ∧ w.grownBy w' (some b) := by
  obtain ⟨D, h1, h2, h3⟩ := h
  obtain ⟨w', hrun, h4, h5⟩ := h1.store (int_keyed hk) ht hn (keyOf_int_mk hk hi.wf) (E.out y hy)
  have htidy := h1.tidy (int_keyed hk)
  have hsz := Maps.size_put (k := Lit.int .i64 id) htidy (E.enc y)
  have hh : Maps.has D (.int .i64 id) = (g id).isSome := by
    have := h3 id hi
    cases hgi : g id with
    | none => rw [hgi] at this; exact this
    | some y => rw [hgi] at this; exact this.1
  rw [hh, h2] at hsz
  refine ⟨w', hrun, ⟨D.put (.int .i64 id) (E.enc y), ?_, hsz, fun k hkk => ?_⟩, h5.grown⟩
  · obtain ⟨es, clock, r1, r2, r3, r4⟩ := h4
    refine ⟨es, clock, r1, r2, ?_, r4⟩
    rw [← hsz, r4]
    simp [Maps.size, length_sorted]
  · by_cases ek : k = id
    · subst ek
      rw [updG_same]
      exact ⟨Maps.has_put_same (k := Lit.int .i64 k) htidy.isMap trivial _, fun z => Maps.atKey_put_same (k := Lit.int .i64 k) htidy.isMap trivial _ z⟩
    · rw [updG_other _ _ ek]
      have := h3 k hkk
      cases hgk : g k with
      | none =>
        rw [hgk] at this
        show Maps.has _ _ = false
        rw [Maps.has_put_other (kl_ne ek)]
        exact this
      | some y2 =>
        rw [hgk] at this
        refine ⟨?_, fun z => ?_⟩
        · rw [Maps.has_put_other (kl_ne ek)]; exact this.1
        · rw [Maps.atKey_put_other (kl_ne ek)]; exact this.2 z

def readB : Value → Option (DataW Unit × List MemPlace)
  | .bool b => some (.lit (.bool b), [])
  | _ => none
noncomputable def EB : Elt Tryz.prog 4 where
  α := Bool
  val := fun x => .bool x
  enc := fun x => .lit (.bool x)
  ok := fun _ => True
  z := false
  R := readB
  out := fun _ _ => rfl
  inv := fun v x ps h => by
    unfold readB at h
    split at h
    · simp only [Option.some.injEq, Prod.mk.injEq, DataW.lit.injEq, Lit.bool.injEq] at h
      rw [h.1]
    · cases h
  okz := trivial
  hz := fun w => by kernel_rfl
def MapB (w : World) (b m : Nat) (g : Int → Option Bool) : Prop := MapG EB 3 w b m g
section
variable {w w' : World} {b m : Nat} {g : Int → Option Bool}
theorem MapB.lt (h : MapB w b m g) : b < w.heap.size := MapG.lt h
theorem MapB.same (h : MapB w b m g) (he : w'.heap[b]? = w.heap[b]?) : MapB w' b m g := MapG.same h he
theorem MapB.kept (h : MapB w b m g) (hb : Below w.heap.size w w') : MapB w' b m g := MapG.kept h hb
theorem MapB.away (h : MapB w b m g) (a : Addr) (u : Value) (hne : b ≠ a.block) : MapB (w.setCell a u) b m g := MapG.away h a u hne
theorem MapB.new (w : World) : MapB (w.alloc (.map #[] 0)) w.heap.size 0 (fun _ => none) := MapG.new w
theorem MapB.ne_cell {a : Addr} {u : Value} (h : MapB w b m g) (hk : w.cell? a = some u) : b ≠ a.block := MapG.ne_cell h hk
theorem MapB.look1 (h : MapB w b m g) {id : Int} (hi : I64 id) : (Instr.lookup 122 (.map (some b)) (.int .i64 id) false).run Tryz.prog w = .ok (.bool ((g id).getD false)) w :=
  MapG.look1 (E := EB) h Tryz.underlying3 Tryz.underlying122 hi
theorem MapB.put (h : MapB w b m g) (hn : m ≤ 1000000) {id : Int} (hi : I64 id) (y : Bool) :
    ∃ w', (Instr.mapUpdate 122 (.map (some b)) (.int .i64 id) (.bool y)).run Tryz.prog w = .ok () w' ∧ MapB w' b (if (g id).isSome then m else m + 1) (updG g id (some y)) ∧ w.grownBy w' (some b) :=
  MapG.stored (E := EB) h Tryz.underlying3 Tryz.underlying122 (by unfold maxLen; omega) hi y trivial
variable {ops : Array Oper} {rest : List Oper} {o : Oper} {a : Act} {Q : Exit → Act → World → Prop}
theorem wpList_delB (hg : o.guard = none) (hd : o.dst = none) (mo x : Operand) (hop : o.op = Op.call { callee := Callee.builtin Builtin.delete, args := #[mo, x], argTypes := #[122, 3] })
    (hm : a.eval mo = .map (some b)) (h : MapB w b m g) (id : Int) (hi : I64 id) (hx : a.eval x = .int .i64 id)
    (hK : ∀ w', MapB w' b (if (g id).isSome then m - 1 else m) (updG g id none) → w.grownBy w' (some b) → wpList Tryz.prog ops Q rest a w') : wpList Tryz.prog ops Q (o :: rest) a w := by
  refine wpList_delG (E := EB) hg mo x 122 hop Tryz.underlying3 Tryz.underlying122 hm h id hi hx fun w' h1 h2 => by
    rw [hd]
    exact hK w' h1 h2
theorem wpList_lenB (hg : o.guard = none) (mo : Operand) (hop : o.op = Op.call { callee := Callee.builtin Builtin.len, args := #[mo], argTypes := #[122] })
    (hm : a.eval mo = .map (some b)) (h : MapB w b m g) (hK : wpList Tryz.prog ops Q rest (a.put o.dst (.int .i64 m)) w) : wpList Tryz.prog ops Q (o :: rest) a w :=
  wpList_lenG (E := EB) hg mo 122 hop Tryz.underlying122 hm h hK
end
end Go.Proofs.YtbkoogffnchldaaGreat
/- A range over a map with keys of kind int (XMapG): which keys are still to come, told as a property of numbers; maps to pointers. FOR ALL STAGES WITH MAPS. -/
namespace Go.Proofs.YtbkoogffnchldaaGreat
open Go.RowKit Go.Maps

theorem key_same (a b : Int) : (Lit.int .i64 a).sameKey (.int .i64 b) = decide (a = b) := by
  by_cases h : a = b
  · subst h
    simp [Lit.sameKey]
  · rw [decide_eq_false h]
    exact Maps.sameKey_ne (kl_ne h)
theorem i64_of_wf {n : Int} (h : (Lit.int .i64 n).wf = true) : I64 n := by
  simp [Lit.wf, IntKind.min, IntKind.max, IntKind.signed, IntKind.bits] at h
  unfold I64
  omega
section
variable {P : Program} {kt e : TypeId} (E : Elt P e)
/-- a range over the map in block b is under way, its iterator in block r: of the keys S are still to come, cnt of them -/
def RngG (kt : TypeId) (w : World) (b r m : Nat) (g : Int → Option E.α) (S : Int → Prop) (cnt : Nat) : Prop :=
  ∃ D left, w.ranges P kt E.R b r m D left cnt ∧ Maps.size D = m ∧ (∀ id, I64 id → match g id with
    | none => Maps.has D (.int .i64 id) = false
    | some x => Maps.has D (.int .i64 id) = true ∧ ∀ z, D.atKey (.int .i64 id) z = E.enc x) ∧ (∀ id, I64 id → (left (.int .i64 id) = true ↔ S id)) ∧ ∀ id, I64 id → S id → (g id).isSome = true
variable {E} {w w' : World} {b r m cnt : Nat} {g : Int → Option E.α} {S : Int → Prop}
theorem RngG.map (h : RngG E kt w b r m g S cnt) : MapG E kt w b m g := by
  obtain ⟨D, left, h1, h2, h3, _⟩ := h
  exact ⟨D, h1.owns, h2, h3⟩
theorem RngG.same (h : RngG E kt w b r m g S cnt) (hb : w'.heap[b]? = w.heap[b]?) (hr : w'.heap[r]? = w.heap[r]?) : RngG E kt w' b r m g S cnt := by
  obtain ⟨D, left, ⟨es, clock, since, seen, c0, h1, h2, h3, h4, h5, h6⟩, h7⟩ := h
  exact ⟨D, left, ⟨es, clock, since, seen, c0, hb.trans h1, h2, h3, h4, hr.trans h5, h6⟩, h7⟩
theorem RngG.grown {row : Option Nat} (h : RngG E kt w b r m g S cnt) (hg : w.grownBy w' row) (hb : some b ≠ row) (hr : some r ≠ row) : RngG E kt w' b r m g S cnt := by
  obtain ⟨D, left, h1, h2⟩ := h
  exact ⟨D, left, h1.kept hg hb hr, h2⟩
theorem RngG.kept (h : RngG E kt w b r m g S cnt) (hb : Below w.heap.size w w') : RngG E kt w' b r m g S cnt :=
  h.grown (row := none) ⟨hb.os, hb.tape, hb.output, hb.size, fun k hk _ => hb.block k hk⟩ (by simp) (by simp)
theorem RngG.lt (h : RngG E kt w b r m g S cnt) : r < w.heap.size := by
  obtain ⟨D, left, h1, _⟩ := h
  exact h1.lt
theorem RngG.left (h : RngG E kt w b r m g S cnt) : w.rangeLeft b r = cnt := by
  obtain ⟨D, left, h1, _⟩ := h
  exact h1.left_eq
variable {ops : Array Oper} {rest : List Oper} {o : Oper} {a : Act} {Q : Exit → Act → World → Prop}
theorem wpList_rangeG (hg : o.guard = none) (mo : Operand) (t : TypeId) (hop : o.op = Op.range t mo) (hk : P.underlying kt = some (.int .i64)) (ht : P.underlying t = some (.map kt e)) (hm : a.eval mo = .map (some b)) (h : MapG E kt w b m g)
    (hK : ∀ w', RngG E kt w' b w.heap.size m g (fun id => (g id).isSome = true) m → w.grownBy w' none → w'.heap.size = w.heap.size + 1 → wpList P ops Q rest (a.put o.dst (.pointer (some ⟨w.heap.size, 0, none⟩))) w') : wpList P ops Q (o :: rest) a w := by
  obtain ⟨D, h1, h2, h3⟩ := h
  refine wpList_range_own w hg mo t hop kt e (int_keyed hk) ht E.R b m D hm h1 fun w' k1 k2 k3 => hK w' ⟨D, _, h2 ▸ k1, h2, h3, fun id hi => ?_, fun id _ h => h⟩ k2 k3
  have := h3 id hi
  cases hgi : g id with
  | none =>
    rw [hgi] at this
    simp only at this
    rw [this]
    simp [hgi]
  | some x =>
    rw [hgi] at this
    rw [this.1]
    simp [hgi]
theorem wpList_nextG (hinv : ∀ v y, E.R v = some y → ∃ c, v = E.val c) (hg : o.guard = none) (it : Operand) (hop : o.op = Op.next it false) (hk : P.underlying kt = some (.int .i64)) (hit : a.eval it = .pointer (some ⟨r, 0, none⟩)) (h : RngG E kt w b r m g S cnt)
    (hDone : (∀ id, I64 id → ¬ S id) → wpList P ops Q rest (a.put o.dst (.tuple #[.bool false])) w)
    (hMore : ∀ (id : Int) (x : E.α) (w' : World) (cnt' : Nat), I64 id → S id → g id = some x → RngG E kt w' b r m g (fun z => S z ∧ z ≠ id) cnt' → cnt' < cnt → w.grownBy w' (some r) → w'.heap.size = w.heap.size →
      (Instr.entry (.pointer (some ⟨r, 0, none⟩))).run P w' = .ok (.tuple #[.int .i64 id, E.val x]) w' → wpList P ops Q rest (a.put o.dst (.tuple #[.bool true, .int .i64 id, E.val x])) w') : wpList P ops Q (o :: rest) a w := by
  obtain ⟨D, left, h1, h2, h3, h4, h5⟩ := h
  refine wpList_next_ranges w hg it hop kt (int_keyed hk) E.R (Value.int .i64) E.val (fun key kl hkey => by obtain ⟨x, rfl, _⟩ := Maps.keyOf_int_inv hk hkey; exact ⟨x, rfl⟩) hinv b r m D left cnt hit h1
    (fun _ hl => hDone fun id hi hs => by have := (h4 id hi).2 hs; rw [hl] at this; cases this) fun id c kl y w' cnt' hkey hlk hv hat hrg hlt hgr hsz hen => ?_
  obtain ⟨x', ex, rfl, hwx⟩ := Maps.keyOf_int_inv hk hkey
  cases ex
  have hi := i64_of_wf hwx
  have hs := (h4 id hi).1 hlk
  have h6 := h5 id hi hs
  obtain ⟨x, hx⟩ := Option.isSome_iff_exists.1 h6
  have h7 := h3 id hi
  rw [hx] at h7
  have hy : y.1 = E.enc x := (hat (.lit (.int .i64 0))).symm.trans (h7.2 _)
  have ev : E.val c = E.val x := E.inv (E.val c) x y.2 (by rw [hv, ← hy])
  rw [ev] at hen ⊢
  refine hMore id x w' cnt' hi hs hx ⟨D, _, hrg, h2, h3, fun z hz => ?_, fun z hz hs => h5 z hz hs.1⟩ hlt hgr hsz hen
  rw [key_same, Bool.and_eq_true, h4 z hz]
  simp
end

/-! ### Pointers -/
def readP : Value → Option (DataW Unit × List MemPlace)
  | .pointer none => some (.lit (.int .i64 (-1)), [])
  | .pointer (some ⟨b, 0, none⟩) => some (.lit (.int .i64 (b : Int)), [])
  | _ => none
def encP (x : Option Nat) : DataW Unit := .lit (.int .i64 (match x with | none => -1 | some b => (b : Int)))
def ptv (x : Option Nat) : Value := .pointer (x.map fun b => ⟨b, 0, none⟩)
theorem encP_inj {x y : Option Nat} (h : encP x = encP y) : x = y := by
  simp only [encP, DataW.lit.injEq, Lit.int.injEq, true_and] at h
  cases x <;> cases y <;> simp only at h
  · rfl
  · omega
  · omega
  · rw [Int.ofNat.inj h]
theorem readP_inv (v : Value) (y : DataW Unit × List MemPlace) (h : readP v = some y) : ∃ c, v = ptv c ∧ y = (encP c, []) := by
  unfold readP at h
  split at h
  · exact ⟨none, rfl, (Option.some.inj h).symm⟩
  · exact ⟨some _, rfl, (Option.some.inj h).symm⟩
  · cases h
noncomputable def EP (t : TypeId) (hz : ∀ w, (zeroValue t).run Tryz.prog w = .ok (.pointer none) w) : Elt Tryz.prog t where
  α := Option Nat
  val := ptv
  enc := encP
  ok := fun _ => True
  z := none
  R := readP
  out := fun x _ => by cases x <;> rfl
  inv := fun v x ps h => by
    obtain ⟨c, h1, h2⟩ := readP_inv v _ h
    rw [h1, encP_inj (congrArg Prod.fst h2)]
  okz := trivial
  hz := hz
end Go.Proofs.YtbkoogffnchldaaGreat
/- Stage 16: graphs by definition: plain definitions, with what the walks ask of them. -/
namespace Go.Proofs.YtbkoogffnchldaaGreat

structure Arc16 where
  src : Int
  dst : Int
deriving DecidableEq, Inhabited

/-- is it in the list -/
def inL (l : List Int) (n : Int) : Bool := decide (n ∈ l)

/-! ### Set -/
def stepS (x : Int) (s : List Int × Bool) (y : Int) : List Int × Bool :=
  let s1 := if !s.2 && decide (x ≤ y) then (s.1 ++ [x], true) else s
  (if y = x then s1.1 else s1.1 ++ [y], s1.2)
def insP (x : Int) (l : List Int) : List Int × Bool := l.foldl (stepS x) ([], false)
def insS (x : Int) (l : List Int) : List Int := if (insP x l).2 then (insP x l).1 else (insP x l).1 ++ [x]
def setL (l : List Int) : List Int := l.foldl (fun out x => insS x out) []
theorem insP_take (x : Int) (l : List Int) (k : Nat) (hk : k < l.length) : insP x (l.take (k + 1)) = stepS x (insP x (l.take k)) l[k] := by
  unfold insP
  rw [List.take_succ_eq_append_getElem hk, List.foldl_append]
  rfl
theorem setL_take (l : List Int) (k : Nat) (hk : k < l.length) : setL (l.take (k + 1)) = insS l[k] (setL (l.take k)) := by
  unfold setL
  rw [List.take_succ_eq_append_getElem hk, List.foldl_append]
  rfl
theorem stepS_len (x : Int) (s : List Int × Bool) (y : Int) : (stepS x s y).1.length + (if (stepS x s y).2 then 0 else 1) ≤ s.1.length + 1 + (if s.2 then 0 else 1) := by
  unfold stepS
  obtain ⟨a, d⟩ := s
  cases d <;> by_cases h : x ≤ y <;> by_cases h2 : y = x <;> simp [h, h2] <;> omega
theorem insP_len (x : Int) (l : List Int) : ∀ k, (insP x (l.take k)).1.length + (if (insP x (l.take k)).2 then 0 else 1) ≤ k + 1
  | 0 => by simp [insP]
  | k + 1 => by
    have ih := insP_len x l k
    by_cases hk : k < l.length
    · rw [insP_take x l k hk]
      have := stepS_len x (insP x (l.take k)) l[k]
      omega
    · rw [List.take_of_length_le (by omega), ← List.take_of_length_le (show l.length ≤ k by omega)]
      omega
theorem insS_len (x : Int) (l : List Int) : (insS x l).length ≤ l.length + 1 := by
  have h := insP_len x l l.length
  rw [List.take_length] at h
  unfold insS
  split
  · rename_i h2
    rw [if_pos h2] at h
    omega
  · rename_i h2
    rw [if_neg h2] at h
    rw [List.length_append]
    simp
    omega
theorem setL_len (l : List Int) : ∀ k, (setL (l.take k)).length ≤ k
  | 0 => by simp [setL]
  | k + 1 => by
    have ih := setL_len l k
    by_cases hk : k < l.length
    · rw [setL_take l k hk]
      have := insS_len l[k] (setL (l.take k))
      omega
    · rw [List.take_of_length_le (by omega), ← List.take_of_length_le (show l.length ≤ k by omega)]
      omega
theorem setL_le (l : List Int) : (setL l).length ≤ l.length := by
  have := setL_len l l.length
  rwa [List.take_length] at this
/-- rising -/
def risL (l : List Int) : Prop := l.Pairwise fun a b => a < b
theorem foldS_done (x : Int) : ∀ (l a : List Int), (∀ y ∈ l, y ≠ x) → l.foldl (stepS x) (a, true) = (a ++ l, true)
  | [], a, _ => by simp
  | y :: t, a, h => by
    have h1 : stepS x (a, true) y = (a ++ [y], true) := by simp [stepS, h y]
    rw [List.foldl_cons, h1, foldS_done x t _ fun z hz => h z (List.mem_cons_of_mem _ hz), List.append_assoc]
    rfl
theorem foldS (x : Int) : ∀ (l a : List Int), risL l → l.foldl (stepS x) (a, false) = if (∃ y ∈ l, x ≤ y) then (a ++ (l.filter (fun y => decide (y < x)) ++ x :: l.filter (fun y => decide (x < y))), true) else (a ++ l, false)
  | [], a, _ => by simp
  | y :: t, a, hl => by
    have h0 := List.pairwise_cons.1 hl
    rw [List.foldl_cons]
    by_cases hy : x ≤ y
    · have hd : ∀ z ∈ t, z ≠ x := fun z hz => by have := h0.1 z hz; omega
      have e1 : (y :: t).filter (fun y => decide (y < x)) = [] := List.filter_eq_nil_iff.2 fun z hz => by
        rcases List.mem_cons.1 hz with rfl | hz
        · simp; omega
        · have := h0.1 z hz; simp; omega
      have e2 : t.filter (fun y => decide (x < y)) = t := List.filter_eq_self.2 fun z hz => by have := h0.1 z hz; simp; omega
      rw [if_pos ⟨y, List.mem_cons_self, hy⟩, e1, List.nil_append]
      by_cases hyx : y = x
      · subst hyx
        have h1 : stepS y (a, false) y = (a ++ [y], true) := by simp [stepS]
        have e3 : (y :: t).filter (fun z => decide (y < z)) = t := by rw [List.filter_cons_of_neg (by simp), e2]
        rw [h1, foldS_done y t _ hd, e3, List.append_assoc]
        rfl
      · have h1 : stepS x (a, false) y = (a ++ [x] ++ [y], true) := by simp [stepS, hy, hyx]
        have e3 : (y :: t).filter (fun z => decide (x < z)) = y :: t := by rw [List.filter_cons_of_pos (by simp; omega), e2]
        rw [h1, foldS_done x t _ hd, e3]
        simp
    · have h1 : stepS x (a, false) y = (a ++ [y], false) := by
        have : y ≠ x := by omega
        simp [stepS, hy, this]
      rw [h1, foldS x t _ h0.2]
      by_cases hex : ∃ z ∈ t, x ≤ z
      · obtain ⟨z, hz, hxz⟩ := hex
        rw [if_pos ⟨z, hz, hxz⟩, if_pos ⟨z, List.mem_cons_of_mem _ hz, hxz⟩, List.filter_cons_of_pos (by simp; omega), List.filter_cons_of_neg (by simp; omega)]
        simp
      · rw [if_neg hex, if_neg (fun ⟨z, hz, hxz⟩ => by
          rcases List.mem_cons.1 hz with rfl | hz
          · exact hy hxz
          · exact hex ⟨z, hz, hxz⟩)]
        simp
theorem insS_is (x : Int) {l : List Int} (hl : risL l) : insS x l = l.filter (fun y => decide (y < x)) ++ x :: l.filter (fun y => decide (x < y)) := by
  unfold insS insP
  rw [foldS x l [] hl]
  by_cases hex : ∃ z ∈ l, x ≤ z
  · rw [if_pos hex]
    simp
  · rw [if_neg hex]
    have e1 : l.filter (fun y => decide (y < x)) = l := List.filter_eq_self.2 fun z hz => by
      have : ¬ x ≤ z := fun h => hex ⟨z, hz, h⟩
      simp; omega
    have e2 : l.filter (fun y => decide (x < y)) = [] := List.filter_eq_nil_iff.2 fun z hz => by
      have : ¬ x ≤ z := fun h => hex ⟨z, hz, h⟩
      simp; omega
    rw [e1, e2]
    simp
theorem insS_ris (x : Int) {l : List Int} (hl : risL l) : risL (insS x l) := by
  rw [insS_is x hl]
  refine List.pairwise_append.2 ⟨List.Pairwise.filter _ hl, List.pairwise_cons.2 ⟨fun y hy => by simpa using (List.mem_filter.1 hy).2, List.Pairwise.filter _ hl⟩, fun a ha b hb => ?_⟩
  have h1 : a < x := by simpa using (List.mem_filter.1 ha).2
  rcases List.mem_cons.1 hb with rfl | hb
  · exact h1
  · have h2 : x < b := by simpa using (List.mem_filter.1 hb).2
    omega
theorem insS_mem (x a : Int) {l : List Int} (hl : risL l) : a ∈ insS x l ↔ a = x ∨ a ∈ l := by
  rw [insS_is x hl, List.mem_append, List.mem_cons, List.mem_filter, List.mem_filter]
  constructor
  · rintro (h | h | h)
    · exact .inr h.1
    · exact .inl h
    · exact .inr h.1
  · rintro (h | h)
    · exact .inr (.inl h)
    · rcases Int.lt_trichotomy a x with h2 | h2 | h2
      · exact .inl ⟨h, by simpa using h2⟩
      · exact .inr (.inl h2)
      · exact .inr (.inr ⟨h, by simpa using h2⟩)
theorem setL_both (l : List Int) : ∀ k, risL (setL (l.take k)) ∧ ∀ a, a ∈ setL (l.take k) ↔ a ∈ l.take k
  | 0 => by simp [setL, risL]
  | k + 1 => by
    have ih := setL_both l k
    by_cases hk : k < l.length
    · rw [setL_take l k hk]
      refine ⟨insS_ris _ ih.1, fun a => ?_⟩
      rw [insS_mem _ _ ih.1, ih.2, List.take_succ_eq_append_getElem hk, List.mem_append, List.mem_singleton]
      exact or_comm
    · rw [List.take_of_length_le (by omega), ← List.take_of_length_le (show l.length ≤ k by omega)]
      exact ih
theorem setL_ris (l : List Int) : risL (setL l) := by
  have := (setL_both l l.length).1
  rwa [List.take_length] at this
theorem setL_mem (l : List Int) (a : Int) : a ∈ setL l ↔ a ∈ l := by
  have := (setL_both l l.length).2 a
  rwa [List.take_length] at this
theorem risL.nodup {l : List Int} (h : risL l) : l.Nodup := h.imp fun h e => by omega
/-- lists that rise and have the same are the same -/
theorem risL.eq {a b : List Int} (ha : risL a) (hb : risL b) (h : ∀ x, x ∈ a ↔ x ∈ b) : a = b := by
  have hp : a.Perm b := (List.perm_ext_iff_of_nodup ha.nodup hb.nodup).2 h
  exact hp.eq_of_pairwise (fun x y _ _ h1 h2 => by omega) ha hb
theorem setL_self {l : List Int} (h : risL l) : setL l = l := (setL_ris l).eq h fun x => setL_mem l x

/-! ### Order -/
/-- does no arrow lead to it from one that isn't told -/
def freeG (nodes : List Int) (arcs : List Arc16) (told : List Int) (n : Int) : Bool := arcs.all fun a => !(decide (a.dst = n) && inL nodes a.src && !inL told a.src)
theorem freeG_take (nodes : List Int) (arcs : List Arc16) (told : List Int) (n : Int) (k : Nat) (hk : k < arcs.length) : freeG nodes (arcs.take (k + 1)) told n = (freeG nodes (arcs.take k) told n && !(decide (arcs[k].dst = n) && inL nodes arcs[k].src && !inL told arcs[k].src)) := by
  unfold freeG
  rw [List.take_succ_eq_append_getElem hk, List.all_append]
  simp
theorem freeG_no {nodes : List Int} {arcs : List Arc16} {told : List Int} {n : Int} (k : Nat) (hk : k < arcs.length) (h : (decide (arcs[k].dst = n) && inL nodes arcs[k].src && !inL told arcs[k].src) = true) : freeG nodes arcs told n = false := by
  unfold freeG
  rw [List.all_eq_false]
  exact ⟨arcs[k], List.getElem_mem hk, by rw [h]; simp⟩
/-- can it be told next -/
def nextB (nodes : List Int) (arcs : List Arc16) (told : List Int) (n : Int) : Bool := !inL told n && freeG nodes arcs told n
/-- one behind the other, the first that can be -/
def ordG (nodes : List Int) (arcs : List Arc16) : Nat → List Int → List Int
  | 0, told => told
  | f + 1, told => match nodes.find? (nextB nodes arcs told) with
    | none => told
    | some n => ordG nodes arcs f (told ++ [n])
def ordL (ids : List Int) (arcs : List Arc16) : List Int := ordG (setL ids) arcs (setL ids).length []
def leftL (ids : List Int) (arcs : List Arc16) : List Int := (setL ids).filter fun n => !inL (ordL ids arcs) n
/-- told so far: of the nodes, each once -/
structure ToldI (nodes told : List Int) : Prop where
  sub : ∀ n ∈ told, n ∈ nodes
  nodup : told.Nodup
theorem len_of_sub : ∀ (a b : List Int), a.Nodup → (∀ x ∈ a, x ∈ b) → a.length ≤ b.length
  | [], _, _, _ => Nat.zero_le _
  | x :: t, b, hn, hs => by
    have h1 := List.nodup_cons.1 hn
    have hx := hs x List.mem_cons_self
    have h2 := len_of_sub t (b.erase x) h1.2 fun y hy => (List.mem_erase_of_ne (show y ≠ x from fun e => by subst e; exact h1.1 hy)).2 (hs y (List.mem_cons_of_mem _ hy))
    rw [List.length_erase_of_mem hx] at h2
    have := List.length_pos_of_mem hx
    rw [List.length_cons]
    omega
theorem ToldI.len {nodes told : List Int} (h : ToldI nodes told) : told.length ≤ nodes.length := len_of_sub _ _ h.nodup h.sub
theorem ToldI.next {nodes told : List Int} {arcs : List Arc16} {n : Int} (h : ToldI nodes told) (hn : n ∈ nodes) (hb : nextB nodes arcs told n = true) : ToldI nodes (told ++ [n]) := by
  unfold nextB inL at hb
  rw [Bool.and_eq_true] at hb
  have hnt : n ∉ told := by simpa using hb.1
  refine ⟨fun x hx => ?_, ?_⟩
  · rcases List.mem_append.1 hx with hx | hx
    · exact h.sub x hx
    · rw [List.mem_singleton.1 hx]; exact hn
  · exact List.nodup_append.2 ⟨h.nodup, by simp, fun a ha b hb e => by rw [List.mem_singleton.1 hb] at e; subst e; exact hnt ha⟩
theorem ToldI.lt {nodes told : List Int} {arcs : List Arc16} {n : Int} (h : ToldI nodes told) (hn : n ∈ nodes) (hb : nextB nodes arcs told n = true) : told.length < nodes.length := by
  have := (h.next hn hb).len
  rw [List.length_append] at this
  simp at this
  omega
theorem ToldI.nil (nodes : List Int) : ToldI nodes [] := ⟨fun _ h => (by cases h), List.nodup_nil⟩
/-- enough steps -/
theorem ordG_step {nodes told : List Int} {arcs : List Arc16} {n : Int} (i : Nat) (hi : i < nodes.length) (hn : nodes[i] = n) (hpre : ∀ j (h : j < i), nextB nodes arcs told (nodes[j]'(by omega)) = false) (hb : nextB nodes arcs told n = true) (f : Nat) :
    ordG nodes arcs (f + 1) told = ordG nodes arcs f (told ++ [n]) := by
  have : nodes.find? (nextB nodes arcs told) = some n := by
    rw [List.find?_eq_some_iff_getElem]
    exact ⟨hb, i, hi, hn, fun j hj => by rw [hpre j hj]; rfl⟩
  conv => lhs; unfold ordG
  rw [this]
theorem ordG_end {nodes told : List Int} {arcs : List Arc16} (hpre : ∀ n ∈ nodes, nextB nodes arcs told n = false) (f : Nat) : ordG nodes arcs f told = told := by
  cases f with
  | zero => rfl
  | succ f =>
    have : nodes.find? (nextB nodes arcs told) = none := by
      rw [List.find?_eq_none]
      intro n hn h
      rw [hpre n hn] at h
      cases h
    unfold ordG
    rw [this]
end Go.Proofs.YtbkoogffnchldaaGreat
