/- Texts of this proof, joined: Bss; OwnO; TkM; MapG. -/
import Derived.Test.YthchkhgimnchcaaGreatBun5
import Derived.Maps.AppendAt
import Derived.Deep.AppendSrc
import Derived.Laws.Slices
import Derived.Maps.OwnSet
import Derived.Maps.OwnOps
import Derived.WalkArith
/- Lists of lists of bytes in memory. -/
namespace Go.Proofs.YthchkhgimnchcaaGreat
open Go.RowKit

abbrev Sl := Option Addr × Nat × Nat
def sl (t : Sl) : Value := .slice t.1 t.2.1 t.2.2
def csS (t : Sl) : List Value := [sl t]
theorem csS_len (t : Sl) : (csS t).length = 1 := rfl
theorem csS_one (t : Sl) : ∀ u ∈ csS t, u.oneCell' = true := by
  intro u hu
  simp [csS, sl] at hu
  subst hu
  rfl
/-- the lists that the cells name; none of them lies in the block ob -/
def EachB (w : World) (ob : Option Nat) (ts : List Sl) (L : List (List UInt8)) : Prop :=
  ts.length = L.length ∧ ∀ (j : Nat) (t : Sl) (l : List UInt8), ts[j]? = some t → L[j]? = some l → BytesAt w (sl t) l ∧ (0 < l.length → ∀ a, t.1 = some a → some a.block ≠ ob)
def BssAt (w : World) (v : Value) (L : List (List UInt8)) : Prop := ∃ ts, RowsAt w 1 csS v ts ∧ EachB w none ts L
theorem EachB.kept {w w' : World} {ob : Option Nat} {ts : List Sl} {L : List (List UInt8)} (h : EachB w ob ts L) (hb : Below w.heap.size w w') : EachB w' ob ts L :=
  ⟨h.1, fun j t l h1 h2 => ⟨(h.2 j t l h1 h2).1.kept hb, (h.2 j t l h1 h2).2⟩⟩
theorem EachB.free {w : World} {ob : Option Nat} {ts : List Sl} {L : List (List UInt8)} (h : EachB w ob ts L) : EachB w none ts L :=
  ⟨h.1, fun j t l h1 h2 => ⟨(h.2 j t l h1 h2).1, fun _ a _ e => by cases e⟩⟩
theorem BytesAt.grown {w w' : World} {row : Option Nat} {t : Sl} {l : List UInt8} (h : BytesAt w (sl t) l) (hg : w.grownBy w' row) (ha : 0 < l.length → ∀ a, t.1 = some a → some a.block ≠ row) : BytesAt w' (sl t) l := by
  obtain ⟨a, c, e, hc, hx⟩ := h
  refine ⟨a, c, e, hc, fun h0 => ?_⟩
  obtain ⟨g, o, e1, hgs, hcell⟩ := hx h0
  have e2 : t.1 = some ⟨g, o, none⟩ := by
    subst e1
    obtain ⟨t1, t2, t3⟩ := t
    simp only [sl, Value.slice.injEq] at e
    exact e.1
  have hne := ha h0 _ e2
  exact ⟨g, o, e1, Nat.lt_of_lt_of_le hgs hg.size, fun j x hj i u hu => hg.cell (hcell j x hj i u hu) hne⟩
theorem BytesAt.block {w : World} {t : Sl} {l : List UInt8} (h : BytesAt w (sl t) l) (h0 : 0 < l.length) (a : Addr) (ha : t.1 = some a) : a.block < w.heap.size := by
  obtain ⟨b, c, e, hc, hx⟩ := h
  obtain ⟨g, o, e1, hgs, _⟩ := hx h0
  subst e1
  obtain ⟨t1, t2, t3⟩ := t
  simp only [sl, Value.slice.injEq] at e
  rw [e.1] at ha
  cases ha
  exact hgs
theorem EachB.grow {w w' : World} {ob ob' : Option Nat} {ts : List Sl} {L : List (List UInt8)} (h : EachB w ob ts L) (hg : w.grownBy w' ob) (h4 : ob' = ob ∨ ob' = some w.heap.size) : EachB w' ob' ts L := by
  refine ⟨h.1, fun j t l h1 h2 => ?_⟩
  obtain ⟨hb, ha⟩ := h.2 j t l h1 h2
  refine ⟨hb.grown hg ha, fun h0 a e => ?_⟩
  rcases h4 with rfl | rfl
  · exact ha h0 a e
  · intro he
    have := hb.block h0 a e
    have := Option.some.inj he
    omega
theorem EachB.snoc {w : World} {ob : Option Nat} {ts : List Sl} {L : List (List UInt8)} {t : Sl} {l : List UInt8} (h : EachB w ob ts L) (ht : BytesAt w (sl t) l) (ha : 0 < l.length → ∀ a, t.1 = some a → some a.block ≠ ob) : EachB w ob (ts ++ [t]) (L ++ [l]) := by
  refine ⟨by simp [h.1], fun j t' l' h1 h2 => ?_⟩
  rcases Nat.lt_trichotomy j ts.length with hj | hj | hj
  · rw [List.getElem?_append_left hj] at h1
    rw [List.getElem?_append_left (by have := h.1; omega)] at h2
    exact h.2 j t' l' h1 h2
  · subst hj
    rw [List.getElem?_append_right (Nat.le_refl _), Nat.sub_self] at h1
    rw [h.1, List.getElem?_append_right (Nat.le_refl _), Nat.sub_self] at h2
    simp at h1 h2
    subst h1
    subst h2
    exact ⟨ht, ha⟩
  · rw [List.getElem?_eq_none (by simp; omega)] at h1
    cases h1
theorem BssAt.kept {w w' : World} {v : Value} {L : List (List UInt8)} (h : BssAt w v L) (hb : Below w.heap.size w w') : BssAt w' v L := by
  obtain ⟨ts, h1, h2⟩ := h
  exact ⟨ts, h1.kept hb, h2.kept hb⟩
theorem BssAt.nil (w : World) : BssAt w (.slice none 0 0) [] := ⟨[], RowsAt.nil _ _ _, rfl, fun j t l h => by simp at h⟩
theorem BssAt.form {w : World} {v : Value} {L : List (List UInt8)} (h : BssAt w v L) : ∃ a c, v = .slice a L.length c := by
  obtain ⟨ts, h1, h2⟩ := h
  obtain ⟨a, c, e⟩ := h1.form
  rw [h2.1] at e
  exact ⟨a, c, e⟩
/-- the cell of one, and what it names -/
theorem BssAt.at {w : World} {v : Value} {L : List (List UInt8)} (h : BssAt w v L) (k : Nat) (hk : k < L.length) :
    ∃ g o c a n, v = .slice (some ⟨g, o, none⟩) L.length c ∧ g < w.heap.size ∧ w.cell? ⟨g, o + k, none⟩ = some (.slice a L[k].length n) ∧ BytesAt w (.slice a L[k].length n) L[k] := by
  obtain ⟨ts, h1, h2⟩ := h
  obtain ⟨a, c, e, hc, hx⟩ := h1
  have hkt : k < ts.length := by rw [h2.1]; exact hk
  obtain ⟨g, o, e', hg, hcell⟩ := hx (by omega)
  subst e'
  have hb := (h2.2 k ts[k] L[k] (List.getElem?_eq_getElem hkt) (List.getElem?_eq_getElem hk)).1
  obtain ⟨a', n, e2⟩ := RowsAt.form hb
  have hcl := hcell k ts[k] (List.getElem?_eq_getElem hkt) 0 (sl ts[k]) rfl
  rw [e2] at hb hcl
  rw [h2.1] at e
  refine ⟨g, o, c, a', n, e, hg, ?_, hb⟩
  rw [← hcl]
  congr 2
  simp
end Go.Proofs.YthchkhgimnchcaaGreat
/- Objects that are kept from call to call: a block of cells; a list of one's own that may begin behind its block's first cell; what a call may have changed. -/
namespace Go.Proofs.YthchkhgimnchcaaGreat
open Go.RowKit Go.ChangeShapes Go.WideShapes Go.Joins Go.Deep

/-- a block of cells that may be written -/
def Blk (w : World) (b : Nat) (vs : List Value) : Prop := ∀ j u, vs[j]? = some u → w.cell? ⟨b, j, none⟩ = some u ∧ w.frozen? ⟨b, j, none⟩ = false
theorem Blk.cell {w : World} {b : Nat} {vs : List Value} (h : Blk w b vs) (j : Nat) {u : Value} (hu : vs[j]? = some u) : w.cell? ⟨b, j, none⟩ = some u := (h j u hu).1
theorem Blk.free {w : World} {b : Nat} {vs : List Value} (h : Blk w b vs) (j : Nat) {u : Value} (hu : vs[j]? = some u) : w.frozen? ⟨b, j, none⟩ = false := (h j u hu).2
theorem Blk.lt {w : World} {b : Nat} {v : Value} {vs : List Value} (h : Blk w b (v :: vs)) : b < w.heap.size := World.block_lt_of_cell? w ⟨b, 0, none⟩ (h 0 v rfl).1
theorem Blk.same {w w' : World} {b : Nat} {vs : List Value} (h : Blk w b vs) (he : w'.heap[b]? = w.heap[b]?) : Blk w' b vs := fun j u hu =>
  ⟨(World.cell?_of_block (a := ⟨b, j, none⟩) he).trans (h j u hu).1, (World.frozen?_of_block (a := ⟨b, j, none⟩) he).trans (h j u hu).2⟩
theorem Blk.new (w : World) (vs : List Value) (t : TypeId) : Blk (w.alloc (.cells vs.toArray t)) w.heap.size vs := fun j u hu => by
  have hh : (w.alloc (.cells vs.toArray t)).heap[w.heap.size]? = some (.cells vs.toArray t) := heap_alloc_new w _
  exact ⟨by unfold World.cell?; simp only [hh]; simpa using hu, by unfold World.frozen?; simp only [hh]; simp⟩
theorem Blk.kept {w w1 : World} {b : Nat} {v : Value} {vs : List Value} (h : Blk w b (v :: vs)) (hb : Below w.heap.size w w1) : Blk w1 b (v :: vs) := h.same (hb.block b h.lt)
theorem Blk.grown {w w1 : World} {b : Nat} {v : Value} {vs : List Value} {row : Option Nat} (h : Blk w b (v :: vs)) (hg : w.grownBy w1 row) (hne : some b ≠ row) : Blk w1 b (v :: vs) := h.same (hg.block b h.lt hne)
theorem Blk.away {w : World} {b : Nat} {vs : List Value} (h : Blk w b vs) (a : Addr) (u : Value) (hne : b ≠ a.block) : Blk (w.setCell a u) b vs := h.same (Below.heap_setCell w a u b hne)
theorem Blk.set {w : World} {b : Nat} {vs : List Value} (h : Blk w b vs) (k : Nat) (u : Value) : Blk (w.setCell ⟨b, k, none⟩ u) b (vs.set k u) := by
  intro j x hx
  rw [List.getElem?_set] at hx
  by_cases hj : k = j
  · subst hj
    rw [if_pos rfl] at hx
    split at hx
    · rename_i hk
      cases hx
      obtain ⟨h1, h2⟩ := h k _ (List.getElem?_eq_getElem hk)
      exact ⟨World.cell?_setCell_same _ _ _ (by rw [h1]), by rw [World.frozen?_setCell]; exact h2⟩
    · cases hx
  · rw [if_neg hj] at hx
    obtain ⟨h1, h2⟩ := h j x hx
    exact ⟨by rw [World.cell?_setCell_other _ _ _ _ (by intro e; cases e; exact hj rfl)]; exact h1, by rw [World.frozen?_setCell]; exact h2⟩

/-- a list of one's own -/
def OwnO {α : Type} (w : World) (K : Nat) (cs : α → List Value) (v : Value) (l : List α) : Prop :=
  (v = .slice none 0 0 ∧ l = []) ∨ ∃ g o cap, v = .slice (some ⟨g, o, none⟩) l.length cap ∧ g < w.heap.size ∧ l.length ≤ cap ∧ cap ≤ maxLen ∧
    (∀ j, j < l.length * K → w.cell? ⟨g, o + j, none⟩ = (flats cs l)[j]?) ∧ ∀ j, j < cap * K → (w.cell? ⟨g, o + j, none⟩).isSome = true ∧ w.frozen? ⟨g, o + j, none⟩ = false
section
variable {α : Type} {w : World} {K : Nat} {cs : α → List Value} {v : Value} {l : List α}
theorem OwnO.nil (w : World) (K : Nat) (cs : α → List Value) : OwnO w K cs (.slice none 0 0) [] := .inl ⟨rfl, rfl⟩
theorem OwnO.lt (h : OwnO w K cs v l) : ∀ k, v.ownBlock = some k → k < w.heap.size := by
  intro k hk
  rcases h with ⟨rfl, _⟩ | ⟨g, o, cap, rfl, hg, _⟩
  · simp [Value.ownBlock] at hk
  · simp [Value.ownBlock] at hk
    omega
theorem OwnO.form (h : OwnO w K cs v l) : ∃ a c, v = .slice a l.length c := by
  rcases h with ⟨rfl, rfl⟩ | ⟨g, o, cap, rfl, _⟩
  · exact ⟨none, 0, rfl⟩
  · exact ⟨_, _, rfl⟩
theorem OwnO.same {w' : World} (h : OwnO w K cs v l) (hz : w.heap.size ≤ w'.heap.size) (he : ∀ k, v.ownBlock = some k → w'.heap[k]? = w.heap[k]?) : OwnO w' K cs v l := by
  rcases h with h0 | ⟨g, o, cap, rfl, hg, hl, hc, h1, h2⟩
  · exact .inl h0
  · have e := he g rfl
    exact .inr ⟨g, o, cap, rfl, by omega, hl, hc, fun j hj => (World.cell?_of_block (a := ⟨g, o + j, none⟩) e).trans (h1 j hj),
      fun j hj => ⟨by rw [World.cell?_of_block (a := ⟨g, o + j, none⟩) e]; exact (h2 j hj).1, (World.frozen?_of_block (a := ⟨g, o + j, none⟩) e).trans (h2 j hj).2⟩⟩
theorem OwnO.kept {w' : World} (h : OwnO w K cs v l) (hb : Below w.heap.size w w') : OwnO w' K cs v l := h.same hb.size fun k hk => hb.block k (h.lt k hk)
theorem OwnO.grown {w' : World} {row : Option Nat} (h : OwnO w K cs v l) (hg : w.grownBy w' row) (hne : ∀ k, v.ownBlock = some k → some k ≠ row) : OwnO w' K cs v l := h.same hg.size fun k hk => hg.block k (h.lt k hk) (hne k hk)
theorem OwnO.away (h : OwnO w K cs v l) (a : Addr) (u : Value) (hne : ∀ k, v.ownBlock = some k → k ≠ a.block) : OwnO (w.setCell a u) K cs v l :=
  h.same (by simp [World.setCell]) fun k hk => Below.heap_setCell w a u k (hne k hk)
theorem OwnR.own {B : Nat} {e : TypeId} (h : OwnR w B e K cs v l) : OwnO w K cs v l := by
  rcases h.2 with ⟨rfl, h0⟩ | ⟨g, cap, cur, rfl, hg, hh, hnc, hcp, hcs, htake⟩
  · exact .inl ⟨rfl, List.eq_nil_of_length_eq_zero h0⟩
  · refine .inr ⟨g, 0, cap, rfl, lt_of_block hh, hnc, hcp, fun j hj => ?_, fun j hj => ?_⟩
    · rw [← htake, List.getElem?_take_of_lt hj]
      simp [World.cell?, hh]
    · rw [Nat.zero_add]
      refine ⟨?_, by simp [World.frozen?, hh]⟩
      simp only [World.cell?, hh]
      have : cur[j]? = some (cur[j]'(by omega)) := Array.getElem?_eq_getElem _
      simp [this]
theorem OwnO.rows (hK : ∀ x, (cs x).length = K) (h : OwnO w K cs v l) : RowsAt w K cs v l := by
  rcases h with ⟨rfl, rfl⟩ | ⟨g, o, cap, rfl, hg, hl, hc, h1, h2⟩
  · exact RowsAt.nil w K cs
  · refine ⟨_, cap, rfl, hl, fun h0 => ⟨g, o, rfl, hg, fun j x hj i u hu => ?_⟩⟩
    have h3 := flats_at hK l j x hj i u hu
    have hlt := (List.getElem?_eq_some_iff.1 h3).1
    rw [flats_length hK] at hlt
    rw [Nat.add_assoc, h1 _ hlt]
    exact h3
theorem OwnO.src {P : Program} {tx e : TypeId} (ht : P.underlying tx = some (.slice e)) (hK : ∀ x, (cs x).length = K) (hone : ∀ x, ∀ u ∈ cs x, u.oneCell' = true) (h : RowsAt w K cs v l) : Src P K tx v l.length (flats cs l) w := by
  obtain ⟨a, cap, rfl, hc, hx⟩ := h
  rcases Nat.eq_zero_or_pos l.length with h0 | h0
  · have : l = [] := List.eq_nil_of_length_eq_zero h0
    subst this
    cases a with
    | none => exact Src.ofNil w ht cap
    | some a => exact Src.ofSlice w ht a 0 cap [] (by simp) (by simp) (by simp)
  · obtain ⟨g, o, rfl, hg, hcell⟩ := hx h0
    refine Src.ofSlice w ht _ _ cap (flats cs l) (flats_length hK l) (fun j u hu => ?_) fun u hu => ?_
    · obtain ⟨q, i, x, rfl, e2, e3⟩ := flats_inv hK l j u hu
      rw [add_plain, ← Nat.add_assoc]
      exact hcell q x e2 i u e3
    · obtain ⟨j, hj, rfl⟩ := List.getElem_of_mem hu
      obtain ⟨q, i, x, _, e2, e3⟩ := flats_inv hK l j _ (List.getElem?_eq_getElem hj)
      exact hone x _ (List.mem_of_getElem? e3)
theorem OwnO.hold (hK : ∀ x, (cs x).length = K) {P : Program} {base : Option Addr} {n cap : Nat} (h : OwnO w K cs (.slice base n cap) l) : (Builtin.firstCells K n (.slice base n cap)).run P w.drew = .ok (flats cs l).toArray w.drew := by
  rcases h with ⟨e, rfl⟩ | ⟨g, o, c, e, hg, hl, hc, h1, h2⟩
  · cases e
    exact run_firstCells_none w.drew K 0 0 0
  · cases e
    refine run_firstCells_some w.drew K _ _ _ _ _ (flats_length hK l) fun j u hu => ?_
    rw [add_plain]
    show w.cell? ⟨g, o + j, none⟩ = some u
    have hlt := (List.getElem?_eq_some_iff.1 hu).1
    rw [flats_length hK] at hlt
    rw [h1 j hlt]
    exact hu
theorem tape_setCells (b : Nat) : ∀ (vs : List Value) (o : Nat) (w : World), (w.setCells b o vs).tape = w.tape
  | [], _, _ => rfl
  | v :: r, o, w => by rw [World.setCells, tape_setCells b r (o + 1)]; rfl
theorem os_setCells (b : Nat) : ∀ (vs : List Value) (o : Nat) (w : World), (w.setCells b o vs).os = w.os
  | [], _, _ => rfl
  | v :: r, o, w => by rw [World.setCells, os_setCells b r (o + 1)]; rfl
theorem output_setCells (b : Nat) : ∀ (vs : List Value) (o : Nat) (w : World), (w.setCells b o vs).output = w.output
  | [], _, _ => rfl
  | v :: r, o, w => by rw [World.setCells, output_setCells b r (o + 1)]; rfl
theorem size_setCells (b : Nat) : ∀ (vs : List Value) (o : Nat) (w : World), (w.setCells b o vs).heap.size = w.heap.size
  | [], _, _ => rfl
  | v :: r, o, w => by rw [World.setCells, size_setCells b r (o + 1)]; simp [World.setCell]
theorem heap_setCells (b : Nat) {k : Nat} (hk : k ≠ b) : ∀ (vs : List Value) (o : Nat) (w : World), (w.setCells b o vs).heap[k]? = w.heap[k]?
  | [], _, _ => rfl
  | v :: r, o, w => by rw [World.setCells, heap_setCells b hk r (o + 1)]; exact Below.heap_setCell w _ v k hk
theorem flats_get_append {a b : List α} (hK : ∀ x, (cs x).length = K) (j : Nat) : (flats cs (a ++ b))[j]? = if j < a.length * K then (flats cs a)[j]? else (flats cs b)[j - a.length * K]? := by
  rw [flats_append]
  split
  · rename_i h
    exact List.getElem?_append_left (by rw [flats_length hK]; exact h)
  · rename_i h
    rw [List.getElem?_append_right (by rw [flats_length hK]; omega), flats_length hK]

/-- more behind it -/
theorem run_append_o {P : Program} (hK : ∀ x, (cs x).length = K) (hK0 : 0 < K) (hone : ∀ x, ∀ u ∈ cs x, u.oneCell' = true) (t tx ty e ex : TypeId) (i : TypeInfo) (z : Value) (ht : P.underlying t = some (.slice e)) (htx : P.underlying tx = some (.slice ex)) (hi : P.info? e = some i) (hz : i.zero = some z) (hsize : i.size = K) (hzs : z.cells.size = K)
    (h : OwnO w K cs v l) (x : Value) (m : List α) (hx : RowsAt w K cs x m) (hlen : l.length + m.length ≤ maxLen) (hbytes : (l.length + m.length) * i.bytes ≤ 140737488355328) :
    ∃ v' w', (Builtin.append_ #[t, tx] ty #[v, x]).run P w = .ok v' w' ∧ OwnO w' K cs v' (l ++ m) ∧ w.grownBy w' v.ownBlock ∧ (v'.ownBlock = v.ownBlock ∨ v'.ownBlock = some w.heap.size) := by
  have hs := OwnO.src htx hK hone hx
  have hfl := flats_length hK l
  have hfm := flats_length hK m
  have hsmall : l.length + m.length ≤ 9223372036854775807 := by simp only [maxLen] at hlen; omega
  subst hsize
  have grow : ∀ (bs : Option Addr) (c : Nat), v = .slice bs l.length c → c < l.length + m.length →
      ∃ v' w', (Builtin.append_ #[t, tx] ty #[v, x]).run P w = .ok v' w' ∧ OwnO w' i.size cs v' (l ++ m) ∧ w.grownBy w' v.ownBlock ∧ (v'.ownBlock = v.ownBlock ∨ v'.ownBlock = some w.heap.size) := by
    rintro bs c rfl hc
    have hrun := run_append_grow_src (P := P) w t tx ty e i z ht hi hz bs l.length c (flats cs l) (h.hold hK) x m.length (flats cs m) hs hc (by omega) (growslice_fits hc hbytes)
    have hge := grownCap_ge w (l.length + m.length) c e
    have hcm := grownCap_le_maxLen w (l.length + m.length) c e hlen
    refine ⟨_, _, hrun, .inr ⟨w.heap.size, 0, _, by rw [List.length_append], by simp, by rw [List.length_append]; exact hge, hcm, fun j hj => ?_, fun j hj => ?_⟩, ⟨rfl, rfl, rfl, by simp, fun k hk _ => Below.heap_alloc w.drew _ k hk⟩, .inr rfl⟩
    · have e1 := World.cell?_alloc_new w.drew ((flats cs l ++ flats cs m).toArray ++ Builtin.zeroCells z.cells (grownCap w (l.length + m.length) c e - (l.length + m.length))) e j
      rw [Nat.zero_add]
      refine e1.trans ?_
      rw [List.length_append, Nat.add_mul] at hj
      rw [Array.getElem?_append_left (by simp only [List.size_toArray, List.length_append]; omega), List.getElem?_toArray, flats_append]
    · have e1 := World.cell?_alloc_new w.drew ((flats cs l ++ flats cs m).toArray ++ Builtin.zeroCells z.cells (grownCap w (l.length + m.length) c e - (l.length + m.length))) e j
      have hsz : ((flats cs l ++ flats cs m).toArray ++ Builtin.zeroCells z.cells (grownCap w (l.length + m.length) c e - (l.length + m.length))).size = grownCap w (l.length + m.length) c e * i.size := by
        rw [Array.size_append, List.size_toArray, List.length_append, hfl, hfm, size_zeroCells, hzs, ← Nat.add_mul, ← Nat.add_mul]
        congr 1
        omega
      rw [Nat.zero_add]
      refine ⟨?_, World.frozen?_alloc_new w.drew _ _ j⟩
      have e2 : ((w.drew.alloc (.cells ((flats cs l ++ flats cs m).toArray ++ Builtin.zeroCells z.cells (grownCap w (l.length + m.length) c e - (l.length + m.length))) e)).cell? ⟨w.heap.size, j, none⟩).isSome = true := by
        refine (congrArg Option.isSome e1).trans ?_
        rw [Array.getElem?_eq_getElem (by rw [hsz]; exact hj)]
        rfl
      exact e2
  rcases h with ⟨rfl, rfl⟩ | ⟨g, o, c, rfl, hg, hl, hc, h1, h2⟩
  · by_cases hm : m.length = 0
    · have : m = [] := List.eq_nil_of_length_eq_zero hm
      subst this
      obtain ⟨xa, xc, rfl⟩ := RowsAt.form hx
      refine ⟨.slice none 0 0, w, ?_, .inl ⟨rfl, rfl⟩, ⟨rfl, rfl, rfl, Nat.le_refl _, fun _ _ _ => rfl⟩, .inl rfl⟩
      have h5 := hs.cells
      simp only [List.length_nil] at h5
      simp [Builtin.append_, run_underlying ht, run_underlying htx, sizeOf, typeInfo, hi, Builtin.lenOf, h5, flats]
    · exact grow none 0 rfl (by simp; omega)
  · by_cases hroom : l.length + m.length ≤ c
    · have hfit : (l.length + m.length) * i.size ≤ c * i.size := Nat.mul_le_mul_right _ hroom
      rw [Nat.add_mul] at hfit
      have hc1 : ∀ j, j < (flats cs m).length → (w.cell? ⟨g, o + l.length * i.size + j, none⟩).isSome = true ∧ w.frozen? ⟨g, o + l.length * i.size + j, none⟩ = false := fun j hj => by
        have := h2 (l.length * i.size + j) (by omega)
        rwa [← Nat.add_assoc] at this
      have hrun := run_append_room_src (P := P) w t tx ty e i ht hi g o l.length c x m.length (flats cs m) hs hroom (fun j hj => (hc1 j hj).1) (fun j hj => (hc1 j hj).2)
      refine ⟨_, _, hrun, .inr ⟨g, o, c, by rw [List.length_append], by rw [size_setCells]; exact hg, by rw [List.length_append]; exact hroom, hc, fun j hj => ?_, fun j hj => ?_⟩,
        ⟨os_setCells _ _ _ _, tape_setCells _ _ _ _, output_setCells _ _ _ _, by rw [size_setCells]; exact Nat.le_refl _, fun k _ hk => heap_setCells g (fun e => hk (by rw [e]; rfl)) _ _ _⟩, .inl rfl⟩
      · rw [flats_get_append hK]
        rw [List.length_append, Nat.add_mul] at hj
        split
        · rename_i h6
          rw [World.cell?_setCells_out g _ _ _ _ (fun _ _ => .inl (by show o + j < o + l.length * i.size; omega))]
          exact h1 j h6
        · rename_i h6
          have h7 : j - l.length * i.size < (flats cs m).length := by omega
          have := World.cell?_setCells_in g (flats cs m) (o + l.length * i.size) w (fun j hj => (hc1 j hj).1) (j - l.length * i.size) h7
          rw [show o + l.length * i.size + (j - l.length * i.size) = o + j by omega] at this
          rw [this, List.getElem?_eq_getElem h7]
      · refine ⟨?_, by rw [World.frozen?_setCells]; exact (h2 j hj).2⟩
        by_cases h6 : l.length * i.size ≤ j ∧ j < l.length * i.size + (flats cs m).length
        · have := World.cell?_setCells_in g (flats cs m) (o + l.length * i.size) w (fun j hj => (hc1 j hj).1) (j - l.length * i.size) (by omega)
          rw [show o + l.length * i.size + (j - l.length * i.size) = o + j by omega] at this
          rw [this]
          rfl
        · rw [World.cell?_setCells_out g _ _ _ _ (fun _ _ => by show o + j < o + l.length * i.size ∨ o + l.length * i.size + (flats cs m).length ≤ o + j; omega)]
          exact (h2 j hj).1
    · exact grow _ c rfl (by omega)

theorem wpList_append_o {P : Program} {ops : Array Oper} {rest : List Oper} {o : Oper} {a : Act} {Q : Exit → Act → World → Prop} (hgd : o.guard = none) (s x : Operand) (t tx : TypeId)
    (ho : o.op = .call { callee := .builtin .append, args := #[s, x], argTypes := #[t, tx] })
    (hK : ∀ x, (cs x).length = K) (hK0 : 0 < K) (hone : ∀ x, ∀ u ∈ cs x, u.oneCell' = true) (e ex : TypeId) (i : TypeInfo) (z : Value) (ht : P.underlying t = some (.slice e)) (htx : P.underlying tx = some (.slice ex)) (hi : P.info? e = some i) (hz : i.zero = some z) (hsize : i.size = K) (hzs : z.cells.size = K)
    (hs : a.eval s = v) (h : OwnO w K cs v l) (vx : Value) (m : List α) (hvx : a.eval x = vx) (hx : RowsAt w K cs vx m) (hlen : l.length + m.length ≤ maxLen) (hbytes : (l.length + m.length) * i.bytes ≤ 140737488355328)
    (hk : ∀ v' w', OwnO w' K cs v' (l ++ m) → w.grownBy w' v.ownBlock → (v'.ownBlock = v.ownBlock ∨ v'.ownBlock = some w.heap.size) → wpList P ops Q rest (a.put o.dst v') w') : wpList P ops Q (o :: rest) a w := by
  refine wpList_plain hgd fun K' hK' => ?_
  obtain ⟨v', w', hrun, h1, h2, h3⟩ := run_append_o (P := P) hK hK0 hone t tx o.type e ex i z ht htx hi hz hsize hzs h vx m hx hlen hbytes
  unfold Oper.wp
  simp [execOp, ho, resolve, invoke, builtin, hs, hvx, hrun, Result.andThen]
  exact hK' _ _ (hk v' w' h1 h2 h3)

/-- its rest -/
theorem OwnO.drop {a : Option Addr} {n cap : Nat} (h : OwnO w K cs (.slice a n cap) l) (k : Nat) (hk : k ≤ l.length) (hK : ∀ x, (cs x).length = K) (a' : Option Addr) (ha : k < cap → ∀ g o, a = some ⟨g, o, none⟩ → a' = some ⟨g, o + k * K, none⟩) (ha' : cap ≤ k → a' = a) : OwnO w K cs (.slice a' (n - k) (cap - k)) (l.drop k) := by
  rcases h with ⟨e, rfl⟩ | ⟨g, o, c, e, hg, hl, hc, h1, h2⟩
  · cases e
    simp at hk
    subst hk
    rw [ha' (Nat.le_refl _)]
    exact .inl ⟨rfl, rfl⟩
  · cases e
    by_cases hkc : k < cap
    · rw [ha hkc g o rfl]
      refine .inr ⟨g, o + k * K, cap - k, by rw [List.length_drop], hg, by rw [List.length_drop]; omega, by omega, fun j hj => ?_, fun j hj => ?_⟩
      · rw [List.length_drop, Nat.sub_mul] at hj
        have hkl : k * K ≤ l.length * K := Nat.mul_le_mul_right _ hk
        have h3 : (flats cs l)[k * K + j]? = (flats cs (l.drop k))[j]? := by
          have h4 : flats cs l = flats cs (l.take k) ++ flats cs (l.drop k) := by rw [← flats_append, List.take_append_drop]
          have h5 : (flats cs (l.take k)).length = k * K := by rw [flats_length hK, List.length_take, Nat.min_eq_left hk]
          rw [h4, List.getElem?_append_right (by omega), h5]
          congr 1
          omega
        rw [← h3, Nat.add_assoc]
        exact h1 _ (by omega)
      · rw [Nat.sub_mul] at hj
        rw [Nat.add_assoc]
        exact h2 _ (by omega)
    · have hkl : k = l.length := by omega
      subst hkl
      rw [ha' (by omega)]
      refine .inr ⟨g, o, cap - l.length, by rw [List.length_drop], hg, by rw [List.length_drop]; omega, by omega, fun j hj => ?_, fun j hj => ?_⟩
      · rw [List.length_drop, Nat.sub_self, Nat.zero_mul] at hj
        omega
      · rw [show cap - l.length = 0 by omega, Nat.zero_mul] at hj
        omega
end

/-- what lies outside F is as it was -/
structure Only (F : Nat → Prop) (w w' : World) : Prop where
  os : w'.os = w.os
  tape : w'.tape = w.tape
  output : w'.output = w.output
  size : w.heap.size ≤ w'.heap.size
  block : ∀ k, k < w.heap.size → ¬ F k → w'.heap[k]? = w.heap[k]?
/-- .. and what an object has behind it is of what it had, or new -/
structure Mv (F F' : Nat → Prop) (w w' : World) : Prop where
  only : Only F w w'
  sub : ∀ k, F' k → F k ∨ w.heap.size ≤ k
section
variable {F F' F'' : Nat → Prop} {w w' w'' : World}
theorem Only.refl (F : Nat → Prop) (w : World) : Only F w w := ⟨rfl, rfl, rfl, Nat.le_refl _, fun _ _ _ => rfl⟩
theorem Only.of_below (h : Below w.heap.size w w') : Only F w w' := ⟨h.os, h.tape, h.output, h.size, fun k hk _ => h.block k hk⟩
theorem Only.below {B : Nat} (h : Only F w w') (hF : ∀ k, F k → B ≤ k) (hB : B ≤ w.heap.size) : Below B w w' := ⟨h.os, h.tape, h.output, h.size, fun k hk => h.block k (by omega) fun hf => by have := hF k hf; omega⟩
theorem Only.mono (h : Only F w w') (hs : ∀ k, F k → F' k) : Only F' w w' := ⟨h.os, h.tape, h.output, h.size, fun k hk hf => h.block k hk fun h1 => hf (hs k h1)⟩
theorem Only.trans (h : Only F w w') (h2 : Only F w' w'') : Only F w w'' :=
  ⟨h2.os.trans h.os, h2.tape.trans h.tape, h2.output.trans h.output, Nat.le_trans h.size h2.size, fun k hk hf => (h2.block k (Nat.lt_of_lt_of_le hk h.size) hf).trans (h.block k hk hf)⟩
theorem Only.grown {row : Option Nat} (hg : w.grownBy w' row) (hr : ∀ k, row = some k → F k) : Only F w w' := ⟨hg.os, hg.tape, hg.output, hg.size, fun k hk hf => hg.block k hk fun e => hf (hr k e.symm)⟩
theorem Only.set (h : Only F w w') (a : Addr) (u : Value) (hf : F a.block) : Only F w (w'.setCell a u) :=
  h.trans ⟨rfl, rfl, rfl, by simp [World.setCell], fun k _ hk => Below.heap_setCell w' a u k fun e => hk (e ▸ hf)⟩
theorem Mv.refl (F : Nat → Prop) (w : World) : Mv F F w w := ⟨Only.refl _ _, fun _ h => .inl h⟩
theorem Mv.of_below (h : Below w.heap.size w w') : Mv F F w w' := ⟨Only.of_below h, fun _ h => .inl h⟩
theorem Mv.trans (h : Mv F F' w w') (h2 : Mv F' F'' w' w'') : Mv F F'' w w'' := by
  refine ⟨⟨h2.only.os.trans h.only.os, h2.only.tape.trans h.only.tape, h2.only.output.trans h.only.output, Nat.le_trans h.only.size h2.only.size, fun k hk hf => ?_⟩, fun k hk => ?_⟩
  · refine (h2.only.block k (Nat.lt_of_lt_of_le hk h.only.size) fun h3 => ?_).trans (h.only.block k hk hf)
    rcases h.sub k h3 with h4 | h4
    · exact hf h4
    · omega
  · rcases h2.sub k hk with h3 | h3
    · exact h.sub k h3
    · exact .inr (Nat.le_trans h.only.size h3)
theorem Mv.off (h : Mv F F' w w') {k : Nat} (hk : k < w.heap.size) (hf : ¬ F k) : ¬ F' k := fun h1 => (h.sub k h1).elim hf (fun h2 => by omega)
theorem Mv.from_ {B : Nat} (h : Mv F F' w w') (hF : ∀ k, F k → B ≤ k) (hB : B ≤ w.heap.size) : ∀ k, F' k → B ≤ k := fun k hk => (h.sub k hk).elim (hF k) (fun h2 => Nat.le_trans hB h2)
end
end Go.Proofs.YthchkhgimnchcaaGreat
/- Stage 22: a task's spec and rules as values; what Check, Rules, Same and SameRules tell, as mathematics. -/
namespace Go.Proofs.YthchkhgimnchcaaGreat
open Go.RowKit

/-- a spec -/
structure Sp where
  id : Int
  prio : Int
  sk : Int
  ge : Int
  fx : Int
  fy : Int
  tx : Int
  ty : Int
  a : Option Addr
  c : Nat
  aft : List Int
deriving Inhabited
abbrev Sp.v (x : Sp) : Value := .slice x.a x.aft.length x.c
def csSp (x : Sp) : List Value := [.int .i64 x.id, .int .i64 x.prio, .int .u64 x.sk, .int .u64 x.ge, .int .i64 x.fx, .int .i64 x.fy, .int .i64 x.tx, .int .i64 x.ty, x.v]
theorem csSp_len (x : Sp) : (csSp x).length = 9 := rfl
abbrev spv (x : Sp) : Value := .agg #[.int .i64 x.id, .int .i64 x.prio, .int .u64 x.sk, .int .u64 x.ge, .int .i64 x.fx, .int .i64 x.fy, .int .i64 x.tx, .int .i64 x.ty, .slice x.a x.aft.length x.c]
/-- rules -/
structure Ru where
  tasks : Int
  crew : Int
  units : Int
  lease : Int
  tries : Int
  rate : Int
  start : Int
  a : Option Addr
  c : Nat
  ais : List Ais
deriving Inhabited
abbrev Ru.v (x : Ru) : Value := .slice x.a x.ais.length x.c
def csRu (x : Ru) : List Value := [.int .i64 x.tasks, .int .i64 x.crew, .int .i64 x.units, .int .i64 x.lease, .int .i64 x.tries, .int .i64 x.rate, .int .i64 x.start, x.v]
abbrev ruv (x : Ru) : Value := .agg #[.int .i64 x.tasks, .int .i64 x.crew, .int .i64 x.units, .int .i64 x.lease, .int .i64 x.tries, .int .i64 x.rate, .int .i64 x.start, .slice x.a x.ais.length x.c]

/-- is a number within bounds -/
def inB (n a b : Int) : Bool := decide (a ≤ n ∧ n ≤ b)
theorem inB_yes {n a b : Int} (h1 : a ≤ n) (h2 : n ≤ b) : inB n a b = true := decide_eq_true ⟨h1, h2⟩
theorem inB_no {n a b : Int} (h : ¬ (a ≤ n ∧ n ≤ b)) : inB n a b = false := decide_eq_false h
theorem inB_iff {n a b : Int} : inB n a b = true ↔ a ≤ n ∧ n ≤ b := decide_eq_true_iff
/-- a number and its bounds -/
structure Bd where
  n : Int
  lo : Int
  hi : Int
deriving Inhabited
def csBd (b : Bd) : List Value := [.int .i64 b.n, .int .i64 b.lo, .int .i64 b.hi]
theorem csBd_len (b : Bd) : (csBd b).length = 3 := rfl
def Bd.ok (b : Bd) : Bool := inB b.n b.lo b.hi
def bdsS (x : Sp) : List Bd := [⟨x.id, 1, 999⟩, ⟨x.prio, 0, 1048575⟩, ⟨x.fx, -1000, 1000⟩, ⟨x.fy, -1000, 1000⟩, ⟨x.tx, -1000, 1000⟩, ⟨x.ty, -1000, 1000⟩]
def numS (x : Sp) : Bool := (bdsS x).all Bd.ok
def idsB (l : List Int) : Bool := l.all fun n => inB n 1 999
def aftB (id : Int) (l : List Int) : Bool := decide (l.length ≤ 8) && (rightB l && (!inL l id && idsB l))
def chk (x : Sp) : Int := if numS x then (if aftB x.id x.aft then 0 else 1) else 2
def bdsR (r : Ru) : List Bd := [⟨r.tasks, 1, 64⟩, ⟨r.crew, 1, 16⟩, ⟨r.units, 1, 16⟩, ⟨r.lease, 1, 1000⟩, ⟨r.tries, 1, 64⟩, ⟨r.rate, 0, 1048576⟩, ⟨r.start, 0, 2147483647⟩]
def numR (r : Ru) : Bool := (bdsR r).all Bd.ok
noncomputable def rul (r : Ru) : Int := if numR r then (if rightP r.ais then 0 else 1) else 2
/-- are two alike in all but their lists -/
def plainB (x y : Sp) : Bool := decide (x.id = y.id ∧ x.prio = y.prio ∧ x.sk = y.sk ∧ x.ge = y.ge ∧ (x.fx = y.fx ∧ x.fy = y.fy) ∧ x.tx = y.tx ∧ x.ty = y.ty)
def sameS (x y : Sp) : Bool := plainB x y && decide (x.aft = y.aft)
def plainR (x y : Ru) : Bool := decide (x.tasks = y.tasks ∧ x.crew = y.crew ∧ x.units = y.units ∧ x.lease = y.lease ∧ x.tries = y.tries ∧ x.rate = y.rate ∧ x.start = y.start)
def sameR (x y : Ru) : Bool := plainR x y && decide (x.ais = y.ais)

theorem chk_two {x : Sp} (h : numS x = false) : chk x = 2 := by unfold chk; rw [h]; rfl
theorem chk_one {x : Sp} (h : numS x = true) (h2 : aftB x.id x.aft = false) : chk x = 1 := by unfold chk; rw [h, h2]; rfl
theorem chk_zero {x : Sp} (h : numS x = true) (h2 : aftB x.id x.aft = true) : chk x = 0 := by unfold chk; rw [h, h2]; rfl
theorem chk_cases (x : Sp) : (numS x = false ∧ chk x = 2) ∨ (numS x = true ∧ aftB x.id x.aft = false ∧ chk x = 1) ∨ (numS x = true ∧ aftB x.id x.aft = true ∧ chk x = 0) := by
  cases h : numS x with
  | false => exact .inl ⟨rfl, chk_two h⟩
  | true =>
    cases h2 : aftB x.id x.aft with
    | false => exact .inr (.inl ⟨rfl, rfl, chk_one h h2⟩)
    | true => exact .inr (.inr ⟨rfl, rfl, chk_zero h h2⟩)
theorem rul_two {x : Ru} (h : numR x = false) : rul x = 2 := by unfold rul; rw [h]; rfl
theorem rul_one {x : Ru} (h : numR x = true) (h2 : rightP x.ais = false) : rul x = 1 := by unfold rul; rw [h, h2]; rfl
theorem rul_zero {x : Ru} (h : numR x = true) (h2 : rightP x.ais = true) : rul x = 0 := by unfold rul; rw [h, h2]; rfl
theorem numS_eq (x : Sp) : numS x = (inB x.id 1 999 && (inB x.prio 0 1048575 && (smallB x.fx x.fy 1000 && smallB x.tx x.ty 1000))) := by
  rw [Bool.eq_iff_iff]
  simp only [numS, bdsS, Bd.ok, List.all_cons, List.all_nil, Bool.and_true, Bool.and_eq_true, inB_iff, smallB, decide_eq_true_eq]
  omega
/-- which of a spec's numbers is the first that may not be -/
theorem num_ways (x : Sp) : (numS x = false ∧ (inB x.id 1 999 = false ∨ (inB x.id 1 999 = true ∧ x.prio < 0) ∨ (inB x.id 1 999 = true ∧ ¬ x.prio < 0 ∧ 1048575 < x.prio) ∨ (inB x.id 1 999 = true ∧ ¬ x.prio < 0 ∧ ¬ 1048575 < x.prio ∧ smallB x.fx x.fy 1000 = false) ∨
    (inB x.id 1 999 = true ∧ ¬ x.prio < 0 ∧ ¬ 1048575 < x.prio ∧ smallB x.fx x.fy 1000 = true ∧ smallB x.tx x.ty 1000 = false))) ∨ (numS x = true ∧ inB x.id 1 999 = true ∧ ¬ x.prio < 0 ∧ ¬ 1048575 < x.prio ∧ smallB x.fx x.fy 1000 = true ∧ smallB x.tx x.ty 1000 = true) := by
  rw [numS_eq]
  have hp : inB x.prio 0 1048575 = (decide (0 ≤ x.prio) && decide (x.prio ≤ 1048575)) := by unfold inB; simp
  rw [hp]
  by_cases p1 : x.prio < 0
  · rw [decide_eq_false (show ¬ 0 ≤ x.prio by omega)]
    cases inB x.id 1 999 <;> simp [p1]
  · rw [decide_eq_true (show 0 ≤ x.prio by omega)]
    by_cases p2 : 1048575 < x.prio
    · rw [decide_eq_false (show ¬ x.prio ≤ 1048575 by omega)]
      cases inB x.id 1 999 <;> simp [p1, p2]
    · rw [decide_eq_true (show x.prio ≤ 1048575 by omega)]
      cases inB x.id 1 999 <;> cases smallB x.fx x.fy 1000 <;> cases smallB x.tx x.ty 1000 <;> simp [p1, p2]
theorem idsB_take {l : List Int} {k : Nat} (hk : k < l.length) (h : idsB (l.take k) = true) (h2 : inB l[k] 1 999 = true) : idsB (l.take (k + 1)) = true := by
  unfold idsB at *
  rw [List.take_succ_eq_append_getElem hk, List.all_append, h]
  simp [h2]
theorem idsB_no {l : List Int} {k : Nat} (hk : k < l.length) (h2 : inB l[k] 1 999 = false) : idsB l = false := by
  unfold idsB
  rw [List.all_eq_false]
  exact ⟨_, List.getElem_mem hk, by rw [h2]; exact Bool.false_ne_true⟩
theorem aft_len {id : Int} {l : List Int} (h : ¬ l.length ≤ 8) : aftB id l = false := by unfold aftB; rw [decide_eq_false h]; rfl
theorem aft_right {id : Int} {l : List Int} (h : rightB l = false) : aftB id l = false := by unfold aftB; rw [h]; simp
theorem aft_own {id : Int} {l : List Int} (h : inL l id = true) : aftB id l = false := by unfold aftB; rw [h]; simp
theorem aft_ids {id : Int} {l : List Int} (h : idsB l = false) : aftB id l = false := by unfold aftB; rw [h]; simp
theorem aft_yes {id : Int} {l : List Int} (h1 : l.length ≤ 8) (h2 : rightB l = true) (h3 : inL l id = false) : aftB id l = idsB l := by unfold aftB; rw [decide_eq_true h1, h2, h3]; rfl
/-- what is the first that is wrong with what a spec comes after -/
theorem aft_ways (id : Int) (l : List Int) {r : Int} (h1 : aftB id l = false → r = 1) (h0 : aftB id l = true → r = 0) :
    (r = 1 ∧ (8 < (l.length : Int) ∨ (¬ 8 < (l.length : Int) ∧ rightB l = false) ∨ (¬ 8 < (l.length : Int) ∧ rightB l = true ∧ inL l id = true))) ∨ (¬ 8 < (l.length : Int) ∧ rightB l = true ∧ inL l id = false ∧ (idsB l = false → r = 1) ∧ (idsB l = true → r = 0)) := by
  by_cases hl : l.length ≤ 8
  · cases hr : rightB l with
    | false => exact .inl ⟨h1 (aft_right hr), .inr (.inl ⟨by omega, rfl⟩)⟩
    | true =>
      cases hi : inL l id with
      | true => exact .inl ⟨h1 (aft_own hi), .inr (.inr ⟨by omega, rfl, rfl⟩)⟩
      | false =>
        rw [aft_yes hl hr hi] at h1 h0
        exact .inr ⟨by omega, rfl, rfl, h1, h0⟩
  · exact .inl ⟨h1 (aft_len hl), .inl (by omega)⟩
/-- which of some rules is the first that may not be -/
theorem rul_ways (x : Ru) : (rul x = 2 ∧ inB x.tasks 1 64 = false) ∨ (rul x = 2 ∧ inB x.tasks 1 64 = true ∧ inB x.crew 1 16 = false) ∨ (rul x = 2 ∧ inB x.tasks 1 64 = true ∧ inB x.crew 1 16 = true ∧ inB x.units 1 16 = false) ∨
    (rul x = 2 ∧ inB x.tasks 1 64 = true ∧ inB x.crew 1 16 = true ∧ inB x.units 1 16 = true ∧ inB x.lease 1 1000 = false) ∨ (rul x = 2 ∧ inB x.tasks 1 64 = true ∧ inB x.crew 1 16 = true ∧ inB x.units 1 16 = true ∧ inB x.lease 1 1000 = true ∧ inB x.tries 1 64 = false) ∨
    (rul x = 2 ∧ inB x.tasks 1 64 = true ∧ inB x.crew 1 16 = true ∧ inB x.units 1 16 = true ∧ inB x.lease 1 1000 = true ∧ inB x.tries 1 64 = true ∧ inB x.rate 0 1048576 = false) ∨
    (rul x = 2 ∧ inB x.tasks 1 64 = true ∧ inB x.crew 1 16 = true ∧ inB x.units 1 16 = true ∧ inB x.lease 1 1000 = true ∧ inB x.tries 1 64 = true ∧ inB x.rate 0 1048576 = true ∧ inB x.start 0 2147483647 = false) ∨
    (rul x = 1 ∧ inB x.tasks 1 64 = true ∧ inB x.crew 1 16 = true ∧ inB x.units 1 16 = true ∧ inB x.lease 1 1000 = true ∧ inB x.tries 1 64 = true ∧ inB x.rate 0 1048576 = true ∧ inB x.start 0 2147483647 = true ∧ rightP x.ais = false) ∨
    (rul x = 0 ∧ inB x.tasks 1 64 = true ∧ inB x.crew 1 16 = true ∧ inB x.units 1 16 = true ∧ inB x.lease 1 1000 = true ∧ inB x.tries 1 64 = true ∧ inB x.rate 0 1048576 = true ∧ inB x.start 0 2147483647 = true ∧ rightP x.ais = true) := by
  unfold rul numR bdsR
  simp only [List.all_cons, List.all_nil, Bd.ok, Bool.and_true]
  cases inB x.tasks 1 64 <;> cases inB x.crew 1 16 <;> cases inB x.units 1 16 <;> cases inB x.lease 1 1000 <;> cases inB x.tries 1 64 <;> cases inB x.rate 0 1048576 <;> cases inB x.start 0 2147483647 <;> cases rightP x.ais <;> simp
/-- the aisles that a task goes through -/
noncomputable def wantL (r : Ru) (x : Sp) : List Int := crs7 (hitB (rway (wd x.fx, wd x.fy) (wd x.tx, wd x.ty) 0)) r.ais
/-- which is the first number that two specs, two rules, differ in -/
theorem plain_ways (x y : Sp) : (plainB x y = false ∧ (((x.id == y.id) = false) ∨ (x.id = y.id ∧ (x.prio == y.prio) = false) ∨ (x.id = y.id ∧ x.prio = y.prio ∧ (x.sk == y.sk) = false) ∨ (x.id = y.id ∧ x.prio = y.prio ∧ x.sk = y.sk ∧ (x.ge == y.ge) = false) ∨ (x.id = y.id ∧ x.prio = y.prio ∧ x.sk = y.sk ∧ x.ge = y.ge ∧ (x.fx == y.fx) = false) ∨ (x.id = y.id ∧ x.prio = y.prio ∧ x.sk = y.sk ∧ x.ge = y.ge ∧ x.fx = y.fx ∧ (x.fy == y.fy) = false) ∨ (x.id = y.id ∧ x.prio = y.prio ∧ x.sk = y.sk ∧ x.ge = y.ge ∧ x.fx = y.fx ∧ x.fy = y.fy ∧ (x.tx == y.tx) = false) ∨ (x.id = y.id ∧ x.prio = y.prio ∧ x.sk = y.sk ∧ x.ge = y.ge ∧ x.fx = y.fx ∧ x.fy = y.fy ∧ x.tx = y.tx ∧ (x.ty == y.ty) = false))) ∨ (plainB x y = true ∧ x.id = y.id ∧ x.prio = y.prio ∧ x.sk = y.sk ∧ x.ge = y.ge ∧ x.fx = y.fx ∧ x.fy = y.fy ∧ x.tx = y.tx ∧ x.ty = y.ty) := by
  unfold plainB
  by_cases eid : x.id = y.id
  case neg => exact .inl (by simp [eid])
  by_cases eprio : x.prio = y.prio
  case neg => exact .inl (by simp [eid, eprio])
  by_cases esk : x.sk = y.sk
  case neg => exact .inl (by simp [eid, eprio, esk])
  by_cases ege : x.ge = y.ge
  case neg => exact .inl (by simp [eid, eprio, esk, ege])
  by_cases efx : x.fx = y.fx
  case neg => exact .inl (by simp [eid, eprio, esk, ege, efx])
  by_cases efy : x.fy = y.fy
  case neg => exact .inl (by simp [eid, eprio, esk, ege, efx, efy])
  by_cases etx : x.tx = y.tx
  case neg => exact .inl (by simp [eid, eprio, esk, ege, efx, efy, etx])
  by_cases ety : x.ty = y.ty
  case neg => exact .inl (by simp [eid, eprio, esk, ege, efx, efy, etx, ety])
  exact .inr (by simp [eid, eprio, esk, ege, efx, efy, etx, ety])
theorem plainR_ways (x y : Ru) : (plainR x y = false ∧ (((x.tasks == y.tasks) = false) ∨ (x.tasks = y.tasks ∧ (x.crew == y.crew) = false) ∨ (x.tasks = y.tasks ∧ x.crew = y.crew ∧ (x.units == y.units) = false) ∨ (x.tasks = y.tasks ∧ x.crew = y.crew ∧ x.units = y.units ∧ (x.lease == y.lease) = false) ∨ (x.tasks = y.tasks ∧ x.crew = y.crew ∧ x.units = y.units ∧ x.lease = y.lease ∧ (x.tries == y.tries) = false) ∨ (x.tasks = y.tasks ∧ x.crew = y.crew ∧ x.units = y.units ∧ x.lease = y.lease ∧ x.tries = y.tries ∧ (x.rate == y.rate) = false) ∨ (x.tasks = y.tasks ∧ x.crew = y.crew ∧ x.units = y.units ∧ x.lease = y.lease ∧ x.tries = y.tries ∧ x.rate = y.rate ∧ (x.start == y.start) = false))) ∨ (plainR x y = true ∧ x.tasks = y.tasks ∧ x.crew = y.crew ∧ x.units = y.units ∧ x.lease = y.lease ∧ x.tries = y.tries ∧ x.rate = y.rate ∧ x.start = y.start) := by
  unfold plainR
  by_cases etasks : x.tasks = y.tasks
  case neg => exact .inl (by simp [etasks])
  by_cases ecrew : x.crew = y.crew
  case neg => exact .inl (by simp [etasks, ecrew])
  by_cases eunits : x.units = y.units
  case neg => exact .inl (by simp [etasks, ecrew, eunits])
  by_cases elease : x.lease = y.lease
  case neg => exact .inl (by simp [etasks, ecrew, eunits, elease])
  by_cases etries : x.tries = y.tries
  case neg => exact .inl (by simp [etasks, ecrew, eunits, elease, etries])
  by_cases erate : x.rate = y.rate
  case neg => exact .inl (by simp [etasks, ecrew, eunits, elease, etries, erate])
  by_cases estart : x.start = y.start
  case neg => exact .inl (by simp [etasks, ecrew, eunits, elease, etries, erate, estart])
  exact .inr (by simp [etasks, ecrew, eunits, elease, etries, erate, estart])
end Go.Proofs.YthchkhgimnchcaaGreat
/- A map with keys of kind int in memory, told as a function: each key's element, or none; how many there are. The laws at the operations, for the walk. FOR ALL STAGES WITH MAPS. -/
namespace Go.Proofs.YthchkhgimnchcaaGreat
open Go.RowKit Go.Maps

/-- how elements stand in the map -/
structure Elt (P : Program) (e : TypeId) where
  α : Type
  val : α → Value
  enc : α → DataW Unit
  ok : α → Prop
  z : α
  R : Value → Option (DataW Unit × List MemPlace)
  out : ∀ x, ok x → R (val x) = some (enc x, [])
  inv : ∀ v x ps, R v = some (enc x, ps) → v = val x
  okz : ok z
  hz : ∀ w, (zeroValue e).run P w = .ok (val z) w

/-- in the range of int -/
def I64 (n : Int) : Prop := -9223372036854775808 ≤ n ∧ n ≤ 9223372036854775807
theorem I64.wf {n : Int} (h : I64 n) : (Lit.int .i64 n).wf = true := WalkArith.wf_i64 h
theorem kl_ne {a b : Int} (h : a ≠ b) : Lit.int .i64 a ≠ Lit.int .i64 b := fun e => h (by injection e)
/-- what a map is turned into at one key -/
def updG {α : Type} (g : Int → Option α) (id : Int) (v : Option α) : Int → Option α := fun k => if k = id then v else g k
theorem updG_same {α : Type} (g : Int → Option α) (id : Int) (v : Option α) : updG g id v id = v := if_pos rfl
theorem updG_other {α : Type} (g : Int → Option α) {id k : Int} (v : Option α) (h : k ≠ id) : updG g id v k = g k := if_neg h

/-- elements that are ints -/
def eltI (P : Program) (e : TypeId) (he : P.underlying e = some (.int .i64)) (hz : ∀ w, (zeroValue e).run P w = .ok (.int .i64 0) w) : Elt P e where
  α := Int
  val := fun n => .int .i64 n
  enc := fun n => .lit (.int .i64 n)
  ok := I64
  z := 0
  R := plainElem P e
  out := fun x hx => plainElem_int he hx.wf
  inv := fun v x ps h => by
    obtain ⟨a, rfl, e2, _⟩ := plainElem_int_inv he h
    have := congrArg Prod.fst e2
    simp at this
    rw [this]
  okz := by unfold I64; omega
  hz := hz

section
variable {P : Program} {kt e : TypeId} (E : Elt P e)

/-- block b is a map of m entries: at each number of the range of int what g tells -/
def MapG (kt : TypeId) (w : World) (b m : Nat) (g : Int → Option E.α) : Prop :=
  ∃ D, w.ownsMap P kt E.R b m D ∧ Maps.size D = m ∧ ∀ id, I64 id → match g id with
    | none => Maps.has D (.int .i64 id) = false
    | some x => Maps.has D (.int .i64 id) = true ∧ ∀ z, D.atKey (.int .i64 id) z = E.enc x
variable {E} {w w' : World} {b m : Nat} {g : Int → Option E.α}
theorem MapG.lt (h : MapG E kt w b m g) : b < w.heap.size := by
  obtain ⟨D, h1, _⟩ := h
  exact h1.lt
theorem MapG.same (h : MapG E kt w b m g) (he : w'.heap[b]? = w.heap[b]?) : MapG E kt w' b m g := by
  obtain ⟨D, ⟨es, clock, hb, r⟩, h2⟩ := h
  exact ⟨D, ⟨es, clock, he.trans hb, r⟩, h2⟩
theorem MapG.kept (h : MapG E kt w b m g) (hb : Below w.heap.size w w') : MapG E kt w' b m g := h.same (hb.block b h.lt)
theorem MapG.away (h : MapG E kt w b m g) (a : Addr) (u : Value) (hne : b ≠ a.block) : MapG E kt (w.setCell a u) b m g := h.same (Below.heap_setCell w a u b hne)
theorem MapG.grown {row : Option Nat} (h : MapG E kt w b m g) (hg : w.grownBy w' row) (hne : some b ≠ row) : MapG E kt w' b m g := h.same (hg.block b h.lt hne)
theorem MapG.new (w : World) : MapG E kt (w.alloc (.map #[] 0)) w.heap.size 0 (fun _ => none) :=
  ⟨.map [], World.ownsMap_made _ _ _ _, rfl, fun _ _ => rfl⟩
/-- a map's block is no row of cells -/
theorem MapG.ne {k : Nat} {cs : Array Value} {t : TypeId} {fz : Nat × Nat} (h : MapG E kt w b m g) (hk : w.heap[k]? = some (.cells cs t fz)) : b ≠ k := fun e => by
  obtain ⟨D, ⟨es, clock, hb, r⟩, h2⟩ := h
  rw [e, hk] at hb
  cases hb
theorem MapG.ne_cell {a : Addr} {u : Value} (h : MapG E kt w b m g) (hk : w.cell? a = some u) : b ≠ a.block := fun e => by
  obtain ⟨D, ⟨es, clock, hb, r⟩, h2⟩ := h
  rw [e] at hb
  simp [World.cell?, hb] at hk

/-! ### At the operations -/
variable {ops : Array Oper} {rest : List Oper} {o : Oper} {a : Act} {Q : Exit → Act → World → Prop}
theorem wpList_lookG2 (hg : o.guard = none) (mo x : Operand) (t : TypeId) (hop : o.op = Op.lookup t mo x true) (hk : P.underlying kt = some (.int .i64)) (ht : P.underlying t = some (.map kt e))
    (hm : a.eval mo = .map (some b)) (h : MapG E kt w b m g) (id : Int) (hi : I64 id) (hx : a.eval x = .int .i64 id)
    (hK : wpList P ops Q rest (a.put o.dst (.tuple #[E.val ((g id).getD E.z), .bool (g id).isSome])) w) : wpList P ops Q (o :: rest) a w := by
  obtain ⟨D, h1, _, h3⟩ := h
  refine wpList_lookup_own_ok w hg mo x t hop kt e (int_keyed hk) ht E.R (E.hz w) (E.enc E.z) [] (E.out _ E.okz) b m D hm h1 _ _ hx (keyOf_int_mk hk hi.wf) fun v ps hv => ?_
  have := h3 id hi
  cases hgi : g id with
  | none =>
    rw [hgi] at this hK
    simp only at this
    rw [Maps.atKey_of_not_has this] at hv
    rw [E.inv _ _ _ hv, this]
    exact hK
  | some y =>
    rw [hgi] at this hK
    simp only at this
    rw [this.2] at hv
    rw [E.inv _ _ _ hv, this.1]
    exact hK
theorem wpList_putG (hg : o.guard = none) (mo x vo : Operand) (t : TypeId) (hop : o.op = Op.mapUpdate t mo x vo) (hk : P.underlying kt = some (.int .i64)) (ht : P.underlying t = some (.map kt e))
    (hm : a.eval mo = .map (some b)) (h : MapG E kt w b m g) (hn : m < maxLen) (id : Int) (hi : I64 id) (hx : a.eval x = .int .i64 id) (y : E.α) (hy : E.ok y) (hv : a.eval vo = E.val y)
    (hK : ∀ w', MapG E kt w' b (if (g id).isSome then m else m + 1) (updG g id (some y)) → w.grownBy w' (some b) → wpList P ops Q rest (a.put o.dst undef) w') : wpList P ops Q (o :: rest) a w := by
  obtain ⟨D, h1, h2, h3⟩ := h
  refine wpList_mapUpdate_in w hg mo x vo t hop kt e (int_keyed hk) ht E.R b m D hm h1 hn _ _ _ hx hv (keyOf_int_mk hk hi.wf) (E.enc y) [] (E.out y hy) fun w' h4 h5 => ?_
  have htidy := h1.tidy (int_keyed hk)
  have hsz := Maps.size_put (k := Lit.int .i64 id) htidy (E.enc y)
  have hh : Maps.has D (.int .i64 id) = (g id).isSome := by
    have := h3 id hi
    cases hgi : g id with
    | none => rw [hgi] at this; exact this
    | some y => rw [hgi] at this; exact this.1
  rw [hh, h2] at hsz
  refine hK w' ⟨D.put (.int .i64 id) (E.enc y), ?_, hsz, fun k hkk => ?_⟩ h5.grown
  · obtain ⟨es, clock, r1, r2, r3, r4⟩ := h4
    refine ⟨es, clock, r1, r2, ?_, r4⟩
    rw [← hsz, r4]
    simp [Maps.size, length_sorted]
  · by_cases ek : k = id
    · subst ek
      rw [updG_same]
      exact ⟨Maps.has_put_same (k := Lit.int .i64 k) htidy.isMap trivial _, fun z => Maps.atKey_put_same (k := Lit.int .i64 k) htidy.isMap trivial _ z⟩
    · rw [updG_other _ _ ek]
      have := h3 k hkk
      cases hgk : g k with
      | none =>
        rw [hgk] at this
        show Maps.has _ _ = false
        rw [Maps.has_put_other (kl_ne ek)]
        exact this
      | some y2 =>
        rw [hgk] at this
        refine ⟨?_, fun z => ?_⟩
        · rw [Maps.has_put_other (kl_ne ek)]; exact this.1
        · rw [Maps.atKey_put_other (kl_ne ek)]; exact this.2 z
theorem wpList_delG (hg : o.guard = none) (mo x : Operand) (t : TypeId) (hop : o.op = Op.call { callee := Callee.builtin Builtin.delete, args := #[mo, x], argTypes := #[t, kt] }) (hk : P.underlying kt = some (.int .i64)) (ht : P.underlying t = some (.map kt e))
    (hm : a.eval mo = .map (some b)) (h : MapG E kt w b m g) (id : Int) (hi : I64 id) (hx : a.eval x = .int .i64 id)
    (hK : ∀ w', MapG E kt w' b (if (g id).isSome then m - 1 else m) (updG g id none) → w.grownBy w' (some b) → wpList P ops Q rest (a.put o.dst (.tuple #[])) w') : wpList P ops Q (o :: rest) a w := by
  obtain ⟨D, h1, h2, h3⟩ := h
  refine wpList_delete_own w hg mo x t kt hop e (int_keyed hk) ht E.R b m D hm h1 _ _ hx (keyOf_int_mk hk hi.wf) fun w' h4 h5 => ?_
  have htidy := h1.tidy (int_keyed hk)
  have hsz := Maps.size_del (k := Lit.int .i64 id) htidy
  have hh : Maps.has D (.int .i64 id) = (g id).isSome := by
    have := h3 id hi
    cases hgi : g id with
    | none => rw [hgi] at this; exact this
    | some y => rw [hgi] at this; exact this.1
  rw [hh, h2] at hsz
  have hsz2 : Maps.size (D.del (.int .i64 id)) = if (g id).isSome then m - 1 else m := by
    by_cases hi2 : (g id).isSome = true
    · rw [if_pos hi2] at hsz ⊢; omega
    · rw [if_neg hi2] at hsz ⊢; omega
  refine hK w' ⟨D.del (.int .i64 id), ?_, hsz2, fun k hkk => ?_⟩ h5.grown
  · obtain ⟨es, clock, r1, r2, r3, r4⟩ := h4
    refine ⟨es, clock, r1, r2, ?_, r4⟩
    rw [← hsz2, r4]
    simp [Maps.size, length_sorted]
  · by_cases ek : k = id
    · subst ek
      rw [updG_same]
      exact Maps.has_del_same
    · rw [updG_other _ _ ek]
      have := h3 k hkk
      cases hgk : g k with
      | none =>
        rw [hgk] at this
        show Maps.has _ _ = false
        rw [Maps.has_del_other (kl_ne ek)]
        exact this
      | some y2 =>
        rw [hgk] at this
        refine ⟨?_, fun z => ?_⟩
        · rw [Maps.has_del_other (kl_ne ek)]; exact this.1
        · rw [Maps.atKey_del_other (kl_ne ek)]; exact this.2 z
theorem wpList_lenG (hg : o.guard = none) (mo : Operand) (t : TypeId) (hop : o.op = Op.call { callee := Callee.builtin Builtin.len, args := #[mo], argTypes := #[t] }) (ht : P.underlying t = some (.map kt e))
    (hm : a.eval mo = .map (some b)) (h : MapG E kt w b m g) (hK : wpList P ops Q rest (a.put o.dst (.int .i64 m)) w) : wpList P ops Q (o :: rest) a w := by
  obtain ⟨D, h1, h2, _⟩ := h
  refine wpList_len_own w hg mo t hop kt e ht E.R b m D hm h1 ?_
  rw [h2]
  exact hK
/-- 'm[k]' and 'v, ok := m[k]' as equations, for regions that draw -/
theorem MapG.look (h : MapG E kt w b m g) (hk : P.underlying kt = some (.int .i64)) {t : TypeId} (ht : P.underlying t = some (.map kt e)) {id : Int} (hi : I64 id) :
    (Instr.lookup t (.map (some b)) (.int .i64 id) true).run P w = .ok (.tuple #[E.val ((g id).getD E.z), .bool (g id).isSome]) w := by
  obtain ⟨D, h1, _, h3⟩ := h
  obtain ⟨v, ps, hrun, hv⟩ := h1.look_ok (int_keyed hk) ht (E.hz w) (E.out _ E.okz) (keyOf_int_mk hk hi.wf)
  rw [hrun]
  have := h3 id hi
  cases hgi : g id with
  | none =>
    rw [hgi] at this
    simp only at this
    rw [Maps.atKey_of_not_has this] at hv
    rw [E.inv _ _ _ hv, this]
    rfl
  | some y =>
    rw [hgi] at this
    simp only at this
    rw [this.2] at hv
    rw [E.inv _ _ _ hv, this.1]
    rfl
theorem MapG.look1 (h : MapG E kt w b m g) (hk : P.underlying kt = some (.int .i64)) {t : TypeId} (ht : P.underlying t = some (.map kt e)) {id : Int} (hi : I64 id) :
    (Instr.lookup t (.map (some b)) (.int .i64 id) false).run P w = .ok (E.val ((g id).getD E.z)) w := by
  obtain ⟨D, h1, _, h3⟩ := h
  obtain ⟨v, ps, hrun, hv⟩ := h1.lookup (int_keyed hk) ht (E.hz w) (E.out _ E.okz) (keyOf_int_mk hk hi.wf)
  rw [hrun]
  have := h3 id hi
  cases hgi : g id with
  | none =>
    rw [hgi] at this
    simp only at this
    rw [Maps.atKey_of_not_has this] at hv
    rw [E.inv _ _ _ hv]
    rfl
  | some y =>
    rw [hgi] at this
    simp only at this
    rw [this.2] at hv
    rw [E.inv _ _ _ hv]
    rfl
theorem MapG.len (h : MapG E kt w b m g) {t : TypeId} (ht : P.underlying t = some (.map kt e)) (ty : TypeId) : (Builtin.len_ #[t] ty #[.map (some b)]).run P w = .ok (.int .i64 m) w := by
  obtain ⟨D, h1, h2, _⟩ := h
  rw [h1.len ht ty, h2]
end
end Go.Proofs.YthchkhgimnchcaaGreat
