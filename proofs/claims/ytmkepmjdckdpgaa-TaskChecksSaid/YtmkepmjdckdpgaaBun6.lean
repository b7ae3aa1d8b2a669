/- Texts of this proof, joined: Bytes; Bss; OwnO; TkM; Sorted. -/
import Derived.Test.YtmkepmjdckdpgaaBun5
import Derived.WalkSpells
import Derived.WalkLawsBesides
import Derived.Laws.AppendOwnNone
import Derived.Laws.IdiomStrings
import Derived.Laws.BytesString
import Derived.Maps.AppendAt
import Derived.Deep.AppendSrc
import Derived.Laws.Slices
import Derived.Sort.Grow
import Derived.Sort.EncStr
import Derived.Lib.SlicesCompact
import Derived.Lib.RowBridge
/- Bytes in memory: what is read, what a call gathers by itself, what comes in; more behind them; as a string. -/
namespace Go.Proofs.Ytmkepmjdckdpgaa
open Go.RowKit Go.ChangeShapes Go.WideShapes Go.Joins Go.Deep

def csB (b : UInt8) : List Value := [.int .u8 (b.toNat : Int)]
theorem csB_len (b : UInt8) : (csB b).length = 1 := rfl
/-- bytes in memory -/
abbrev BytesAt (w : World) (v : Value) (l : List UInt8) : Prop := RowsAt w 1 csB v l
/-- bytes that the call gathers by itself -/
abbrev OwnB (w : World) (B : Nat) (v : Value) (l : List UInt8) : Prop := OwnR w B 5 1 csB v l
theorem info_byte : (Try.prog.info? 5).map (fun i => (i.zero, i.size, i.bytes)) = some (some (.int .u8 0), 1, 1) := by kernel_rfl
theorem cells_byte : Try.prog.cellsOf 5 = 1 := by kernel_rfl
theorem OwnB.bytes {w : World} {B : Nat} {v : Value} {l : List UInt8} (h : OwnB w B v l) : BytesAt w v l := OwnR.rows csB_len h
theorem OwnB.kept {w w' : World} {B : Nat} {v : Value} {l : List UInt8} (h : OwnB w B v l) (hb : Below w.heap.size w w') : OwnB w' B v l := OwnR.kept h hb
theorem OwnB.base {w : World} {B B' : Nat} {v : Value} {l : List UInt8} (h : OwnB w B v l) (hB : B' ≤ B) : OwnB w B' v l := by
  refine ⟨h.1, ?_⟩
  rcases h.2 with h1 | ⟨g, cap, cur, e, hg, hr⟩
  · exact .inl h1
  · exact .inr ⟨g, cap, cur, e, Nat.le_trans hB hg, hr⟩
theorem BytesAt.at {w : World} {v : Value} {l : List UInt8} (h : BytesAt w v l) (k : Nat) (hk : k < l.length) :
    ∃ g o c, v = .slice (some ⟨g, o, none⟩) l.length c ∧ l.length ≤ c ∧ g < w.heap.size ∧ w.cell? ⟨g, o + k, none⟩ = some (.int .u8 (l[k].toNat : Int)) := by
  obtain ⟨g, o, c, e, hc, hg, hx⟩ := RowsAt.spot h k hk
  have := hx 0 _ rfl
  rw [Nat.mul_one, Nat.add_zero] at this
  exact ⟨g, o, c, e, hc, hg, this⟩

/-! ### More behind what is the call's own -/
theorem flats_inv {α : Type} {cs : α → List Value} {K : Nat} (hK : ∀ x, (cs x).length = K) (l : List α) : ∀ (j : Nat) (u : Value), (flats cs l)[j]? = some u → ∃ q i x, j = q * K + i ∧ l[q]? = some x ∧ (cs x)[i]? = some u := by
  induction l with
  | nil => intro j u h; simp [flats] at h
  | cons y l ih =>
    intro j u h
    have e : flats cs (y :: l) = cs y ++ flats cs l := rfl
    rw [e] at h
    rcases Nat.lt_or_ge j K with hj | hj
    · rw [List.getElem?_append_left (by rw [hK]; exact hj)] at h
      exact ⟨0, j, y, by omega, rfl, h⟩
    · rw [List.getElem?_append_right (by rw [hK]; exact hj), hK] at h
      obtain ⟨q, i, x, e1, e2, e3⟩ := ih _ _ h
      exact ⟨q + 1, i, x, by rw [Nat.add_mul]; omega, by simpa using e2, e3⟩
section
variable {P : Program} {w : World}
theorem run_append_nil' (base : Nat) (t ty e : TypeId) (i : TypeInfo) (size c : Nat) (ht : P.underlying t = some (.slice e)) (hi : P.info? e = some i)
    (v : Value) (n : Nat) (xs : List Value) (hown : w.ownsRow base e size v n xs) :
    (Builtin.append_ #[t, t] ty #[v, .slice none 0 c]).run P w = .ok v w := by
  rcases hown.2 with ⟨rfl, rfl⟩ | ⟨g, cap, cur, rfl, _, _, hnc, _⟩
  · simp [Builtin.append_, run_underlying ht, sizeOf, typeInfo, hi, Builtin.lenOf, Builtin.firstCells]
  · simp [Builtin.append_, run_underlying ht, sizeOf, typeInfo, hi, Builtin.lenOf, Builtin.firstCells, hnc, storeCells]
theorem wpList_append_rows {α : Type} {cs : α → List Value} {K : Nat} (hK : ∀ x, (cs x).length = K) (hK0 : 0 < K) (hone : ∀ x, ∀ u ∈ cs x, u.oneCell' = true)
    {ops : Array Oper} {rest : List Oper} {o : Oper} {a : Act} {Q : Exit → Act → World → Prop} (hgd : o.guard = none) (s x : Operand) (t : TypeId)
    (ho : o.op = .call { callee := .builtin .append, args := #[s, x], argTypes := #[t, t] })
    (base : Nat) (e : TypeId) (i : TypeInfo) (z : Value) (bytes : Nat) (ht : P.underlying t = some (.slice e)) (hi : P.info? e = some i) (hz : i.zero = some z) (hsize : i.size = K) (hby : i.bytes = bytes) (hzs : z.cells.size = K)
    (v : Value) (l1 : List α) (hs : a.eval s = v) (hown : OwnR w base e K cs v l1) (va : Value) (l : List α) (hx : a.eval x = va) (hp : RowsAt w K cs va l) (h63 : l1.length + l.length ≤ maxLen) (hbytes : (l1.length + l.length) * bytes ≤ 140737488355328) (hbase : base ≤ w.heap.size)
    (h : ∀ v' w', OwnR w' base e K cs v' (l1 ++ l) → w.grownBy w' v.ownBlock → wpList P ops Q rest (a.put o.dst v') w') : wpList P ops Q (o :: rest) a w := by
  obtain ⟨ad, cap, rfl, hcap, hc⟩ := hp
  cases ad with
  | none =>
    have hl0 : l.length = 0 := by
      rcases Nat.eq_zero_or_pos l.length with h0 | h0
      · exact h0
      · obtain ⟨g, o', e', _⟩ := hc h0
        cases e'
    have : l = [] := List.eq_nil_of_length_eq_zero hl0
    subst this
    refine wpList_plain hgd fun K' hK' => ?_
    have hrun := run_append_nil' (P := P) (w := w) base t o.type e i K cap ht hi v _ _ hown
    unfold Oper.wp
    simp only [List.length_nil] at hx
    simp [execOp, ho, resolve, invoke, builtin, hs, hx, hrun, Result.andThen]
    exact hK' _ _ (h v w (by simpa using hown) ⟨rfl, rfl, rfl, Nat.le_refl _, fun _ _ _ => rfl⟩)
  | some ad =>
    refine wpList_append_own w hgd s x t ho base e i z K bytes ht hi hz hsize hby hzs hK0 v l1.length (flats cs l1) hs hown ad l.length cap (flats cs l) hx (flats_length hK l) ?_ ?_ h63 hbytes hbase fun v' w' h1 h2 _ => h v' w' ?_ h2
    · intro j u hu
      obtain ⟨q, i', y, e1, e2, e3⟩ := flats_inv hK l j u hu
      obtain ⟨g, o', e', hg, hcell⟩ := hc (by have := (List.getElem?_eq_some_iff.1 e2).1; omega)
      cases e'
      have := hcell q y e2 i' u e3
      subst e1
      rw [add_plain]
      rw [← this]
      congr 2
      omega
    · intro u hu
      obtain ⟨j, hj, rfl⟩ := List.getElem_of_mem hu
      obtain ⟨q, i', y, e1, e2, e3⟩ := flats_inv hK l j _ (List.getElem?_eq_getElem hj)
      exact hone y _ (List.mem_of_getElem? e3)
    · unfold OwnR
      rw [List.length_append, flats_append]
      exact h1
end
theorem csB_one (b : UInt8) : ∀ u ∈ csB b, u.oneCell' = true := by
  intro u hu
  simp [csB] at hu
  subst hu
  rfl
/-- a new row of nothing -/
theorem ownb_empty (w : World) : OwnB (w.alloc (.cells #[] 5)) w.heap.size (.slice (some ⟨w.heap.size, 0, none⟩) 0 0) [] :=
  ⟨rfl, .inr ⟨w.heap.size, 0, #[], rfl, Nat.le_refl _, Array.getElem?_push_size, Nat.le_refl _, by simp [maxLen], rfl, rfl⟩⟩

/-! ### As a string -/
theorem str_eq (l r : List UInt8) : (decide ((⟨l.toArray⟩ : ByteArray) = ⟨r.toArray⟩)) = decide (l = r) := by
  apply decide_eq_decide.2
  constructor
  · intro h
    have := congrArg ByteArray.data h
    simpa using this
  · rintro rfl
    rfl

/-- what fits -/
theorem u64_bd {n : Int} (h : (Lit.int .u64 n).wf = true) : 0 ≤ n ∧ n < 18446744073709551616 := by
  have k1 : IntKind.u64.min = 0 := rfl
  have k2 : IntKind.u64.max = 18446744073709551615 := rfl
  simp only [Lit.wf, Bool.and_eq_true, decide_eq_true_eq, k1, k2] at h
  omega
theorem u8_bd {n : Int} (h : (Lit.int .u8 n).wf = true) : 0 ≤ n ∧ n < 256 := by
  have k1 : IntKind.u8.min = 0 := rfl
  have k2 : IntKind.u8.max = 255 := rfl
  simp only [Lit.wf, Bool.and_eq_true, decide_eq_true_eq, k1, k2] at h
  omega
theorem u32_bd {n : Int} (h : (Lit.int .u32 n).wf = true) : 0 ≤ n ∧ n < 4294967296 := by
  have k1 : IntKind.u32.min = 0 := rfl
  have k2 : IntKind.u32.max = 4294967295 := rfl
  simp only [Lit.wf, Bool.and_eq_true, decide_eq_true_eq, k1, k2] at h
  omega
theorem u16_bd {n : Int} (h : (Lit.int .u16 n).wf = true) : 0 ≤ n ∧ n < 65536 := by
  have k1 : IntKind.u16.min = 0 := rfl
  have k2 : IntKind.u16.max = 65535 := rfl
  simp only [Lit.wf, Bool.and_eq_true, decide_eq_true_eq, k1, k2] at h
  omega
end Go.Proofs.Ytmkepmjdckdpgaa
/- Lists of lists of bytes in memory. -/
namespace Go.Proofs.Ytmkepmjdckdpgaa
open Go.RowKit

abbrev Sl := Option Addr × Nat × Nat
def sl (t : Sl) : Value := .slice t.1 t.2.1 t.2.2
def csS (t : Sl) : List Value := [sl t]
theorem csS_len (t : Sl) : (csS t).length = 1 := rfl
theorem csS_one (t : Sl) : ∀ u ∈ csS t, u.oneCell' = true := by
  intro u hu
  simp [csS, sl] at hu
  subst hu
  rfl
/-- the lists that the cells name; none of them lies in the block ob -/
def EachB (w : World) (ob : Option Nat) (ts : List Sl) (L : List (List UInt8)) : Prop :=
  ts.length = L.length ∧ ∀ (j : Nat) (t : Sl) (l : List UInt8), ts[j]? = some t → L[j]? = some l → BytesAt w (sl t) l ∧ (0 < l.length → ∀ a, t.1 = some a → some a.block ≠ ob)
def BssAt (w : World) (v : Value) (L : List (List UInt8)) : Prop := ∃ ts, RowsAt w 1 csS v ts ∧ EachB w none ts L
theorem EachB.kept {w w' : World} {ob : Option Nat} {ts : List Sl} {L : List (List UInt8)} (h : EachB w ob ts L) (hb : Below w.heap.size w w') : EachB w' ob ts L :=
  ⟨h.1, fun j t l h1 h2 => ⟨(h.2 j t l h1 h2).1.kept hb, (h.2 j t l h1 h2).2⟩⟩
theorem EachB.free {w : World} {ob : Option Nat} {ts : List Sl} {L : List (List UInt8)} (h : EachB w ob ts L) : EachB w none ts L :=
  ⟨h.1, fun j t l h1 h2 => ⟨(h.2 j t l h1 h2).1, fun _ a _ e => by cases e⟩⟩
theorem BytesAt.grown {w w' : World} {row : Option Nat} {t : Sl} {l : List UInt8} (h : BytesAt w (sl t) l) (hg : w.grownBy w' row) (ha : 0 < l.length → ∀ a, t.1 = some a → some a.block ≠ row) : BytesAt w' (sl t) l := by
  obtain ⟨a, c, e, hc, hx⟩ := h
  refine ⟨a, c, e, hc, fun h0 => ?_⟩
  obtain ⟨g, o, e1, hgs, hcell⟩ := hx h0
  have e2 : t.1 = some ⟨g, o, none⟩ := by
    subst e1
    obtain ⟨t1, t2, t3⟩ := t
    simp only [sl, Value.slice.injEq] at e
    exact e.1
  have hne := ha h0 _ e2
  exact ⟨g, o, e1, Nat.lt_of_lt_of_le hgs hg.size, fun j x hj i u hu => hg.cell (hcell j x hj i u hu) hne⟩
theorem BytesAt.block {w : World} {t : Sl} {l : List UInt8} (h : BytesAt w (sl t) l) (h0 : 0 < l.length) (a : Addr) (ha : t.1 = some a) : a.block < w.heap.size := by
  obtain ⟨b, c, e, hc, hx⟩ := h
  obtain ⟨g, o, e1, hgs, _⟩ := hx h0
  subst e1
  obtain ⟨t1, t2, t3⟩ := t
  simp only [sl, Value.slice.injEq] at e
  rw [e.1] at ha
  cases ha
  exact hgs
theorem EachB.grow {w w' : World} {ob ob' : Option Nat} {ts : List Sl} {L : List (List UInt8)} (h : EachB w ob ts L) (hg : w.grownBy w' ob) (h4 : ob' = ob ∨ ob' = some w.heap.size) : EachB w' ob' ts L := by
  refine ⟨h.1, fun j t l h1 h2 => ?_⟩
  obtain ⟨hb, ha⟩ := h.2 j t l h1 h2
  refine ⟨hb.grown hg ha, fun h0 a e => ?_⟩
  rcases h4 with rfl | rfl
  · exact ha h0 a e
  · intro he
    have := hb.block h0 a e
    have := Option.some.inj he
    omega
theorem EachB.snoc {w : World} {ob : Option Nat} {ts : List Sl} {L : List (List UInt8)} {t : Sl} {l : List UInt8} (h : EachB w ob ts L) (ht : BytesAt w (sl t) l) (ha : 0 < l.length → ∀ a, t.1 = some a → some a.block ≠ ob) : EachB w ob (ts ++ [t]) (L ++ [l]) := by
  refine ⟨by simp [h.1], fun j t' l' h1 h2 => ?_⟩
  rcases Nat.lt_trichotomy j ts.length with hj | hj | hj
  · rw [List.getElem?_append_left hj] at h1
    rw [List.getElem?_append_left (by have := h.1; omega)] at h2
    exact h.2 j t' l' h1 h2
  · subst hj
    rw [List.getElem?_append_right (Nat.le_refl _), Nat.sub_self] at h1
    rw [h.1, List.getElem?_append_right (Nat.le_refl _), Nat.sub_self] at h2
    simp at h1 h2
    subst h1
    subst h2
    exact ⟨ht, ha⟩
  · rw [List.getElem?_eq_none (by simp; omega)] at h1
    cases h1
theorem BssAt.kept {w w' : World} {v : Value} {L : List (List UInt8)} (h : BssAt w v L) (hb : Below w.heap.size w w') : BssAt w' v L := by
  obtain ⟨ts, h1, h2⟩ := h
  exact ⟨ts, h1.kept hb, h2.kept hb⟩
theorem BssAt.nil (w : World) : BssAt w (.slice none 0 0) [] := ⟨[], RowsAt.nil _ _ _, rfl, fun j t l h => by simp at h⟩
theorem BssAt.form {w : World} {v : Value} {L : List (List UInt8)} (h : BssAt w v L) : ∃ a c, v = .slice a L.length c := by
  obtain ⟨ts, h1, h2⟩ := h
  obtain ⟨a, c, e⟩ := h1.form
  rw [h2.1] at e
  exact ⟨a, c, e⟩
/-- the cell of one, and what it names -/
theorem BssAt.at {w : World} {v : Value} {L : List (List UInt8)} (h : BssAt w v L) (k : Nat) (hk : k < L.length) :
    ∃ g o c a n, v = .slice (some ⟨g, o, none⟩) L.length c ∧ g < w.heap.size ∧ w.cell? ⟨g, o + k, none⟩ = some (.slice a L[k].length n) ∧ BytesAt w (.slice a L[k].length n) L[k] := by
  obtain ⟨ts, h1, h2⟩ := h
  obtain ⟨a, c, e, hc, hx⟩ := h1
  have hkt : k < ts.length := by rw [h2.1]; exact hk
  obtain ⟨g, o, e', hg, hcell⟩ := hx (by omega)
  subst e'
  have hb := (h2.2 k ts[k] L[k] (List.getElem?_eq_getElem hkt) (List.getElem?_eq_getElem hk)).1
  obtain ⟨a', n, e2⟩ := RowsAt.form hb
  have hcl := hcell k ts[k] (List.getElem?_eq_getElem hkt) 0 (sl ts[k]) rfl
  rw [e2] at hb hcl
  rw [h2.1] at e
  refine ⟨g, o, c, a', n, e, hg, ?_, hb⟩
  rw [← hcl]
  congr 2
  simp
end Go.Proofs.Ytmkepmjdckdpgaa
/- Objects that are kept from call to call: a block of cells; a list of one's own that may begin behind its block's first cell; what a call may have changed. -/
namespace Go.Proofs.Ytmkepmjdckdpgaa
open Go.RowKit Go.ChangeShapes Go.WideShapes Go.Joins Go.Deep

/-- a block of cells that may be written -/
def Blk (w : World) (b : Nat) (vs : List Value) : Prop := ∀ j u, vs[j]? = some u → w.cell? ⟨b, j, none⟩ = some u ∧ w.frozen? ⟨b, j, none⟩ = false
theorem Blk.cell {w : World} {b : Nat} {vs : List Value} (h : Blk w b vs) (j : Nat) {u : Value} (hu : vs[j]? = some u) : w.cell? ⟨b, j, none⟩ = some u := (h j u hu).1
theorem Blk.free {w : World} {b : Nat} {vs : List Value} (h : Blk w b vs) (j : Nat) {u : Value} (hu : vs[j]? = some u) : w.frozen? ⟨b, j, none⟩ = false := (h j u hu).2
theorem Blk.lt {w : World} {b : Nat} {v : Value} {vs : List Value} (h : Blk w b (v :: vs)) : b < w.heap.size := World.block_lt_of_cell? w ⟨b, 0, none⟩ (h 0 v rfl).1
theorem Blk.same {w w' : World} {b : Nat} {vs : List Value} (h : Blk w b vs) (he : w'.heap[b]? = w.heap[b]?) : Blk w' b vs := fun j u hu =>
  ⟨(World.cell?_of_block (a := ⟨b, j, none⟩) he).trans (h j u hu).1, (World.frozen?_of_block (a := ⟨b, j, none⟩) he).trans (h j u hu).2⟩
theorem Blk.new (w : World) (vs : List Value) (t : TypeId) : Blk (w.alloc (.cells vs.toArray t)) w.heap.size vs := fun j u hu => by
  have hh : (w.alloc (.cells vs.toArray t)).heap[w.heap.size]? = some (.cells vs.toArray t) := heap_alloc_new w _
  exact ⟨by unfold World.cell?; simp only [hh]; simpa using hu, by unfold World.frozen?; simp only [hh]; simp⟩
theorem Blk.kept {w w1 : World} {b : Nat} {v : Value} {vs : List Value} (h : Blk w b (v :: vs)) (hb : Below w.heap.size w w1) : Blk w1 b (v :: vs) := h.same (hb.block b h.lt)
theorem Blk.grown {w w1 : World} {b : Nat} {v : Value} {vs : List Value} {row : Option Nat} (h : Blk w b (v :: vs)) (hg : w.grownBy w1 row) (hne : some b ≠ row) : Blk w1 b (v :: vs) := h.same (hg.block b h.lt hne)
theorem Blk.away {w : World} {b : Nat} {vs : List Value} (h : Blk w b vs) (a : Addr) (u : Value) (hne : b ≠ a.block) : Blk (w.setCell a u) b vs := h.same (Below.heap_setCell w a u b hne)
theorem Blk.set {w : World} {b : Nat} {vs : List Value} (h : Blk w b vs) (k : Nat) (u : Value) : Blk (w.setCell ⟨b, k, none⟩ u) b (vs.set k u) := by
  intro j x hx
  rw [List.getElem?_set] at hx
  by_cases hj : k = j
  · subst hj
    rw [if_pos rfl] at hx
    split at hx
    · rename_i hk
      cases hx
      obtain ⟨h1, h2⟩ := h k _ (List.getElem?_eq_getElem hk)
      exact ⟨World.cell?_setCell_same _ _ _ (by rw [h1]), by rw [World.frozen?_setCell]; exact h2⟩
    · cases hx
  · rw [if_neg hj] at hx
    obtain ⟨h1, h2⟩ := h j x hx
    exact ⟨by rw [World.cell?_setCell_other _ _ _ _ (by intro e; cases e; exact hj rfl)]; exact h1, by rw [World.frozen?_setCell]; exact h2⟩

/-- a list of one's own -/
def OwnO {α : Type} (w : World) (K : Nat) (cs : α → List Value) (v : Value) (l : List α) : Prop :=
  (v = .slice none 0 0 ∧ l = []) ∨ ∃ g o cap, v = .slice (some ⟨g, o, none⟩) l.length cap ∧ g < w.heap.size ∧ l.length ≤ cap ∧ cap ≤ maxLen ∧
    (∀ j, j < l.length * K → w.cell? ⟨g, o + j, none⟩ = (flats cs l)[j]?) ∧ ∀ j, j < cap * K → (w.cell? ⟨g, o + j, none⟩).isSome = true ∧ w.frozen? ⟨g, o + j, none⟩ = false
section
variable {α : Type} {w : World} {K : Nat} {cs : α → List Value} {v : Value} {l : List α}
theorem OwnO.nil (w : World) (K : Nat) (cs : α → List Value) : OwnO w K cs (.slice none 0 0) [] := .inl ⟨rfl, rfl⟩
theorem OwnO.lt (h : OwnO w K cs v l) : ∀ k, v.ownBlock = some k → k < w.heap.size := by
  intro k hk
  rcases h with ⟨rfl, _⟩ | ⟨g, o, cap, rfl, hg, _⟩
  · simp [Value.ownBlock] at hk
  · simp [Value.ownBlock] at hk
    omega
theorem OwnO.form (h : OwnO w K cs v l) : ∃ a c, v = .slice a l.length c := by
  rcases h with ⟨rfl, rfl⟩ | ⟨g, o, cap, rfl, _⟩
  · exact ⟨none, 0, rfl⟩
  · exact ⟨_, _, rfl⟩
theorem OwnO.same {w' : World} (h : OwnO w K cs v l) (hz : w.heap.size ≤ w'.heap.size) (he : ∀ k, v.ownBlock = some k → w'.heap[k]? = w.heap[k]?) : OwnO w' K cs v l := by
  rcases h with h0 | ⟨g, o, cap, rfl, hg, hl, hc, h1, h2⟩
  · exact .inl h0
  · have e := he g rfl
    exact .inr ⟨g, o, cap, rfl, by omega, hl, hc, fun j hj => (World.cell?_of_block (a := ⟨g, o + j, none⟩) e).trans (h1 j hj),
      fun j hj => ⟨by rw [World.cell?_of_block (a := ⟨g, o + j, none⟩) e]; exact (h2 j hj).1, (World.frozen?_of_block (a := ⟨g, o + j, none⟩) e).trans (h2 j hj).2⟩⟩
theorem OwnO.kept {w' : World} (h : OwnO w K cs v l) (hb : Below w.heap.size w w') : OwnO w' K cs v l := h.same hb.size fun k hk => hb.block k (h.lt k hk)
theorem OwnO.grown {w' : World} {row : Option Nat} (h : OwnO w K cs v l) (hg : w.grownBy w' row) (hne : ∀ k, v.ownBlock = some k → some k ≠ row) : OwnO w' K cs v l := h.same hg.size fun k hk => hg.block k (h.lt k hk) (hne k hk)
theorem OwnO.away (h : OwnO w K cs v l) (a : Addr) (u : Value) (hne : ∀ k, v.ownBlock = some k → k ≠ a.block) : OwnO (w.setCell a u) K cs v l :=
  h.same (by simp [World.setCell]) fun k hk => Below.heap_setCell w a u k (hne k hk)
theorem OwnR.own {B : Nat} {e : TypeId} (h : OwnR w B e K cs v l) : OwnO w K cs v l := by
  rcases h.2 with ⟨rfl, h0⟩ | ⟨g, cap, cur, rfl, hg, hh, hnc, hcp, hcs, htake⟩
  · exact .inl ⟨rfl, List.eq_nil_of_length_eq_zero h0⟩
  · refine .inr ⟨g, 0, cap, rfl, lt_of_block hh, hnc, hcp, fun j hj => ?_, fun j hj => ?_⟩
    · rw [← htake, List.getElem?_take_of_lt hj]
      simp [World.cell?, hh]
    · rw [Nat.zero_add]
      refine ⟨?_, by simp [World.frozen?, hh]⟩
      simp only [World.cell?, hh]
      have : cur[j]? = some (cur[j]'(by omega)) := Array.getElem?_eq_getElem _
      simp [this]
theorem OwnO.rows (hK : ∀ x, (cs x).length = K) (h : OwnO w K cs v l) : RowsAt w K cs v l := by
  rcases h with ⟨rfl, rfl⟩ | ⟨g, o, cap, rfl, hg, hl, hc, h1, h2⟩
  · exact RowsAt.nil w K cs
  · refine ⟨_, cap, rfl, hl, fun h0 => ⟨g, o, rfl, hg, fun j x hj i u hu => ?_⟩⟩
    have h3 := flats_at hK l j x hj i u hu
    have hlt := (List.getElem?_eq_some_iff.1 h3).1
    rw [flats_length hK] at hlt
    rw [Nat.add_assoc, h1 _ hlt]
    exact h3
theorem OwnO.src {P : Program} {tx e : TypeId} (ht : P.underlying tx = some (.slice e)) (hK : ∀ x, (cs x).length = K) (hone : ∀ x, ∀ u ∈ cs x, u.oneCell' = true) (h : RowsAt w K cs v l) : Src P K tx v l.length (flats cs l) w := by
  obtain ⟨a, cap, rfl, hc, hx⟩ := h
  rcases Nat.eq_zero_or_pos l.length with h0 | h0
  · have : l = [] := List.eq_nil_of_length_eq_zero h0
    subst this
    cases a with
    | none => exact Src.ofNil w ht cap
    | some a => exact Src.ofSlice w ht a 0 cap [] (by simp) (by simp) (by simp)
  · obtain ⟨g, o, rfl, hg, hcell⟩ := hx h0
    refine Src.ofSlice w ht _ _ cap (flats cs l) (flats_length hK l) (fun j u hu => ?_) fun u hu => ?_
    · obtain ⟨q, i, x, rfl, e2, e3⟩ := flats_inv hK l j u hu
      rw [add_plain, ← Nat.add_assoc]
      exact hcell q x e2 i u e3
    · obtain ⟨j, hj, rfl⟩ := List.getElem_of_mem hu
      obtain ⟨q, i, x, _, e2, e3⟩ := flats_inv hK l j _ (List.getElem?_eq_getElem hj)
      exact hone x _ (List.mem_of_getElem? e3)
theorem OwnO.hold (hK : ∀ x, (cs x).length = K) {P : Program} {base : Option Addr} {n cap : Nat} (h : OwnO w K cs (.slice base n cap) l) : (Builtin.firstCells K n (.slice base n cap)).run P w.drew = .ok (flats cs l).toArray w.drew := by
  rcases h with ⟨e, rfl⟩ | ⟨g, o, c, e, hg, hl, hc, h1, h2⟩
  · cases e
    exact run_firstCells_none w.drew K 0 0 0
  · cases e
    refine run_firstCells_some w.drew K _ _ _ _ _ (flats_length hK l) fun j u hu => ?_
    rw [add_plain]
    show w.cell? ⟨g, o + j, none⟩ = some u
    have hlt := (List.getElem?_eq_some_iff.1 hu).1
    rw [flats_length hK] at hlt
    rw [h1 j hlt]
    exact hu
theorem tape_setCells (b : Nat) : ∀ (vs : List Value) (o : Nat) (w : World), (w.setCells b o vs).tape = w.tape
  | [], _, _ => rfl
  | v :: r, o, w => by rw [World.setCells, tape_setCells b r (o + 1)]; rfl
theorem os_setCells (b : Nat) : ∀ (vs : List Value) (o : Nat) (w : World), (w.setCells b o vs).os = w.os
  | [], _, _ => rfl
  | v :: r, o, w => by rw [World.setCells, os_setCells b r (o + 1)]; rfl
theorem output_setCells (b : Nat) : ∀ (vs : List Value) (o : Nat) (w : World), (w.setCells b o vs).output = w.output
  | [], _, _ => rfl
  | v :: r, o, w => by rw [World.setCells, output_setCells b r (o + 1)]; rfl
theorem size_setCells (b : Nat) : ∀ (vs : List Value) (o : Nat) (w : World), (w.setCells b o vs).heap.size = w.heap.size
  | [], _, _ => rfl
  | v :: r, o, w => by rw [World.setCells, size_setCells b r (o + 1)]; simp [World.setCell]
theorem heap_setCells (b : Nat) {k : Nat} (hk : k ≠ b) : ∀ (vs : List Value) (o : Nat) (w : World), (w.setCells b o vs).heap[k]? = w.heap[k]?
  | [], _, _ => rfl
  | v :: r, o, w => by rw [World.setCells, heap_setCells b hk r (o + 1)]; exact Below.heap_setCell w _ v k hk
theorem flats_get_append {a b : List α} (hK : ∀ x, (cs x).length = K) (j : Nat) : (flats cs (a ++ b))[j]? = if j < a.length * K then (flats cs a)[j]? else (flats cs b)[j - a.length * K]? := by
  rw [flats_append]
  split
  · rename_i h
    exact List.getElem?_append_left (by rw [flats_length hK]; exact h)
  · rename_i h
    rw [List.getElem?_append_right (by rw [flats_length hK]; omega), flats_length hK]

/-- more behind it -/
theorem run_append_o {P : Program} (hK : ∀ x, (cs x).length = K) (hK0 : 0 < K) (hone : ∀ x, ∀ u ∈ cs x, u.oneCell' = true) (t tx ty e ex : TypeId) (i : TypeInfo) (z : Value) (ht : P.underlying t = some (.slice e)) (htx : P.underlying tx = some (.slice ex)) (hi : P.info? e = some i) (hz : i.zero = some z) (hsize : i.size = K) (hzs : z.cells.size = K)
    (h : OwnO w K cs v l) (x : Value) (m : List α) (hx : RowsAt w K cs x m) (hlen : l.length + m.length ≤ maxLen) (hbytes : (l.length + m.length) * i.bytes ≤ 140737488355328) :
    ∃ v' w', (Builtin.append_ #[t, tx] ty #[v, x]).run P w = .ok v' w' ∧ OwnO w' K cs v' (l ++ m) ∧ w.grownBy w' v.ownBlock ∧ (v'.ownBlock = v.ownBlock ∨ v'.ownBlock = some w.heap.size) := by
  have hs := OwnO.src htx hK hone hx
  have hfl := flats_length hK l
  have hfm := flats_length hK m
  have hsmall : l.length + m.length ≤ 9223372036854775807 := by simp only [maxLen] at hlen; omega
  subst hsize
  have grow : ∀ (bs : Option Addr) (c : Nat), v = .slice bs l.length c → c < l.length + m.length →
      ∃ v' w', (Builtin.append_ #[t, tx] ty #[v, x]).run P w = .ok v' w' ∧ OwnO w' i.size cs v' (l ++ m) ∧ w.grownBy w' v.ownBlock ∧ (v'.ownBlock = v.ownBlock ∨ v'.ownBlock = some w.heap.size) := by
    rintro bs c rfl hc
    have hrun := run_append_grow_src (P := P) w t tx ty e i z ht hi hz bs l.length c (flats cs l) (h.hold hK) x m.length (flats cs m) hs hc (by omega) (growslice_fits hc hbytes)
    have hge := grownCap_ge w (l.length + m.length) c e
    have hcm := grownCap_le_maxLen w (l.length + m.length) c e hlen
    refine ⟨_, _, hrun, .inr ⟨w.heap.size, 0, _, by rw [List.length_append], by simp, by rw [List.length_append]; exact hge, hcm, fun j hj => ?_, fun j hj => ?_⟩, ⟨rfl, rfl, rfl, by simp, fun k hk _ => Below.heap_alloc w.drew _ k hk⟩, .inr rfl⟩
    · have e1 := World.cell?_alloc_new w.drew ((flats cs l ++ flats cs m).toArray ++ Builtin.zeroCells z.cells (grownCap w (l.length + m.length) c e - (l.length + m.length))) e j
      rw [Nat.zero_add]
      refine e1.trans ?_
      rw [List.length_append, Nat.add_mul] at hj
      rw [Array.getElem?_append_left (by simp only [List.size_toArray, List.length_append]; omega), List.getElem?_toArray, flats_append]
    · have e1 := World.cell?_alloc_new w.drew ((flats cs l ++ flats cs m).toArray ++ Builtin.zeroCells z.cells (grownCap w (l.length + m.length) c e - (l.length + m.length))) e j
      have hsz : ((flats cs l ++ flats cs m).toArray ++ Builtin.zeroCells z.cells (grownCap w (l.length + m.length) c e - (l.length + m.length))).size = grownCap w (l.length + m.length) c e * i.size := by
        rw [Array.size_append, List.size_toArray, List.length_append, hfl, hfm, size_zeroCells, hzs, ← Nat.add_mul, ← Nat.add_mul]
        congr 1
        omega
      rw [Nat.zero_add]
      refine ⟨?_, World.frozen?_alloc_new w.drew _ _ j⟩
      have e2 : ((w.drew.alloc (.cells ((flats cs l ++ flats cs m).toArray ++ Builtin.zeroCells z.cells (grownCap w (l.length + m.length) c e - (l.length + m.length))) e)).cell? ⟨w.heap.size, j, none⟩).isSome = true := by
        refine (congrArg Option.isSome e1).trans ?_
        rw [Array.getElem?_eq_getElem (by rw [hsz]; exact hj)]
        rfl
      exact e2
  rcases h with ⟨rfl, rfl⟩ | ⟨g, o, c, rfl, hg, hl, hc, h1, h2⟩
  · by_cases hm : m.length = 0
    · have : m = [] := List.eq_nil_of_length_eq_zero hm
      subst this
      obtain ⟨xa, xc, rfl⟩ := RowsAt.form hx
      refine ⟨.slice none 0 0, w, ?_, .inl ⟨rfl, rfl⟩, ⟨rfl, rfl, rfl, Nat.le_refl _, fun _ _ _ => rfl⟩, .inl rfl⟩
      have h5 := hs.cells
      simp only [List.length_nil] at h5
      simp [Builtin.append_, run_underlying ht, run_underlying htx, sizeOf, typeInfo, hi, Builtin.lenOf, h5, flats]
    · exact grow none 0 rfl (by simp; omega)
  · by_cases hroom : l.length + m.length ≤ c
    · have hfit : (l.length + m.length) * i.size ≤ c * i.size := Nat.mul_le_mul_right _ hroom
      rw [Nat.add_mul] at hfit
      have hc1 : ∀ j, j < (flats cs m).length → (w.cell? ⟨g, o + l.length * i.size + j, none⟩).isSome = true ∧ w.frozen? ⟨g, o + l.length * i.size + j, none⟩ = false := fun j hj => by
        have := h2 (l.length * i.size + j) (by omega)
        rwa [← Nat.add_assoc] at this
      have hrun := run_append_room_src (P := P) w t tx ty e i ht hi g o l.length c x m.length (flats cs m) hs hroom (fun j hj => (hc1 j hj).1) (fun j hj => (hc1 j hj).2)
      refine ⟨_, _, hrun, .inr ⟨g, o, c, by rw [List.length_append], by rw [size_setCells]; exact hg, by rw [List.length_append]; exact hroom, hc, fun j hj => ?_, fun j hj => ?_⟩,
        ⟨os_setCells _ _ _ _, tape_setCells _ _ _ _, output_setCells _ _ _ _, by rw [size_setCells]; exact Nat.le_refl _, fun k _ hk => heap_setCells g (fun e => hk (by rw [e]; rfl)) _ _ _⟩, .inl rfl⟩
      · rw [flats_get_append hK]
        rw [List.length_append, Nat.add_mul] at hj
        split
        · rename_i h6
          rw [World.cell?_setCells_out g _ _ _ _ (fun _ _ => .inl (by show o + j < o + l.length * i.size; omega))]
          exact h1 j h6
        · rename_i h6
          have h7 : j - l.length * i.size < (flats cs m).length := by omega
          have := World.cell?_setCells_in g (flats cs m) (o + l.length * i.size) w (fun j hj => (hc1 j hj).1) (j - l.length * i.size) h7
          rw [show o + l.length * i.size + (j - l.length * i.size) = o + j by omega] at this
          rw [this, List.getElem?_eq_getElem h7]
      · refine ⟨?_, by rw [World.frozen?_setCells]; exact (h2 j hj).2⟩
        by_cases h6 : l.length * i.size ≤ j ∧ j < l.length * i.size + (flats cs m).length
        · have := World.cell?_setCells_in g (flats cs m) (o + l.length * i.size) w (fun j hj => (hc1 j hj).1) (j - l.length * i.size) (by omega)
          rw [show o + l.length * i.size + (j - l.length * i.size) = o + j by omega] at this
          rw [this]
          rfl
        · rw [World.cell?_setCells_out g _ _ _ _ (fun _ _ => by show o + j < o + l.length * i.size ∨ o + l.length * i.size + (flats cs m).length ≤ o + j; omega)]
          exact (h2 j hj).1
    · exact grow _ c rfl (by omega)

theorem wpList_append_o {P : Program} {ops : Array Oper} {rest : List Oper} {o : Oper} {a : Act} {Q : Exit → Act → World → Prop} (hgd : o.guard = none) (s x : Operand) (t tx : TypeId)
    (ho : o.op = .call { callee := .builtin .append, args := #[s, x], argTypes := #[t, tx] })
    (hK : ∀ x, (cs x).length = K) (hK0 : 0 < K) (hone : ∀ x, ∀ u ∈ cs x, u.oneCell' = true) (e ex : TypeId) (i : TypeInfo) (z : Value) (ht : P.underlying t = some (.slice e)) (htx : P.underlying tx = some (.slice ex)) (hi : P.info? e = some i) (hz : i.zero = some z) (hsize : i.size = K) (hzs : z.cells.size = K)
    (hs : a.eval s = v) (h : OwnO w K cs v l) (vx : Value) (m : List α) (hvx : a.eval x = vx) (hx : RowsAt w K cs vx m) (hlen : l.length + m.length ≤ maxLen) (hbytes : (l.length + m.length) * i.bytes ≤ 140737488355328)
    (hk : ∀ v' w', OwnO w' K cs v' (l ++ m) → w.grownBy w' v.ownBlock → (v'.ownBlock = v.ownBlock ∨ v'.ownBlock = some w.heap.size) → wpList P ops Q rest (a.put o.dst v') w') : wpList P ops Q (o :: rest) a w := by
  refine wpList_plain hgd fun K' hK' => ?_
  obtain ⟨v', w', hrun, h1, h2, h3⟩ := run_append_o (P := P) hK hK0 hone t tx o.type e ex i z ht htx hi hz hsize hzs h vx m hx hlen hbytes
  unfold Oper.wp
  simp [execOp, ho, resolve, invoke, builtin, hs, hvx, hrun, Result.andThen]
  exact hK' _ _ (hk v' w' h1 h2 h3)

/-- its rest -/
theorem OwnO.drop {a : Option Addr} {n cap : Nat} (h : OwnO w K cs (.slice a n cap) l) (k : Nat) (hk : k ≤ l.length) (hK : ∀ x, (cs x).length = K) (a' : Option Addr) (ha : k < cap → ∀ g o, a = some ⟨g, o, none⟩ → a' = some ⟨g, o + k * K, none⟩) (ha' : cap ≤ k → a' = a) : OwnO w K cs (.slice a' (n - k) (cap - k)) (l.drop k) := by
  rcases h with ⟨e, rfl⟩ | ⟨g, o, c, e, hg, hl, hc, h1, h2⟩
  · cases e
    simp at hk
    subst hk
    rw [ha' (Nat.le_refl _)]
    exact .inl ⟨rfl, rfl⟩
  · cases e
    by_cases hkc : k < cap
    · rw [ha hkc g o rfl]
      refine .inr ⟨g, o + k * K, cap - k, by rw [List.length_drop], hg, by rw [List.length_drop]; omega, by omega, fun j hj => ?_, fun j hj => ?_⟩
      · rw [List.length_drop, Nat.sub_mul] at hj
        have hkl : k * K ≤ l.length * K := Nat.mul_le_mul_right _ hk
        have h3 : (flats cs l)[k * K + j]? = (flats cs (l.drop k))[j]? := by
          have h4 : flats cs l = flats cs (l.take k) ++ flats cs (l.drop k) := by rw [← flats_append, List.take_append_drop]
          have h5 : (flats cs (l.take k)).length = k * K := by rw [flats_length hK, List.length_take, Nat.min_eq_left hk]
          rw [h4, List.getElem?_append_right (by omega), h5]
          congr 1
          omega
        rw [← h3, Nat.add_assoc]
        exact h1 _ (by omega)
      · rw [Nat.sub_mul] at hj
        rw [Nat.add_assoc]
        exact h2 _ (by omega)
    · have hkl : k = l.length := by omega
      subst hkl
      rw [ha' (by omega)]
      refine .inr ⟨g, o, cap - l.length, by rw [List.length_drop], hg, by rw [List.length_drop]; omega, by omega, fun j hj => ?_, fun j hj => ?_⟩
      · rw [List.length_drop, Nat.sub_self, Nat.zero_mul] at hj
        omega
      · rw [show cap - l.length = 0 by omega, Nat.zero_mul] at hj
        omega
end

/-- what lies outside F is as it was -/
structure Only (F : Nat → Prop) (w w' : World) : Prop where
  os : w'.os = w.os
  tape : w'.tape = w.tape
  output : w'.output = w.output
  size : w.heap.size ≤ w'.heap.size
  block : ∀ k, k < w.heap.size → ¬ F k → w'.heap[k]? = w.heap[k]?
/-- .. and what an object has behind it is of what it had, or new -/
structure Mv (F F' : Nat → Prop) (w w' : World) : Prop where
  only : Only F w w'
  sub : ∀ k, F' k → F k ∨ w.heap.size ≤ k
section
variable {F F' F'' : Nat → Prop} {w w' w'' : World}
theorem Only.refl (F : Nat → Prop) (w : World) : Only F w w := ⟨rfl, rfl, rfl, Nat.le_refl _, fun _ _ _ => rfl⟩
theorem Only.of_below (h : Below w.heap.size w w') : Only F w w' := ⟨h.os, h.tape, h.output, h.size, fun k hk _ => h.block k hk⟩
theorem Only.below {B : Nat} (h : Only F w w') (hF : ∀ k, F k → B ≤ k) (hB : B ≤ w.heap.size) : Below B w w' := ⟨h.os, h.tape, h.output, h.size, fun k hk => h.block k (by omega) fun hf => by have := hF k hf; omega⟩
theorem Only.mono (h : Only F w w') (hs : ∀ k, F k → F' k) : Only F' w w' := ⟨h.os, h.tape, h.output, h.size, fun k hk hf => h.block k hk fun h1 => hf (hs k h1)⟩
theorem Only.trans (h : Only F w w') (h2 : Only F w' w'') : Only F w w'' :=
  ⟨h2.os.trans h.os, h2.tape.trans h.tape, h2.output.trans h.output, Nat.le_trans h.size h2.size, fun k hk hf => (h2.block k (Nat.lt_of_lt_of_le hk h.size) hf).trans (h.block k hk hf)⟩
theorem Only.grown {row : Option Nat} (hg : w.grownBy w' row) (hr : ∀ k, row = some k → F k) : Only F w w' := ⟨hg.os, hg.tape, hg.output, hg.size, fun k hk hf => hg.block k hk fun e => hf (hr k e.symm)⟩
theorem Only.set (h : Only F w w') (a : Addr) (u : Value) (hf : F a.block) : Only F w (w'.setCell a u) :=
  h.trans ⟨rfl, rfl, rfl, by simp [World.setCell], fun k _ hk => Below.heap_setCell w' a u k fun e => hk (e ▸ hf)⟩
theorem Mv.refl (F : Nat → Prop) (w : World) : Mv F F w w := ⟨Only.refl _ _, fun _ h => .inl h⟩
theorem Mv.of_below (h : Below w.heap.size w w') : Mv F F w w' := ⟨Only.of_below h, fun _ h => .inl h⟩
theorem Mv.trans (h : Mv F F' w w') (h2 : Mv F' F'' w' w'') : Mv F F'' w w'' := by
  refine ⟨⟨h2.only.os.trans h.only.os, h2.only.tape.trans h.only.tape, h2.only.output.trans h.only.output, Nat.le_trans h.only.size h2.only.size, fun k hk hf => ?_⟩, fun k hk => ?_⟩
  · refine (h2.only.block k (Nat.lt_of_lt_of_le hk h.only.size) fun h3 => ?_).trans (h.only.block k hk hf)
    rcases h.sub k h3 with h4 | h4
    · exact hf h4
    · omega
  · rcases h2.sub k hk with h3 | h3
    · exact h.sub k h3
    · exact .inr (Nat.le_trans h.only.size h3)
theorem Mv.off (h : Mv F F' w w') {k : Nat} (hk : k < w.heap.size) (hf : ¬ F k) : ¬ F' k := fun h1 => (h.sub k h1).elim hf (fun h2 => by omega)
theorem Mv.from_ {B : Nat} (h : Mv F F' w w') (hF : ∀ k, F k → B ≤ k) (hB : B ≤ w.heap.size) : ∀ k, F' k → B ≤ k := fun k hk => (h.sub k hk).elim (hF k) (fun h2 => Nat.le_trans hB h2)
end
end Go.Proofs.Ytmkepmjdckdpgaa
/- Stage 22: a task's spec and rules as values; what Check, Rules, Same and SameRules tell, as mathematics. -/
namespace Go.Proofs.Ytmkepmjdckdpgaa
open Go.RowKit

/-- a spec -/
structure Sp where
  id : Int
  prio : Int
  sk : Int
  ge : Int
  fx : Int
  fy : Int
  tx : Int
  ty : Int
  a : Option Addr
  c : Nat
  aft : List Int
deriving Inhabited
abbrev Sp.v (x : Sp) : Value := .slice x.a x.aft.length x.c
def csSp (x : Sp) : List Value := [.int .i64 x.id, .int .i64 x.prio, .int .u64 x.sk, .int .u64 x.ge, .int .i64 x.fx, .int .i64 x.fy, .int .i64 x.tx, .int .i64 x.ty, x.v]
theorem csSp_len (x : Sp) : (csSp x).length = 9 := rfl
abbrev spv (x : Sp) : Value := .agg #[.int .i64 x.id, .int .i64 x.prio, .int .u64 x.sk, .int .u64 x.ge, .int .i64 x.fx, .int .i64 x.fy, .int .i64 x.tx, .int .i64 x.ty, .slice x.a x.aft.length x.c]
/-- rules -/
structure Ru where
  tasks : Int
  crew : Int
  units : Int
  lease : Int
  tries : Int
  rate : Int
  start : Int
  a : Option Addr
  c : Nat
  ais : List Ais
deriving Inhabited
abbrev Ru.v (x : Ru) : Value := .slice x.a x.ais.length x.c
def csRu (x : Ru) : List Value := [.int .i64 x.tasks, .int .i64 x.crew, .int .i64 x.units, .int .i64 x.lease, .int .i64 x.tries, .int .i64 x.rate, .int .i64 x.start, x.v]
abbrev ruv (x : Ru) : Value := .agg #[.int .i64 x.tasks, .int .i64 x.crew, .int .i64 x.units, .int .i64 x.lease, .int .i64 x.tries, .int .i64 x.rate, .int .i64 x.start, .slice x.a x.ais.length x.c]

/-- is a number within bounds -/
def inB (n a b : Int) : Bool := decide (a ≤ n ∧ n ≤ b)
theorem inB_yes {n a b : Int} (h1 : a ≤ n) (h2 : n ≤ b) : inB n a b = true := decide_eq_true ⟨h1, h2⟩
theorem inB_no {n a b : Int} (h : ¬ (a ≤ n ∧ n ≤ b)) : inB n a b = false := decide_eq_false h
theorem inB_iff {n a b : Int} : inB n a b = true ↔ a ≤ n ∧ n ≤ b := decide_eq_true_iff
/-- a number and its bounds -/
structure Bd where
  n : Int
  lo : Int
  hi : Int
deriving Inhabited
def csBd (b : Bd) : List Value := [.int .i64 b.n, .int .i64 b.lo, .int .i64 b.hi]
theorem csBd_len (b : Bd) : (csBd b).length = 3 := rfl
def Bd.ok (b : Bd) : Bool := inB b.n b.lo b.hi
def bdsS (x : Sp) : List Bd := [⟨x.id, 1, 999⟩, ⟨x.prio, 0, 1048575⟩, ⟨x.fx, -1000, 1000⟩, ⟨x.fy, -1000, 1000⟩, ⟨x.tx, -1000, 1000⟩, ⟨x.ty, -1000, 1000⟩]
def numS (x : Sp) : Bool := (bdsS x).all Bd.ok
def idsB (l : List Int) : Bool := l.all fun n => inB n 1 999
def aftB (id : Int) (l : List Int) : Bool := decide (l.length ≤ 8) && (rightB l && (!inL l id && idsB l))
def chk (x : Sp) : Int := if numS x then (if aftB x.id x.aft then 0 else 1) else 2
def bdsR (r : Ru) : List Bd := [⟨r.tasks, 1, 64⟩, ⟨r.crew, 1, 16⟩, ⟨r.units, 1, 16⟩, ⟨r.lease, 1, 1000⟩, ⟨r.tries, 1, 64⟩, ⟨r.rate, 0, 1048576⟩, ⟨r.start, 0, 2147483647⟩]
def numR (r : Ru) : Bool := (bdsR r).all Bd.ok
noncomputable def rul (r : Ru) : Int := if numR r then (if rightP r.ais then 0 else 1) else 2
/-- are two alike in all but their lists -/
def plainB (x y : Sp) : Bool := decide (x.id = y.id ∧ x.prio = y.prio ∧ x.sk = y.sk ∧ x.ge = y.ge ∧ (x.fx = y.fx ∧ x.fy = y.fy) ∧ x.tx = y.tx ∧ x.ty = y.ty)
def sameS (x y : Sp) : Bool := plainB x y && decide (x.aft = y.aft)
def plainR (x y : Ru) : Bool := decide (x.tasks = y.tasks ∧ x.crew = y.crew ∧ x.units = y.units ∧ x.lease = y.lease ∧ x.tries = y.tries ∧ x.rate = y.rate ∧ x.start = y.start)
def sameR (x y : Ru) : Bool := plainR x y && decide (x.ais = y.ais)

theorem chk_two {x : Sp} (h : numS x = false) : chk x = 2 := by unfold chk; rw [h]; rfl
theorem chk_one {x : Sp} (h : numS x = true) (h2 : aftB x.id x.aft = false) : chk x = 1 := by unfold chk; rw [h, h2]; rfl
theorem chk_zero {x : Sp} (h : numS x = true) (h2 : aftB x.id x.aft = true) : chk x = 0 := by unfold chk; rw [h, h2]; rfl
theorem chk_cases (x : Sp) : (numS x = false ∧ chk x = 2) ∨ (numS x = true ∧ aftB x.id x.aft = false ∧ chk x = 1) ∨ (numS x = true ∧ aftB x.id x.aft = true ∧ chk x = 0) := by
  cases h : numS x with
  | false => exact .inl ⟨rfl, chk_two h⟩
  | true =>
    cases h2 : aftB x.id x.aft with
    | false => exact .inr (.inl ⟨rfl, rfl, chk_one h h2⟩)
    | true => exact .inr (.inr ⟨rfl, rfl, chk_zero h h2⟩)
theorem rul_two {x : Ru} (h : numR x = false) : rul x = 2 := by unfold rul; rw [h]; rfl
theorem rul_one {x : Ru} (h : numR x = true) (h2 : rightP x.ais = false) : rul x = 1 := by unfold rul; rw [h, h2]; rfl
theorem rul_zero {x : Ru} (h : numR x = true) (h2 : rightP x.ais = true) : rul x = 0 := by unfold rul; rw [h, h2]; rfl
theorem numS_eq (x : Sp) : numS x = (inB x.id 1 999 && (inB x.prio 0 1048575 && (smallB x.fx x.fy 1000 && smallB x.tx x.ty 1000))) := by
  rw [Bool.eq_iff_iff]
  simp only [numS, bdsS, Bd.ok, List.all_cons, List.all_nil, Bool.and_true, Bool.and_eq_true, inB_iff, smallB, decide_eq_true_eq]
  omega
/-- which of a spec's numbers is the first that may not be -/
theorem num_ways (x : Sp) : (numS x = false ∧ (inB x.id 1 999 = false ∨ (inB x.id 1 999 = true ∧ x.prio < 0) ∨ (inB x.id 1 999 = true ∧ ¬ x.prio < 0 ∧ 1048575 < x.prio) ∨ (inB x.id 1 999 = true ∧ ¬ x.prio < 0 ∧ ¬ 1048575 < x.prio ∧ smallB x.fx x.fy 1000 = false) ∨
    (inB x.id 1 999 = true ∧ ¬ x.prio < 0 ∧ ¬ 1048575 < x.prio ∧ smallB x.fx x.fy 1000 = true ∧ smallB x.tx x.ty 1000 = false))) ∨ (numS x = true ∧ inB x.id 1 999 = true ∧ ¬ x.prio < 0 ∧ ¬ 1048575 < x.prio ∧ smallB x.fx x.fy 1000 = true ∧ smallB x.tx x.ty 1000 = true) := by
  rw [numS_eq]
  have hp : inB x.prio 0 1048575 = (decide (0 ≤ x.prio) && decide (x.prio ≤ 1048575)) := by unfold inB; simp
  rw [hp]
  by_cases p1 : x.prio < 0
  · rw [decide_eq_false (show ¬ 0 ≤ x.prio by omega)]
    cases inB x.id 1 999 <;> simp [p1]
  · rw [decide_eq_true (show 0 ≤ x.prio by omega)]
    by_cases p2 : 1048575 < x.prio
    · rw [decide_eq_false (show ¬ x.prio ≤ 1048575 by omega)]
      cases inB x.id 1 999 <;> simp [p1, p2]
    · rw [decide_eq_true (show x.prio ≤ 1048575 by omega)]
      cases inB x.id 1 999 <;> cases smallB x.fx x.fy 1000 <;> cases smallB x.tx x.ty 1000 <;> simp [p1, p2]
theorem idsB_take {l : List Int} {k : Nat} (hk : k < l.length) (h : idsB (l.take k) = true) (h2 : inB l[k] 1 999 = true) : idsB (l.take (k + 1)) = true := by
  unfold idsB at *
  rw [List.take_succ_eq_append_getElem hk, List.all_append, h]
  simp [h2]
theorem idsB_no {l : List Int} {k : Nat} (hk : k < l.length) (h2 : inB l[k] 1 999 = false) : idsB l = false := by
  unfold idsB
  rw [List.all_eq_false]
  exact ⟨_, List.getElem_mem hk, by rw [h2]; exact Bool.false_ne_true⟩
theorem aft_len {id : Int} {l : List Int} (h : ¬ l.length ≤ 8) : aftB id l = false := by unfold aftB; rw [decide_eq_false h]; rfl
theorem aft_right {id : Int} {l : List Int} (h : rightB l = false) : aftB id l = false := by unfold aftB; rw [h]; simp
theorem aft_own {id : Int} {l : List Int} (h : inL l id = true) : aftB id l = false := by unfold aftB; rw [h]; simp
theorem aft_ids {id : Int} {l : List Int} (h : idsB l = false) : aftB id l = false := by unfold aftB; rw [h]; simp
theorem aft_yes {id : Int} {l : List Int} (h1 : l.length ≤ 8) (h2 : rightB l = true) (h3 : inL l id = false) : aftB id l = idsB l := by unfold aftB; rw [decide_eq_true h1, h2, h3]; rfl
/-- what is the first that is wrong with what a spec comes after -/
theorem aft_ways (id : Int) (l : List Int) {r : Int} (h1 : aftB id l = false → r = 1) (h0 : aftB id l = true → r = 0) :
    (r = 1 ∧ (8 < (l.length : Int) ∨ (¬ 8 < (l.length : Int) ∧ rightB l = false) ∨ (¬ 8 < (l.length : Int) ∧ rightB l = true ∧ inL l id = true))) ∨ (¬ 8 < (l.length : Int) ∧ rightB l = true ∧ inL l id = false ∧ (idsB l = false → r = 1) ∧ (idsB l = true → r = 0)) := by
  by_cases hl : l.length ≤ 8
  · cases hr : rightB l with
    | false => exact .inl ⟨h1 (aft_right hr), .inr (.inl ⟨by omega, rfl⟩)⟩
    | true =>
      cases hi : inL l id with
      | true => exact .inl ⟨h1 (aft_own hi), .inr (.inr ⟨by omega, rfl, rfl⟩)⟩
      | false =>
        rw [aft_yes hl hr hi] at h1 h0
        exact .inr ⟨by omega, rfl, rfl, h1, h0⟩
  · exact .inl ⟨h1 (aft_len hl), .inl (by omega)⟩
/-- which of some rules is the first that may not be -/
theorem rul_ways (x : Ru) : (rul x = 2 ∧ inB x.tasks 1 64 = false) ∨ (rul x = 2 ∧ inB x.tasks 1 64 = true ∧ inB x.crew 1 16 = false) ∨ (rul x = 2 ∧ inB x.tasks 1 64 = true ∧ inB x.crew 1 16 = true ∧ inB x.units 1 16 = false) ∨
    (rul x = 2 ∧ inB x.tasks 1 64 = true ∧ inB x.crew 1 16 = true ∧ inB x.units 1 16 = true ∧ inB x.lease 1 1000 = false) ∨ (rul x = 2 ∧ inB x.tasks 1 64 = true ∧ inB x.crew 1 16 = true ∧ inB x.units 1 16 = true ∧ inB x.lease 1 1000 = true ∧ inB x.tries 1 64 = false) ∨
    (rul x = 2 ∧ inB x.tasks 1 64 = true ∧ inB x.crew 1 16 = true ∧ inB x.units 1 16 = true ∧ inB x.lease 1 1000 = true ∧ inB x.tries 1 64 = true ∧ inB x.rate 0 1048576 = false) ∨
    (rul x = 2 ∧ inB x.tasks 1 64 = true ∧ inB x.crew 1 16 = true ∧ inB x.units 1 16 = true ∧ inB x.lease 1 1000 = true ∧ inB x.tries 1 64 = true ∧ inB x.rate 0 1048576 = true ∧ inB x.start 0 2147483647 = false) ∨
    (rul x = 1 ∧ inB x.tasks 1 64 = true ∧ inB x.crew 1 16 = true ∧ inB x.units 1 16 = true ∧ inB x.lease 1 1000 = true ∧ inB x.tries 1 64 = true ∧ inB x.rate 0 1048576 = true ∧ inB x.start 0 2147483647 = true ∧ rightP x.ais = false) ∨
    (rul x = 0 ∧ inB x.tasks 1 64 = true ∧ inB x.crew 1 16 = true ∧ inB x.units 1 16 = true ∧ inB x.lease 1 1000 = true ∧ inB x.tries 1 64 = true ∧ inB x.rate 0 1048576 = true ∧ inB x.start 0 2147483647 = true ∧ rightP x.ais = true) := by
  unfold rul numR bdsR
  simp only [List.all_cons, List.all_nil, Bd.ok, Bool.and_true]
  cases inB x.tasks 1 64 <;> cases inB x.crew 1 16 <;> cases inB x.units 1 16 <;> cases inB x.lease 1 1000 <;> cases inB x.tries 1 64 <;> cases inB x.rate 0 1048576 <;> cases inB x.start 0 2147483647 <;> cases rightP x.ais <;> simp
/-- the aisles that a task goes through -/
noncomputable def wantL (r : Ru) (x : Sp) : List Int := crs7 (hitB (rway (wd x.fx, wd x.fy) (wd x.tx, wd x.ty) 0)) r.ais
/-- which is the first number that two specs, two rules, differ in -/
theorem plain_ways (x y : Sp) : (plainB x y = false ∧ (((x.id == y.id) = false) ∨ (x.id = y.id ∧ (x.prio == y.prio) = false) ∨ (x.id = y.id ∧ x.prio = y.prio ∧ (x.sk == y.sk) = false) ∨ (x.id = y.id ∧ x.prio = y.prio ∧ x.sk = y.sk ∧ (x.ge == y.ge) = false) ∨ (x.id = y.id ∧ x.prio = y.prio ∧ x.sk = y.sk ∧ x.ge = y.ge ∧ (x.fx == y.fx) = false) ∨ (x.id = y.id ∧ x.prio = y.prio ∧ x.sk = y.sk ∧ x.ge = y.ge ∧ x.fx = y.fx ∧ (x.fy == y.fy) = false) ∨ (x.id = y.id ∧ x.prio = y.prio ∧ x.sk = y.sk ∧ x.ge = y.ge ∧ x.fx = y.fx ∧ x.fy = y.fy ∧ (x.tx == y.tx) = false) ∨ (x.id = y.id ∧ x.prio = y.prio ∧ x.sk = y.sk ∧ x.ge = y.ge ∧ x.fx = y.fx ∧ x.fy = y.fy ∧ x.tx = y.tx ∧ (x.ty == y.ty) = false))) ∨ (plainB x y = true ∧ x.id = y.id ∧ x.prio = y.prio ∧ x.sk = y.sk ∧ x.ge = y.ge ∧ x.fx = y.fx ∧ x.fy = y.fy ∧ x.tx = y.tx ∧ x.ty = y.ty) := by
  unfold plainB
  by_cases eid : x.id = y.id
  case neg => exact .inl (by simp [eid])
  by_cases eprio : x.prio = y.prio
  case neg => exact .inl (by simp [eid, eprio])
  by_cases esk : x.sk = y.sk
  case neg => exact .inl (by simp [eid, eprio, esk])
  by_cases ege : x.ge = y.ge
  case neg => exact .inl (by simp [eid, eprio, esk, ege])
  by_cases efx : x.fx = y.fx
  case neg => exact .inl (by simp [eid, eprio, esk, ege, efx])
  by_cases efy : x.fy = y.fy
  case neg => exact .inl (by simp [eid, eprio, esk, ege, efx, efy])
  by_cases etx : x.tx = y.tx
  case neg => exact .inl (by simp [eid, eprio, esk, ege, efx, efy, etx])
  by_cases ety : x.ty = y.ty
  case neg => exact .inl (by simp [eid, eprio, esk, ege, efx, efy, etx, ety])
  exact .inr (by simp [eid, eprio, esk, ege, efx, efy, etx, ety])
theorem plainR_ways (x y : Ru) : (plainR x y = false ∧ (((x.tasks == y.tasks) = false) ∨ (x.tasks = y.tasks ∧ (x.crew == y.crew) = false) ∨ (x.tasks = y.tasks ∧ x.crew = y.crew ∧ (x.units == y.units) = false) ∨ (x.tasks = y.tasks ∧ x.crew = y.crew ∧ x.units = y.units ∧ (x.lease == y.lease) = false) ∨ (x.tasks = y.tasks ∧ x.crew = y.crew ∧ x.units = y.units ∧ x.lease = y.lease ∧ (x.tries == y.tries) = false) ∨ (x.tasks = y.tasks ∧ x.crew = y.crew ∧ x.units = y.units ∧ x.lease = y.lease ∧ x.tries = y.tries ∧ (x.rate == y.rate) = false) ∨ (x.tasks = y.tasks ∧ x.crew = y.crew ∧ x.units = y.units ∧ x.lease = y.lease ∧ x.tries = y.tries ∧ x.rate = y.rate ∧ (x.start == y.start) = false))) ∨ (plainR x y = true ∧ x.tasks = y.tasks ∧ x.crew = y.crew ∧ x.units = y.units ∧ x.lease = y.lease ∧ x.tries = y.tries ∧ x.rate = y.rate ∧ x.start = y.start) := by
  unfold plainR
  by_cases etasks : x.tasks = y.tasks
  case neg => exact .inl (by simp [etasks])
  by_cases ecrew : x.crew = y.crew
  case neg => exact .inl (by simp [etasks, ecrew])
  by_cases eunits : x.units = y.units
  case neg => exact .inl (by simp [etasks, ecrew, eunits])
  by_cases elease : x.lease = y.lease
  case neg => exact .inl (by simp [etasks, ecrew, eunits, elease])
  by_cases etries : x.tries = y.tries
  case neg => exact .inl (by simp [etasks, ecrew, eunits, elease, etries])
  by_cases erate : x.rate = y.rate
  case neg => exact .inl (by simp [etasks, ecrew, eunits, elease, etries, erate])
  by_cases estart : x.start = y.start
  case neg => exact .inl (by simp [etasks, ecrew, eunits, elease, etries, erate, estart])
  exact .inr (by simp [etasks, ecrew, eunits, elease, etries, erate, estart])
end Go.Proofs.Ytmkepmjdckdpgaa
/- A list of numbers that the call has gathered, sorted and without repetitions: what the library's contracts give. -/
namespace Go.Proofs.Ytmkepmjdckdpgaa
open Go.RowKit Go.Sort

/-! ### Lists that rise -/
theorem rise_ext : ∀ {l r : List Int}, l.Pairwise (· < ·) → r.Pairwise (· < ·) → (∀ m, m ∈ l ↔ m ∈ r) → l = r
  | [], [], _, _, _ => rfl
  | [], y :: r, _, _, h => absurd ((h y).2 (by simp)) (by simp)
  | x :: l, [], _, _, h => absurd ((h x).1 (by simp)) (by simp)
  | x :: l, y :: r, hl, hr, h => by
    rw [List.pairwise_cons] at hl hr
    have e : x = y := by
      have h1 := (h x).1 (by simp)
      have h2 := (h y).2 (by simp)
      rw [List.mem_cons] at h1 h2
      rcases h1 with h1 | h1
      · exact h1
      · rcases h2 with h2 | h2
        · exact h2.symm
        · have := hl.1 _ h2
          have := hr.1 _ h1
          omega
    subst e
    have : l = r := rise_ext hl.2 hr.2 fun m => by
      have := h m
      rw [List.mem_cons, List.mem_cons] at this
      constructor
      · intro hm
        have h3 := hl.1 _ hm
        rcases this.1 (.inr hm) with rfl | h4
        · omega
        · exact h4
      · intro hm
        have h3 := hr.1 _ hm
        rcases this.2 (.inr hm) with rfl | h4
        · omega
        · exact h4
    rw [this]

theorem sorted_ms (zs : List Int) : (zs.mergeSort fun x y => decide (x ≤ y)).Pairwise (· ≤ ·) := by
  have := List.pairwise_mergeSort (le := fun x y : Int => decide (x ≤ y)) (fun a b c h1 h2 => by simp at *; omega) (fun a b => by simp; omega) zs
  exact this.imp fun h => by simpa using h

theorem compact_rise {zs : List Int} (h : zs.Pairwise (· ≤ ·)) : (Lib.compact zs).Pairwise (· < ·) := by
  unfold Lib.compact Lib.compactUpTo
  rw [List.pairwise_map]
  have h1 : (List.range zs.length).Pairwise (· < ·) := List.pairwise_lt_range
  have h2 := h1.filter (Lib.keeps zs.toArray)
  refine List.Pairwise.imp_of_mem (fun {i j} hi hj hij => ?_) h2
  have hjm := List.mem_filter.1 hj
  have hjl : j < zs.length := List.mem_range.1 hjm.1
  have hk := hjm.2
  unfold Lib.keeps at hk
  rw [decide_eq_true_eq] at hk
  rcases hk with hk | hk
  · omega
  · have g : ∀ a b, a ≤ b → b < zs.length → zs.toArray[a]! ≤ zs.toArray[b]! := by
      intro a b hab hb
      rcases Nat.lt_or_ge a b with hlt | hge
      · have := List.pairwise_iff_getElem.1 h a b (by omega) hb hlt
        simpa [getElem!_pos, show a < zs.length by omega, hb] using this
      · have : a = b := by omega
        subst this
        exact Int.le_refl _
    have h3 := g i (j - 1) (by omega) (by omega)
    have h4 := g (j - 1) j (by omega) hjl
    omega

theorem compact_mem (zs : List Int) (m : Int) : m ∈ Lib.compact zs ↔ m ∈ zs := by
  unfold Lib.compact Lib.compactUpTo
  rw [List.mem_map]
  constructor
  · rintro ⟨i, hi, rfl⟩
    have := List.mem_range.1 (List.mem_filter.1 hi).1
    simp [getElem!_pos, this]
  · intro hm
    obtain ⟨i, hi, rfl⟩ := List.getElem_of_mem hm
    have key : ∀ n, ∀ i (hi : i < zs.length), i < n → ∃ a, a ∈ (List.range zs.length).filter (Lib.keeps zs.toArray) ∧ zs.toArray[a]! = zs[i] := by
      intro n
      induction n with
      | zero => intro i hi h; omega
      | succ n ih =>
        intro i hi h
        by_cases hk : Lib.keeps zs.toArray i = true
        · exact ⟨i, List.mem_filter.2 ⟨List.mem_range.2 hi, hk⟩, by simp [getElem!_pos, hi]⟩
        · unfold Lib.keeps at hk
          rw [decide_eq_true_eq] at hk
          have h0 : i ≠ 0 := fun e => hk (.inl e)
          have h1 : zs.toArray[i]! = zs.toArray[i - 1]! := by
            by_cases e : zs.toArray[i]! = zs.toArray[i - 1]!
            · exact e
            · exact absurd (.inr e) hk
          obtain ⟨a, ha, he⟩ := ih (i - 1) (by omega) (by omega)
          refine ⟨a, ha, ?_⟩
          rw [he]
          simp [getElem!_pos, hi, show i - 1 < zs.length by omega] at h1
          exact h1.symm
    exact key (i + 1) i hi (by omega)

/-! ### In memory -/
theorem below_row {B blk off n : Nat} {a w : World} {d : Array Int} {os : Array Obj} (h : Below B a w) (hb : B ≤ blk) (hz : B ≤ w.heap.size) : Below B a (grow (putRow (Value.int .i64) (Sort.ahead w n) blk off d) os) := by
  refine h.trans ⟨rfl, rfl, rfl, by simp, fun k hk => ?_⟩
  rw [heap_grow_old _ _ (by simp; omega)]
  have : blk ≠ k := by omega
  simp [putRow, mapBlock, Sort.ahead, Array.getElem?_modify, this]
theorem below_row' {B blk off n : Nat} {a w : World} {d : Array Int} (h : Below B a w) (hb : B ≤ blk) (hz : B ≤ w.heap.size) : Below B a (putRow (Value.int .i64) (Sort.ahead w n) blk off d) := by
  have := below_row (n := n) (off := off) (d := d) (os := #[]) h hb hz
  rwa [grow_empty] at this
theorem ints_of_holds {w : World} {blk cap : Nat} {zs : List Int} {d : Array Int} (hH : Holds (Value.int .i64) w blk 0 d) (hb : blk < w.heap.size) (hd : ∀ j x, zs[j]? = some x → j < d.size ∧ d[j]! = x) (hc : zs.length ≤ cap) : IntsAt w (.slice (some ⟨blk, 0, none⟩) zs.length cap) zs := by
  refine ⟨_, cap, rfl, hc, fun _ => ⟨blk, 0, rfl, hb, fun j x hj => ?_⟩⟩
  obtain ⟨h1, h2⟩ := hd j x hj
  have := (hH j h1).1
  rw [h2] at this
  exact this
/-- a list that the call has gathered, of at least one -/
theorem OwnI.holds {w : World} {B : Nat} {v : Value} {l : List Int} (h : OwnI w B v l) (h0 : 0 < l.length) :
    ∃ g cap, v = .slice (some ⟨g, 0, none⟩) l.length cap ∧ B ≤ g ∧ g < w.heap.size ∧ l.length ≤ cap ∧ Holds (Value.int .i64) w g 0 l.toArray := by
  rcases h.2 with ⟨rfl, he⟩ | ⟨g, cap, cur, rfl, hg, hh, hnc, hcp, hcs, htake⟩
  · omega
  · refine ⟨g, cap, rfl, hg, (Array.getElem?_eq_some_iff.1 hh).1, hnc, fun j hj => ?_⟩
    have hj' : j < l.length := by simpa using hj
    refine ⟨?_, by simp [World.frozen?, hh]⟩
    have h1 := flats_at csI_len l j l[j] (List.getElem?_eq_getElem hj') 0 (.int .i64 l[j]) rfl
    rw [Nat.mul_one, Nat.add_zero, ← htake, List.getElem?_take_of_lt (by omega)] at h1
    simp only [World.cell?, hh, Nat.zero_add]
    simp [hj'] at h1 ⊢
    exact h1

/-- behind the sort and Compact -/
theorem ints_compact {w : World} {g cap n q : Nat} {os : Array Obj} {l : List Int} (hH : Holds (Value.int .i64) w g 0 l.toArray) (hg : g < w.heap.size) (hc : l.length ≤ cap) :
    IntsAt (putRow (Value.int .i64) (Sort.ahead (grow (putRow (Value.int .i64) (Sort.ahead w n) g 0 (l.mergeSort fun x y => decide (x ≤ y)).toArray) os) q) g 0 (Lib.compact (l.mergeSort fun x y => decide (x ≤ y)) ++ List.replicate ((l.mergeSort fun x y => decide (x ≤ y)).length - (Lib.compact (l.mergeSort fun x y => decide (x ≤ y))).length) 0).toArray)
      (.slice (some ⟨g, 0, none⟩) (Lib.compact (l.mergeSort fun x y => decide (x ≤ y))).length cap) (Lib.compact (l.mergeSort fun x y => decide (x ≤ y))) := by
  have hlen : (l.mergeSort fun x y => decide (x ≤ y)).length = l.length := List.length_mergeSort l
  generalize (l.mergeSort fun x y => decide (x ≤ y)) = s at *
  have hcl := Lib.compact_length_le s
  have H1 : Holds (Value.int .i64) (grow (putRow (Value.int .i64) (Sort.ahead w n) g 0 s.toArray) os) g 0 s.toArray :=
    holds_grow _ _ _ _ _ _ (by simpa using hg) (holds_putRow _ _ _ _ l.toArray _ (holds_ahead _ _ _ _ _ _ hH) (by simpa using hlen))
  have H2 := holds_putRow (Value.int .i64) (Sort.ahead (grow (putRow (Value.int .i64) (Sort.ahead w n) g 0 s.toArray) os) q) g 0 s.toArray (Lib.compact s ++ List.replicate (s.length - (Lib.compact s).length) 0).toArray (holds_ahead _ _ _ _ _ _ H1) (by simp; omega)
  refine ints_of_holds H2 (by simp; omega) (fun j x hj => ?_) (by omega)
  have hjl := (List.getElem?_eq_some_iff.1 hj).1
  refine ⟨by simp; omega, ?_⟩
  rw [getElem!_pos _ _ (by simp; omega)]
  rw [List.getElem?_eq_getElem hjl] at hj
  simp [List.getElem_append_left hjl]
  exact Option.some.inj hj
theorem holds_sorted {w : World} {g n : Nat} {os : Array Obj} {l : List Int} (hH : Holds (Value.int .i64) w g 0 l.toArray) (hg : g < w.heap.size) :
    Holds (Value.int .i64) (grow (putRow (Value.int .i64) (Sort.ahead w n) g 0 (l.mergeSort fun x y => decide (x ≤ y)).toArray) os) g 0 (l.mergeSort fun x y => decide (x ≤ y)).toArray :=
  holds_grow _ _ _ _ _ _ (by simpa using hg) (holds_putRow _ _ _ _ l.toArray _ (holds_ahead _ _ _ _ _ _ hH) (by simp))
end Go.Proofs.Ytmkepmjdckdpgaa
