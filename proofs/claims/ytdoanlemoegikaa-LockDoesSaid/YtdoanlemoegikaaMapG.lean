/- A map with keys of kind int in memory, told as a function: each key's element, or none; how many there are. The laws at the operations, for the walk. FOR ALL STAGES WITH MAPS. -/
import Derived.Test.YtdoanlemoegikaaOwnO
import Derived.Maps.OwnSet
import Derived.Maps.OwnOps
import Derived.WalkArith
namespace Go.Proofs.Ytdoanlemoegikaa
open Go.RowKit Go.Maps

/-- how elements stand in the map -/
structure Elt (P : Program) (e : TypeId) where
  α : Type
  val : α → Value
  enc : α → DataW Unit
  ok : α → Prop
  z : α
  R : Value → Option (DataW Unit × List MemPlace)
  out : ∀ x, ok x → R (val x) = some (enc x, [])
  inv : ∀ v x ps, R v = some (enc x, ps) → v = val x
  okz : ok z
  hz : ∀ w, (zeroValue e).run P w = .ok (val z) w

/-- in the range of int -/
def I64 (n : Int) : Prop := -9223372036854775808 ≤ n ∧ n ≤ 9223372036854775807
theorem I64.wf {n : Int} (h : I64 n) : (Lit.int .i64 n).wf = true := WalkArith.wf_i64 h
theorem kl_ne {a b : Int} (h : a ≠ b) : Lit.int .i64 a ≠ Lit.int .i64 b := fun e => h (by injection e)
/-- what a map is turned into at one key -/
def updG {α : Type} (g : Int → Option α) (id : Int) (v : Option α) : Int → Option α := fun k => if k = id then v else g k
theorem updG_same {α : Type} (g : Int → Option α) (id : Int) (v : Option α) : updG g id v id = v := if_pos rfl
theorem updG_other {α : Type} (g : Int → Option α) {id k : Int} (v : Option α) (h : k ≠ id) : updG g id v k = g k := if_neg h

/-- elements that are ints -/
def eltI (P : Program) (e : TypeId) (he : P.underlying e = some (.int .i64)) (hz : ∀ w, (zeroValue e).run P w = .ok (.int .i64 0) w) : Elt P e where
  α := Int
  val := fun n => .int .i64 n
  enc := fun n => .lit (.int .i64 n)
  ok := I64
  z := 0
  R := plainElem P e
  out := fun x hx => plainElem_int he hx.wf
  inv := fun v x ps h => by
    obtain ⟨a, rfl, e2, _⟩ := plainElem_int_inv he h
    have := congrArg Prod.fst e2
    simp at this
    rw [this]
  okz := by unfold I64; omega
  hz := hz

section
variable {P : Program} {kt e : TypeId} (E : Elt P e)

/-- block b is a map of m entries: at each number of the range of int what g tells -/
def MapG (kt : TypeId) (w : World) (b m : Nat) (g : Int → Option E.α) : Prop :=
  ∃ D, w.ownsMap P kt E.R b m D ∧ Maps.size D = m ∧ ∀ id, I64 id → match g id with
    | none => Maps.has D (.int .i64 id) = false
    | some x => Maps.has D (.int .i64 id) = true ∧ ∀ z, D.atKey (.int .i64 id) z = E.enc x
variable {E} {w w' : World} {b m : Nat} {g : Int → Option E.α}
theorem MapG.lt (h : MapG E kt w b m g) : b < w.heap.size := by
  obtain ⟨D, h1, _⟩ := h
  exact h1.lt
theorem MapG.same (h : MapG E kt w b m g) (he : w'.heap[b]? = w.heap[b]?) : MapG E kt w' b m g := by
  obtain ⟨D, ⟨es, clock, hb, r⟩, h2⟩ := h
  exact ⟨D, ⟨es, clock, he.trans hb, r⟩, h2⟩
theorem MapG.kept (h : MapG E kt w b m g) (hb : Below w.heap.size w w') : MapG E kt w' b m g := h.same (hb.block b h.lt)
theorem MapG.away (h : MapG E kt w b m g) (a : Addr) (u : Value) (hne : b ≠ a.block) : MapG E kt (w.setCell a u) b m g := h.same (Below.heap_setCell w a u b hne)
theorem MapG.grown {row : Option Nat} (h : MapG E kt w b m g) (hg : w.grownBy w' row) (hne : some b ≠ row) : MapG E kt w' b m g := h.same (hg.block b h.lt hne)
theorem MapG.new (w : World) : MapG E kt (w.alloc (.map #[] 0)) w.heap.size 0 (fun _ => none) :=
  ⟨.map [], World.ownsMap_made _ _ _ _, rfl, fun _ _ => rfl⟩
/-- a map's block is no row of cells -/
theorem MapG.ne {k : Nat} {cs : Array Value} {t : TypeId} {fz : Nat × Nat} (h : MapG E kt w b m g) (hk : w.heap[k]? = some (.cells cs t fz)) : b ≠ k := fun e => by
  obtain ⟨D, ⟨es, clock, hb, r⟩, h2⟩ := h
  rw [e, hk] at hb
  cases hb
theorem MapG.ne_cell {a : Addr} {u : Value} (h : MapG E kt w b m g) (hk : w.cell? a = some u) : b ≠ a.block := fun e => by
  obtain ⟨D, ⟨es, clock, hb, r⟩, h2⟩ := h
  rw [e] at hb
  simp [World.cell?, hb] at hk

/-! ### At the operations -/
variable {ops : Array Oper} {rest : List Oper} {o : Oper} {a : Act} {Q : Exit → Act → World → Prop}
theorem wpList_lookG2 (hg : o.guard = none) (mo x : Operand) (t : TypeId) (hop : o.op = Op.lookup t mo x true) (hk : P.underlying kt = some (.int .i64)) (ht : P.underlying t = some (.map kt e))
    (hm : a.eval mo = .map (some b)) (h : MapG E kt w b m g) (id : Int) (hi : I64 id) (hx : a.eval x = .int .i64 id)
    (hK : wpList P ops Q rest (a.put o.dst (.tuple #[E.val ((g id).getD E.z), .bool (g id).isSome])) w) : wpList P ops Q (o :: rest) a w := by
  obtain ⟨D, h1, _, h3⟩ := h
  refine wpList_lookup_own_ok w hg mo x t hop kt e (int_keyed hk) ht E.R (E.hz w) (E.enc E.z) [] (E.out _ E.okz) b m D hm h1 _ _ hx (keyOf_int_mk hk hi.wf) fun v ps hv => ?_
  have := h3 id hi
  cases hgi : g id with
  | none =>
    rw [hgi] at this hK
    simp only at this
    rw [Maps.atKey_of_not_has this] at hv
    rw [E.inv _ _ _ hv, this]
    exact hK
  | some y =>
    rw [hgi] at this hK
    simp only at this
    rw [this.2] at hv
    rw [E.inv _ _ _ hv, this.1]
    exact hK
theorem wpList_putG (hg : o.guard = none) (mo x vo : Operand) (t : TypeId) (hop : o.op = Op.mapUpdate t mo x vo) (hk : P.underlying kt = some (.int .i64)) (ht : P.underlying t = some (.map kt e))
    (hm : a.eval mo = .map (some b)) (h : MapG E kt w b m g) (hn : m < maxLen) (id : Int) (hi : I64 id) (hx : a.eval x = .int .i64 id) (y : E.α) (hy : E.ok y) (hv : a.eval vo = E.val y)
    (hK : ∀ w', MapG E kt w' b (if (g id).isSome then m else m + 1) (updG g id (some y)) → w.grownBy w' (some b) → wpList P ops Q rest (a.put o.dst undef) w') : wpList P ops Q (o :: rest) a w := by
  obtain ⟨D, h1, h2, h3⟩ := h
  refine wpList_mapUpdate_in w hg mo x vo t hop kt e (int_keyed hk) ht E.R b m D hm h1 hn _ _ _ hx hv (keyOf_int_mk hk hi.wf) (E.enc y) [] (E.out y hy) fun w' h4 h5 => ?_
  have htidy := h1.tidy (int_keyed hk)
  have hsz := Maps.size_put (k := Lit.int .i64 id) htidy (E.enc y)
  have hh : Maps.has D (.int .i64 id) = (g id).isSome := by
    have := h3 id hi
    cases hgi : g id with
    | none => rw [hgi] at this; exact this
    | some y => rw [hgi] at this; exact this.1
  rw [hh, h2] at hsz
  refine hK w' ⟨D.put (.int .i64 id) (E.enc y), ?_, hsz, fun k hkk => ?_⟩ h5.grown
  · obtain ⟨es, clock, r1, r2, r3, r4⟩ := h4
    refine ⟨es, clock, r1, r2, ?_, r4⟩
    rw [← hsz, r4]
    simp [Maps.size, length_sorted]
  · by_cases ek : k = id
    · subst ek
      rw [updG_same]
      exact ⟨Maps.has_put_same (k := Lit.int .i64 k) htidy.isMap trivial _, fun z => Maps.atKey_put_same (k := Lit.int .i64 k) htidy.isMap trivial _ z⟩
    · rw [updG_other _ _ ek]
      have := h3 k hkk
      cases hgk : g k with
      | none =>
        rw [hgk] at this
        show Maps.has _ _ = false
        rw [Maps.has_put_other (kl_ne ek)]
        exact this
      | some y2 =>
        rw [hgk] at this
        refine ⟨?_, fun z => ?_⟩
        · rw [Maps.has_put_other (kl_ne ek)]; exact this.1
        · rw [Maps.atKey_put_other (kl_ne ek)]; exact this.2 z
theorem wpList_delG (hg : o.guard = none) (mo x : Operand) (t : TypeId) (hop : o.op = Op.call { callee := Callee.builtin Builtin.delete, args := #[mo, x], argTypes := #[t, kt] }) (hk : P.underlying kt = some (.int .i64)) (ht : P.underlying t = some (.map kt e))
    (hm : a.eval mo = .map (some b)) (h : MapG E kt w b m g) (id : Int) (hi : I64 id) (hx : a.eval x = .int .i64 id)
    (hK : ∀ w', MapG E kt w' b (if (g id).isSome then m - 1 else m) (updG g id none) → w.grownBy w' (some b) → wpList P ops Q rest (a.put o.dst (.tuple #[])) w') : wpList P ops Q (o :: rest) a w := by
  obtain ⟨D, h1, h2, h3⟩ := h
  refine wpList_delete_own w hg mo x t kt hop e (int_keyed hk) ht E.R b m D hm h1 _ _ hx (keyOf_int_mk hk hi.wf) fun w' h4 h5 => ?_
  have htidy := h1.tidy (int_keyed hk)
  have hsz := Maps.size_del (k := Lit.int .i64 id) htidy
  have hh : Maps.has D (.int .i64 id) = (g id).isSome := by
    have := h3 id hi
    cases hgi : g id with
    | none => rw [hgi] at this; exact this
    | some y => rw [hgi] at this; exact this.1
  rw [hh, h2] at hsz
  have hsz2 : Maps.size (D.del (.int .i64 id)) = if (g id).isSome then m - 1 else m := by
    by_cases hi2 : (g id).isSome = true
    · rw [if_pos hi2] at hsz ⊢; omega
    · rw [if_neg hi2] at hsz ⊢; omega
  refine hK w' ⟨D.del (.int .i64 id), ?_, hsz2, fun k hkk => ?_⟩ h5.grown
  · obtain ⟨es, clock, r1, r2, r3, r4⟩ := h4
    refine ⟨es, clock, r1, r2, ?_, r4⟩
    rw [← hsz2, r4]
    simp [Maps.size, length_sorted]
  · by_cases ek : k = id
    · subst ek
      rw [updG_same]
      exact Maps.has_del_same
    · rw [updG_other _ _ ek]
      have := h3 k hkk
      cases hgk : g k with
      | none =>
        rw [hgk] at this
        show Maps.has _ _ = false
        rw [Maps.has_del_other (kl_ne ek)]
        exact this
      | some y2 =>
        rw [hgk] at this
        refine ⟨?_, fun z => ?_⟩
        · rw [Maps.has_del_other (kl_ne ek)]; exact this.1
        · rw [Maps.atKey_del_other (kl_ne ek)]; exact this.2 z
theorem wpList_lenG (hg : o.guard = none) (mo : Operand) (t : TypeId) (hop : o.op = Op.call { callee := Callee.builtin Builtin.len, args := #[mo], argTypes := #[t] }) (ht : P.underlying t = some (.map kt e))
    (hm : a.eval mo = .map (some b)) (h : MapG E kt w b m g) (hK : wpList P ops Q rest (a.put o.dst (.int .i64 m)) w) : wpList P ops Q (o :: rest) a w := by
  obtain ⟨D, h1, h2, _⟩ := h
  refine wpList_len_own w hg mo t hop kt e ht E.R b m D hm h1 ?_
  rw [h2]
  exact hK
/-- 'm[k]' and 'v, ok := m[k]' as equations, for regions that draw -/
theorem MapG.look (h : MapG E kt w b m g) (hk : P.underlying kt = some (.int .i64)) {t : TypeId} (ht : P.underlying t = some (.map kt e)) {id : Int} (hi : I64 id) :
    (Instr.lookup t (.map (some b)) (.int .i64 id) true).run P w = .ok (.tuple #[E.val ((g id).getD E.z), .bool (g id).isSome]) w := by
  obtain ⟨D, h1, _, h3⟩ := h
  obtain ⟨v, ps, hrun, hv⟩ := h1.look_ok (int_keyed hk) ht (E.hz w) (E.out _ E.okz) (keyOf_int_mk hk hi.wf)
  rw [hrun]
  have := h3 id hi
  cases hgi : g id with
  | none =>
    rw [hgi] at this
    simp only at this
    rw [Maps.atKey_of_not_has this] at hv
    rw [E.inv _ _ _ hv, this]
    rfl
  | some y =>
    rw [hgi] at this
    simp only at this
    rw [this.2] at hv
    rw [E.inv _ _ _ hv, this.1]
    rfl
theorem MapG.look1 (h : MapG E kt w b m g) (hk : P.underlying kt = some (.int .i64)) {t : TypeId} (ht : P.underlying t = some (.map kt e)) {id : Int} (hi : I64 id) :
    (Instr.lookup t (.map (some b)) (.int .i64 id) false).run P w = .ok (E.val ((g id).getD E.z)) w := by
  obtain ⟨D, h1, _, h3⟩ := h
  obtain ⟨v, ps, hrun, hv⟩ := h1.lookup (int_keyed hk) ht (E.hz w) (E.out _ E.okz) (keyOf_int_mk hk hi.wf)
  rw [hrun]
  have := h3 id hi
  cases hgi : g id with
  | none =>
    rw [hgi] at this
    simp only at this
    rw [Maps.atKey_of_not_has this] at hv
    rw [E.inv _ _ _ hv]
    rfl
  | some y =>
    rw [hgi] at this
    simp only at this
    rw [this.2] at hv
    rw [E.inv _ _ _ hv]
    rfl
theorem MapG.len (h : MapG E kt w b m g) {t : TypeId} (ht : P.underlying t = some (.map kt e)) (ty : TypeId) : (Builtin.len_ #[t] ty #[.map (some b)]).run P w = .ok (.int .i64 m) w := by
  obtain ⟨D, h1, h2, _⟩ := h
  rw [h1.len ht ty, h2]
end
end Go.Proofs.Ytdoanlemoegikaa
