/- Texts of this proof, joined: MapG; MapN; HeapBin; OwnSet; Labels; HpA. -/
import Derived.Test.YtkhnkhkpjgemkaaBun2
import Derived.Maps.OwnSet
import Derived.Maps.OwnOps
import Derived.WalkArith
import Derived.Test.YtkhnkhkpjgemkaaRows
import Derived.WalkKit
import Derived.Deep.LoopGhost
/- A map with keys of kind int in memory, told as a function: each key's element, or none; how many there are. The laws at the operations, for the walk. FOR ALL STAGES WITH MAPS. -/
namespace Go.Proofs.Ytkhnkhkpjgemkaa
open Go.RowKit Go.Maps

/-- how elements stand in the map -/
structure Elt (P : Program) (e : TypeId) where
  α : Type
  val : α → Value
  enc : α → DataW Unit
  ok : α → Prop
  z : α
  R : Value → Option (DataW Unit × List MemPlace)
  out : ∀ x, ok x → R (val x) = some (enc x, [])
  inv : ∀ v x ps, R v = some (enc x, ps) → v = val x
  okz : ok z
  hz : ∀ w, (zeroValue e).run P w = .ok (val z) w

/-- in the range of int -/
def I64 (n : Int) : Prop := -9223372036854775808 ≤ n ∧ n ≤ 9223372036854775807
theorem I64.wf {n : Int} (h : I64 n) : (Lit.int .i64 n).wf = true := WalkArith.wf_i64 h
theorem kl_ne {a b : Int} (h : a ≠ b) : Lit.int .i64 a ≠ Lit.int .i64 b := fun e => h (by injection e)
/-- what a map is turned into at one key -/
def updG {α : Type} (g : Int → Option α) (id : Int) (v : Option α) : Int → Option α := fun k => if k = id then v else g k
theorem updG_same {α : Type} (g : Int → Option α) (id : Int) (v : Option α) : updG g id v id = v := if_pos rfl
theorem updG_other {α : Type} (g : Int → Option α) {id k : Int} (v : Option α) (h : k ≠ id) : updG g id v k = g k := if_neg h

/-- elements that are ints -/
def eltI (P : Program) (e : TypeId) (he : P.underlying e = some (.int .i64)) (hz : ∀ w, (zeroValue e).run P w = .ok (.int .i64 0) w) : Elt P e where
  α := Int
  val := fun n => .int .i64 n
  enc := fun n => .lit (.int .i64 n)
  ok := I64
  z := 0
  R := plainElem P e
  out := fun x hx => plainElem_int he hx.wf
  inv := fun v x ps h => by
    obtain ⟨a, rfl, e2, _⟩ := plainElem_int_inv he h
    have := congrArg Prod.fst e2
    simp at this
    rw [this]
  okz := by unfold I64; omega
  hz := hz

section
variable {P : Program} {kt e : TypeId} (E : Elt P e)

/-- block b is a map of m entries: at each number of the range of int what g tells -/
def MapG (kt : TypeId) (w : World) (b m : Nat) (g : Int → Option E.α) : Prop :=
  ∃ D, w.ownsMap P kt E.R b m D ∧ Maps.size D = m ∧ ∀ id, I64 id → match g id with
    | none => Maps.has D (.int .i64 id) = false
    | some x => Maps.has D (.int .i64 id) = true ∧ ∀ z, D.atKey (.int .i64 id) z = E.enc x
variable {E} {w w' : World} {b m : Nat} {g : Int → Option E.α}
theorem MapG.lt (h : MapG E kt w b m g) : b < w.heap.size := by
  obtain ⟨D, h1, _⟩ := h
  exact h1.lt
theorem MapG.same (h : MapG E kt w b m g) (he : w'.heap[b]? = w.heap[b]?) : MapG E kt w' b m g := by
  obtain ⟨D, ⟨es, clock, hb, r⟩, h2⟩ := h
  exact ⟨D, ⟨es, clock, he.trans hb, r⟩, h2⟩
theorem MapG.kept (h : MapG E kt w b m g) (hb : Below w.heap.size w w') : MapG E kt w' b m g := h.same (hb.block b h.lt)
theorem MapG.away (h : MapG E kt w b m g) (a : Addr) (u : Value) (hne : b ≠ a.block) : MapG E kt (w.setCell a u) b m g := h.same (Below.heap_setCell w a u b hne)
theorem MapG.grown {row : Option Nat} (h : MapG E kt w b m g) (hg : w.grownBy w' row) (hne : some b ≠ row) : MapG E kt w' b m g := h.same (hg.block b h.lt hne)
theorem MapG.new (w : World) : MapG E kt (w.alloc (.map #[] 0)) w.heap.size 0 (fun _ => none) :=
  ⟨.map [], World.ownsMap_made _ _ _ _, rfl, fun _ _ => rfl⟩
/-- a map's block is no row of cells -/
theorem MapG.ne {k : Nat} {cs : Array Value} {t : TypeId} {fz : Nat × Nat} (h : MapG E kt w b m g) (hk : w.heap[k]? = some (.cells cs t fz)) : b ≠ k := fun e => by
  obtain ⟨D, ⟨es, clock, hb, r⟩, h2⟩ := h
  rw [e, hk] at hb
  cases hb
theorem MapG.ne_cell {a : Addr} {u : Value} (h : MapG E kt w b m g) (hk : w.cell? a = some u) : b ≠ a.block := fun e => by
  obtain ⟨D, ⟨es, clock, hb, r⟩, h2⟩ := h
  rw [e] at hb
  simp [World.cell?, hb] at hk

/-! ### At the operations -/
variable {ops : Array Oper} {rest : List Oper} {o : Oper} {a : Act} {Q : Exit → Act → World → Prop}
theorem wpList_lookG2 (hg : o.guard = none) (mo x : Operand) (t : TypeId) (hop : o.op = Op.lookup t mo x true) (hk : P.underlying kt = some (.int .i64)) (ht : P.underlying t = some (.map kt e))
    (hm : a.eval mo = .map (some b)) (h : MapG E kt w b m g) (id : Int) (hi : I64 id) (hx : a.eval x = .int .i64 id)
    (hK : wpList P ops Q rest (a.put o.dst (.tuple #[E.val ((g id).getD E.z), .bool (g id).isSome])) w) : wpList P ops Q (o :: rest) a w := by
  obtain ⟨D, h1, _, h3⟩ := h
  refine wpList_lookup_own_ok w hg mo x t hop kt e (int_keyed hk) ht E.R (E.hz w) (E.enc E.z) [] (E.out _ E.okz) b m D hm h1 _ _ hx (keyOf_int_mk hk hi.wf) fun v ps hv => ?_
  have := h3 id hi
  cases hgi : g id with
  | none =>
    rw [hgi] at this hK
    simp only at this
    rw [Maps.atKey_of_not_has this] at hv
    rw [E.inv _ _ _ hv, this]
    exact hK
  | some y =>
    rw [hgi] at this hK
    simp only at this
    rw [this.2] at hv
    rw [E.inv _ _ _ hv, this.1]
    exact hK
theorem wpList_putG (hg : o.guard = none) (mo x vo : Operand) (t : TypeId) (hop : o.op = Op.mapUpdate t mo x vo) (hk : P.underlying kt = some (.int .i64)) (ht : P.underlying t = some (.map kt e))
    (hm : a.eval mo = .map (some b)) (h : MapG E kt w b m g) (hn : m < maxLen) (id : Int) (hi : I64 id) (hx : a.eval x = .int .i64 id) (y : E.α) (hy : E.ok y) (hv : a.eval vo = E.val y)
    (hK : ∀ w', MapG E kt w' b (if (g id).isSome then m else m + 1) (updG g id (some y)) → w.grownBy w' (some b) → wpList P ops Q rest (a.put o.dst undef) w') : wpList P ops Q (o :: rest) a w := by
  obtain ⟨D, h1, h2, h3⟩ := h
  refine wpList_mapUpdate_in w hg mo x vo t hop kt e (int_keyed hk) ht E.R b m D hm h1 hn _ _ _ hx hv (keyOf_int_mk hk hi.wf) (E.enc y) [] (E.out y hy) fun w' h4 h5 => ?_
  have htidy := h1.tidy (int_keyed hk)
  have hsz := Maps.size_put (k := Lit.int .i64 id) htidy (E.enc y)
  have hh : Maps.has D (.int .i64 id) = (g id).isSome := by
    have := h3 id hi
    cases hgi : g id with
    | none => rw [hgi] at this; exact this
    | some y => rw [hgi] at this; exact this.1
  rw [hh, h2] at hsz
  refine hK w' ⟨D.put (.int .i64 id) (E.enc y), ?_, hsz, fun k hkk => ?_⟩ h5.grown
  · obtain ⟨es, clock, r1, r2, r3, r4⟩ := h4
    refine ⟨es, clock, r1, r2, ?_, r4⟩
    rw [← hsz, r4]
    simp [Maps.size, length_sorted]
  · by_cases ek : k = id
    · subst ek
      rw [updG_same]
      exact ⟨Maps.has_put_same (k := Lit.int .i64 k) htidy.isMap trivial _, fun z => Maps.atKey_put_same (k := Lit.int .i64 k) htidy.isMap trivial _ z⟩
    · rw [updG_other _ _ ek]
      have := h3 k hkk
      cases hgk : g k with
      | none =>
        rw [hgk] at this
        show Maps.has _ _ = false
        rw [Maps.has_put_other (kl_ne ek)]
        exact this
      | some y2 =>
        rw [hgk] at this
        refine ⟨?_, fun z => ?_⟩
        · rw [Maps.has_put_other (kl_ne ek)]; exact this.1
        · rw [Maps.atKey_put_other (kl_ne ek)]; exact this.2 z
theorem wpList_delG (hg : o.guard = none) (mo x : Operand) (t : TypeId) (hop : o.op = Op.call { callee := Callee.builtin Builtin.delete, args := #[mo, x], argTypes := #[t, kt] }) (hk : P.underlying kt = some (.int .i64)) (ht : P.underlying t = some (.map kt e))
    (hm : a.eval mo = .map (some b)) (h : MapG E kt w b m g) (id : Int) (hi : I64 id) (hx : a.eval x = .int .i64 id)
    (hK : ∀ w', MapG E kt w' b (if (g id).isSome then m - 1 else m) (updG g id none) → w.grownBy w' (some b) → wpList P ops Q rest (a.put o.dst (.tuple #[])) w') : wpList P ops Q (o :: rest) a w := by
  obtain ⟨D, h1, h2, h3⟩ := h
  refine wpList_delete_own w hg mo x t kt hop e (int_keyed hk) ht E.R b m D hm h1 _ _ hx (keyOf_int_mk hk hi.wf) fun w' h4 h5 => ?_
  have htidy := h1.tidy (int_keyed hk)
  have hsz := Maps.size_del (k := Lit.int .i64 id) htidy
  have hh : Maps.has D (.int .i64 id) = (g id).isSome := by
    have := h3 id hi
    cases hgi : g id with
    | none => rw [hgi] at this; exact this
    | some y => rw [hgi] at this; exact this.1
  rw [hh, h2] at hsz
  have hsz2 : Maps.size (D.del (.int .i64 id)) = if (g id).isSome then m - 1 else m := by
    by_cases hi2 : (g id).isSome = true
    · rw [if_pos hi2] at hsz ⊢; omega
    · rw [if_neg hi2] at hsz ⊢; omega
  refine hK w' ⟨D.del (.int .i64 id), ?_, hsz2, fun k hkk => ?_⟩ h5.grown
  · obtain ⟨es, clock, r1, r2, r3, r4⟩ := h4
    refine ⟨es, clock, r1, r2, ?_, r4⟩
    rw [← hsz2, r4]
    simp [Maps.size, length_sorted]
  · by_cases ek : k = id
    · subst ek
      rw [updG_same]
      exact Maps.has_del_same
    · rw [updG_other _ _ ek]
      have := h3 k hkk
      cases hgk : g k with
      | none =>
        rw [hgk] at this
        show Maps.has _ _ = false
        rw [Maps.has_del_other (kl_ne ek)]
        exact this
      | some y2 =>
        rw [hgk] at this
        refine ⟨?_, fun z => ?_⟩
        · rw [Maps.has_del_other (kl_ne ek)]; exact this.1
        · rw [Maps.atKey_del_other (kl_ne ek)]; exact this.2 z
theorem wpList_lenG (hg : o.guard = none) (mo : Operand) (t : TypeId) (hop : o.op = Op.call { callee := Callee.builtin Builtin.len, args := #[mo], argTypes := #[t] }) (ht : P.underlying t = some (.map kt e))
    (hm : a.eval mo = .map (some b)) (h : MapG E kt w b m g) (hK : wpList P ops Q rest (a.put o.dst (.int .i64 m)) w) : wpList P ops Q (o :: rest) a w := by
  obtain ⟨D, h1, h2, _⟩ := h
  refine wpList_len_own w hg mo t hop kt e ht E.R b m D hm h1 ?_
  rw [h2]
  exact hK
/-- 'm[k]' and 'v, ok := m[k]' as equations, for regions that draw -/
theorem MapG.look (h : MapG E kt w b m g) (hk : P.underlying kt = some (.int .i64)) {t : TypeId} (ht : P.underlying t = some (.map kt e)) {id : Int} (hi : I64 id) :
    (Instr.lookup t (.map (some b)) (.int .i64 id) true).run P w = .ok (.tuple #[E.val ((g id).getD E.z), .bool (g id).isSome]) w := by
  obtain ⟨D, h1, _, h3⟩ := h
  obtain ⟨v, ps, hrun, hv⟩ := h1.look_ok (int_keyed hk) ht (E.hz w) (E.out _ E.okz) (keyOf_int_mk hk hi.wf)
  rw [hrun]
  have := h3 id hi
  cases hgi : g id with
  | none =>
    rw [hgi] at this
    simp only at this
    rw [Maps.atKey_of_not_has this] at hv
    rw [E.inv _ _ _ hv, this]
    rfl
  | some y =>
    rw [hgi] at this
    simp only at this
    rw [this.2] at hv
    rw [E.inv _ _ _ hv, this.1]
    rfl
theorem MapG.look1 (h : MapG E kt w b m g) (hk : P.underlying kt = some (.int .i64)) {t : TypeId} (ht : P.underlying t = some (.map kt e)) {id : Int} (hi : I64 id) :
    (Instr.lookup t (.map (some b)) (.int .i64 id) false).run P w = .ok (E.val ((g id).getD E.z)) w := by
  obtain ⟨D, h1, _, h3⟩ := h
  obtain ⟨v, ps, hrun, hv⟩ := h1.lookup (int_keyed hk) ht (E.hz w) (E.out _ E.okz) (keyOf_int_mk hk hi.wf)
  rw [hrun]
  have := h3 id hi
  cases hgi : g id with
  | none =>
    rw [hgi] at this
    simp only at this
    rw [Maps.atKey_of_not_has this] at hv
    rw [E.inv _ _ _ hv]
    rfl
  | some y =>
    rw [hgi] at this
    simp only at this
    rw [this.2] at hv
    rw [E.inv _ _ _ hv]
    rfl
theorem MapG.len (h : MapG E kt w b m g) {t : TypeId} (ht : P.underlying t = some (.map kt e)) (ty : TypeId) : (Builtin.len_ #[t] ty #[.map (some b)]).run P w = .ok (.int .i64 m) w := by
  obtain ⟨D, h1, h2, _⟩ := h
  rw [h1.len ht ty, h2]
end
end Go.Proofs.Ytkhnkhkpjgemkaa
/- Maps from ints to places (map[int]int): XMapG's laws in plain numbers. -/
namespace Go.Proofs.Ytkhnkhkpjgemkaa
open Go.RowKit

noncomputable def EI : Elt Try.prog 3 := eltI Try.prog 3 Try.underlying3 fun w => by kernel_rfl
/-- places as ints -/
def gi (g : Int → Option Nat) : Int → Option Int := fun k => (g k).map fun n => (n : Int)
def upd (g : Int → Option Nat) (id : Int) (v : Option Nat) : Int → Option Nat := fun k => if k = id then v else g k
theorem gi_upd (g : Int → Option Nat) (id : Int) (j : Nat) : gi (upd g id (some j)) = updG (gi g) id (some (j : Int)) := by
  funext k
  unfold gi upd updG
  split <;> rfl
theorem gi_del (g : Int → Option Nat) (id : Int) : gi (upd g id none) = updG (gi g) id none := by
  funext k
  unfold gi upd updG
  split <;> rfl
/-- block b is a map of m entries: at each id the place that g tells -/
def MapN (w : World) (b m : Nat) (g : Int → Option Nat) : Prop := MapG EI 3 w b m (gi g)
theorem nat64 {n : Nat} (h : n ≤ 1000000) : I64 (n : Int) := by unfold I64; omega
section
variable {w w' : World} {b m : Nat} {g : Int → Option Nat}
theorem MapN.lt (h : MapN w b m g) : b < w.heap.size := MapG.lt h
theorem MapN.same (h : MapN w b m g) (he : w'.heap[b]? = w.heap[b]?) : MapN w' b m g := MapG.same h he
theorem MapN.kept (h : MapN w b m g) (hb : Below w.heap.size w w') : MapN w' b m g := MapG.kept h hb
theorem MapN.away (h : MapN w b m g) (a : Addr) (u : Value) (hne : b ≠ a.block) : MapN (w.setCell a u) b m g := MapG.away h a u hne
theorem MapN.grown {row : Option Nat} (h : MapN w b m g) (hg : w.grownBy w' row) (hne : some b ≠ row) : MapN w' b m g := MapG.grown h hg hne
theorem MapN.drew (h : MapN w b m g) : MapN w.drew b m g := MapG.same h rfl
theorem MapN.new (w : World) : MapN (w.alloc (.map #[] 0)) w.heap.size 0 (fun _ => none) := MapG.new w
theorem MapN.ne_cell {a : Addr} {u : Value} (h : MapN w b m g) (hk : w.cell? a = some u) : b ≠ a.block := MapG.ne_cell h hk
variable {ops : Array Oper} {rest : List Oper} {o : Oper} {a : Act} {Q : Exit → Act → World → Prop}
theorem gi_isSome (id : Int) : Option.isSome (α := EI.α) (gi g id) = (g id).isSome := by
  unfold gi
  cases g id <;> rfl
theorem gi_getD (id : Int) : EI.val (Option.getD (α := EI.α) (gi g id) EI.z) = .int .i64 (((g id).getD 0 : Nat) : Int) := by
  unfold gi
  cases g id <;> rfl
theorem wpList_lookN (hg : o.guard = none) (mo x : Operand) (hop : o.op = Op.lookup 59 mo x true)
    (hm : a.eval mo = .map (some b)) (h : MapN w b m g) (id : Int) (hi : I64 id) (hx : a.eval x = .int .i64 id)
    (hK : wpList Try.prog ops Q rest (a.put o.dst (.tuple #[.int .i64 (((g id).getD 0 : Nat) : Int), .bool (g id).isSome])) w) : wpList Try.prog ops Q (o :: rest) a w := by
  refine wpList_lookG2 (E := EI) hg mo x 59 hop Try.underlying3 Try.underlying59 hm h id hi hx ?_
  rw [gi_isSome, gi_getD]
  exact hK
theorem wpList_putN (hg : o.guard = none) (hd : o.dst = none) (mo x vo : Operand) (hop : o.op = Op.mapUpdate 59 mo x vo)
    (hm : a.eval mo = .map (some b)) (h : MapN w b m g) (hn : m ≤ 1000000) (id : Int) (hi : I64 id) (hx : a.eval x = .int .i64 id) (j : Nat) (hj : j ≤ 1000000) (hv : a.eval vo = .int .i64 (j : Int))
    (hK : ∀ w', MapN w' b (if (g id).isSome then m else m + 1) (upd g id (some j)) → w.grownBy w' (some b) → wpList Try.prog ops Q rest a w') : wpList Try.prog ops Q (o :: rest) a w := by
  refine wpList_putG (E := EI) hg mo x vo 59 hop Try.underlying3 Try.underlying59 hm h (by unfold maxLen; omega) id hi hx (show EI.α from (j : Int)) (nat64 hj) hv fun w' h1 h2 => by
    rw [hd]
    refine hK w' ?_ h2
    rw [gi_isSome] at h1
    unfold MapN
    rw [gi_upd]
    exact h1
theorem wpList_delN (hg : o.guard = none) (hd : o.dst = none) (mo x : Operand) (hop : o.op = Op.call { callee := Callee.builtin Builtin.delete, args := #[mo, x], argTypes := #[59, 3] })
    (hm : a.eval mo = .map (some b)) (h : MapN w b m g) (id : Int) (hi : I64 id) (hx : a.eval x = .int .i64 id)
    (hK : ∀ w', MapN w' b (if (g id).isSome then m - 1 else m) (upd g id none) → w.grownBy w' (some b) → wpList Try.prog ops Q rest a w') : wpList Try.prog ops Q (o :: rest) a w := by
  refine wpList_delG (E := EI) hg mo x 59 hop Try.underlying3 Try.underlying59 hm h id hi hx fun w' h1 h2 => by
    rw [hd]
    refine hK w' ?_ h2
    rw [gi_isSome] at h1
    unfold MapN
    rw [gi_del]
    exact h1
theorem wpList_lenN (hg : o.guard = none) (mo : Operand) (hop : o.op = Op.call { callee := Callee.builtin Builtin.len, args := #[mo], argTypes := #[59] })
    (hm : a.eval mo = .map (some b)) (h : MapN w b m g) (hK : wpList Try.prog ops Q rest (a.put o.dst (.int .i64 m)) w) : wpList Try.prog ops Q (o :: rest) a w :=
  wpList_lenG (E := EI) hg mo 59 hop Try.underlying59 hm h hK
theorem MapN.look (h : MapN w b m g) {id : Int} (hi : I64 id) : (Instr.lookup 59 (.map (some b)) (.int .i64 id) true).run Try.prog w = .ok (.tuple #[.int .i64 (((g id).getD 0 : Nat) : Int), .bool (g id).isSome]) w := by
  have := MapG.look h Try.underlying3 Try.underlying59 hi
  rwa [gi_isSome, gi_getD] at this
theorem MapN.look1 (h : MapN w b m g) {id : Int} (hi : I64 id) : (Instr.lookup 59 (.map (some b)) (.int .i64 id) false).run Try.prog w = .ok (.int .i64 (((g id).getD 0 : Nat) : Int)) w := by
  have := MapG.look1 h Try.underlying3 Try.underlying59 hi
  rwa [gi_getD] at this
end
end Go.Proofs.Ytkhnkhkpjgemkaa
/- Stage 13's program: rows of things in the order of a heap; bringing up and down; places by id: plain mathematics. -/
namespace Go.Proofs.Ytkhnkhkpjgemkaa

theorem nah_trans {a b c : Th} (h1 : ahead b a = false) (h2 : ahead c b = false) : ahead c a = false := by
  have h1' : ¬ ahead b a = true := by rw [h1]; decide
  have h2' : ¬ ahead c b = true := by rw [h2]; decide
  cases h : ahead c a with
  | false => rfl
  | true => rw [ahead_iff] at *; omega
theorem nah_of {x p c : Th} (h1 : ahead x p = true) (h2 : ahead c p = false) : ahead c x = false := nah_trans (ahead_asym h1) h2

/-- the thing at a place -/
def tg (T : List Th) (i : Nat) : Th := T.getD i ⟨0, 0, 0⟩
theorem tg_get (T : List Th) (i : Nat) (h : i < T.length) : tg T i = T[i] := by simp [tg, h]
theorem tg_set (T : List Th) (i j : Nat) (x : Th) (h : i < T.length) : tg (T.set i x) j = if j = i then x else tg T j := by
  unfold tg
  rw [List.getD_eq_getElem?_getD, List.getD_eq_getElem?_getD, List.getElem?_set]
  by_cases e : j = i
  · subst e; simp [h]
  · rw [if_neg (fun h => e h.symm), if_neg e]
theorem tg_snoc (T : List Th) (x : Th) (j : Nat) : tg (T ++ [x]) j = if j = T.length then x else tg T j := by
  unfold tg
  rw [List.getD_eq_getElem?_getD, List.getD_eq_getElem?_getD]
  by_cases e : j = T.length
  · subst e; simp
  · rw [if_neg e]
    by_cases hj : j < T.length
    · rw [List.getElem?_append_left hj]
    · rw [List.getElem?_append_right (by omega), List.getElem?_eq_none (by simp; omega), List.getElem?_eq_none (by omega)]
theorem tg_pop (T : List Th) (j : Nat) (h : j < T.length - 1) : tg T.dropLast j = tg T j := by
  rw [tg_get _ _ (by rw [List.length_dropLast]; exact h), tg_get _ _ (by omega), List.getElem_dropLast]
def swapT (T : List Th) (i j : Nat) : List Th := (T.set i (tg T j)).set j (tg T i)
theorem swapT_len (T : List Th) (i j : Nat) : (swapT T i j).length = T.length := by simp [swapT]
theorem tg_swap (T : List Th) (i j k : Nat) (hi : i < T.length) (hj : j < T.length) : tg (swapT T i j) k = if k = j then tg T i else if k = i then tg T j else tg T k := by
  unfold swapT
  rw [tg_set _ _ _ _ (by simpa using hj), tg_set _ _ _ _ hi]
theorem swapT_perm (T : List Th) (i j : Nat) (hi : i < T.length) (hj : j < T.length) : (swapT T i j).Perm T := by
  unfold swapT
  rw [tg_get _ _ hi, tg_get _ _ hj]
  exact List.set_set_perm hi hj

/-! ### The order of a heap -/
def par (k : Nat) : Nat := (k - 1) / 2
/-- no thing is ahead of the one above it -/
def hp (T : List Th) : Prop := ∀ k, 0 < k → k < T.length → ahead (tg T k) (tg T (par k)) = false
/-- all is in order but the thing at i and what is about it -/
structure fixI (T : List Th) (i : Nat) : Prop where
  rest : ∀ k, 0 < k → k < T.length → k ≠ i → par k ≠ i → ahead (tg T k) (tg T (par k)) = false
  kids : ∀ k, 0 < k → k < T.length → par k = i → 0 < i → ahead (tg T k) (tg T (par i)) = false
/-- .. but that the thing at i may be ahead of the one above it -/
structure upI (T : List Th) (i : Nat) : Prop where
  rest : ∀ k, 0 < k → k < T.length → k ≠ i → ahead (tg T k) (tg T (par k)) = false
  kids : ∀ k, 0 < k → k < T.length → par k = i → 0 < i → ahead (tg T k) (tg T (par i)) = false
/-- .. but that one below i may be ahead of the one at i -/
structure dnI (T : List Th) (i : Nat) : Prop where
  rest : ∀ k, 0 < k → k < T.length → par k ≠ i → ahead (tg T k) (tg T (par k)) = false
  kids : ∀ k, 0 < k → k < T.length → par k = i → 0 < i → ahead (tg T k) (tg T (par i)) = false
theorem hp.up {T : List Th} (h : hp T) {i : Nat} (hi : i < T.length) : upI T i :=
  ⟨fun k h0 hk _ => h k h0 hk, fun k h0 hk e h1 => nah_trans (h i h1 hi) (e ▸ h k h0 hk)⟩
theorem hp.dn {T : List Th} (h : hp T) {i : Nat} (hi : i < T.length) : dnI T i := ⟨fun k h0 hk _ => h k h0 hk, (h.up hi).kids⟩
theorem upI.done {T : List Th} {i : Nat} (h : upI T i) (hn : i = 0 ∨ ahead (tg T i) (tg T (par i)) = false) : hp T := fun k h0 hk => by
  by_cases e : k = i
  · subst e
    rcases hn with hn | hn
    · omega
    · exact hn
  · exact h.rest k h0 hk e
theorem upI.step {T : List Th} {i : Nat} (h : upI T i) (h0 : 0 < i) (hi : i < T.length) (ha : ahead (tg T i) (tg T (par i)) = true) : upI (swapT T i (par i)) (par i) := by
  have hp1 : par i < i := by unfold par; omega
  have hpl : par i < T.length := by omega
  refine ⟨fun k k0 hk hne => ?_, fun k k0 hk e p0 => ?_⟩
  · rw [swapT_len] at hk
    rw [tg_swap _ _ _ _ hi hpl, tg_swap _ _ _ _ hi hpl, if_neg hne]
    by_cases ki : k = i
    · subst ki
      rw [if_pos rfl, if_pos rfl]
      exact ahead_asym ha
    · rw [if_neg ki]
      by_cases kp : par k = par i
      · rw [if_pos kp]
        have := h.rest k k0 hk ki
        rw [kp] at this
        exact nah_of ha this
      · rw [if_neg kp]
        by_cases kpi : par k = i
        · rw [if_pos kpi]
          exact h.kids k k0 hk kpi h0
        · rw [if_neg kpi]
          exact h.rest k k0 hk ki
  · rw [swapT_len] at hk
    have hq : par (par i) < par i := by unfold par at *; omega
    rw [tg_swap _ _ _ _ hi hpl, tg_swap _ _ _ _ hi hpl, if_neg (show par (par i) ≠ par i by omega), if_neg (show par (par i) ≠ i by omega)]
    have hup := h.rest (par i) p0 hpl (by omega)
    have hkp : k ≠ par i := fun e2 => by rw [e2] at e; omega
    rw [if_neg hkp]
    by_cases ki : k = i
    · rw [if_pos ki]
      exact hup
    · rw [if_neg ki]
      have := h.rest k k0 hk ki
      rw [e] at this
      exact nah_trans hup this
theorem dnI.done {T : List Th} {i : Nat} (h : dnI T i) (hn : ∀ k, 0 < k → k < T.length → par k = i → ahead (tg T k) (tg T i) = false) : hp T := fun k h0 hk => by
  by_cases e : par k = i
  · rw [e]; exact hn k h0 hk e
  · exact h.rest k h0 hk e
theorem dnI.step {T : List Th} {i c : Nat} (h : dnI T i) (c0 : 0 < c) (hc : c < T.length) (hpc : par c = i) (hb : ∀ k, 0 < k → k < T.length → par k = i → ahead (tg T k) (tg T c) = false) (ha : ahead (tg T c) (tg T i) = true) : dnI (swapT T i c) c := by
  have hic : i < c := by rw [← hpc]; unfold par; omega
  have hi : i < T.length := by omega
  refine ⟨fun k k0 hk hne => ?_, fun k k0 hk e _ => ?_⟩
  · rw [swapT_len] at hk
    rw [tg_swap _ _ _ _ hi hc, tg_swap _ _ _ _ hi hc, if_neg hne]
    by_cases kc : k = c
    · subst kc
      rw [if_pos rfl, hpc, if_pos rfl]
      exact ahead_asym ha
    · rw [if_neg kc]
      by_cases ki : k = i
      · rw [if_pos ki, if_neg (show par k ≠ i by rw [ki]; unfold par; omega), ki]
        exact h.kids c c0 hc hpc (by omega)
      · rw [if_neg ki]
        by_cases kp : par k = i
        · rw [if_pos kp]
          exact hb k k0 hk kp
        · rw [if_neg kp]
          exact h.rest k k0 hk kp
  · rw [swapT_len] at hk
    have hkc : c < k := by rw [← e]; unfold par; omega
    rw [tg_swap _ _ _ _ hi hc, tg_swap _ _ _ _ hi hc, if_neg (by omega), if_neg (by omega), hpc, if_neg (by omega), if_pos rfl]
    have := h.rest k k0 hk (by omega)
    rwa [e] at this
theorem fixI.up {T : List Th} {i : Nat} (h : fixI T i) (h0 : 0 < i) (ha : ahead (tg T i) (tg T (par i)) = true) : upI T i :=
  ⟨fun k k0 hk hne => by
    by_cases e : par k = i
    · rw [e]; exact nah_of ha (h.kids k k0 hk e h0)
    · exact h.rest k k0 hk hne e, h.kids⟩
theorem fixI.dn {T : List Th} {i : Nat} (h : fixI T i) (hn : i = 0 ∨ ahead (tg T i) (tg T (par i)) = false) : dnI T i :=
  ⟨fun k k0 hk hne => by
    by_cases e : k = i
    · subst e
      rcases hn with hn | hn
      · omega
      · exact hn
    · exact h.rest k k0 hk e hne, h.kids⟩
theorem fixI.upD {T : List Th} {i : Nat} (h : fixI T i) (hn : ∀ k, 0 < k → k < T.length → par k = i → ahead (tg T k) (tg T i) = false) : upI T i :=
  ⟨fun k k0 hk hne => by
    by_cases e : par k = i
    · rw [e]; exact hn k k0 hk e
    · exact h.rest k k0 hk hne e, h.kids⟩
theorem hp.set {T : List Th} (h : hp T) {i : Nat} (hi : i < T.length) (x : Th) : fixI (T.set i x) i := by
  have hpi : 0 < i → par i ≠ i := fun _ => by unfold par; omega
  refine ⟨fun k k0 hk hne hne2 => ?_, fun k k0 hk e h0 => ?_⟩
  · rw [List.length_set] at hk
    rw [tg_set _ _ _ _ hi, tg_set _ _ _ _ hi, if_neg hne, if_neg hne2]
    exact h k k0 hk
  · rw [List.length_set] at hk
    have hk2 : k ≠ i := fun e2 => by rw [e2] at e; exact hpi h0 e
    rw [tg_set _ _ _ _ hi, tg_set _ _ _ _ hi, if_neg hk2, if_neg (hpi h0)]
    exact nah_trans (h i h0 hi) (e ▸ h k k0 hk)
theorem hp.snoc {T : List Th} (h : hp T) (x : Th) : upI (T ++ [x]) T.length := by
  refine ⟨fun k k0 hk hne => ?_, fun k k0 hk e h0 => ?_⟩
  · rw [List.length_append, List.length_singleton] at hk
    have : par k ≠ T.length := by unfold par; omega
    rw [tg_snoc, tg_snoc, if_neg hne, if_neg this]
    exact h k k0 (by omega)
  · rw [List.length_append, List.length_singleton] at hk
    unfold par at e
    omega
theorem hp.pop {T : List Th} (h : hp T) : hp T.dropLast := fun k k0 hk => by
  rw [List.length_dropLast] at hk
  rw [tg_pop _ _ hk, tg_pop _ _ (by unfold par; omega)]
  exact h k k0 (by omega)
theorem fixI.pop {T : List Th} {i : Nat} (h : fixI T i) : fixI T.dropLast i := by
  refine ⟨fun k k0 hk hne hne2 => ?_, fun k k0 hk e h0 => ?_⟩
  · rw [List.length_dropLast] at hk
    rw [tg_pop _ _ hk, tg_pop _ _ (by unfold par; omega)]
    exact h.rest k k0 (by omega) hne hne2
  · rw [List.length_dropLast] at hk
    have hik : par i < T.length - 1 := by rw [← e]; unfold par; omega
    rw [tg_pop _ _ hk, tg_pop _ _ hik]
    exact h.kids k k0 (by omega) e h0
/-- the first one is ahead of all, or is it -/
theorem hp.first {T : List Th} (h : hp T) : ∀ n, ∀ k, k ≤ n → k < T.length → ahead (tg T k) (tg T 0) = false
  | 0, k, hk, _ => by
    have : k = 0 := by omega
    subst this
    exact ahead_irr _
  | n + 1, k, hk, hl => by
    by_cases k0 : k = 0
    · subst k0; exact ahead_irr _
    · have h1 := h.first n (par k) (by unfold par; omega) (by unfold par; omega)
      exact nah_trans h1 (h k (by omega) hl)

/-! ### The same things in order -/
theorem cons_erase : ∀ (T : List Th) (i : Nat) (h : i < T.length), (T[i] :: T.eraseIdx i).Perm T
  | x :: t, 0, _ => List.Perm.refl _
  | x :: t, i + 1, h => by
    have hi : i < t.length := by simpa using h
    have := cons_erase t i hi
    simp only [List.getElem_cons_succ, List.eraseIdx_cons_succ]
    exact (List.Perm.swap x (t[i]'hi) _).trans (this.cons x)
theorem set_erase (x : Th) : ∀ (T : List Th) (i : Nat), i < T.length → (T.set i x).Perm (x :: T.eraseIdx i)
  | y :: t, 0, _ => List.Perm.refl _
  | y :: t, i + 1, h => by
    have := set_erase x t i (by simpa using h)
    simp only [List.set_cons_succ, List.eraseIdx_cons_succ]
    exact (this.cons y).trans (List.Perm.swap x y _)
def Dst (T : List Th) : Prop := (T.map Th.id).Nodup
theorem Dst.perm {T S : List Th} (h : Dst T) (hp : T.Perm S) : Dst S := (hp.map Th.id).nodup_iff.1 h
theorem Dst.inj {T : List Th} (h : Dst T) {i j : Nat} (hi : i < T.length) (hj : j < T.length) (e : (tg T i).id = (tg T j).id) : i = j := by
  rw [tg_get _ _ hi, tg_get _ _ hj] at e
  have h1 := List.pairwise_iff_getElem.1 h
  rcases Nat.lt_trichotomy i j with h2 | h2 | h2
  · exact absurd (by rw [List.getElem_map, List.getElem_map]; exact e) (h1 i j (by simpa using hi) (by simpa using hj) h2)
  · exact h2
  · exact absurd (by rw [List.getElem_map, List.getElem_map]; exact e.symm) (h1 j i (by simpa using hj) (by simpa using hi) h2)
/-- what is left without the thing at i -/
theorem drop_perm {T : List Th} (h : Dst T) {i : Nat} (hi : i < T.length) : (dropT T (tg T i).id).Perm (T.eraseIdx i) := by
  have hp : (T[i] :: T.eraseIdx i).Perm T := cons_erase T i hi
  have hd := h.perm hp.symm
  rw [tg_get _ _ hi]
  have h1 : (dropT T T[i].id).Perm (dropT (T[i] :: T.eraseIdx i) T[i].id) := hp.symm.filter _
  refine h1.trans ?_
  unfold dropT
  rw [List.filter_cons_of_neg (by simp)]
  have h2 : ∀ y ∈ T.eraseIdx i, y.id ≠ T[i].id := fun y hy e => by
    unfold Dst at hd
    rw [List.map_cons, List.nodup_cons] at hd
    exact hd.1 (e ▸ List.mem_map_of_mem hy)
  rw [List.filter_eq_self.2 fun y hy => by simpa using h2 y hy]
theorem dropT_perm {T S : List Th} (h : T.Perm S) (id : Int) : (dropT T id).Perm (dropT S id) := h.filter _
theorem insT_perm (x : Th) : ∀ l, (insT x l).Perm (x :: l)
  | [] => List.Perm.refl _
  | r :: t => by
    unfold insT
    split
    · exact List.Perm.refl _
    · exact ((insT_perm x t).cons r).trans (List.Perm.swap x r t)
theorem dropT_no {T : List Th} {id : Int} (h : ∀ y ∈ T, y.id ≠ id) : dropT T id = T := List.filter_eq_self.2 fun y hy => by simpa using h y hy
/-- a thing laid in for the one of its id -/
theorem put_in {T S : List Th} (hd : Dst T) (hp : T.Perm S) {i : Nat} (hi : i < T.length) {x : Th} (hx : (tg T i).id = x.id) : (T.set i x).Perm (putT S x) := by
  have h1 : (T.set i x).Perm (x :: T.eraseIdx i) := set_erase x T i hi
  have h2 := (drop_perm hd hi).symm
  rw [hx] at h2
  exact h1.trans ((h2.cons x).trans (((dropT_perm hp x.id).cons x).trans (insT_perm x _).symm))
theorem put_new {T S : List Th} (hp : T.Perm S) {x : Th} (hx : ∀ y ∈ T, y.id ≠ x.id) : (T ++ [x]).Perm (putT S x) := by
  have h1 : (T ++ [x]).Perm (x :: T) := List.perm_append_singleton x T
  have h2 : dropT S x.id = S := dropT_no fun y hy => hx y (hp.mem_iff.2 hy)
  unfold putT
  rw [h2]
  exact h1.trans ((hp.cons x).trans (insT_perm x S).symm)
theorem hasT_iff {S : List Th} {id : Int} : hasT S id = true ↔ ∃ y ∈ S, y.id = id := by
  unfold hasT
  rw [decide_eq_true_iff]
  constructor
  · intro h
    refine Classical.byContradiction fun hn => ?_
    rw [dropT_no fun y hy e => hn ⟨y, hy, e⟩] at h
    omega
  · rintro ⟨y, hy, e⟩
    unfold dropT
    exact List.length_filter_lt_length_iff_exists.2 ⟨y, hy, by simp [e]⟩
/-- the last thing in the place of the one at i -/
theorem drop_last {T S : List Th} (hd : Dst T) (hp : T.Perm S) {i : Nat} (hi : i < T.length) : ((T.set i (tg T (T.length - 1))).dropLast).Perm (dropT S (tg T i).id) := by
  refine List.Perm.trans ?_ ((drop_perm hd hi).symm.trans (dropT_perm hp _))
  have hne : T ≠ [] := fun e => by rw [e] at hi; simp at hi
  by_cases hl : i = T.length - 1
  · subst hl
    rw [List.dropLast_eq_take, List.length_set, List.take_set_of_le (Nat.le_refl _), List.eraseIdx_eq_take_drop_succ, List.drop_of_length_le (by omega), List.append_nil]
  · have h1 : ((T.set i (tg T (T.length - 1))).dropLast) = T.dropLast.set i (tg T (T.length - 1)) := by
      rw [List.dropLast_eq_take, List.dropLast_eq_take, List.length_set, List.take_set]
    have hi2 : i < T.dropLast.length := by rw [List.length_dropLast]; omega
    rw [h1]
    refine (set_erase _ _ _ hi2).trans ?_
    have h2 : T = T.dropLast ++ [tg T (T.length - 1)] := by
      rw [tg_get _ _ (by omega), ← List.getLast_eq_getElem hne]
      exact (List.dropLast_concat_getLast hne).symm
    have h3 : T.eraseIdx i = T.dropLast.eraseIdx i ++ [tg T (T.length - 1)] := by
      conv => lhs; rw [h2]
      rw [List.eraseIdx_append_of_lt_length hi2]
    rw [h3]
    exact (List.perm_append_singleton _ _).symm
/-- rows in order of the same things are the same -/
theorem srtT_eq {T S : List Th} (h1 : srtT T) (h2 : srtT S) (hp : T.Perm S) : T = S :=
  hp.eq_of_pairwise (fun a b _ _ hab hba => by rw [ahead_asym hab] at hba; cases hba) h1 h2
theorem first_is {T S : List Th} (h : hp T) (hs : srtT S) (hp : T.Perm S) (h0 : 0 < T.length) : ∃ t, S = tg T 0 :: t := by
  cases S with
  | nil => have := hp.length_eq; simp at this; rw [this] at h0; simp at h0
  | cons y t =>
    refine ⟨t, ?_⟩
    have hm : tg T 0 ∈ y :: t := hp.mem_iff.1 (by rw [tg_get _ _ h0]; exact List.getElem_mem h0)
    rcases List.mem_cons.1 hm with e | hm
    · rw [e]
    · have h2 := (List.pairwise_cons.1 hs).1 _ hm
      obtain ⟨j, hj, e⟩ := List.getElem_of_mem (hp.mem_iff.2 (List.mem_cons_self (a := y) (l := t)))
      have h3 := h.first j j (Nat.le_refl _) hj
      rw [tg_get _ _ hj, e, h2] at h3
      cases h3

/-! ### Places -/
/-- where the thing of an id stands -/
def Pos (T : List Th) (g : Int → Option Nat) : Prop := ∀ id j, g id = some j ↔ j < T.length ∧ (tg T j).id = id
theorem Pos.dst {T : List Th} {g : Int → Option Nat} (h : Pos T g) : Dst T := by
  unfold Dst
  rw [List.Nodup, List.pairwise_iff_getElem]
  intro i j hi hj hij e
  rw [List.length_map] at hi hj
  have h1 := (h (tg T i).id i).2 ⟨hi, rfl⟩
  have h2 := (h (tg T i).id j).2 ⟨hj, by rw [tg_get _ _ hi, tg_get _ _ hj]; simpa using e.symm⟩
  rw [h1] at h2
  cases h2
  omega
theorem Pos.nil : Pos [] (fun _ => none) := by
  intro id j
  exact ⟨fun h => (by cases h), fun h => (by simp at h)⟩
theorem Pos.no {T : List Th} {g : Int → Option Nat} (h : Pos T g) {id : Int} (hg : g id = none) : ∀ y ∈ T, y.id ≠ id := fun y hy e => by
  obtain ⟨j, hj, ey⟩ := List.getElem_of_mem hy
  have := (h id j).2 ⟨hj, by rw [tg_get _ _ hj, ey, e]⟩
  rw [hg] at this
  cases this
theorem Pos.snoc {T : List Th} {g : Int → Option Nat} (h : Pos T g) {x : Th} (hg : g x.id = none) : Pos (T ++ [x]) (upd g x.id (some T.length)) := fun id j => by
  unfold upd
  rw [tg_snoc, List.length_append, List.length_singleton]
  by_cases e : id = x.id
  · rw [if_pos e, e]
    constructor
    · intro hj
      cases hj
      exact ⟨by omega, by rw [if_pos rfl]⟩
    · rintro ⟨hj, e2⟩
      by_cases hjl : j = T.length
      · rw [hjl]
      · rw [if_neg hjl] at e2
        have := (h x.id j).2 ⟨by omega, e2⟩
        rw [hg] at this
        cases this
  · rw [if_neg e, h id j]
    constructor
    · rintro ⟨hj, e2⟩
      exact ⟨by omega, by rw [if_neg (by omega)]; exact e2⟩
    · rintro ⟨hj, e2⟩
      by_cases hjl : j = T.length
      · rw [if_pos hjl] at e2
        exact absurd e2.symm e
      · rw [if_neg hjl] at e2
        exact ⟨by omega, e2⟩
theorem Pos.set {T : List Th} {g : Int → Option Nat} (h : Pos T g) {i : Nat} (hi : i < T.length) {x : Th} (hx : (tg T i).id = x.id) : Pos (T.set i x) g := fun id j => by
  rw [tg_set _ _ _ _ hi, List.length_set, h id j]
  by_cases e : j = i
  · subst e
    rw [if_pos rfl, hx]
  · rw [if_neg e]
theorem Pos.swap {T : List Th} {g : Int → Option Nat} (h : Pos T g) {i j : Nat} (hi : i < T.length) (hj : j < T.length) : Pos (swapT T i j) (upd (upd g (tg T j).id (some i)) (tg T i).id (some j)) := fun id k => by
  have hd := h.dst
  unfold upd
  rw [tg_swap _ _ _ _ hi hj, swapT_len]
  by_cases e1 : id = (tg T i).id
  · rw [if_pos e1]
    constructor
    · intro e
      cases e
      exact ⟨hj, by rw [if_pos rfl, e1]⟩
    · rintro ⟨hk, e⟩
      by_cases kj : k = j
      · rw [kj]
      · rw [if_neg kj] at e
        by_cases ki : k = i
        · rw [if_pos ki, e1] at e
          exact absurd (hd.inj hj hi e) (by omega)
        · rw [if_neg ki, e1] at e
          exact absurd (hd.inj hk hi e) ki
  · rw [if_neg e1]
    by_cases e2 : id = (tg T j).id
    · rw [if_pos e2]
      constructor
      · intro e
        cases e
        by_cases ij : i = j
        · rw [ij] at e1
          exact absurd e2 e1
        · exact ⟨hi, by rw [if_neg ij, if_pos rfl, e2]⟩
      · rintro ⟨hk, e⟩
        by_cases kj : k = j
        · rw [if_pos kj] at e
          exact absurd e.symm e1
        · rw [if_neg kj] at e
          by_cases ki : k = i
          · rw [ki]
          · rw [if_neg ki, e2] at e
            exact absurd (hd.inj hk hj e) kj
    · rw [if_neg e2, h id k]
      constructor
      · rintro ⟨hk, e⟩
        refine ⟨hk, ?_⟩
        rw [if_neg (fun kj => e2 (by rw [← e, kj])), if_neg (fun ki => e1 (by rw [← e, ki]))]
        exact e
      · rintro ⟨hk, e⟩
        refine ⟨hk, ?_⟩
        by_cases kj : k = j
        · rw [if_pos kj] at e; exact absurd e.symm e1
        · rw [if_neg kj] at e
          by_cases ki : k = i
          · rw [if_pos ki] at e; exact absurd e.symm e2
          · rwa [if_neg ki] at e
/-- the last thing goes -/
theorem Pos.pop {T : List Th} {g : Int → Option Nat} (h : Pos T g) (h0 : 0 < T.length) : Pos T.dropLast (upd g (tg T (T.length - 1)).id none) := fun id j => by
  have hd := h.dst
  unfold upd
  rw [List.length_dropLast]
  by_cases e : id = (tg T (T.length - 1)).id
  · rw [if_pos e]
    constructor
    · intro e; cases e
    · rintro ⟨hj, e2⟩
      rw [tg_pop _ _ hj, e] at e2
      have := hd.inj (show j < T.length by omega) (show T.length - 1 < T.length by omega) e2
      omega
  · rw [if_neg e, h id j]
    constructor
    · rintro ⟨hj, e2⟩
      have : j ≠ T.length - 1 := fun e3 => e (by rw [← e2, e3])
      exact ⟨by omega, by rw [tg_pop _ _ (by omega)]; exact e2⟩
    · rintro ⟨hj, e2⟩
      rw [tg_pop _ _ hj] at e2
      exact ⟨by omega, e2⟩
/-- the last thing comes to i, for the thing that goes -/
theorem Pos.over {T : List Th} {g : Int → Option Nat} (h : Pos T g) {i : Nat} (hi : i < T.length - 1) :
    Pos (T.set i (tg T (T.length - 1))).dropLast (upd (upd g (tg T (T.length - 1)).id (some i)) (tg T i).id none) := by
  have hT : i < T.length := by omega
  have h1 := (h.swap hT (show T.length - 1 < T.length by omega)).pop (by rw [swapT_len]; omega)
  have e1 : (swapT T i (T.length - 1)).dropLast = (T.set i (tg T (T.length - 1))).dropLast := by
    unfold swapT
    rw [List.dropLast_eq_take, List.dropLast_eq_take, List.length_set, List.length_set, List.take_set_of_le (Nat.le_refl _)]
  rw [e1, swapT_len, tg_swap _ _ _ _ hT (by omega), if_pos rfl] at h1
  have e2 : upd (upd (upd g (tg T (T.length - 1)).id (some i)) (tg T i).id (some (T.length - 1))) (tg T i).id none = upd (upd g (tg T (T.length - 1)).id (some i)) (tg T i).id none := by
    funext k
    unfold upd
    by_cases hk : k = (tg T i).id
    · rw [if_pos hk, if_pos hk]
    · rw [if_neg hk, if_neg hk, if_neg hk]
  rwa [e2] at h1
end Go.Proofs.Ytkhnkhkpjgemkaa
/- Lists of one's own (XOwnO): a thing laid in place, the first ones alone, what stands at a place. FOR ALL STAGES WITH STATE. -/
namespace Go.Proofs.Ytkhnkhkpjgemkaa
open Go.RowKit

section
variable {α : Type} {w w' : World} {K : Nat} {cs : α → List Value} {v : Value} {l : List α}
theorem OwnO.spot (hK : ∀ x, (cs x).length = K) (h : OwnO w K cs v l) (i : Nat) (hi : i < l.length) : ∃ g o cap, v = .slice (some ⟨g, o, none⟩) l.length cap ∧ g < w.heap.size ∧ l.length ≤ cap ∧
    ∀ j u, (cs l[i])[j]? = some u → w.cell? ⟨g, o + i * K + j, none⟩ = some u ∧ w.frozen? ⟨g, o + i * K + j, none⟩ = false := by
  have hr := h.rows hK
  rcases h with ⟨_, rfl⟩ | ⟨g, o, cap, rfl, hg, hl, hc, h1, h2⟩
  · simp at hi
  · obtain ⟨a, c, e, _, hx⟩ := hr
    cases e
    obtain ⟨g', o', e, _, hx⟩ := hx (by omega)
    cases e
    refine ⟨g, o, cap, rfl, hg, hl, fun j u hu => ⟨hx i l[i] (List.getElem?_eq_getElem hi) j u hu, ?_⟩⟩
    have hj : j < K := by rw [← hK l[i]]; exact (List.getElem?_eq_some_iff.1 hu).1
    have := (h2 (i * K + j) (by
      have h3 : (i + 1) * K ≤ cap * K := Nat.mul_le_mul_right K (by omega)
      rw [Nat.add_mul] at h3
      omega)).2
    rwa [← Nat.add_assoc] at this
theorem OwnO.put (hK : ∀ x, (cs x).length = K) {g o n cap : Nat} (h : OwnO w K cs (.slice (some ⟨g, o, none⟩) n cap) l) (i : Nat) (hi : i < l.length) (x : α) (hz : w.heap.size ≤ w'.heap.size)
    (hin : ∀ j, j < K → w'.cell? ⟨g, o + i * K + j, none⟩ = (cs x)[j]?)
    (hout : ∀ m, m < cap * K → ¬ (i * K ≤ m ∧ m < i * K + K) → w'.cell? ⟨g, o + m, none⟩ = w.cell? ⟨g, o + m, none⟩)
    (hfz : ∀ a, w'.frozen? a = w.frozen? a) : OwnO w' K cs (.slice (some ⟨g, o, none⟩) n cap) (l.set i x) := by
  rcases h with ⟨e, _⟩ | ⟨g', o', cap', e, hg, hl, hc, h1, h2⟩
  · cases e
  · cases e
    refine .inr ⟨g, o, cap, by rw [List.length_set], by omega, by rw [List.length_set]; exact hl, hc, fun m hm => ?_, fun m hm => ⟨?_, by rw [hfz]; exact (h2 m hm).2⟩⟩
    · rw [List.length_set] at hm
      have hK0 : 0 < K := Nat.pos_of_ne_zero fun e => by subst e; simp at hm
      have hq : m / K < l.length := (Nat.div_lt_iff_lt_mul hK0).2 hm
      have hr : m % K < K := Nat.mod_lt _ hK0
      have e : m / K * K + m % K = m := by rw [Nat.mul_comm]; exact Nat.div_add_mod m K
      have hmc : m < cap * K := Nat.lt_of_lt_of_le hm (Nat.mul_le_mul_right K hl)
      by_cases hqi : m / K = i
      · have hu : (cs x)[m % K]? = some ((cs x)[m % K]'(by rw [hK]; exact hr)) := List.getElem?_eq_getElem _
        have h3 := flats_at hK (l.set i x) (m / K) x (by rw [List.getElem?_set, if_pos hqi.symm, if_pos hi]) (m % K) _ hu
        rw [e] at h3
        rw [h3, ← hu, ← hin _ hr, ← hqi, Nat.add_assoc, e]
      · have hu : (cs l[m / K])[m % K]? = some ((cs l[m / K])[m % K]'(by rw [hK]; exact hr)) := List.getElem?_eq_getElem _
        have h3 := flats_at hK (l.set i x) (m / K) l[m / K] (by rw [List.getElem?_set, if_neg (fun h => hqi h.symm)]; exact List.getElem?_eq_getElem hq) (m % K) _ hu
        have h4 := flats_at hK l (m / K) l[m / K] (List.getElem?_eq_getElem hq) (m % K) _ hu
        rw [e] at h3 h4
        rw [h3, ← h4, ← h1 m hm]
        refine hout m hmc fun hh => hqi ?_
        have h5 : m / K < i + 1 := (Nat.div_lt_iff_lt_mul hK0).2 (by rw [Nat.add_mul]; omega)
        have h6 : i ≤ m / K := (Nat.le_div_iff_mul_le hK0).2 hh.1
        omega
    · by_cases hh : i * K ≤ m ∧ m < i * K + K
      · have := hin (m - i * K) (by omega)
        rw [Nat.add_assoc, show i * K + (m - i * K) = m by omega] at this
        rw [this, List.getElem?_eq_getElem (by rw [hK]; omega)]
        rfl
      · rw [hout m hm hh]
        exact (h2 m hm).1
/-- the first k of them -/
theorem OwnO.take {a : Option Addr} {n cap : Nat} (hK : ∀ x, (cs x).length = K) (h : OwnO w K cs (.slice a n cap) l) (k : Nat) (hk : k ≤ l.length) : OwnO w K cs (.slice a k cap) (l.take k) := by
  rcases h with ⟨e, rfl⟩ | ⟨g, o, cap', e, hg, hl, hc, h1, h2⟩
  · cases e
    have : k = 0 := by simpa using hk
    subst this
    exact .inl ⟨rfl, rfl⟩
  · cases e
    have hlen : (l.take k).length = k := by rw [List.length_take]; omega
    refine .inr ⟨g, o, cap, by rw [hlen], hg, by omega, hc, fun m hm => ?_, h2⟩
    rw [hlen] at hm
    have hm2 : m < l.length * K := Nat.lt_of_lt_of_le hm (Nat.mul_le_mul_right K hk)
    rw [h1 m hm2]
    have e : flats cs l = flats cs (l.take k) ++ flats cs (l.drop k) := by rw [← flats_append, List.take_append_drop]
    rw [e, List.getElem?_append_left (by rw [flats_length hK, hlen]; exact hm)]
/-- a struct of three cells is stored -/
theorem OwnO.put3 {g o n cap : Nat} (hK : ∀ x, (cs x).length = 3) (h : OwnO w 3 cs (.slice (some ⟨g, o, none⟩) n cap) l) (i : Nat) (hi : i < l.length) (x : α) (u0 u1 u2 : Value) (hx : cs x = [u0, u1, u2]) :
    OwnO (((w.setCell ⟨g, o + i * 3, none⟩ u0).setCell ⟨g, o + i * 3 + 1, none⟩ u1).setCell ⟨g, o + i * 3 + 2, none⟩ u2) 3 cs (.slice (some ⟨g, o, none⟩) n cap) (l.set i x) := by
  have hl : l.length ≤ cap := by
    rcases h with ⟨e, _⟩ | ⟨g', o', cap', e, hg, hl, _⟩
    · cases e
    · cases e; exact hl
  have hs : ∀ j, j < 3 → (w.cell? ⟨g, o + i * 3 + j, none⟩).isSome = true := by
    intro j hj
    rcases h with ⟨e, _⟩ | ⟨g', o', cap', e, hg, hl, hc, h1, h2⟩
    · cases e
    · cases e
      have := (h2 (i * 3 + j) (by omega)).1
      rwa [← Nat.add_assoc] at this
  refine OwnO.put hK h i hi x (by simp [World.setCell]) (fun j hj => ?_) (fun m hm hh => ?_) (fun a => by rw [World.frozen?_setCell, World.frozen?_setCell, World.frozen?_setCell])
  · rw [hx]
    have hs0 := hs 0 (by omega)
    have hs1 := hs 1 (by omega)
    have hs2 := hs 2 (by omega)
    rw [Nat.add_zero] at hs0
    match j, hj with
    | 0, _ =>
      rw [Nat.add_zero, World.cell?_setCell_other _ _ _ _ (by intro e; simp at e), World.cell?_setCell_other _ _ _ _ (by intro e; simp at e)]
      obtain ⟨y, hy⟩ := Option.isSome_iff_exists.1 hs0
      exact World.cell?_setCell_same _ _ _ (by rw [hy])
    | 1, _ =>
      rw [World.cell?_setCell_other _ _ _ _ (by intro e; simp at e)]
      obtain ⟨y, hy⟩ := Option.isSome_iff_exists.1 hs1
      exact World.cell?_setCell_same _ _ _ (by rw [World.cell?_setCell_other _ _ _ _ (by intro e; simp at e), hy])
    | 2, _ =>
      obtain ⟨y, hy⟩ := Option.isSome_iff_exists.1 hs2
      exact World.cell?_setCell_same _ _ _ (by rw [World.cell?_setCell_other _ _ _ _ (by intro e; simp at e), World.cell?_setCell_other _ _ _ _ (by intro e; simp at e), hy])
  · rw [World.cell?_setCell_other _ _ _ _ (by intro e; injection e; omega), World.cell?_setCell_other _ _ _ _ (by intro e; injection e; omega), World.cell?_setCell_other _ _ _ _ (by intro e; injection e; omega)]
end
end Go.Proofs.Ytkhnkhkpjgemkaa
/- A scope with one label to which the run jumps back: what holds at the label bears a number that every pass lowers. -/
namespace Go.Proofs.Ytkhnkhkpjgemkaa
open Go.RowKit

theorem wp_of_skip {P : Program} {B rest : Code} (h : rest = .seq .skip B) (Q : Exit → Act → World → Prop) (a : Act) (w : World) (hB : B.wp P Q a w) : rest.wp P Q a w := by
  subst h
  exact wp_seq (wp_skip hB)

/-- The label's rest is walked once ('pass'); the way to the label once ('first'). -/
theorem wp_scope_goto {P : Program} {a : Act} {w : World} {Q : Exit → Act → World → Prop} {c rest B : Code} (l : Nat) (I : Nat → Act → World → Prop) (hf : findLabel c l = some rest) (hB : rest = .seq .skip B)
    (pass : ∀ n a w, I n a w → ∀ K : Act → World → Prop, (∀ n' a' w', n' < n → I n' a' w' → K a' w') → B.wp P (Exit.jump l K Q) a w)
    (first : ∀ K : Act → World → Prop, (∀ n a w, I n a w → B.wp P (Exit.jump l K Q) a w) → c.wp P (Exit.jump l K Q) a w) : (Code.scope c).wp P Q a w := by
  refine wp_scope_jumps l (fun a w => ∃ n, I n a w) (fun a w => leastOf (fun n => I n a w)) hf ?_ ?_
  · exact first _ fun n a w h => pass n a w h _ fun n' a' w' _ h' => ⟨n', h'⟩
  · intro a w hI
    have hs := leastOf_spec hI
    refine wp_of_skip hB _ _ _ (pass _ a w hs.1 _ ?_)
    intro n' a' w' hlt h'
    exact ⟨⟨n', h'⟩, Nat.lt_of_le_of_lt ((leastOf_spec ⟨n', h'⟩).2 n' h') hlt⟩

end Go.Proofs.Ytkhnkhkpjgemkaa
/- Stage 13's program: its state; what is laid at a place. -/
namespace Go.Proofs.Ytkhnkhkpjgemkaa
open Go.RowKit

abbrev ptr13 (p : Nat) : Value := .pointer (some ⟨p, 0, none⟩)
/-- the heap's block, its row of things, its map of m places; all its blocks are of F -/
structure RawAt (F : Nat → Prop) (w : World) (p : Nat) (v : Value) (b : Nat) (T : List Th) (m : Nat) (g : Int → Option Nat) : Prop where
  blk : Blk w p [v, .map (some b)]
  own : OwnO w 3 csT v T
  map : MapN w b m g
  fp : F p
  fb : F b
  fv : ∀ k, v.ownBlock = some k → F k ∧ k ≠ p ∧ k ≠ b
  lt : ∀ k, F k → k < w.heap.size
theorem Only.drew {F : Nat → Prop} {w w' : World} (h : Only F w w') : Only F w w'.drew := ⟨h.os, h.tape, h.output, h.size, h.block⟩
theorem Blk.drew {w : World} {b : Nat} {vs : List Value} (h : Blk w b vs) : Blk w.drew b vs := h
theorem OwnO.drew {α : Type} {w : World} {K : Nat} {cs : α → List Value} {v : Value} {l : List α} (h : OwnO w K cs v l) : OwnO w.drew K cs v l := h.same (Nat.le_refl _) fun _ _ => rfl
section
variable {F : Nat → Prop} {w w' : World} {p : Nat} {v : Value} {b m : Nat} {T : List Th} {g : Int → Option Nat}
theorem RawAt.ne (h : RawAt F w p v b T m g) : b ≠ p := MapN.ne_cell h.map (h.blk.cell 0 rfl)
theorem RawAt.kept (h : RawAt F w p v b T m g) (hb : Below w.heap.size w w') : RawAt F w' p v b T m g :=
  ⟨h.blk.kept hb, h.own.kept hb, h.map.kept hb, h.fp, h.fb, h.fv, fun k hk => Nat.lt_of_lt_of_le (h.lt k hk) hb.size⟩
/-- a longer row, in new memory or where the old one was -/
theorem RawAt.grow {w1 w2 : World} {v' : Value} {T' : List Th} (h : RawAt F w p v b T m g) (hb : Below w.heap.size w w1) (ho : OwnO w2 3 csT v' T') (hg : w1.grownBy w2 v.ownBlock) (hv : v'.ownBlock = v.ownBlock ∨ v'.ownBlock = some w1.heap.size) :
    RawAt (fun k => F k ∨ v'.ownBlock = some k) (w2.setCell ⟨p, 0, none⟩ v') p v' b T' m g ∧ Mv F (fun k => F k ∨ v'.ownBlock = some k) w (w2.setCell ⟨p, 0, none⟩ v') := by
  have hsz := hb.size
  have hp := h.lt p h.fp
  have hbl := h.lt b h.fb
  have hpn : some p ≠ v.ownBlock := fun e => (h.fv p e.symm).2.1 rfl
  have hbn : some b ≠ v.ownBlock := fun e => (h.fv b e.symm).2.2 rfl
  have hk : ∀ k, v'.ownBlock = some k → k ≠ p ∧ k ≠ b ∧ (F k ∨ w.heap.size ≤ k) := fun k hk => by
    rcases hv with e | e
    · have := h.fv k (e ▸ hk)
      exact ⟨this.2.1, this.2.2, .inl this.1⟩
    · rw [e] at hk
      cases hk
      exact ⟨by omega, by omega, .inr hsz⟩
  refine ⟨⟨?_, ?_, ?_, .inl h.fp, .inl h.fb, fun k e => ⟨.inr e, (hk k e).1, (hk k e).2.1⟩, fun k e => ?_⟩, ⟨?_, fun k e => ?_⟩⟩
  · have := ((h.blk.kept hb).grown hg hpn).set 0 v'
    simpa using this
  · exact ho.away _ _ fun k e => (hk k e).1
  · exact ((h.map.kept hb).grown hg hbn).away _ _ fun e => h.ne e
  · have e1 : (w2.setCell ⟨p, 0, none⟩ v').heap.size = w2.heap.size := by simp [World.setCell]
    rw [e1]
    rcases e with e | e
    · exact Nat.lt_of_lt_of_le (h.lt k e) (Nat.le_trans hsz hg.size)
    · exact ho.lt k e
  · exact ((Only.of_below hb).trans (Only.grown hg fun k e => (h.fv k e).1)).set _ _ h.fp
  · rcases e with e | e
    · exact .inl e
    · exact (hk k e).2.2
end
theorem Pos.some {T : List Th} {g : Int → Option Nat} (h : Pos T g) {i : Nat} (hi : i < T.length) : g (tg T i).id = some i := (h _ _).2 ⟨hi, rfl⟩
/-- what stands at a place -/
theorem OwnO.th {w : World} {v : Value} {T : List Th} (h : OwnO w 3 csT v T) (i : Nat) (hi : i < T.length) : ∃ g o cap, v = .slice (some ⟨g, o, none⟩) T.length cap ∧ T.length ≤ cap ∧
    (w.cell? ⟨g, o + i * 3, none⟩ = some (.int .i64 (tg T i).id) ∧ w.cell? ⟨g, o + i * 3 + 1, none⟩ = some (.int .i64 (tg T i).key) ∧ w.cell? ⟨g, o + i * 3 + 2, none⟩ = some (.int .i64 (tg T i).seq)) ∧
    w.frozen? ⟨g, o + i * 3, none⟩ = false ∧ w.frozen? ⟨g, o + i * 3 + 1, none⟩ = false ∧ w.frozen? ⟨g, o + i * 3 + 2, none⟩ = false := by
  obtain ⟨g, o, cap, e, _, hl, hc⟩ := h.spot csT_len i hi
  rw [tg_get _ _ hi]
  have h0 := hc 0 _ rfl
  have h1 := hc 1 _ rfl
  have h2 := hc 2 _ rfl
  exact ⟨g, o, cap, e, hl, ⟨h0.1, h1.1, h2.1⟩, h0.2, h1.2, h2.2⟩

set_option maxHeartbeats 4000000 in
set_option maxRecDepth 100000 in
/-- set: y is laid at i -/
theorem hSet_any {F : Nat → Prop} {p : Nat} {v : Value} {b m : Nat} {T : List Th} {g : Int → Option Nat} (i : Nat) (y : Th) (w : World) (h : RawAt F w p v b T m g) (hi : i < T.length) (hn : T.length ≤ 1000000) (hm : m ≤ 1000000) (hy : I64 y.id) :
    Calls Try.prog 46 #[ptr13 p, .int .i64 (i : Int), .agg #[.int .i64 y.id, .int .i64 y.key, .int .i64 y.seq]] w fun e w' => e = .returned (.tuple #[]) ∧ RawAt F w' p v b (T.set i y) (if (g y.id).isSome then m else m + 1) (upd g y.id (some i)) ∧ Only F w w' := by
  obtain ⟨y1, y2, y3⟩ := y
  simp only at hy ⊢
  obtain ⟨m', hm'⟩ : ∃ m', (if (g y1).isSome then m else m + 1) = m' := ⟨_, rfl⟩
  rw [hm']
  have HME := Lib.hid hm'
  clear hm'
  have hal := (Below.refl w.heap.size w).alloc (Nat.le_refl _) (.cells #[.int .i64 y1, .int .i64 y2, .int .i64 y3] 66)
  have hbx := Blk.new w [.int .i64 y1, .int .i64 y2, .int .i64 y3] 66
  have ha := h.kept hal
  have hwa := Only.of_below (F := F) hal
  have hpx : w.heap.size ≠ p := fun e => by have := h.lt p h.fp; omega
  generalize hWA : w.alloc (.cells #[.int .i64 y1, .int .i64 y2, .int .i64 y3] 66) = wa at *
  obtain ⟨gb, o, cap, rfl, hl, ⟨i0, i1, i2⟩, z0, z1, z2⟩ := ha.own.th i hi
  have hgx : w.heap.size ≠ gb := fun e => by have := h.lt gb (h.fv gb rfl).1; omega
  have ho1 := OwnO.put3 csT_len ha.own i hi ⟨y1, y2, y3⟩ (.int .i64 y1) (.int .i64 y2) (.int .i64 y3) rfl
  have p0 := ha.blk.cell 0 rfl
  have x0 := hbx.cell 0 rfl
  have x1 := hbx.cell 1 rfl
  have x2 := hbx.cell 2 rfl
  have I0 : (0 : Int) ≤ (i : Int) := by omega
  have I1 : (i : Int) < (T.length : Int) := by omega
  have hgp : p ≠ gb := fun e => (h.fv gb rfl).2.1 e.symm
  have hgb : b ≠ gb := fun e => (h.fv gb rfl).2.2 e.symm
  have hbp : b ≠ p := h.ne
  have hfg : F gb := (h.fv gb rfl).1
  have HO1 := Lib.hid ho1.drew
  have HR0 := Lib.hid (((ha.blk.away ⟨gb, o + i * 3, none⟩ (.int .i64 y1) hgp).away ⟨gb, o + i * 3 + 1, none⟩ (.int .i64 y2) hgp).away ⟨gb, o + i * 3 + 2, none⟩ (.int .i64 y3) hgp).drew
  have HX0 := Lib.hid (((hbx.away ⟨gb, o + i * 3, none⟩ (.int .i64 y1) hgx).away ⟨gb, o + i * 3 + 1, none⟩ (.int .i64 y2) hgx).away ⟨gb, o + i * 3 + 2, none⟩ (.int .i64 y3) hgx).drew
  have HM0 := Lib.hid (MapN.drew (((MapN.away ha.map ⟨gb, o + i * 3, none⟩ (.int .i64 y1) hgb).away ⟨gb, o + i * 3 + 1, none⟩ (.int .i64 y2) hgb).away ⟨gb, o + i * 3 + 2, none⟩ (.int .i64 y3) hgb))
  have HY0 := Lib.hid (((hwa.set ⟨gb, o + i * 3, none⟩ (.int .i64 y1) hfg).set ⟨gb, o + i * 3 + 1, none⟩ (.int .i64 y2) hfg).set ⟨gb, o + i * 3 + 2, none⟩ (.int .i64 y3) hfg).drew
  have H := Lib.hid h
  have HY := Lib.hid hy
  have HWA := Lib.hid hWA
  clear ho1 h hi ha hwa hal hbx hy hWA
  go_enter Try.func46, Try.ntmps46
  go_wp2
  rw [HWA.out]
  go_wp2
  go_region
  clear i0 i1 i2 z0 z1 z2 p0 x0 x1 x2
  generalize World.drew _ = W1 at *
  have e0 := HR0.out.cell 1 rfl
  have x0 := HX0.out.cell 0 rfl
  go_wp2
  refine wp_region_calmT 7 (by kernel_rfl) (by simp) (by kernel_rfl) fun M => ?_
  simp only [List.take_succ_cons, List.take_zero, List.drop_succ_cons, List.drop_zero]
  have m0 := fun n : In M.w => n.cell (M.cell e0)
  have m1 := fun n : In M.w => n.cell (M.cell x0)
  repeat (go_big_quiet_step (fail))
  refine wpQuiet_nil ?_
  clear m0 m1 M
  intro w2 hb2
  have HR2 := Lib.hid (HR0.out.kept hb2)
  have HO3 := Lib.hid (HO1.out.kept hb2)
  have HM2 := Lib.hid (MapN.kept HM0.out hb2)
  have HY2 := Lib.hid (HY0.out.trans (Only.of_below hb2))
  clear hb2 HR0 HO1 HM0 HY0 e0 x0 HX0
  go_wp2_with (at_mapUpdate; refine wpList_putN rfl rfl _ _ _ rfl rfl HM2.out hm _ HY.out rfl i (by omega) rfl ?_; intro w3 hm3 hg3; rw [HME.out] at hm3)
  have hne3 : some p ≠ some b := fun e => hbp (by injection e with e; exact e.symm)
  have HY3 := HY2.out.trans (Only.grown hg3 (fun k e => by injection e with e; subst e; exact H.out.fb))
  have hfin : RawAt F w3 p (.slice (some ⟨gb, o, none⟩) T.length cap) b (T.set i ⟨y1, y2, y3⟩) m' (upd g y1 (some i)) :=
    ⟨HR2.out.grown hg3 hne3, HO3.out.grown hg3 (fun k hk e => by simp [Value.ownBlock] at hk; injection e with e; exact hgb (by omega)), hm3, H.out.fp, H.out.fb, H.out.fv, fun k hk => Nat.lt_of_lt_of_le (H.out.lt k hk) HY3.size⟩
  have HF := Lib.hid hfin
  have HZ := Lib.hid HY3
  clear hm3 hg3 HY3 hfin HR2 HO3 HM2 HY2
  go_wp2
  go_end0
  exact ⟨rfl, HF.out, HZ.out⟩
end Go.Proofs.Ytkhnkhkpjgemkaa
