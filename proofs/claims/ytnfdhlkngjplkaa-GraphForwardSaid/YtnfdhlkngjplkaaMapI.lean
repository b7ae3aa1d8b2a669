/- Maps from ints to ints, to bools, to lists of numbers (their headers alone): XMapG's laws in plain words. FOR ALL LATER STAGES. -/
import Derived.Test.YtnfdhlkngjplkaaMapN
import Derived.Test.YtnfdhlkngjplkaaOwnInts
namespace Go.Proofs.Ytnfdhlkngjplkaa
open Go.RowKit Go.Maps

/-- what a store does, as an equation of its run -/
theorem MapG.store {P : Program} {kt e : TypeId} {E : Elt P e} {w : World} {b m : Nat} {g : Int → Option E.α} (h : MapG E kt w b m g) (hk : P.underlying kt = some (.int .i64)) {t : TypeId} (ht : P.underlying t = some (.map kt e)) (hn : m < maxLen) {id : Int} (hi : I64 id) (y : E.α) (hy : E.ok y) :
    ∃ w', (Instr.mapUpdate t (.map (some b)) (.int .i64 id) (E.val y)).run P w = .ok () w' ∧ MapG E kt w' b (if (g id).isSome then m else m + 1) (updG g id (some y)) ∧ w.grownBy w' (some b) := by
  obtain ⟨D, h1, h2, h3⟩ := h
  obtain ⟨w', hrun, h4, h5⟩ := h1.store (int_keyed hk) ht hn (keyOf_int_mk hk hi.wf) (E.out y hy)
  have htidy := h1.tidy (int_keyed hk)
  have hsz := Maps.size_put (k := Lit.int .i64 id) htidy (E.enc y)
  have hh : Maps.has D (.int .i64 id) = (g id).isSome := by
    have := h3 id hi
    cases hgi : g id with
    | none => rw [hgi] at this; exact this
    | some y => rw [hgi] at this; exact this.1
  rw [hh, h2] at hsz
  refine ⟨w', hrun, ⟨D.put (.int .i64 id) (E.enc y), ?_, hsz, fun k hkk => ?_⟩, h5.grown⟩
  · obtain ⟨es, clock, r1, r2, r3, r4⟩ := h4
    refine ⟨es, clock, r1, r2, ?_, r4⟩
    rw [← hsz, r4]
    simp [Maps.size, length_sorted]
  · by_cases ek : k = id
    · subst ek
      rw [updG_same]
      exact ⟨Maps.has_put_same (k := Lit.int .i64 k) htidy.isMap trivial _, fun z => Maps.atKey_put_same (k := Lit.int .i64 k) htidy.isMap trivial _ z⟩
    · rw [updG_other _ _ ek]
      have := h3 k hkk
      cases hgk : g k with
      | none =>
        rw [hgk] at this
        show Maps.has _ _ = false
        rw [Maps.has_put_other (kl_ne ek)]
        exact this
      | some y2 =>
        rw [hgk] at this
        refine ⟨?_, fun z => ?_⟩
        · rw [Maps.has_put_other (kl_ne ek)]; exact this.1
        · rw [Maps.atKey_put_other (kl_ne ek)]; exact this.2 z

/-! ### Ints -/
def MapI (w : World) (b m : Nat) (g : Int → Option Int) : Prop := MapG EI 3 w b m g
section
variable {w w' : World} {b m : Nat} {g : Int → Option Int}
theorem MapI.lt (h : MapI w b m g) : b < w.heap.size := MapG.lt h
theorem MapI.same (h : MapI w b m g) (he : w'.heap[b]? = w.heap[b]?) : MapI w' b m g := MapG.same h he
theorem MapI.kept (h : MapI w b m g) (hb : Below w.heap.size w w') : MapI w' b m g := MapG.kept h hb
theorem MapI.new (w : World) : MapI (w.alloc (.map #[] 0)) w.heap.size 0 (fun _ => none) := MapG.new w
theorem MapI.ne_cell {a : Addr} {u : Value} (h : MapI w b m g) (hk : w.cell? a = some u) : b ≠ a.block := MapG.ne_cell h hk
theorem MapI.look (h : MapI w b m g) {id : Int} (hi : I64 id) : (Instr.lookup 37 (.map (some b)) (.int .i64 id) true).run Try.prog w = .ok (.tuple #[.int .i64 ((g id).getD 0), .bool (g id).isSome]) w :=
  MapG.look (E := EI) h Try.underlying3 Try.underlying37 hi
theorem MapI.look1 (h : MapI w b m g) {id : Int} (hi : I64 id) : (Instr.lookup 37 (.map (some b)) (.int .i64 id) false).run Try.prog w = .ok (.int .i64 ((g id).getD 0)) w :=
  MapG.look1 (E := EI) h Try.underlying3 Try.underlying37 hi
theorem MapI.put (h : MapI w b m g) (hn : m ≤ 1000000) {id : Int} (hi : I64 id) (y : Int) (hy : I64 y) :
    ∃ w', (Instr.mapUpdate 37 (.map (some b)) (.int .i64 id) (.int .i64 y)).run Try.prog w = .ok () w' ∧ MapI w' b (if (g id).isSome then m else m + 1) (updG g id (some y)) ∧ w.grownBy w' (some b) :=
  MapG.store (E := EI) h Try.underlying3 Try.underlying37 (by unfold maxLen; omega) hi y hy
variable {ops : Array Oper} {rest : List Oper} {o : Oper} {a : Act} {Q : Exit → Act → World → Prop}
theorem wpList_putI (hg : o.guard = none) (hd : o.dst = none) (mo x vo : Operand) (hop : o.op = Op.mapUpdate 37 mo x vo)
    (hm : a.eval mo = .map (some b)) (h : MapI w b m g) (hn : m ≤ 1000000) (id : Int) (hi : I64 id) (hx : a.eval x = .int .i64 id) (y : Int) (hy : I64 y) (hv : a.eval vo = .int .i64 y)
    (hK : ∀ w', MapI w' b (if (g id).isSome then m else m + 1) (updG g id (some y)) → w.grownBy w' (some b) → wpList Try.prog ops Q rest a w') : wpList Try.prog ops Q (o :: rest) a w := by
  refine wpList_putG (E := EI) hg mo x vo 37 hop Try.underlying3 Try.underlying37 hm h (by unfold maxLen; omega) id hi hx (show EI.α from y) hy hv fun w' h1 h2 => by
    rw [hd]
    exact hK w' h1 h2
end

/-! ### Bools -/
def readB : Value → Option (DataW Unit × List MemPlace)
  | .bool b => some (.lit (.bool b), [])
  | _ => none
noncomputable def EB : Elt Try.prog 4 where
  α := Bool
  val := fun x => .bool x
  enc := fun x => .lit (.bool x)
  ok := fun _ => True
  z := false
  R := readB
  out := fun _ _ => rfl
  inv := fun v x ps h => by
    unfold readB at h
    split at h
    · simp only [Option.some.injEq, Prod.mk.injEq, DataW.lit.injEq, Lit.bool.injEq] at h
      rw [h.1]
    · cases h
  okz := trivial
  hz := fun w => by kernel_rfl
def MapB (w : World) (b m : Nat) (g : Int → Option Bool) : Prop := MapG EB 3 w b m g
section
variable {w w' : World} {b m : Nat} {g : Int → Option Bool}
theorem MapB.lt (h : MapB w b m g) : b < w.heap.size := MapG.lt h
theorem MapB.same (h : MapB w b m g) (he : w'.heap[b]? = w.heap[b]?) : MapB w' b m g := MapG.same h he
theorem MapB.kept (h : MapB w b m g) (hb : Below w.heap.size w w') : MapB w' b m g := MapG.kept h hb
theorem MapB.new (w : World) : MapB (w.alloc (.map #[] 0)) w.heap.size 0 (fun _ => none) := MapG.new w
theorem MapB.ne_cell {a : Addr} {u : Value} (h : MapB w b m g) (hk : w.cell? a = some u) : b ≠ a.block := MapG.ne_cell h hk
theorem MapB.look1 (h : MapB w b m g) {id : Int} (hi : I64 id) : (Instr.lookup 55 (.map (some b)) (.int .i64 id) false).run Try.prog w = .ok (.bool ((g id).getD false)) w :=
  MapG.look1 (E := EB) h Try.underlying3 Try.underlying55 hi
theorem MapB.put (h : MapB w b m g) (hn : m ≤ 1000000) {id : Int} (hi : I64 id) (y : Bool) :
    ∃ w', (Instr.mapUpdate 55 (.map (some b)) (.int .i64 id) (.bool y)).run Try.prog w = .ok () w' ∧ MapB w' b (if (g id).isSome then m else m + 1) (updG g id (some y)) ∧ w.grownBy w' (some b) :=
  MapG.store (E := EB) h Try.underlying3 Try.underlying55 (by unfold maxLen; omega) hi y trivial
variable {ops : Array Oper} {rest : List Oper} {o : Oper} {a : Act} {Q : Exit → Act → World → Prop}
theorem wpList_putB (hg : o.guard = none) (hd : o.dst = none) (mo x vo : Operand) (hop : o.op = Op.mapUpdate 55 mo x vo)
    (hm : a.eval mo = .map (some b)) (h : MapB w b m g) (hn : m ≤ 1000000) (id : Int) (hi : I64 id) (hx : a.eval x = .int .i64 id) (y : Bool) (hv : a.eval vo = .bool y)
    (hK : ∀ w', MapB w' b (if (g id).isSome then m else m + 1) (updG g id (some y)) → w.grownBy w' (some b) → wpList Try.prog ops Q rest a w') : wpList Try.prog ops Q (o :: rest) a w := by
  refine wpList_putG (E := EB) hg mo x vo 55 hop Try.underlying3 Try.underlying55 hm h (by unfold maxLen; omega) id hi hx (show EB.α from y) trivial hv fun w' h1 h2 => by
    rw [hd]
    exact hK w' h1 h2
end

/-! ### Lists of numbers -/
/-- a list's header -/
structure Hd where
  g : Option Nat
  n : Nat
  c : Nat
def hdv (x : Hd) : Value := .slice (x.g.map fun b => ⟨b, 0, none⟩) x.n x.c
def hd0 : Hd := ⟨none, 0, 0⟩
def encH (x : Hd) : DataW Unit := .agg [.lit (.int .i64 (match x.g with | none => -1 | some b => (b : Int))), .lit (.int .i64 (x.n : Int)), .lit (.int .i64 (x.c : Int))]
def readH : Value → Option (DataW Unit × List MemPlace)
  | .slice none n c => some (encH ⟨none, n, c⟩, [])
  | .slice (some ⟨b, 0, none⟩) n c => some (encH ⟨some b, n, c⟩, [])
  | _ => none
theorem encH_inj {x y : Hd} (h : encH x = encH y) : x = y := by
  obtain ⟨a, n, c⟩ := x
  obtain ⟨a', n', c'⟩ := y
  simp only [encH, DataW.agg.injEq, List.cons.injEq, DataW.lit.injEq, Lit.int.injEq, true_and, and_true] at h
  obtain ⟨h1, h2, h3⟩ := h
  have e2 : n = n' := by omega
  have e3 : c = c' := by omega
  subst e2 e3
  cases a <;> cases a' <;> simp only at h1
  · rfl
  · omega
  · omega
  · have : (_ : Nat) = _ := Int.ofNat.inj h1
    rw [this]
theorem readH_inv (v : Value) (x : Hd) (ps : List MemPlace) (h : readH v = some (encH x, ps)) : v = hdv x := by
  unfold readH at h
  split at h
  · simp only [Option.some.injEq, Prod.mk.injEq] at h
    rw [← encH_inj h.1]
    rfl
  · simp only [Option.some.injEq, Prod.mk.injEq] at h
    rw [← encH_inj h.1]
    rfl
  · cases h
noncomputable def EH : Elt Try.prog 22 where
  α := Hd
  val := hdv
  enc := encH
  ok := fun _ => True
  z := hd0
  R := readH
  out := fun x _ => by
    obtain ⟨a, n, c⟩ := x
    cases a <;> rfl
  inv := readH_inv
  okz := trivial
  hz := fun w => by kernel_rfl
def MapH (w : World) (b m : Nat) (g : Int → Option Hd) : Prop := MapG EH 3 w b m g
/-- the list at a key -/
def hat (g : Int → Option Hd) (n : Int) : Value := hdv ((g n).getD hd0)
section
variable {w w' : World} {b m : Nat} {g : Int → Option Hd}
theorem MapH.lt (h : MapH w b m g) : b < w.heap.size := MapG.lt h
theorem MapH.same (h : MapH w b m g) (he : w'.heap[b]? = w.heap[b]?) : MapH w' b m g := MapG.same h he
theorem MapH.kept (h : MapH w b m g) (hb : Below w.heap.size w w') : MapH w' b m g := MapG.kept h hb
theorem MapH.new (w : World) : MapH (w.alloc (.map #[] 0)) w.heap.size 0 (fun _ => none) := MapG.new w
theorem MapH.ne_cell {a : Addr} {u : Value} (h : MapH w b m g) (hk : w.cell? a = some u) : b ≠ a.block := MapG.ne_cell h hk
theorem MapH.look1 (h : MapH w b m g) {id : Int} (hi : I64 id) : (Instr.lookup 36 (.map (some b)) (.int .i64 id) false).run Try.prog w = .ok (hat g id) w :=
  MapG.look1 (E := EH) h Try.underlying3 Try.underlying36 hi
variable {ops : Array Oper} {rest : List Oper} {o : Oper} {a : Act} {Q : Exit → Act → World → Prop}
theorem wpList_putH (hg : o.guard = none) (hd : o.dst = none) (mo x vo : Operand) (hop : o.op = Op.mapUpdate 36 mo x vo)
    (hm : a.eval mo = .map (some b)) (h : MapH w b m g) (hn : m ≤ 1000000) (id : Int) (hi : I64 id) (hx : a.eval x = .int .i64 id) (y : Hd) (hv : a.eval vo = hdv y)
    (hK : ∀ w', MapH w' b (if (g id).isSome then m else m + 1) (updG g id (some y)) → w.grownBy w' (some b) → wpList Try.prog ops Q rest a w') : wpList Try.prog ops Q (o :: rest) a w := by
  refine wpList_putG (E := EH) hg mo x vo 36 hop Try.underlying3 Try.underlying36 hm h (by unfold maxLen; omega) id hi hx (show EH.α from y) trivial hv fun w' h1 h2 => by
    rw [hd]
    exact hK w' h1 h2
end
theorem MapH.put {w : World} {b m : Nat} {g : Int → Option Hd} (h : MapH w b m g) (hn : m ≤ 1000000) {id : Int} (hi : I64 id) (y : Hd) :
    ∃ w', (Instr.mapUpdate 36 (.map (some b)) (.int .i64 id) (hdv y)).run Try.prog w = .ok () w' ∧ MapH w' b (if (g id).isSome then m else m + 1) (updG g id (some y)) ∧ w.grownBy w' (some b) :=
  MapG.store (E := EH) h Try.underlying3 Try.underlying36 (by unfold maxLen; omega) hi y trivial
theorem OwnI.hd {w : World} {B : Nat} {v : Value} {l : List Int} (h : OwnI w B v l) : ∃ x : Hd, v = hdv x ∧ x.n = l.length := by
  rcases h.2 with ⟨rfl, h0⟩ | ⟨g, cap, cur, rfl, _⟩
  · exact ⟨hd0, rfl, h0.symm⟩
  · exact ⟨⟨some g, l.length, cap⟩, rfl, rfl⟩
end Go.Proofs.Ytnfdhlkngjplkaa
