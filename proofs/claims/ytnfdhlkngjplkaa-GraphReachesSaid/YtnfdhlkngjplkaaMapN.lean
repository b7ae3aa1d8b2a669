/- Maps from ints to places (map[int]int): XMapG's laws in plain numbers. -/
import Derived.Test.YtnfdhlkngjplkaaMapG
namespace Go.Proofs.Ytnfdhlkngjplkaa
open Go.RowKit

noncomputable def EI : Elt Try.prog 3 := eltI Try.prog 3 Try.underlying3 fun w => by kernel_rfl
/-- places as ints -/
def gi (g : Int → Option Nat) : Int → Option Int := fun k => (g k).map fun n => (n : Int)
def upd (g : Int → Option Nat) (id : Int) (v : Option Nat) : Int → Option Nat := fun k => if k = id then v else g k
theorem gi_upd (g : Int → Option Nat) (id : Int) (j : Nat) : gi (upd g id (some j)) = updG (gi g) id (some (j : Int)) := by
  funext k
  unfold gi upd updG
  split <;> rfl
theorem gi_del (g : Int → Option Nat) (id : Int) : gi (upd g id none) = updG (gi g) id none := by
  funext k
  unfold gi upd updG
  split <;> rfl
/-- block b is a map of m entries: at each id the place that g tells -/
def MapN (w : World) (b m : Nat) (g : Int → Option Nat) : Prop := MapG EI 3 w b m (gi g)
theorem nat64 {n : Nat} (h : n ≤ 1000000) : I64 (n : Int) := by unfold I64; omega
section
variable {w w' : World} {b m : Nat} {g : Int → Option Nat}
theorem MapN.lt (h : MapN w b m g) : b < w.heap.size := MapG.lt h
theorem MapN.same (h : MapN w b m g) (he : w'.heap[b]? = w.heap[b]?) : MapN w' b m g := MapG.same h he
theorem MapN.kept (h : MapN w b m g) (hb : Below w.heap.size w w') : MapN w' b m g := MapG.kept h hb
theorem MapN.away (h : MapN w b m g) (a : Addr) (u : Value) (hne : b ≠ a.block) : MapN (w.setCell a u) b m g := MapG.away h a u hne
theorem MapN.grown {row : Option Nat} (h : MapN w b m g) (hg : w.grownBy w' row) (hne : some b ≠ row) : MapN w' b m g := MapG.grown h hg hne
theorem MapN.drew (h : MapN w b m g) : MapN w.drew b m g := MapG.same h rfl
theorem MapN.new (w : World) : MapN (w.alloc (.map #[] 0)) w.heap.size 0 (fun _ => none) := MapG.new w
theorem MapN.ne_cell {a : Addr} {u : Value} (h : MapN w b m g) (hk : w.cell? a = some u) : b ≠ a.block := MapG.ne_cell h hk
variable {ops : Array Oper} {rest : List Oper} {o : Oper} {a : Act} {Q : Exit → Act → World → Prop}
theorem gi_isSome (id : Int) : Option.isSome (α := EI.α) (gi g id) = (g id).isSome := by
  unfold gi
  cases g id <;> rfl
theorem gi_getD (id : Int) : EI.val (Option.getD (α := EI.α) (gi g id) EI.z) = .int .i64 (((g id).getD 0 : Nat) : Int) := by
  unfold gi
  cases g id <;> rfl
theorem wpList_lookN (hg : o.guard = none) (mo x : Operand) (hop : o.op = Op.lookup 37 mo x true)
    (hm : a.eval mo = .map (some b)) (h : MapN w b m g) (id : Int) (hi : I64 id) (hx : a.eval x = .int .i64 id)
    (hK : wpList Try.prog ops Q rest (a.put o.dst (.tuple #[.int .i64 (((g id).getD 0 : Nat) : Int), .bool (g id).isSome])) w) : wpList Try.prog ops Q (o :: rest) a w := by
  refine wpList_lookG2 (E := EI) hg mo x 37 hop Try.underlying3 Try.underlying37 hm h id hi hx ?_
  rw [gi_isSome, gi_getD]
  exact hK
theorem wpList_putN (hg : o.guard = none) (hd : o.dst = none) (mo x vo : Operand) (hop : o.op = Op.mapUpdate 37 mo x vo)
    (hm : a.eval mo = .map (some b)) (h : MapN w b m g) (hn : m ≤ 1000000) (id : Int) (hi : I64 id) (hx : a.eval x = .int .i64 id) (j : Nat) (hj : j ≤ 1000000) (hv : a.eval vo = .int .i64 (j : Int))
    (hK : ∀ w', MapN w' b (if (g id).isSome then m else m + 1) (upd g id (some j)) → w.grownBy w' (some b) → wpList Try.prog ops Q rest a w') : wpList Try.prog ops Q (o :: rest) a w := by
  refine wpList_putG (E := EI) hg mo x vo 37 hop Try.underlying3 Try.underlying37 hm h (by unfold maxLen; omega) id hi hx (show EI.α from (j : Int)) (nat64 hj) hv fun w' h1 h2 => by
    rw [hd]
    refine hK w' ?_ h2
    rw [gi_isSome] at h1
    unfold MapN
    rw [gi_upd]
    exact h1
theorem wpList_delN (hg : o.guard = none) (hd : o.dst = none) (mo x : Operand) (hop : o.op = Op.call { callee := Callee.builtin Builtin.delete, args := #[mo, x], argTypes := #[37, 3] })
    (hm : a.eval mo = .map (some b)) (h : MapN w b m g) (id : Int) (hi : I64 id) (hx : a.eval x = .int .i64 id)
    (hK : ∀ w', MapN w' b (if (g id).isSome then m - 1 else m) (upd g id none) → w.grownBy w' (some b) → wpList Try.prog ops Q rest a w') : wpList Try.prog ops Q (o :: rest) a w := by
  refine wpList_delG (E := EI) hg mo x 37 hop Try.underlying3 Try.underlying37 hm h id hi hx fun w' h1 h2 => by
    rw [hd]
    refine hK w' ?_ h2
    rw [gi_isSome] at h1
    unfold MapN
    rw [gi_del]
    exact h1
theorem wpList_lenN (hg : o.guard = none) (mo : Operand) (hop : o.op = Op.call { callee := Callee.builtin Builtin.len, args := #[mo], argTypes := #[37] })
    (hm : a.eval mo = .map (some b)) (h : MapN w b m g) (hK : wpList Try.prog ops Q rest (a.put o.dst (.int .i64 m)) w) : wpList Try.prog ops Q (o :: rest) a w :=
  wpList_lenG (E := EI) hg mo 37 hop Try.underlying37 hm h hK
theorem MapN.look (h : MapN w b m g) {id : Int} (hi : I64 id) : (Instr.lookup 37 (.map (some b)) (.int .i64 id) true).run Try.prog w = .ok (.tuple #[.int .i64 (((g id).getD 0 : Nat) : Int), .bool (g id).isSome]) w := by
  have := MapG.look h Try.underlying3 Try.underlying37 hi
  rwa [gi_isSome, gi_getD] at this
theorem MapN.look1 (h : MapN w b m g) {id : Int} (hi : I64 id) : (Instr.lookup 37 (.map (some b)) (.int .i64 id) false).run Try.prog w = .ok (.int .i64 (((g id).getD 0 : Nat) : Int)) w := by
  have := MapG.look1 h Try.underlying3 Try.underlying37 hi
  rwa [gi_getD] at this
end
end Go.Proofs.Ytnfdhlkngjplkaa
