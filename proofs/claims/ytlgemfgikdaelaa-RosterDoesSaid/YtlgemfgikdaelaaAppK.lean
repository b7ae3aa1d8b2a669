/- One struct behind a list of one's own: the builtin's law with its side conditions met. FOR ALL LATER STAGES. -/
import Derived.Test.YtlgemfgikdaelaaBytes
import Derived.Test.YtlgemfgikdaelaaOwnO
import Derived.Deep.AppendLies
namespace Go.Proofs.Ytlgemfgikdaelaa
open Go.RowKit

theorem appK {α : Type} {cs : α → List Value} {K : Nat} (hlen : ∀ x, (cs x).length = K) (hK0 : 0 < K) (hone : ∀ x, ∀ u ∈ cs x, u.oneCell' = true) (e ts : TypeId) (i : TypeInfo) (z : Value) (bytes : Nat) (ht : Try.prog.underlying ts = some (.slice e)) (hi : Try.prog.info? e = some i) (hz : i.zero = some z) (hsize : i.size = K) (hby : i.bytes = bytes) (hzs : z.cells.size = K) (hb : bytes ≤ 1000)
    {ops : Array Oper} {rest : List Oper} {o : Oper} {a : Act} {Q : Exit → Act → World → Prop} {B : Nat} {w : World} {x : α} {v : Value} {l : List α} (hown : OwnR w B e K cs v l) (hB : B ≤ w.heap.size) (hl : l.length ≤ 1000000)
    (hgd : o.guard = none) (s y : Operand) (ho : o.op = .call { callee := .builtin .append, args := #[s, y], argTypes := #[ts, ts] }) (hs : a.eval s = v) (hx : a.eval y = .slice (some ⟨w.heap.size, 0, none⟩) 1 1)
    (hK : ∀ v' w', OwnR w' B e K cs v' (l ++ [x]) → Below B w w' → Only (fun k => v.ownBlock = some k) w w' → (∀ k, v'.ownBlock = some k → v.ownBlock = some k ∨ w.heap.size ≤ k) → wpList Try.prog ops Q rest (a.put o.dst v') w') : wpList Try.prog ops Q (o :: rest) a (w.alloc (.cells (cs x).toArray e)) := by
  have ha := (Below.refl B w).alloc hB (.cells (cs x).toArray e)
  have h1 := OwnR.alloc hown (.cells (cs x).toArray e)
  have h2 : B ≤ (w.alloc (.cells (cs x).toArray e)).heap.size := Nat.le_trans hB ha.size
  refine wpList_append_lies _ hgd s y ts ho B e i z K bytes ht hi hz hsize hby hzs hK0 v l.length (flats cs l) hs h1 ⟨w.heap.size, 0, none⟩ 1 1 (cs x) hx (by rw [hlen]; omega) (World.news_of_block (cs := (cs x).toArray) (t := e) (fr := (0, 0)) (heap_alloc_new w _)) (hone x) (by omega) (by unfold maxLen; omega) (by
    have h3 : (l.length + 1) * bytes ≤ 1000001 * 1000 := Nat.mul_le_mul (by omega) hb
    omega) h2 (w.heap.size + 1) (by simp) fun g cap w' k1 k2 k3 _ => ?_
  exact hK _ w' (OwnR.snoc k1 rfl rfl) (OwnR.below h1 ha h2 k2) ((Only.of_below ((Below.refl w.heap.size w).alloc (Nat.le_refl _) _)).trans (Only.grown k2 fun k hk => hk)) fun k hk => by
    simp [Value.ownBlock] at hk
    subst hk
    exact k3.imp (fun h => h) fun h => by omega
end Go.Proofs.Ytlgemfgikdaelaa
