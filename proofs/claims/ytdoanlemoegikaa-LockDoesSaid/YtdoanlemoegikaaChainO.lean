/- Lists of one's own that a region gathers by appends in a chain. -/
import Derived.Test.YtdoanlemoegikaaOwnO
import Derived.Test.YtdoanlemoegikaaChain
namespace Go.Proofs.Ytdoanlemoegikaa
open Go.RowKit

/-- a list of n things in memory that is not older than W -/
def Lk.list {α : Type} (B : Nat) (K : Nat) (cs : α → List Value) (n : Nat) (l : List α) : Lk :=
  ⟨Option Addr × Nat, ⟨(none, 0)⟩, fun x => .slice x.1 n x.2, fun x w => OwnO w K cs (.slice x.1 n x.2) l ∧ ∀ g, (Value.slice x.1 n x.2).ownBlock = some g → B ≤ g⟩
theorem Lk.list_kept {α : Type} {B : Nat} {K n : Nat} {cs : α → List Value} {l : List α} (x : (Lk.list B K cs n l).α) : KeptC ((Lk.list B K cs n l).R x) := fun _ _ h hb => ⟨h.1.kept hb, h.2⟩
section
variable {P : Program} {o : Oper} {a : Act} {W : World} {G : World → Prop} {α : Type} {K : Nat} {cs : α → List Value}
theorem Lk.at_empty {B : Nat} (hB : W.heap.size = B) {e : TypeId} (he : ∀ n : In W, (execOp a.eval o).run P n.w = .ok (.value (.slice (some ⟨n.w.heap.size, 0, none⟩) 0 0)) (n.w.alloc (.cells #[] e))) : (Lk.list B K cs 0 []).at P o a W G :=
  ⟨Lk.list_kept, fun n _ => by
    subst hB
    rw [he n]
    refine ⟨(some ⟨n.w.heap.size, 0, none⟩, 0), rfl, ⟨.inr ⟨n.w.heap.size, 0, 0, rfl, by simp, Nat.le_refl _, by simp [maxLen], fun j hj => ?_, fun j hj => ?_⟩, fun g hg => ?_⟩, (Below.refl W.heap.size _).alloc n.h.size _⟩
    · simp at hj
    · simp at hj
    · simp [Value.ownBlock] at hg
      have := n.h.size
      omega⟩
theorem Lk.at_append {B : Nat} (hB : W.heap.size = B) (s x : Operand) (t tx : TypeId) (ho : o.op = .call { callee := .builtin .append, args := #[s, x], argTypes := #[t, tx] })
    (hK : ∀ x, (cs x).length = K) (hK0 : 0 < K) (hone : ∀ x, ∀ u ∈ cs x, u.oneCell' = true) (e ex : TypeId) (i : TypeInfo) (z : Value) (ht : P.underlying t = some (.slice e)) (htx : P.underlying tx = some (.slice ex)) (hi : P.info? e = some i) (hz : i.zero = some z) (hsize : i.size = K) (hzs : z.cells.size = K)
    (v : Value) (l : List α) (hs : a.eval s = v) (vx : Value) (m : List α) (hvx : a.eval x = vx) (n : Nat) (hn : n = l.length + m.length) (hlen : l.length + m.length ≤ maxLen) (hbytes : (l.length + m.length) * i.bytes ≤ 140737488355328)
    (hG : ∀ n : In W, G n.w → (OwnO n.w K cs v l ∧ ∀ g, v.ownBlock = some g → B ≤ g) ∧ RowsAt n.w K cs vx m) : (Lk.list B K cs n (l ++ m)).at P o a W G :=
  ⟨Lk.list_kept, fun w hw => by
    subst hn
    subst hB
    obtain ⟨⟨h1, h2⟩, h3⟩ := hG w hw
    obtain ⟨v', w', hrun, h4, h5, h6⟩ := run_append_o (P := P) hK hK0 hone t tx o.type e ex i z ht htx hi hz hsize hzs h1 vx m h3 hlen hbytes
    have he : (execOp a.eval o).run P w.w = .ok (.value v') w' := by
      simp [execOp, ho, resolve, invoke, builtin, hs, hvx, hrun, Result.andThen]
    rw [he]
    obtain ⟨b, c, rfl⟩ := h4.form
    have hb : ∀ g, (Value.slice b (l ++ m).length c).ownBlock = some g → W.heap.size ≤ g := fun g hg => by
      rcases h6 with h6 | h6
      · rw [h6] at hg
        exact h2 g hg
      · rw [h6] at hg
        cases hg
        exact w.h.size
    rw [List.length_append] at h4 hb
    exact ⟨(b, c), by rw [List.length_append]; rfl, ⟨h4, hb⟩, (Below.refl _ _).grown h5 w.h.size h2⟩⟩
/-- a call that hands back a list of new memory -/
theorem Lk.at_call {B : Nat} (hB : W.heap.size = B) {f : FuncId} {args : Array Value} (n : Nat) (l : List α) (hn : n = l.length) (he : ∀ n : In W, (execOp a.eval o).run P n.w = .ok (.enter f args) n.w)
    (hc : ∀ n : In W, Calls P f args n.w fun e w' => ∃ v, e = .returned v ∧ OwnO w' K cs v l ∧ (∀ g, v.ownBlock = some g → n.w.heap.size ≤ g) ∧ Below n.w.heap.size n.w w') : (Lk.list B K cs n l).at P o a W G :=
  ⟨Lk.list_kept, fun n _ => by
    subst hB
    subst hn
    rw [he n]
    refine ⟨rfl, (hc n).mono ?_⟩
    rintro e w' ⟨v, rfl, h1, h2, h3⟩
    obtain ⟨b, c, rfl⟩ := h1.form
    exact ⟨(b, c), rfl, ⟨h1, fun g hg => Nat.le_trans n.h.size (h2 g hg)⟩, h3.mono n.h.size⟩⟩
/-- a value that is settled -/
def Lk.val1 (v : Value) : Lk := ⟨Unit, ⟨()⟩, fun _ => v, fun _ _ => True⟩
theorem Lk.at_val {v : Value} (h : ∀ n : In W, G n.w → (execOp a.eval o).run P n.w = .ok (.value v) n.w) : (Lk.val1 v).at P o a W G :=
  ⟨fun _ _ _ _ _ => trivial, fun n hn => by
    rw [h n hn]
    exact ⟨(), rfl, trivial, Below.refl _ _⟩⟩
end
end Go.Proofs.Ytdoanlemoegikaa
