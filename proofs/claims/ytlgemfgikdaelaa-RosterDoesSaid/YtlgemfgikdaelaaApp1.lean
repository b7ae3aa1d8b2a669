/- One number behind a list of one's own: the builtin's law with all its side conditions met. FOR ALL LATER STAGES. -/
import Derived.Test.YtlgemfgikdaelaaOneI
import Derived.Test.YtlgemfgikdaelaaBytes
namespace Go.Proofs.Ytlgemfgikdaelaa
open Go.RowKit

theorem app1 {ops : Array Oper} {rest : List Oper} {o : Oper} {a : Act} {Q : Exit → Act → World → Prop} {B : Nat} {w : World} {n : Int} {v : Value} {l : List Int} (hown : OwnI w B v l) (hB : B ≤ w.heap.size) (hl : l.length ≤ 1000000)
    (hgd : o.guard = none) (s x : Operand) (ho : o.op = .call { callee := .builtin .append, args := #[s, x], argTypes := #[24, 24] }) (hs : a.eval s = v) (hx : a.eval x = .slice (some ⟨w.heap.size, 0, none⟩) 1 1)
    (hK : ∀ v' w', OwnI w' B v' (l ++ [n]) → Below B w w' → wpList Try.prog ops Q rest (a.put o.dst v') w') : wpList Try.prog ops Q (o :: rest) a (w.alloc (.cells #[.int .i64 n] 3)) := by
  obtain ⟨i0, hi, hz0, hz1, hz2⟩ := info_parts info_int
  have ha := (Below.refl B w).alloc hB (.cells #[.int .i64 n] 3)
  have h1 := OwnR.alloc hown (.cells #[.int .i64 n] 3)
  have h2 : B ≤ (w.alloc (.cells #[.int .i64 n] 3)).heap.size := Nat.le_trans hB ha.size
  refine wpList_append_rows csI_len (by decide) csI_one13 hgd s x 24 ho B 3 i0 (.int .i64 0) 8 Try.underlying24 hi hz0 hz1 hz2 rfl v l hs h1 _ [n] hx (oneI13 w n) (by unfold maxLen; simp; omega) (by simp; omega) h2 fun v' w' k1 k2 => ?_
  exact hK v' w' k1 (OwnR.below h1 ha h2 k2)
end Go.Proofs.Ytlgemfgikdaelaa
