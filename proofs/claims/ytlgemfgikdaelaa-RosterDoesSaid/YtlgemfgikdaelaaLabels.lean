/- A scope with one label to which the run jumps back: what holds at the label bears a number that every pass lowers. -/
import Derived.Test.YtlgemfgikdaelaaRows
import Derived.WalkKit
import Derived.Deep.LoopGhost
namespace Go.Proofs.Ytlgemfgikdaelaa
open Go.RowKit

theorem wp_of_skip {P : Program} {B rest : Code} (h : rest = .seq .skip B) (Q : Exit → Act → World → Prop) (a : Act) (w : World) (hB : B.wp P Q a w) : rest.wp P Q a w := by
  subst h
  exact wp_seq (wp_skip hB)

/-- The label's rest is walked once ('pass'); the way to the label once ('first'). -/
theorem wp_scope_goto {P : Program} {a : Act} {w : World} {Q : Exit → Act → World → Prop} {c rest B : Code} (l : Nat) (I : Nat → Act → World → Prop) (hf : findLabel c l = some rest) (hB : rest = .seq .skip B)
    (pass : ∀ n a w, I n a w → ∀ K : Act → World → Prop, (∀ n' a' w', n' < n → I n' a' w' → K a' w') → B.wp P (Exit.jump l K Q) a w)
    (first : ∀ K : Act → World → Prop, (∀ n a w, I n a w → B.wp P (Exit.jump l K Q) a w) → c.wp P (Exit.jump l K Q) a w) : (Code.scope c).wp P Q a w := by
  refine wp_scope_jumps l (fun a w => ∃ n, I n a w) (fun a w => leastOf (fun n => I n a w)) hf ?_ ?_
  · exact first _ fun n a w h => pass n a w h _ fun n' a' w' _ h' => ⟨n', h'⟩
  · intro a w hI
    have hs := leastOf_spec hI
    refine wp_of_skip hB _ _ _ (pass _ a w hs.1 _ ?_)
    intro n' a' w' hlt h'
    exact ⟨⟨n', h'⟩, Nat.lt_of_le_of_lt ((leastOf_spec ⟨n', h'⟩).2 n' h') hlt⟩

end Go.Proofs.Ytlgemfgikdaelaa
