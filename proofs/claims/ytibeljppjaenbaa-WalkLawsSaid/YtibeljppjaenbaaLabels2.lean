/- A scope with two labels: what holds at each bears a number that every pass lowers; the one may be run into from the other. -/
import Derived.Test.YtibeljppjaenbaaLabels
namespace Go.Proofs.Ytibeljppjaenbaa
open Go.RowKit

/-- As Q; by a goto to label l0: J0; to label l1: J1; by any other goto: no way out. -/
def Exit.jumps (l0 : Nat) (J0 : Act → World → Prop) (l1 : Nat) (J1 : Act → World → Prop) (Q : Exit → Act → World → Prop) : Exit → Act → World → Prop
  | .goto l', a, w => (l' = l0 ∧ J0 a w) ∨ (l' = l1 ∧ J1 a w)
  | e, a, w => Q e a w

theorem wp_scope_jumps2 {P : Program} {a : Act} {w : World} {Q : Exit → Act → World → Prop} {c r0 r1 : Code} (l0 l1 : Nat) (J0 J1 : Nat → Act → World → Prop) (hf0 : findLabel c l0 = some r0) (hf1 : findLabel c l1 = some r1)
    (first : c.wp P (Exit.jumps l0 (fun a w => ∃ n, J0 n a w) l1 (fun a w => ∃ n, J1 n a w) Q) a w)
    (pass0 : ∀ n a w, J0 n a w → r0.wp P (Exit.jumps l0 (fun a w => ∃ n', n' < n ∧ J0 n' a w) l1 (fun a w => ∃ n', n' < n ∧ J1 n' a w) Q) a w)
    (pass1 : ∀ n a w, J1 n a w → r1.wp P (Exit.jumps l0 (fun a w => ∃ n', n' < n ∧ J0 n' a w) l1 (fun a w => ∃ n', n' < n ∧ J1 n' a w) Q) a w) : (Code.scope c).wp P Q a w := by
  intro b k cs
  have hg0 : gotoIn l0 (.inScope c :: k) = some (.code r0 :: .inScope c :: k) := by simp [gotoIn, hf0]
  have hg1 : gotoIn l1 (.inScope c :: k) = some (.code r1 :: .inScope c :: k) := by simp [gotoIn, hf1]
  have key : ∀ n, (∀ a w, J0 n a w → ∃ e a' w', Q e a' w' ∧ Arrives P (lone (b.at a (.code r0 :: .inScope c :: k)) cs w) b k cs e a' w') ∧
      (∀ a w, J1 n a w → ∃ e a' w', Q e a' w' ∧ Arrives P (lone (b.at a (.code r1 :: .inScope c :: k)) cs w) b k cs e a' w') := by
    intro n
    induction n using Nat.strongRecOn with
    | _ n ih =>
      refine ⟨fun a w hJ => ?_, fun a w hJ => ?_⟩
      · obtain ⟨e, a₁, w₁, hq, harr⟩ := pass0 n a w hJ b (.inScope c :: k) cs
        cases e with
        | normal => exact ⟨.normal, a₁, w₁, hq, Steps.trans harr (.one step_inScope)⟩
        | exit id => exact ⟨.exit id, a₁, w₁, hq, fun k' hk => harr k' (by simp [exitTo, hk])⟩
        | goto l' =>
          rcases hq with ⟨rfl, n', hlt, hJ'⟩ | ⟨rfl, n', hlt, hJ'⟩
          · obtain ⟨e₂, a₂, w₂, hq₂, harr₂⟩ := (ih n' hlt).1 a₁ w₁ hJ'
            exact ⟨e₂, a₂, w₂, hq₂, .of_steps (harr _ hg0) harr₂⟩
          · obtain ⟨e₂, a₂, w₂, hq₂, harr₂⟩ := (ih n' hlt).2 a₁ w₁ hJ'
            exact ⟨e₂, a₂, w₂, hq₂, .of_steps (harr _ hg1) harr₂⟩
        | ret => exact ⟨_, a₁, w₁, hq, harr⟩
        | panic ch => exact ⟨_, a₁, w₁, hq, harr⟩
        | outgrown => exact ⟨_, a₁, w₁, hq, harr⟩
      · obtain ⟨e, a₁, w₁, hq, harr⟩ := pass1 n a w hJ b (.inScope c :: k) cs
        cases e with
        | normal => exact ⟨.normal, a₁, w₁, hq, Steps.trans harr (.one step_inScope)⟩
        | exit id => exact ⟨.exit id, a₁, w₁, hq, fun k' hk => harr k' (by simp [exitTo, hk])⟩
        | goto l' =>
          rcases hq with ⟨rfl, n', hlt, hJ'⟩ | ⟨rfl, n', hlt, hJ'⟩
          · obtain ⟨e₂, a₂, w₂, hq₂, harr₂⟩ := (ih n' hlt).1 a₁ w₁ hJ'
            exact ⟨e₂, a₂, w₂, hq₂, .of_steps (harr _ hg0) harr₂⟩
          · obtain ⟨e₂, a₂, w₂, hq₂, harr₂⟩ := (ih n' hlt).2 a₁ w₁ hJ'
            exact ⟨e₂, a₂, w₂, hq₂, .of_steps (harr _ hg1) harr₂⟩
        | ret => exact ⟨_, a₁, w₁, hq, harr⟩
        | panic ch => exact ⟨_, a₁, w₁, hq, harr⟩
        | outgrown => exact ⟨_, a₁, w₁, hq, harr⟩
  obtain ⟨e, a₁, w₁, hq, harr⟩ := first b (.inScope c :: k) cs
  cases e with
  | normal => exact ⟨.normal, a₁, w₁, hq, .head step_scope (Steps.trans harr (.one step_inScope))⟩
  | exit id => exact ⟨.exit id, a₁, w₁, hq, fun k' hk => .head step_scope (harr k' (by simp [exitTo, hk]))⟩
  | goto l' =>
    rcases hq with ⟨rfl, n', hJ'⟩ | ⟨rfl, n', hJ'⟩
    · obtain ⟨e₂, a₂, w₂, hq₂, harr₂⟩ := (key n').1 a₁ w₁ hJ'
      exact ⟨e₂, a₂, w₂, hq₂, .of_steps (.head step_scope (harr _ hg0)) harr₂⟩
    · obtain ⟨e₂, a₂, w₂, hq₂, harr₂⟩ := (key n').2 a₁ w₁ hJ'
      exact ⟨e₂, a₂, w₂, hq₂, .of_steps (.head step_scope (harr _ hg1)) harr₂⟩
  | ret => exact ⟨_, a₁, w₁, hq, .of_steps (.one step_scope) harr⟩
  | panic ch => exact ⟨_, a₁, w₁, hq, .of_steps (.one step_scope) harr⟩
  | outgrown => exact ⟨_, a₁, w₁, hq, .of_steps (.one step_scope) harr⟩

/-- The first label's rest is walked once, and may run into the second's; the second's once; the way to the first once. -/
theorem wp_scope_gotos {P : Program} {a : Act} {w : World} {Q : Exit → Act → World → Prop} {c r0 r1 B0 B1 : Code} (l0 l1 : Nat) (J0 J1 : Nat → Act → World → Prop) (hf0 : findLabel c l0 = some r0) (hf1 : findLabel c l1 = some r1) (hB0 : r0 = .seq .skip B0) (hB1 : r1 = .seq .skip B1)
    (pass0 : ∀ n a w, J0 n a w → ∀ K0 K1 : Act → World → Prop, (∀ n' a' w', n' < n → J1 n' a' w' → B1.wp P (Exit.jumps l0 K0 l1 K1 Q) a' w') → B0.wp P (Exit.jumps l0 K0 l1 K1 Q) a w)
    (pass1 : ∀ n a w, J1 n a w → ∀ K0 K1 : Act → World → Prop, (∀ n' a' w', n' < n → J0 n' a' w' → K0 a' w') → (∀ n' a' w', n' < n → J1 n' a' w' → K1 a' w') → B1.wp P (Exit.jumps l0 K0 l1 K1 Q) a w)
    (first : ∀ K0 K1 : Act → World → Prop, (∀ n a w, J0 n a w → B0.wp P (Exit.jumps l0 K0 l1 K1 Q) a w) → c.wp P (Exit.jumps l0 K0 l1 K1 Q) a w) : (Code.scope c).wp P Q a w := by
  refine wp_scope_jumps2 l0 l1 J0 J1 hf0 hf1 ?_ ?_ ?_
  · exact first _ _ fun n a w h => pass0 n a w h _ _ fun n' a' w' _ h' => pass1 n' a' w' h' _ _ (fun n'' a'' w'' _ h'' => ⟨n'', h''⟩) (fun n'' a'' w'' _ h'' => ⟨n'', h''⟩)
  · intro n a w h
    refine wp_of_skip hB0 _ _ _ (pass0 n a w h _ _ fun n' a' w' hlt h' => pass1 n' a' w' h' _ _ (fun n'' a'' w'' hl h'' => ⟨n'', Nat.lt_trans hl hlt, h''⟩) (fun n'' a'' w'' hl h'' => ⟨n'', Nat.lt_trans hl hlt, h''⟩))
  · intro n a w h
    exact wp_of_skip hB1 _ _ _ (pass1 n a w h _ _ (fun n' a' w' hlt h' => ⟨n', hlt, h'⟩) (fun n' a' w' hlt h' => ⟨n', hlt, h'⟩))
end Go.Proofs.Ytibeljppjaenbaa
