/- Stage 18: queues of numbers by definition; the document's Put, Drop, At. -/
import Derived.Test.YtlgemfgikdaelaaGraphRefA
import Derived.Test.YtlgemfgikdaelaaApp1
import Derived.Test.YtlgemfgikdaelaaGraphMathC
namespace Go.Proofs.Ytlgemfgikdaelaa
open Go.RowKit

/-- what a put makes of a list; 6: it is in it; 9: it is full -/
def putF (l : List Int) (room x : Int) : List Int × Int := if x ∈ l then (l, 6) else if room ≤ (l.length : Int) then (l, 9) else (l ++ [x], 0)
def dropF (l : List Int) (x : Int) : List Int := l.filter fun y => decide (y ≠ x)
def wasF (l : List Int) (x : Int) : Bool := decide ((dropF l x).length < l.length)
theorem dropF_len (l : List Int) (x : Int) : (dropF l x).length ≤ l.length := List.length_filter_le _ _
theorem putF_len (l : List Int) (room x : Int) : (putF l room x).1.length ≤ l.length + 1 := by
  unfold putF
  split
  · simp
  · split <;> simp
theorem dropF_mem (l : List Int) (x y : Int) : y ∈ dropF l x ↔ y ∈ l ∧ y ≠ x := by simp [dropF]
theorem wasF_iff (l : List Int) (x : Int) : wasF l x = inL l x := by
  unfold wasF inL
  by_cases h : x ∈ l
  · rw [decide_eq_true h]
    exact decide_eq_true (List.length_filter_lt_length_iff_exists.2 ⟨x, h, by simp⟩)
  · rw [decide_eq_false h]
    refine decide_eq_false fun hlt => ?_
    obtain ⟨y, hy, hn⟩ := List.length_filter_lt_length_iff_exists.1 hlt
    have : y = x := by simpa using hn
    exact h (this ▸ hy)
/-- a list in place of another one: of that one's memory, or of new memory -/
def FromV (va v : Value) (n n' B : Nat) : Prop := 0 < n' → ∀ k, v.ownBlock = some k → (va.ownBlock = some k ∧ 0 < n) ∨ B ≤ k
theorem FromV.self (va : Value) (n B : Nat) : FromV va va n n B := fun h0 _ hk => .inl ⟨hk, h0⟩
theorem OwnI.from_ {w : World} {B n n' : Nat} {v va : Value} {l : List Int} (h : OwnI w B v l) : FromV va v n n' B := fun _ k hk => .inr (World.ownsRow.lt h k hk).1

end Go.Proofs.Ytlgemfgikdaelaa
