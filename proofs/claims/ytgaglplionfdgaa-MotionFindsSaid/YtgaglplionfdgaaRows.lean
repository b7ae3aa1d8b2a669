/-
  No cell of these rows narrows 'for every input' (looked for: loops, veiled, ifaces, maps, wideKeys, modest, calm, conditions, laid).
  DERIVED. THE GIVEN ROWS OF THIS SEAT. 4 by the template 'for every input the law returns true; each argument reads behind the call as it read before'; 0 by the template 'total and deterministic' (their statements: YtgaglplionfdgaaTotals.lean).
  GIVEN WITH THE SEED: the statements are not yours to turn. If you find one false, say at which input.
  Laid BY PROGRAM, IN A SANDBOX (cutbox-rows.mjs): the forced cells as the released guide's own fill.sh prints them over the translation 317c3abbdd8436eb… (all of the seat's roots in one cut). By AI agents, Wed Nov 11 2026. No macro, syntax, notation, axiom, sorry.
-/
import Derived.Test.YtgaglplionfdgaaChecked
import GoSem.Claim
import GoSem.ClaimJoined
import GoSem.ClaimMapViews
import Derived.JoinedTies
import Derived.KernelRfl
namespace Go.Proofs.Ytgaglplionfdgaa
/- THE CELL 'sum', in the pinned program and in every row, IS THE sha256 OF THE DUMP (.gsa) THAT YtgaglplionfdgaaProg.lean LOADS. Nothing in Lean hashes anything: it is a label: what it is worth is what the hold of that sum in a sandbox is worth. -/
noncomputable def Try.pinned : Pinned := { name := "ytgaglplionfdgaa", sum := "317c3abbdd8436ebd276ab4bd7acd4aabeaae5cc08687d316e7504c4cf6468ab", checked := Try.checked }
namespace Rows
def none {H : Type} : Left H := { results := [], args := [] }

/-- 'tallymanlaw04.MotionDoes': WHATEVER THE INPUT: true; the input reads as it did. -/
def motionDoesSpec : ChangeSpec := { name := "motionDoes", fn := fun _ => fun
  | [d1, d2, d3] => { results := [.lit (.bool true)], args := [d1, d2, d3] }
  | _ => none }
def motionDoesRow : OpenClaim := { program := "ytgaglplionfdgaa", sum := "317c3abbdd8436ebd276ab4bd7acd4aabeaae5cc08687d316e7504c4cf6468ab", func := "tallyman/tallymanlaw04.MotionDoes", spec := "motionDoes", apart := false }
def MotionDoesSaid : Prop := motionDoesRow.holds Try.pinned (OpenSpec.ofChange motionDoesSpec)

/-- ITS FALSE NEIGHBOUR: 'it returns false'. Refute it at one input. -/
def motionDoesWrong : ChangeSpec := { name := "motionDoes", fn := fun _ => fun
  | [d1, d2, d3] => { results := [.lit (.bool false)], args := [d1, d2, d3] }
  | _ => none }
def MotionDoesWrongFalsely : Prop := motionDoesRow.holds Try.pinned (OpenSpec.ofChange motionDoesWrong)

/-- 'tallymanlaw04.MotionTimes': WHATEVER THE INPUT: true; the input reads as it did. -/
def motionTimesSpec : ChangeSpec := { name := "motionTimes", fn := fun _ => fun
  | [d1, d2] => { results := [.lit (.bool true)], args := [d1, d2] }
  | _ => none }
def motionTimesRow : OpenClaim := { program := "ytgaglplionfdgaa", sum := "317c3abbdd8436ebd276ab4bd7acd4aabeaae5cc08687d316e7504c4cf6468ab", func := "tallyman/tallymanlaw04.MotionTimes", spec := "motionTimes", apart := false }
def MotionTimesSaid : Prop := motionTimesRow.holds Try.pinned (OpenSpec.ofChange motionTimesSpec)

/-- ITS FALSE NEIGHBOUR: 'it returns false'. Refute it at one input. -/
def motionTimesWrong : ChangeSpec := { name := "motionTimes", fn := fun _ => fun
  | [d1, d2] => { results := [.lit (.bool false)], args := [d1, d2] }
  | _ => none }
def MotionTimesWrongFalsely : Prop := motionTimesRow.holds Try.pinned (OpenSpec.ofChange motionTimesWrong)

/-- 'tallymanlaw04.MotionLaws': WHATEVER THE INPUT: true; the input reads as it did. -/
def motionLawsSpec : ChangeSpec := { name := "motionLaws", fn := fun _ => fun
  | [d1, d2, d3, d4, d5] => { results := [.lit (.bool true)], args := [d1, d2, d3, d4, d5] }
  | _ => none }
def motionLawsRow : OpenClaim := { program := "ytgaglplionfdgaa", sum := "317c3abbdd8436ebd276ab4bd7acd4aabeaae5cc08687d316e7504c4cf6468ab", func := "tallyman/tallymanlaw04.MotionLaws", spec := "motionLaws", inPlace := ["math.Float64bits", "math.Float64frombits"], apart := false }
def MotionLawsSaid : Prop := motionLawsRow.holds Try.pinned (OpenSpec.ofChange motionLawsSpec)

/-- ITS FALSE NEIGHBOUR: 'it returns false'. Refute it at one input. -/
def motionLawsWrong : ChangeSpec := { name := "motionLaws", fn := fun _ => fun
  | [d1, d2, d3, d4, d5] => { results := [.lit (.bool false)], args := [d1, d2, d3, d4, d5] }
  | _ => none }
def MotionLawsWrongFalsely : Prop := motionLawsRow.holds Try.pinned (OpenSpec.ofChange motionLawsWrong)

/-- 'tallymanlaw04.MotionFinds': WHATEVER THE INPUT: true; the input reads as it did. -/
def motionFindsSpec : ChangeSpec := { name := "motionFinds", fn := fun _ => fun
  | [d1, d2, d3] => { results := [.lit (.bool true)], args := [d1, d2, d3] }
  | _ => none }
def motionFindsRow : OpenClaim := { program := "ytgaglplionfdgaa", sum := "317c3abbdd8436ebd276ab4bd7acd4aabeaae5cc08687d316e7504c4cf6468ab", func := "tallyman/tallymanlaw04.MotionFinds", spec := "motionFinds", apart := false }
def MotionFindsSaid : Prop := motionFindsRow.holds Try.pinned (OpenSpec.ofChange motionFindsSpec)

/-- ITS FALSE NEIGHBOUR: 'it returns false'. Refute it at one input. -/
def motionFindsWrong : ChangeSpec := { name := "motionFinds", fn := fun _ => fun
  | [d1, d2, d3] => { results := [.lit (.bool false)], args := [d1, d2, d3] }
  | _ => none }
def MotionFindsWrongFalsely : Prop := motionFindsRow.holds Try.pinned (OpenSpec.ofChange motionFindsWrong)

/- THE SECOND FORM. 'bulk': how many values and letters a reading holds, each counted each time it is reached (what is shared counts as often as it is met; a slice's spare places count too). A statement '..UptoSaid' is the law's where the arguments, and the package variables that the reading takes, are together of bulk at most 1048576: NARROWER than '..Said'. Prove '..Said' where nothing that the law and all that it calls make is longer than what came in: it says more and counts as full. Else prove '..UptoSaid'. A law counts once. -/
mutual
def uptoBulk {H : Type} : DataW H → Nat
  | .lit (.string bytes) => bytes.length + 1
  | .lit _ => 1
  | .nil => 1
  | .ptr d => uptoBulk d + 1
  | .slice elems spare => uptoBulkAll elems + uptoBulkAll spare + 1
  | .agg parts => uptoBulkAll parts + 1
  | .iface _ d => uptoBulk d + 1
  | .map entries => uptoBulkEntries entries + 1
  | .held _ => 1
def uptoBulkAll {H : Type} : List (DataW H) → Nat
  | [] => 0
  | d :: r => uptoBulk d + uptoBulkAll r
def uptoBulkEntries {H : Type} : List (Lit × DataW H) → Nat
  | [] => 0
  | x :: r => uptoBulkEntry x + uptoBulkEntries r
def uptoBulkEntry {H : Type} : Lit × DataW H → Nat
  | (.string bytes, d) => bytes.length + uptoBulk d + 1
  | (_, d) => uptoBulk d + 1
 end
def uptoSmall : (H : Type) → List (DataW H) → Bool := fun _ ds => decide (uptoBulkAll ds ≤ 1048576)
def OpenSpec.upto (s : _root_.Go.ChangeSpec) : _root_.Go.OpenSpec := { _root_.Go.OpenSpec.ofChange s with cond := some uptoSmall }

/-- 'tallymanlaw04.MotionDoes', WHERE WHAT IT READS IS OF BULK AT MOST 1048576: true; the input reads as it did. -/
def motionDoesUptoRow : OpenClaim := { program := "ytgaglplionfdgaa", sum := "317c3abbdd8436ebd276ab4bd7acd4aabeaae5cc08687d316e7504c4cf6468ab", func := "tallyman/tallymanlaw04.MotionDoes", spec := "motionDoes", apart := false, narrowed := true }
def MotionDoesUptoSaid : Prop := motionDoesUptoRow.holds Try.pinned (OpenSpec.upto motionDoesSpec)

/-- 'tallymanlaw04.MotionTimes', WHERE WHAT IT READS IS OF BULK AT MOST 1048576: true; the input reads as it did. -/
def motionTimesUptoRow : OpenClaim := { program := "ytgaglplionfdgaa", sum := "317c3abbdd8436ebd276ab4bd7acd4aabeaae5cc08687d316e7504c4cf6468ab", func := "tallyman/tallymanlaw04.MotionTimes", spec := "motionTimes", apart := false, narrowed := true }
def MotionTimesUptoSaid : Prop := motionTimesUptoRow.holds Try.pinned (OpenSpec.upto motionTimesSpec)

/-- 'tallymanlaw04.MotionLaws', WHERE WHAT IT READS IS OF BULK AT MOST 1048576: true; the input reads as it did. -/
def motionLawsUptoRow : OpenClaim := { program := "ytgaglplionfdgaa", sum := "317c3abbdd8436ebd276ab4bd7acd4aabeaae5cc08687d316e7504c4cf6468ab", func := "tallyman/tallymanlaw04.MotionLaws", spec := "motionLaws", inPlace := ["math.Float64bits", "math.Float64frombits"], apart := false, narrowed := true }
def MotionLawsUptoSaid : Prop := motionLawsUptoRow.holds Try.pinned (OpenSpec.upto motionLawsSpec)

/-- 'tallymanlaw04.MotionFinds', WHERE WHAT IT READS IS OF BULK AT MOST 1048576: true; the input reads as it did. -/
def motionFindsUptoRow : OpenClaim := { program := "ytgaglplionfdgaa", sum := "317c3abbdd8436ebd276ab4bd7acd4aabeaae5cc08687d316e7504c4cf6468ab", func := "tallyman/tallymanlaw04.MotionFinds", spec := "motionFinds", apart := false, narrowed := true }
def MotionFindsUptoSaid : Prop := motionFindsUptoRow.holds Try.pinned (OpenSpec.upto motionFindsSpec)

end Rows
end Go.Proofs.Ytgaglplionfdgaa
