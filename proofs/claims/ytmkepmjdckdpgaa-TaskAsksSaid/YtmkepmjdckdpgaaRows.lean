/-
  No cell of these rows narrows 'for every input' (looked for: loops, veiled, ifaces, maps, wideKeys, modest, calm, conditions, laid).
  DERIVED. THE GIVEN ROWS OF THIS SEAT. 3 by the template 'for every input the law returns true; each argument reads behind the call as it read before'; 0 by the template 'total and deterministic' (their statements: YtmkepmjdckdpgaaTotals.lean).
  GIVEN WITH THE SEED: the statements are not yours to turn. If you find one false, say at which input.
  Laid BY PROGRAM, IN A SANDBOX (cutbox-rows.mjs): the forced cells as the released guide's own fill.sh prints them over the translation 2d39d7c5d2af44e9… (all of the seat's roots in one cut). By AI agents, Wed Nov 11 2026. No macro, syntax, notation, axiom, sorry.
-/
import Derived.Test.YtmkepmjdckdpgaaChecked
import GoSem.Claim
import GoSem.ClaimJoined
import GoSem.ClaimMapViews
import Derived.JoinedTies
import Derived.KernelRfl
namespace Go.Proofs.Ytmkepmjdckdpgaa
/- THE CELL 'sum', in the pinned program and in every row, IS THE sha256 OF THE DUMP (.gsa) THAT YtmkepmjdckdpgaaProg.lean LOADS. Nothing in Lean hashes anything: it is a label: what it is worth is what the hold of that sum in a sandbox is worth. -/
noncomputable def Try.pinned : Pinned := { name := "ytmkepmjdckdpgaa", sum := "2d39d7c5d2af44e99c3b1a0c00f3188a4ea8816b5eca9de0768606b0d17dca9b", checked := Try.checked }
namespace Rows
def none {H : Type} : Left H := { results := [], args := [] }

/-- 'tallymanlaw22.TaskChecks': WHATEVER THE INPUT: true; the input reads as it did. -/
def taskChecksSpec : ChangeSpec := { name := "taskChecks", fn := fun _ => fun
  | [d1, d2] => { results := [.lit (.bool true)], args := [d1, d2] }
  | _ => none }
def taskChecksRow : OpenClaim := { program := "ytmkepmjdckdpgaa", sum := "2d39d7c5d2af44e99c3b1a0c00f3188a4ea8816b5eca9de0768606b0d17dca9b", func := "tallyman/tallymanlaw22.TaskChecks", spec := "taskChecks", inPlace := ["math.Float64bits", "math.Float64frombits"], unfollowed := true, recurses := true, apart := false }
def TaskChecksSaid : Prop := taskChecksRow.holds Try.pinned (OpenSpec.ofChange taskChecksSpec)

/-- ITS FALSE NEIGHBOUR: 'it returns false'. Refute it at one input. -/
def taskChecksWrong : ChangeSpec := { name := "taskChecks", fn := fun _ => fun
  | [d1, d2] => { results := [.lit (.bool false)], args := [d1, d2] }
  | _ => none }
def TaskChecksWrongFalsely : Prop := taskChecksRow.holds Try.pinned (OpenSpec.ofChange taskChecksWrong)

/-- 'tallymanlaw22.TaskAsks': WHATEVER THE INPUT: true; the input reads as it did. -/
def taskAsksSpec : ChangeSpec := { name := "taskAsks", fn := fun _ => fun
  | [d1, d2, d3, d4, d5] => { results := [.lit (.bool true)], args := [d1, d2, d3, d4, d5] }
  | _ => none }
def taskAsksRow : OpenClaim := { program := "ytmkepmjdckdpgaa", sum := "2d39d7c5d2af44e99c3b1a0c00f3188a4ea8816b5eca9de0768606b0d17dca9b", func := "tallyman/tallymanlaw22.TaskAsks", spec := "taskAsks", inPlace := ["math.Float64bits", "math.Float64frombits"], unfollowed := true, recurses := true, apart := false }
def TaskAsksSaid : Prop := taskAsksRow.holds Try.pinned (OpenSpec.ofChange taskAsksSpec)

/-- ITS FALSE NEIGHBOUR: 'it returns false'. Refute it at one input. -/
def taskAsksWrong : ChangeSpec := { name := "taskAsks", fn := fun _ => fun
  | [d1, d2, d3, d4, d5] => { results := [.lit (.bool false)], args := [d1, d2, d3, d4, d5] }
  | _ => none }
def TaskAsksWrongFalsely : Prop := taskAsksRow.holds Try.pinned (OpenSpec.ofChange taskAsksWrong)

/-- 'tallymanlaw22.TaskWants': WHATEVER THE INPUT: true; the input reads as it did. -/
def taskWantsSpec : ChangeSpec := { name := "taskWants", fn := fun _ => fun
  | [d1, d2, d3, d4, d5] => { results := [.lit (.bool true)], args := [d1, d2, d3, d4, d5] }
  | _ => none }
def taskWantsRow : OpenClaim := { program := "ytmkepmjdckdpgaa", sum := "2d39d7c5d2af44e99c3b1a0c00f3188a4ea8816b5eca9de0768606b0d17dca9b", func := "tallyman/tallymanlaw22.TaskWants", spec := "taskWants", inPlace := ["math.Float64bits", "math.Float64frombits"], unfollowed := true, recurses := true, apart := false }
def TaskWantsSaid : Prop := taskWantsRow.holds Try.pinned (OpenSpec.ofChange taskWantsSpec)

/-- ITS FALSE NEIGHBOUR: 'it returns false'. Refute it at one input. -/
def taskWantsWrong : ChangeSpec := { name := "taskWants", fn := fun _ => fun
  | [d1, d2, d3, d4, d5] => { results := [.lit (.bool false)], args := [d1, d2, d3, d4, d5] }
  | _ => none }
def TaskWantsWrongFalsely : Prop := taskWantsRow.holds Try.pinned (OpenSpec.ofChange taskWantsWrong)

/- THE SECOND FORM. 'bulk': how many values and letters a reading holds, each counted each time it is reached (what is shared counts as often as it is met; a slice's spare places count too). A statement '..UptoSaid' is the law's where the arguments, and the package variables that the reading takes, are together of bulk at most 1048576: NARROWER than '..Said'. Prove '..Said' where nothing that the law and all that it calls make is longer than what came in: it says more and counts as full. Else prove '..UptoSaid'. A law counts once. -/
mutual
def uptoBulk {H : Type} : DataW H → Nat
  | .lit (.string bytes) => bytes.length + 1
  | .lit _ => 1
  | .nil => 1
  | .ptr d => uptoBulk d + 1
  | .slice elems spare => uptoBulkAll elems + uptoBulkAll spare + 1
  | .agg parts => uptoBulkAll parts + 1
  | .iface _ d => uptoBulk d + 1
  | .map entries => uptoBulkEntries entries + 1
  | .held _ => 1
def uptoBulkAll {H : Type} : List (DataW H) → Nat
  | [] => 0
  | d :: r => uptoBulk d + uptoBulkAll r
def uptoBulkEntries {H : Type} : List (Lit × DataW H) → Nat
  | [] => 0
  | x :: r => uptoBulkEntry x + uptoBulkEntries r
def uptoBulkEntry {H : Type} : Lit × DataW H → Nat
  | (.string bytes, d) => bytes.length + uptoBulk d + 1
  | (_, d) => uptoBulk d + 1
 end
def uptoSmall : (H : Type) → List (DataW H) → Bool := fun _ ds => decide (uptoBulkAll ds ≤ 1048576)
def OpenSpec.upto (s : _root_.Go.ChangeSpec) : _root_.Go.OpenSpec := { _root_.Go.OpenSpec.ofChange s with cond := some uptoSmall }

/-- 'tallymanlaw22.TaskChecks', WHERE WHAT IT READS IS OF BULK AT MOST 1048576: true; the input reads as it did. -/
def taskChecksUptoRow : OpenClaim := { program := "ytmkepmjdckdpgaa", sum := "2d39d7c5d2af44e99c3b1a0c00f3188a4ea8816b5eca9de0768606b0d17dca9b", func := "tallyman/tallymanlaw22.TaskChecks", spec := "taskChecks", inPlace := ["math.Float64bits", "math.Float64frombits"], unfollowed := true, recurses := true, apart := false, narrowed := true }
def TaskChecksUptoSaid : Prop := taskChecksUptoRow.holds Try.pinned (OpenSpec.upto taskChecksSpec)

/-- 'tallymanlaw22.TaskAsks', WHERE WHAT IT READS IS OF BULK AT MOST 1048576: true; the input reads as it did. -/
def taskAsksUptoRow : OpenClaim := { program := "ytmkepmjdckdpgaa", sum := "2d39d7c5d2af44e99c3b1a0c00f3188a4ea8816b5eca9de0768606b0d17dca9b", func := "tallyman/tallymanlaw22.TaskAsks", spec := "taskAsks", inPlace := ["math.Float64bits", "math.Float64frombits"], unfollowed := true, recurses := true, apart := false, narrowed := true }
def TaskAsksUptoSaid : Prop := taskAsksUptoRow.holds Try.pinned (OpenSpec.upto taskAsksSpec)

/-- 'tallymanlaw22.TaskWants', WHERE WHAT IT READS IS OF BULK AT MOST 1048576: true; the input reads as it did. -/
def taskWantsUptoRow : OpenClaim := { program := "ytmkepmjdckdpgaa", sum := "2d39d7c5d2af44e99c3b1a0c00f3188a4ea8816b5eca9de0768606b0d17dca9b", func := "tallyman/tallymanlaw22.TaskWants", spec := "taskWants", inPlace := ["math.Float64bits", "math.Float64frombits"], unfollowed := true, recurses := true, apart := false, narrowed := true }
def TaskWantsUptoSaid : Prop := taskWantsUptoRow.holds Try.pinned (OpenSpec.upto taskWantsSpec)

end Rows
end Go.Proofs.Ytmkepmjdckdpgaa
