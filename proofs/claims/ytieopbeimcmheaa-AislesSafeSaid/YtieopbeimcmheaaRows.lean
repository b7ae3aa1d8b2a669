/-
  No cell of these rows narrows 'for every input' (looked for: loops, veiled, ifaces, maps, wideKeys, modest, calm, conditions, laid).
  DERIVED. THE GIVEN ROWS OF THIS SEAT. 3 by the template 'for every input the law returns true; each argument reads behind the call as it read before'; 0 by the template 'total and deterministic' (their statements: YtieopbeimcmheaaTotals.lean).
  GIVEN WITH THE SEED: the statements are not yours to turn. If you find one false, say at which input.
  Laid BY PROGRAM, IN A SANDBOX (cutbox-rows.mjs): the forced cells as the released guide's own fill.sh prints them over the translation da544d55ba1dc65e… (all of the seat's roots in one cut). By AI agents, Wed Nov 11 2026. No macro, syntax, notation, axiom, sorry.
-/
import Derived.Test.YtieopbeimcmheaaChecked
import GoSem.Claim
import GoSem.ClaimJoined
import GoSem.ClaimMapViews
import Derived.JoinedTies
import Derived.KernelRfl
namespace Go.Proofs.Ytieopbeimcmheaa
/- THE CELL 'sum', in the pinned program and in every row, IS THE sha256 OF THE DUMP (.gsa) THAT YtieopbeimcmheaaProg.lean LOADS. Nothing in Lean hashes anything: it is a label: what it is worth is what the hold of that sum in a sandbox is worth. -/
noncomputable def Try.pinned : Pinned := { name := "ytieopbeimcmheaa", sum := "da544d55ba1dc65ea61b415b9ab0221b4ab580d835f0dd600d73121fa4c08635", checked := Try.checked }
namespace Rows
def none {H : Type} : Left H := { results := [], args := [] }

/-- 'tallymanlaw20.AislesDoes': WHATEVER THE INPUT: true; the input reads as it did. -/
def aislesDoesSpec : ChangeSpec := { name := "aislesDoes", fn := fun _ => fun
  | [d1, d2] => { results := [.lit (.bool true)], args := [d1, d2] }
  | _ => none }
def aislesDoesRow : OpenClaim := { program := "ytieopbeimcmheaa", sum := "da544d55ba1dc65ea61b415b9ab0221b4ab580d835f0dd600d73121fa4c08635", func := "tallyman/tallymanlaw20.AislesDoes", spec := "aislesDoes", unfollowed := true, recurses := true, apart := false }
def AislesDoesSaid : Prop := aislesDoesRow.holds Try.pinned (OpenSpec.ofChange aislesDoesSpec)

/-- ITS FALSE NEIGHBOUR: 'it returns false'. Refute it at one input. -/
def aislesDoesWrong : ChangeSpec := { name := "aislesDoes", fn := fun _ => fun
  | [d1, d2] => { results := [.lit (.bool false)], args := [d1, d2] }
  | _ => none }
def AislesDoesWrongFalsely : Prop := aislesDoesRow.holds Try.pinned (OpenSpec.ofChange aislesDoesWrong)

/-- 'tallymanlaw20.AislesSafe': WHATEVER THE INPUT: true; the input reads as it did. -/
def aislesSafeSpec : ChangeSpec := { name := "aislesSafe", fn := fun _ => fun
  | [d1, d2] => { results := [.lit (.bool true)], args := [d1, d2] }
  | _ => none }
def aislesSafeRow : OpenClaim := { program := "ytieopbeimcmheaa", sum := "da544d55ba1dc65ea61b415b9ab0221b4ab580d835f0dd600d73121fa4c08635", func := "tallyman/tallymanlaw20.AislesSafe", spec := "aislesSafe", unfollowed := true, recurses := true, apart := false }
def AislesSafeSaid : Prop := aislesSafeRow.holds Try.pinned (OpenSpec.ofChange aislesSafeSpec)

/-- ITS FALSE NEIGHBOUR: 'it returns false'. Refute it at one input. -/
def aislesSafeWrong : ChangeSpec := { name := "aislesSafe", fn := fun _ => fun
  | [d1, d2] => { results := [.lit (.bool false)], args := [d1, d2] }
  | _ => none }
def AislesSafeWrongFalsely : Prop := aislesSafeRow.holds Try.pinned (OpenSpec.ofChange aislesSafeWrong)

/-- 'tallymanlaw20.AislesGoes': WHATEVER THE INPUT: true; the input reads as it did. -/
def aislesGoesSpec : ChangeSpec := { name := "aislesGoes", fn := fun _ => fun
  | [d1, d2] => { results := [.lit (.bool true)], args := [d1, d2] }
  | _ => none }
def aislesGoesRow : OpenClaim := { program := "ytieopbeimcmheaa", sum := "da544d55ba1dc65ea61b415b9ab0221b4ab580d835f0dd600d73121fa4c08635", func := "tallyman/tallymanlaw20.AislesGoes", spec := "aislesGoes", unfollowed := true, recurses := true, apart := false }
def AislesGoesSaid : Prop := aislesGoesRow.holds Try.pinned (OpenSpec.ofChange aislesGoesSpec)

/-- ITS FALSE NEIGHBOUR: 'it returns false'. Refute it at one input. -/
def aislesGoesWrong : ChangeSpec := { name := "aislesGoes", fn := fun _ => fun
  | [d1, d2] => { results := [.lit (.bool false)], args := [d1, d2] }
  | _ => none }
def AislesGoesWrongFalsely : Prop := aislesGoesRow.holds Try.pinned (OpenSpec.ofChange aislesGoesWrong)

/- THE SECOND FORM. 'bulk': how many values and letters a reading holds, each counted each time it is reached (what is shared counts as often as it is met; a slice's spare places count too). A statement '..UptoSaid' is the law's where the arguments, and the package variables that the reading takes, are together of bulk at most 1048576: NARROWER than '..Said'. Prove '..Said' where nothing that the law and all that it calls make is longer than what came in: it says more and counts as full. Else prove '..UptoSaid'. A law counts once. -/
mutual
def uptoBulk {H : Type} : DataW H → Nat
  | .lit (.string bytes) => bytes.length + 1
  | .lit _ => 1
  | .nil => 1
  | .ptr d => uptoBulk d + 1
  | .slice elems spare => uptoBulkAll elems + uptoBulkAll spare + 1
  | .agg parts => uptoBulkAll parts + 1
  | .iface _ d => uptoBulk d + 1
  | .map entries => uptoBulkEntries entries + 1
  | .held _ => 1
def uptoBulkAll {H : Type} : List (DataW H) → Nat
  | [] => 0
  | d :: r => uptoBulk d + uptoBulkAll r
def uptoBulkEntries {H : Type} : List (Lit × DataW H) → Nat
  | [] => 0
  | x :: r => uptoBulkEntry x + uptoBulkEntries r
def uptoBulkEntry {H : Type} : Lit × DataW H → Nat
  | (.string bytes, d) => bytes.length + uptoBulk d + 1
  | (_, d) => uptoBulk d + 1
 end
def uptoSmall : (H : Type) → List (DataW H) → Bool := fun _ ds => decide (uptoBulkAll ds ≤ 1048576)
def OpenSpec.upto (s : _root_.Go.ChangeSpec) : _root_.Go.OpenSpec := { _root_.Go.OpenSpec.ofChange s with cond := some uptoSmall }

/-- 'tallymanlaw20.AislesDoes', WHERE WHAT IT READS IS OF BULK AT MOST 1048576: true; the input reads as it did. -/
def aislesDoesUptoRow : OpenClaim := { program := "ytieopbeimcmheaa", sum := "da544d55ba1dc65ea61b415b9ab0221b4ab580d835f0dd600d73121fa4c08635", func := "tallyman/tallymanlaw20.AislesDoes", spec := "aislesDoes", unfollowed := true, recurses := true, apart := false, narrowed := true }
def AislesDoesUptoSaid : Prop := aislesDoesUptoRow.holds Try.pinned (OpenSpec.upto aislesDoesSpec)

/-- 'tallymanlaw20.AislesSafe', WHERE WHAT IT READS IS OF BULK AT MOST 1048576: true; the input reads as it did. -/
def aislesSafeUptoRow : OpenClaim := { program := "ytieopbeimcmheaa", sum := "da544d55ba1dc65ea61b415b9ab0221b4ab580d835f0dd600d73121fa4c08635", func := "tallyman/tallymanlaw20.AislesSafe", spec := "aislesSafe", unfollowed := true, recurses := true, apart := false, narrowed := true }
def AislesSafeUptoSaid : Prop := aislesSafeUptoRow.holds Try.pinned (OpenSpec.upto aislesSafeSpec)

/-- 'tallymanlaw20.AislesGoes', WHERE WHAT IT READS IS OF BULK AT MOST 1048576: true; the input reads as it did. -/
def aislesGoesUptoRow : OpenClaim := { program := "ytieopbeimcmheaa", sum := "da544d55ba1dc65ea61b415b9ab0221b4ab580d835f0dd600d73121fa4c08635", func := "tallyman/tallymanlaw20.AislesGoes", spec := "aislesGoes", unfollowed := true, recurses := true, apart := false, narrowed := true }
def AislesGoesUptoSaid : Prop := aislesGoesUptoRow.holds Try.pinned (OpenSpec.upto aislesGoesSpec)

end Rows
end Go.Proofs.Ytieopbeimcmheaa
