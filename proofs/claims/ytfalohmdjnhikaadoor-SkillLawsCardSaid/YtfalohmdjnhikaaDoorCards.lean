/-
  DERIVED. GIVEN WITH THE SEED: THE CARDS: each row of YtfalohmdjnhikaaDoorRows.lean that lists a variable, with what it lists TIED to the program's text (the seventh form; the later family's looks); each row that meets fmt, with fmt's text TOLD by the authors' own Lean function (tested against real Go, not proved from fmt's source: count such statements apart). THE CARD IS WHAT COUNTS. Prove the row's statement (the work); the ties are given (YtfalohmdjnhikaaDoorTie.lean); close each card by the builder's one call (the guide's Derived/Test/ToyasCard.lean, 'card_holds'). Laid BY PROGRAM, IN A SANDBOX (cutbox-door.mjs). By AI agents, Wed Nov 11 2026. No macro, syntax, notation, axiom, sorry.
-/
import Derived.Test.YtfalohmdjnhikaaDoorRows
import GoSem.ClaimSeven
namespace Go.Proofs.YtfalohmdjnhikaaDoor
namespace Rows

/-- THE TIED CARD OF 'tallymanlaw12.SkillSets'. -/
def skillSetsCard : Claim7 := { stood := { row := skillSetsRow, standIns := [], harness := (true, "a48190fd3f12a6d44b24856f0df4041ef1b8309a27289fd4be84d0080dee24b9"), looks := false }, kinds := [], alts := [], laidByText := true, laidKinds := [.data, .data], laidTests := true, laidLooks := .later }
def SkillSetsCardSaid : Prop := Claim7.holds Tryd.pinned (.plain (OpenSpec.ofChange skillSetsSpec)) skillSetsCard

/-- THE TIED CARD OF 'tallymanlaw12.SkillTexts'. -/
def skillTextsCard : Claim7 := { stood := { row := skillTextsRow, standIns := [], harness := (true, "a48190fd3f12a6d44b24856f0df4041ef1b8309a27289fd4be84d0080dee24b9"), looks := false }, kinds := [], alts := [], laidByText := true, laidKinds := [.data, .data], laidTests := true, laidLooks := .later }
def SkillTextsCardSaid : Prop := Claim7.holds Tryd.pinned (.plain (OpenSpec.ofChange skillTextsSpec)) skillTextsCard

/-- THE TIED CARD OF 'tallymanlaw12.SkillLaws'. -/
def skillLawsCard : Claim7 := { stood := { row := skillLawsRow, standIns := [], harness := (true, "a48190fd3f12a6d44b24856f0df4041ef1b8309a27289fd4be84d0080dee24b9"), looks := false }, kinds := [], alts := [], laidByText := true, laidKinds := [.data, .data], laidTests := true, laidLooks := .later }
def SkillLawsCardSaid : Prop := Claim7.holds Tryd.pinned (.plain (OpenSpec.ofChange skillLawsSpec)) skillLawsCard

/-- THE SECOND FORM's CARD OF 'tallymanlaw12.SkillSets'. -/
def skillSetsUptoCard : Claim7 := { stood := { row := skillSetsUptoRow, standIns := [], harness := (true, "a48190fd3f12a6d44b24856f0df4041ef1b8309a27289fd4be84d0080dee24b9"), looks := false }, kinds := [], alts := [], laidByText := true, laidKinds := [.data, .data], laidTests := true, laidLooks := .later }
def SkillSetsUptoCardSaid : Prop := Claim7.holds Tryd.pinned (.plain (OpenSpec.upto skillSetsSpec)) skillSetsUptoCard

/-- THE SECOND FORM's CARD OF 'tallymanlaw12.SkillTexts'. -/
def skillTextsUptoCard : Claim7 := { stood := { row := skillTextsUptoRow, standIns := [], harness := (true, "a48190fd3f12a6d44b24856f0df4041ef1b8309a27289fd4be84d0080dee24b9"), looks := false }, kinds := [], alts := [], laidByText := true, laidKinds := [.data, .data], laidTests := true, laidLooks := .later }
def SkillTextsUptoCardSaid : Prop := Claim7.holds Tryd.pinned (.plain (OpenSpec.upto skillTextsSpec)) skillTextsUptoCard

/-- THE SECOND FORM's CARD OF 'tallymanlaw12.SkillLaws'. -/
def skillLawsUptoCard : Claim7 := { stood := { row := skillLawsUptoRow, standIns := [], harness := (true, "a48190fd3f12a6d44b24856f0df4041ef1b8309a27289fd4be84d0080dee24b9"), looks := false }, kinds := [], alts := [], laidByText := true, laidKinds := [.data, .data], laidTests := true, laidLooks := .later }
def SkillLawsUptoCardSaid : Prop := Claim7.holds Tryd.pinned (.plain (OpenSpec.upto skillLawsSpec)) skillLawsUptoCard
end Rows
end Go.Proofs.YtfalohmdjnhikaaDoor
