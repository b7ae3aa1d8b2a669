/- What the laws of layer 12 lean on: the program's contracts. -/
import Derived.Test.YtfalohmdjnhikaaDoorSkillC
namespace Go.Proofs.YtfalohmdjnhikaaDoor
open Go.RowKit

set_option maxHeartbeats 2000000 in
set_option maxRecDepth 100000 in
theorem sAlive_any (W : World) (hT : Tabs W) : Calls Tryd.prog 6 #[] W fun e w' => e = .returned (.bool true) ∧ Below W.heap.size W w' := by
  have e1 : parS [97, 99] = (5, true) := by decide +kernel
  have e2 : parS [99, 97] = (0, false) := by decide +kernel
  have e3 : txtS 5 = [97, 99] := by decide +kernel
  have e4 : txtS 0 = [45] := by decide +kernel
  have e5 : hasK 7 5 64 = true := by decide +kernel
  have e6 : hasK 5 7 64 = false := by decide +kernel
  have h1 : ∀ W, Tabs W → Calls Tryd.prog 15 #[.string ⟨#[97, 99]⟩] W fun e w' => e = .returned (.tuple #[.int .u64 5, .bool true]) ∧ Below W.heap.size W w' := fun W hT => by
    have := sParse_any [97, 99] W (by simp) hT
    rwa [e1] at this
  have h2 : ∀ W, Tabs W → Calls Tryd.prog 15 #[.string ⟨#[99, 97]⟩] W fun e w' => e = .returned (.tuple #[.int .u64 0, .bool false]) ∧ Below W.heap.size W w' := fun W hT => by
    have := sParse_any [99, 97] W (by simp) hT
    rwa [e2] at this
  have h3 : ∀ W, Tabs W → Calls Tryd.prog 17 #[.int .u64 5] W fun e w' => e = .returned (.string ⟨#[97, 99]⟩) ∧ Below W.heap.size W w' := fun W hT => by
    have := sText_any 5 W (by decide) hT
    rwa [e3] at this
  have h4 : ∀ W, Tabs W → Calls Tryd.prog 17 #[.int .u64 0] W fun e w' => e = .returned (.string ⟨#[45]⟩) ∧ Below W.heap.size W w' := fun W hT => by
    have := sText_any 0 W (by decide) hT
    rwa [e4] at this
  have h5 : ∀ W, Calls Tryd.prog 12 #[.int .u64 7, .int .u64 5] W fun e w' => e = .returned (.bool true) ∧ Below W.heap.size W w' := fun W => by
    have := sHas_any 7 5 W (by decide) (by decide)
    rwa [e5] at this
  have h6 : ∀ W, Calls Tryd.prog 12 #[.int .u64 5, .int .u64 7] W fun e w' => e = .returned (.bool false) ∧ Below W.heap.size W w' := fun W => by
    have := sHas_any 5 7 W (by decide) (by decide)
    rwa [e6] at this
  have H1 := Lib.hid h1
  have H2 := Lib.hid h2
  have H3 := Lib.hid h3
  have H4 := Lib.hid h4
  have H5 := Lib.hid h5
  have H6 := Lib.hid h6
  have hB := Below.refl W.heap.size W
  have HT := Lib.hid hT
  clear hT
  clear h1 h2 h3 h4 h5 h6 e1 e2 e3 e4 e5 e6
  go_enter Tryd.func6, Tryd.ntmps6
  go_wp2_with (first
    | (go_at_call 15; (with_reducible refine (H1.out _ (HT.out.below hB)).mono ?_); rintro e w1 ⟨rfl, hb⟩; replace hB := hB.trans (hb.mono hB.size); clear hb)
    | (go_at_call 15; (with_reducible refine (H2.out _ (HT.out.below hB)).mono ?_); rintro e w1 ⟨rfl, hb⟩; replace hB := hB.trans (hb.mono hB.size); clear hb)
    | (go_at_call 17; (with_reducible refine (H3.out _ (HT.out.below hB)).mono ?_); rintro e w1 ⟨rfl, hb⟩; replace hB := hB.trans (hb.mono hB.size); clear hb)
    | (go_at_call 17; (with_reducible refine (H4.out _ (HT.out.below hB)).mono ?_); rintro e w1 ⟨rfl, hb⟩; replace hB := hB.trans (hb.mono hB.size); clear hb)
    | (go_at_call 12; (with_reducible refine (H5.out _).mono ?_); rintro e w1 ⟨rfl, hb⟩; replace hB := hB.trans (hb.mono hB.size); clear hb)
    | (go_at_call 12; (with_reducible refine (H6.out _).mono ?_); rintro e w1 ⟨rfl, hb⟩; replace hB := hB.trans (hb.mono hB.size); clear hb))
  go_ret
  exact ⟨rfl, hB⟩
end Go.Proofs.YtfalohmdjnhikaaDoor
