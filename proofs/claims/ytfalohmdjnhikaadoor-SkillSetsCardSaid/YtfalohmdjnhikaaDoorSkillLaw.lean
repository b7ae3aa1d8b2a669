/- The laws SkillSets, SkillTexts. -/
import Derived.Test.YtfalohmdjnhikaaDoorSkillBase
namespace Go.Proofs.YtfalohmdjnhikaaDoor
open Go.RowKit

set_option maxHeartbeats 4000000 in
set_option maxRecDepth 100000 in
theorem skillSets_any (A B : Int) (va : Value) (l : List Int) (W : World) (hA : 0 ≤ A ∧ A < 18446744073709551616) (hB : 0 ≤ B ∧ B < 18446744073709551616) (ha : IntsAt W va l) (hT : Tabs W) :
    Calls Tryd.prog 3 #[.int .u64 A, .int .u64 B, va] W fun e w' => e = .returned (.bool true) ∧ Below W.heap.size W w' := by
  obtain ⟨a, rfl⟩ : ∃ a : Nat, A = (a : Int) := ⟨A.toNat, by omega⟩
  obtain ⟨b, rfl⟩ : ∃ b : Nat, B = (b : Int) := ⟨B.toNat, by omega⟩
  have ha64 : a < 2 ^ 64 := by omega
  have hb64 : b < 2 ^ 64 := by omega
  have HAL := Lib.hid fun w h => sAlive_any w h
  have HT := Lib.hid hT
  clear hT
  have HA := Lib.hid ha
  obtain ⟨al, cl, rfl⟩ := IntsAt.form ha
  clear ha
  have hX := Below.refl W.heap.size W
  by_cases h100 : 100 < l.length
  · have h1 : (100 : Int) < (l.length : Int) := by omega
    go_enter Tryd.func3, Tryd.ntmps3
    go_wp2_with (go_at_call 6; (with_reducible refine (HAL.out _ HT.out).mono ?_); rintro e w1 ⟨rfl, hb⟩)
    go_ret
    exact ⟨rfl, hb⟩
  · have h1 : ¬ (100 : Int) < (l.length : Int) := by omega
    have g1 := fun w => refList_any a w ha64
    have g2 := fun w h => sList_any a w ha64 h
    have g3 := fun w h => sOf_any (.slice al l.length cl) l w h (by omega)
    have g4 := fun w h => refOf_any (.slice al l.length cl) l w h (by omega)
    have g5 := fun w => sHas_any a b w ha64 hb64
    have g6 := fun w => refHas_any a b w ha64 hb64
    have g7 := fun w => sCount_any a w ha64
    have hil := ints_len (lsS a 64)
    have hle := lsS_len a 64
    have gi := fun w va vb ha hb => refInts_any va vb (ints (lsS a 64)) (ints (lsS a 64)) w ha hb (by omega) (by omega)
    rw [decide_eq_true rfl] at gi
    generalize ints (lsS a 64) = X at *
    generalize (lsS a 64).length = n at *
    generalize hasK a b 64 = t at *
    generalize ofS (inI l) 64 = s at *
    have G1 := Lib.hid g1
    have G2 := Lib.hid g2
    have G3 := Lib.hid g3
    have G4 := Lib.hid g4
    have G5 := Lib.hid g5
    have G6 := Lib.hid g6
    have G7 := Lib.hid g7
    have GI := Lib.hid gi
    have HX := Lib.hid hX
    clear g1 g2 g3 g4 g5 g6 g7 gi hX hle
    go_enter Tryd.func3, Tryd.ntmps3
    go_wp2_with (first
      | (go_at_call 7; (with_reducible refine (G1.out _).mono ?_); rintro e w1 ⟨v1, rfl, ho1, hb1⟩; have HO1 := Lib.hid (OwnI.ints ho1); obtain ⟨a1, c1, e1⟩ := IntsAt.form (OwnI.ints ho1); rw [hil] at e1; subst e1; have HX1 := Lib.hid (HX.out.trans (hb1.mono HX.out.size)); clear ho1 hb1)
      | (go_at_call 9; (with_reducible refine (G2.out _ (HT.out.below HX1.out)).mono ?_); rintro e w2 ⟨v2, rfl, ho2, hb2⟩; have HO2 := Lib.hid (OwnI.ints ho2); have HO3 := Lib.hid (IntsAt.below HO1.out hb2); have HX2 := Lib.hid (HX1.out.trans (hb2.mono HX1.out.size)); clear ho2 hb2)
      | (go_at_call 8; (with_reducible refine (GI.out _ _ _ HO2.out HO3.out).mono ?_); rintro e w3 ⟨rfl, hb3⟩; have HX3 := Lib.hid (HX2.out.trans (hb3.mono HX2.out.size)); clear hb3)
      | (go_at_call 10; (with_reducible refine (G3.out _ (IntsAt.below HA.out HX3.out)).mono ?_); rintro e w4 ⟨rfl, hb4⟩; have HX4 := Lib.hid (HX3.out.trans (hb4.mono HX3.out.size)); clear hb4)
      | (go_at_call 11; (with_reducible refine (G4.out _ (IntsAt.below HA.out HX4.out)).mono ?_); rintro e w5 ⟨rfl, rfl⟩)
      | (go_at_call 12; (with_reducible refine (G5.out _).mono ?_); rintro e w6 ⟨rfl, hb6⟩; have HX6 := Lib.hid (HX4.out.trans (hb6.mono HX4.out.size)); clear hb6)
      | (go_at_call 13; (with_reducible refine (G6.out _).mono ?_); rintro e w7 ⟨rfl, rfl⟩)
      | (go_at_call 14; (with_reducible refine (G7.out _).mono ?_); rintro e w8 ⟨rfl, hb8⟩; have HX8 := Lib.hid (HX6.out.trans (hb8.mono HX6.out.size)); clear hb8)
      | (go_at_call 6; (with_reducible refine (HAL.out _ (HT.out.below HX8.out)).mono ?_); rintro e w9 ⟨rfl, hb9⟩; have HX9 := Lib.hid (HX8.out.trans (hb9.mono HX8.out.size)); clear hb9))
    go_ret
    exact ⟨rfl, HX9.out⟩

set_option maxHeartbeats 4000000 in
set_option maxRecDepth 100000 in
theorem skillTexts_any (A : Int) (S : ByteArray) (W : World) (hA : 0 ≤ A ∧ A < 18446744073709551616) (hT : Tabs W) :
    Calls Tryd.prog 4 #[.int .u64 A, .string S] W fun e w' => e = .returned (.bool true) ∧ Below W.heap.size W w' := by
  obtain ⟨a, rfl⟩ : ∃ a : Nat, A = (a : Int) := ⟨A.toNat, by omega⟩
  obtain ⟨s, rfl⟩ : ∃ s, S = bs12 s := ⟨S.data.toList, by apply ByteArray.ext; simp [bs12]⟩
  have ha64 : a < 2 ^ 64 := by omega
  have HAL := Lib.hid fun w h => sAlive_any w h
  have HT := Lib.hid hT
  clear hT
  have hsz := bs12_size s
  have hX := Below.refl W.heap.size W
  by_cases h100 : 100 < s.length
  · have h1 : (100 : Int) < (s.length : Int) := by omega
    generalize bs12 s = S at *
    go_enter Tryd.func4, Tryd.ntmps4
    go_wp2_with (go_at_call 6; (with_reducible refine (HAL.out _ HT.out).mono ?_); rintro e w1 ⟨rfl, hb⟩)
    go_ret
    exact ⟨rfl, hb⟩
  · have h1 : ¬ (100 : Int) < (s.length : Int) := by omega
    have g1 := fun w h => sParse_any s w (by omega) h
    have g2 := fun w => refParse_any s w (by omega)
    have g3 := fun w h => sText_any a w ha64 h
    have g4 := fun w => refText_any a w ha64
    obtain ⟨⟨x, y⟩, hx⟩ : ∃ t, parS s = t := ⟨_, rfl⟩
    rw [hx] at g1 g2
    generalize bs12 s = S at *
    generalize bs12 (txtS a) = T at *
    have G1 := Lib.hid g1
    have G2 := Lib.hid g2
    have G3 := Lib.hid g3
    have G4 := Lib.hid g4
    have HX := Lib.hid hX
    clear g1 g2 g3 g4 hX hx
    go_enter Tryd.func4, Tryd.ntmps4
    go_wp2_with (first
      | (go_at_call 15; (with_reducible refine (G1.out _ (HT.out.below HX.out)).mono ?_); rintro e w1 ⟨rfl, hb1⟩; have HX1 := Lib.hid (HX.out.trans (hb1.mono HX.out.size)); clear hb1)
      | (go_at_call 16; (with_reducible refine (G2.out _).mono ?_); rintro e w2 ⟨rfl, hb2⟩; have HX2 := Lib.hid (HX1.out.trans (hb2.mono HX1.out.size)); clear hb2)
      | (go_at_call 17; (with_reducible refine (G3.out _ (HT.out.below HX2.out)).mono ?_); rintro e w3 ⟨rfl, hb3⟩; have HX3 := Lib.hid (HX2.out.trans (hb3.mono HX2.out.size)); clear hb3)
      | (go_at_call 18; (with_reducible refine (G4.out _).mono ?_); rintro e w4 ⟨rfl, rfl⟩)
      | (go_at_call 6; (with_reducible refine (HAL.out _ (HT.out.below HX3.out)).mono ?_); rintro e w9 ⟨rfl, hb9⟩; have HX9 := Lib.hid (HX3.out.trans (hb9.mono HX3.out.size)); clear hb9))
    go_ret
    exact ⟨rfl, HX9.out⟩
end Go.Proofs.YtfalohmdjnhikaaDoor
