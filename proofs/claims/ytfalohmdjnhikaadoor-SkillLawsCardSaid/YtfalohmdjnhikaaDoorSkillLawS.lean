/- The law SkillLaws. -/
import Derived.Test.YtfalohmdjnhikaaDoorSkillLaw
import Derived.Laws.BitsAllLaws
namespace Go.Proofs.YtfalohmdjnhikaaDoor
open Go.RowKit

set_option maxHeartbeats 8000000 in
set_option maxRecDepth 100000 in
theorem skillLaws_any (A B C : Int) (W : World) (hA : 0 ≤ A ∧ A < 18446744073709551616) (hB : 0 ≤ B ∧ B < 18446744073709551616) (hC : 0 ≤ C ∧ C < 18446744073709551616) (hT : Tabs W) :
    Calls Tryd.prog 5 #[.int .u64 A, .int .u64 B, .int .u64 C] W fun e w' => e = .returned (.bool true) ∧ Below W.heap.size W w' := by
  obtain ⟨a, ea⟩ : ∃ a : Nat, (a : Int) = A := ⟨A.toNat, by omega⟩
  obtain ⟨b, eb⟩ : ∃ b : Nat, (b : Int) = B := ⟨B.toNat, by omega⟩
  obtain ⟨c, ec⟩ : ∃ c : Nat, (c : Int) = C := ⟨C.toNat, by omega⟩
  have ha : a < 2 ^ 64 := by omega
  have hb : b < 2 ^ 64 := by omega
  have hc : c < 2 ^ 64 := by omega
  have hand : a &&& b < 2 ^ 64 := Nat.and_lt_two_pow _ hb
  have hor : a ||| b < 2 ^ 64 := Nat.or_lt_two_pow ha hb
  have HAL := Lib.hid fun w h => sAlive_any w h
  have HT := Lib.hid hT
  clear hT
  have g1 := fun w h => sText_any a w ha h
  have g2 := fun w h => sParse_any (txtS a) w (by have := txtS_len a; omega) h
  rw [par_txt a ha] at g2
  have g3 := fun w h => sList_any a w ha h
  have g4 : ∀ w v, IntsAt w v (ints (lsS a 64)) → Calls Tryd.prog 10 #[v] w fun e w' => e = .returned (.int .u64 (a : Int)) ∧ Below w.heap.size w w' := fun w v h => by
    have := sOf_any v _ w h (by rw [ints_len]; have := lsS_len a 64; omega)
    have e : ofS (inI (ints (lsS a 64))) 64 = a := by
      have h1 := ofS_list a ha
      rw [← h1]
      refine ofS_congr 64 fun n _ => ?_
      rw [h1]
      unfold inI ints
      exact decide_eq_decide.2 ⟨fun h => by
        obtain ⟨m, hm, e⟩ := List.mem_map.1 h
        have : m = n := by omega
        rwa [← this], fun h => List.mem_map.2 ⟨n, h, rfl⟩⟩
    rwa [e] at this
  have g5 := fun w => sHas_any a a w ha ha
  rw [hasK_self] at g5
  have g6 := fun w => sHas_any a (a &&& b) w ha hand
  rw [hasK_and] at g6
  have g7 := fun w => sHas_any (a ||| b) b w hor hb
  rw [hasK_or] at g7
  have g8 := fun w => sHas_any a b w ha hb
  have g9 := fun w => sHas_any b a w hb ha
  have g10 := fun w => sHas_any b c w hb hc
  have g11 := fun w => sHas_any a c w ha hc
  have g12 := fun w => sCount_any a w ha
  have g13 := fun w => sCount_any b w hb
  have g14 := fun w => sCount_any (a &&& b) w hand
  have g15 := fun w => sCount_any (a ||| b) w hor
  have g16 := fun w h => sText_any b w hb h
  have han := u64_and_nat a b ha hb
  have hon := u64_or_nat a b ha hb
  have hti : hasK a b 64 = true → hasK b a 64 = decide (a = b) := fun h => hasK_anti ha hb h
  have htr : hasK a b 64 = true → hasK b c 64 = true → hasK a c 64 = true := fun h1 h2 => hasK_trans h1 h2
  have hcl : hasK a b 64 = true → (lsS b 64).length ≤ (lsS a 64).length := fun h => count_le h
  have hsum := count_sum a b 64
  have hl1 := lsS_len a 64
  have hl2 := lsS_len b 64
  have htx : txtS a = txtS b → a = b := txt_inj ha hb
  have hsf : hasK a a 64 = true := hasK_self a
  have htl : ∀ x, (bs12 x).toList = x := fun x => by rw [ByteArray.toList_eq]; simp [bs12]
  have hX := Below.refl W.heap.size W
  obtain ⟨D, eD⟩ : ∃ D : Int, ((a &&& b : Nat) : Int) = D := ⟨_, rfl⟩
  obtain ⟨E, eE⟩ : ∃ E : Int, ((a ||| b : Nat) : Int) = E := ⟨_, rfl⟩
  rw [ea] at g1 g2 g3 g4 g5 g6 g8 g9 g11 g12 han hon
  rw [eb] at g7 g8 g9 g10 g13 g16 han hon
  rw [ec] at g10 g11
  rw [eD] at g6 g14 han
  rw [eE] at g7 g15 hon
  have hil := ints_len (lsS a 64)
  generalize ints (lsS a 64) = X at *
  obtain ⟨m1, e1⟩ : ∃ m, (lsS a 64).length = m := ⟨_, rfl⟩
  obtain ⟨m2, e2⟩ : ∃ m, (lsS b 64).length = m := ⟨_, rfl⟩
  obtain ⟨m3, e3⟩ : ∃ m, (lsS (a &&& b) 64).length = m := ⟨_, rfl⟩
  obtain ⟨m4, e4⟩ : ∃ m, (lsS (a ||| b) 64).length = m := ⟨_, rfl⟩
  have HMM := Lib.hid (show a = b → m1 = m2 from fun h => by subst h; omega)
  rw [e1] at hil hcl hsum hl1 g12
  rw [e2] at hcl hsum hl2 g13
  rw [e3] at hsum g14
  rw [e4] at hsum g15
  have s1 : (m3 : Int) + (m4 : Int) = (m1 : Int) + (m2 : Int) := by omega
  have s2 : (m1 : Int) ≤ 64 := by omega
  have s3 : (m2 : Int) ≤ 64 := by omega
  have G1 := Lib.hid g1
  have G2 := Lib.hid g2
  have G3 := Lib.hid g3
  have G4 := Lib.hid g4
  have G5 := Lib.hid g5
  have G6 := Lib.hid g6
  have G7 := Lib.hid g7
  have HX := Lib.hid hX
  have HTI := Lib.hid hti
  have HTR := Lib.hid htr
  have HCL := Lib.hid hcl
  have HTX := Lib.hid htx
  have HTL := Lib.hid htl
  have HIL := Lib.hid hil
  clear g1 g2 g3 g4 g5 g6 g7 hX hti htr hcl htx htl e1 e2 e3 e4 hsum hl1 hl2 hand hor eD eE hil
  by_cases hab : a = b
  · obtain rfl := HMM.out hab
    clear HMM
    subst hab
    obtain rfl : A = B := by omega
    cases h3 : hasK a c 64 with
    | false =>
      rw [h3] at g10 g11
      have G8 := Lib.hid g8
      have G9 := Lib.hid g9
      have G10 := Lib.hid g10
      have G11 := Lib.hid g11
      have G12 := Lib.hid g12
      have G13 := Lib.hid g13
      have G14 := Lib.hid g14
      have G15 := Lib.hid g15
      have G16 := Lib.hid g16
      generalize bs12 (txtS a) = TA at *
      clear g8 g9 g10 g11 g12 g13 g14 g15 g16 h3 ha hb hc ea eb ec hA hB hC hsf
      go_enter Tryd.func5, Tryd.ntmps5
      go_wp2_with (first
        | (go_at_call 17; (with_reducible refine (G1.out _ (HT.out.below HX.out)).mono ?_); rintro e w1 ⟨rfl, hb⟩; replace HX := Lib.hid (HX.out.trans (hb.mono HX.out.size)); clear hb)
        | (go_at_call 15; (with_reducible refine (G2.out _ (HT.out.below HX.out)).mono ?_); rintro e w1 ⟨rfl, hb⟩; replace HX := Lib.hid (HX.out.trans (hb.mono HX.out.size)); clear hb)
        | (go_at_call 9; (with_reducible refine (G3.out _ (HT.out.below HX.out)).mono ?_); rintro e w1 ⟨v1, rfl, ho, hb⟩; have HO := Lib.hid (OwnI.ints ho); replace HX := Lib.hid (HX.out.trans (hb.mono HX.out.size)); clear ho hb)
        | (go_at_call 10; (with_reducible refine (G4.out _ _ HO.out).mono ?_); rintro e w1 ⟨rfl, hb⟩; replace HX := Lib.hid (HX.out.trans (hb.mono HX.out.size)); clear hb HO)
        | (go_at_call 12; (with_reducible refine (G5.out _).mono ?_); rintro e w1 ⟨rfl, hb⟩; replace HX := Lib.hid (HX.out.trans (hb.mono HX.out.size)); clear hb)
        | (go_at_call 12; (with_reducible refine (G6.out _).mono ?_); rintro e w1 ⟨rfl, hb⟩; replace HX := Lib.hid (HX.out.trans (hb.mono HX.out.size)); clear hb)
        | (go_at_call 12; (with_reducible refine (G7.out _).mono ?_); rintro e w1 ⟨rfl, hb⟩; replace HX := Lib.hid (HX.out.trans (hb.mono HX.out.size)); clear hb)
        | (go_at_call 12; (with_reducible refine (G8.out _).mono ?_); rintro e w1 ⟨rfl, hb⟩; replace HX := Lib.hid (HX.out.trans (hb.mono HX.out.size)); clear hb)
        | (go_at_call 12; (with_reducible refine (G11.out _).mono ?_); rintro e w1 ⟨rfl, hb⟩; replace HX := Lib.hid (HX.out.trans (hb.mono HX.out.size)); clear hb)
        | (go_at_call 14; (with_reducible refine (G12.out _).mono ?_); rintro e w1 ⟨rfl, hb⟩; replace HX := Lib.hid (HX.out.trans (hb.mono HX.out.size)); clear hb)
        | (go_at_call 14; (with_reducible refine (G13.out _).mono ?_); rintro e w1 ⟨rfl, hb⟩; replace HX := Lib.hid (HX.out.trans (hb.mono HX.out.size)); clear hb)
        | (go_at_call 14; (with_reducible refine (G14.out _).mono ?_); rintro e w1 ⟨rfl, hb⟩; replace HX := Lib.hid (HX.out.trans (hb.mono HX.out.size)); clear hb)
        | (go_at_call 14; (with_reducible refine (G15.out _).mono ?_); rintro e w1 ⟨rfl, hb⟩; replace HX := Lib.hid (HX.out.trans (hb.mono HX.out.size)); clear hb)
        | (go_at_call 17; (with_reducible refine (G16.out _ (HT.out.below HX.out)).mono ?_); rintro e w1 ⟨rfl, hb⟩; replace HX := Lib.hid (HX.out.trans (hb.mono HX.out.size)); clear hb)
        | (go_at_call 6; (with_reducible refine (HAL.out _ (HT.out.below HX.out)).mono ?_); rintro e w1 ⟨rfl, hb⟩; replace HX := Lib.hid (HX.out.trans (hb.mono HX.out.size)); clear hb))
      go_ret
      exact ⟨rfl, HX.out⟩

    | true =>
      rw [h3] at g10 g11
      have G8 := Lib.hid g8
      have G9 := Lib.hid g9
      have G10 := Lib.hid g10
      have G11 := Lib.hid g11
      have G12 := Lib.hid g12
      have G13 := Lib.hid g13
      have G14 := Lib.hid g14
      have G15 := Lib.hid g15
      have G16 := Lib.hid g16
      generalize bs12 (txtS a) = TA at *
      clear g8 g9 g10 g11 g12 g13 g14 g15 g16 h3 ha hb hc ea eb ec hA hB hC hsf
      go_enter Tryd.func5, Tryd.ntmps5
      go_wp2_with (first
        | (go_at_call 17; (with_reducible refine (G1.out _ (HT.out.below HX.out)).mono ?_); rintro e w1 ⟨rfl, hb⟩; replace HX := Lib.hid (HX.out.trans (hb.mono HX.out.size)); clear hb)
        | (go_at_call 15; (with_reducible refine (G2.out _ (HT.out.below HX.out)).mono ?_); rintro e w1 ⟨rfl, hb⟩; replace HX := Lib.hid (HX.out.trans (hb.mono HX.out.size)); clear hb)
        | (go_at_call 9; (with_reducible refine (G3.out _ (HT.out.below HX.out)).mono ?_); rintro e w1 ⟨v1, rfl, ho, hb⟩; have HO := Lib.hid (OwnI.ints ho); replace HX := Lib.hid (HX.out.trans (hb.mono HX.out.size)); clear ho hb)
        | (go_at_call 10; (with_reducible refine (G4.out _ _ HO.out).mono ?_); rintro e w1 ⟨rfl, hb⟩; replace HX := Lib.hid (HX.out.trans (hb.mono HX.out.size)); clear hb HO)
        | (go_at_call 12; (with_reducible refine (G5.out _).mono ?_); rintro e w1 ⟨rfl, hb⟩; replace HX := Lib.hid (HX.out.trans (hb.mono HX.out.size)); clear hb)
        | (go_at_call 12; (with_reducible refine (G6.out _).mono ?_); rintro e w1 ⟨rfl, hb⟩; replace HX := Lib.hid (HX.out.trans (hb.mono HX.out.size)); clear hb)
        | (go_at_call 12; (with_reducible refine (G7.out _).mono ?_); rintro e w1 ⟨rfl, hb⟩; replace HX := Lib.hid (HX.out.trans (hb.mono HX.out.size)); clear hb)
        | (go_at_call 12; (with_reducible refine (G8.out _).mono ?_); rintro e w1 ⟨rfl, hb⟩; replace HX := Lib.hid (HX.out.trans (hb.mono HX.out.size)); clear hb)
        | (go_at_call 12; (with_reducible refine (G11.out _).mono ?_); rintro e w1 ⟨rfl, hb⟩; replace HX := Lib.hid (HX.out.trans (hb.mono HX.out.size)); clear hb)
        | (go_at_call 14; (with_reducible refine (G12.out _).mono ?_); rintro e w1 ⟨rfl, hb⟩; replace HX := Lib.hid (HX.out.trans (hb.mono HX.out.size)); clear hb)
        | (go_at_call 14; (with_reducible refine (G13.out _).mono ?_); rintro e w1 ⟨rfl, hb⟩; replace HX := Lib.hid (HX.out.trans (hb.mono HX.out.size)); clear hb)
        | (go_at_call 14; (with_reducible refine (G14.out _).mono ?_); rintro e w1 ⟨rfl, hb⟩; replace HX := Lib.hid (HX.out.trans (hb.mono HX.out.size)); clear hb)
        | (go_at_call 14; (with_reducible refine (G15.out _).mono ?_); rintro e w1 ⟨rfl, hb⟩; replace HX := Lib.hid (HX.out.trans (hb.mono HX.out.size)); clear hb)
        | (go_at_call 17; (with_reducible refine (G16.out _ (HT.out.below HX.out)).mono ?_); rintro e w1 ⟨rfl, hb⟩; replace HX := Lib.hid (HX.out.trans (hb.mono HX.out.size)); clear hb)
        | (go_at_call 6; (with_reducible refine (HAL.out _ (HT.out.below HX.out)).mono ?_); rintro e w1 ⟨rfl, hb⟩; replace HX := Lib.hid (HX.out.trans (hb.mono HX.out.size)); clear hb))
      go_ret
      exact ⟨rfl, HX.out⟩

  · have hAB : (A == B) = false := beq_noI (by omega)
    have hTT : ((bs12 (txtS a)).toList == (bs12 (txtS b)).toList) = false := by
      rw [HTL.out, HTL.out]
      cases h : (txtS a == txtS b) with
      | false => rfl
      | true => exact absurd (HTX.out (by simpa using h)) hab
    have hN : ¬ A = B := by omega
    cases h1 : hasK a b 64 with
    | false =>
      rw [h1] at g8
      have G8 := Lib.hid g8
      have G9 := Lib.hid g9
      have G10 := Lib.hid g10
      have G11 := Lib.hid g11
      have G12 := Lib.hid g12
      have G13 := Lib.hid g13
      have G14 := Lib.hid g14
      have G15 := Lib.hid g15
      have G16 := Lib.hid g16
      generalize bs12 (txtS a) = TA at *
      generalize bs12 (txtS b) = TB at *
      clear g8 g9 g10 g11 g12 g13 g14 g15 g16 h1 ha hb hc ea eb ec hab hA hB hC hsf
      go_enter Tryd.func5, Tryd.ntmps5
      go_wp2_with (first
        | (go_at_call 17; (with_reducible refine (G1.out _ (HT.out.below HX.out)).mono ?_); rintro e w1 ⟨rfl, hb⟩; replace HX := Lib.hid (HX.out.trans (hb.mono HX.out.size)); clear hb)
        | (go_at_call 15; (with_reducible refine (G2.out _ (HT.out.below HX.out)).mono ?_); rintro e w1 ⟨rfl, hb⟩; replace HX := Lib.hid (HX.out.trans (hb.mono HX.out.size)); clear hb)
        | (go_at_call 9; (with_reducible refine (G3.out _ (HT.out.below HX.out)).mono ?_); rintro e w1 ⟨v1, rfl, ho, hb⟩; have HO := Lib.hid (OwnI.ints ho); replace HX := Lib.hid (HX.out.trans (hb.mono HX.out.size)); clear ho hb)
        | (go_at_call 10; (with_reducible refine (G4.out _ _ HO.out).mono ?_); rintro e w1 ⟨rfl, hb⟩; replace HX := Lib.hid (HX.out.trans (hb.mono HX.out.size)); clear hb HO)
        | (go_at_call 12; (with_reducible refine (G5.out _).mono ?_); rintro e w1 ⟨rfl, hb⟩; replace HX := Lib.hid (HX.out.trans (hb.mono HX.out.size)); clear hb)
        | (go_at_call 12; (with_reducible refine (G6.out _).mono ?_); rintro e w1 ⟨rfl, hb⟩; replace HX := Lib.hid (HX.out.trans (hb.mono HX.out.size)); clear hb)
        | (go_at_call 12; (with_reducible refine (G7.out _).mono ?_); rintro e w1 ⟨rfl, hb⟩; replace HX := Lib.hid (HX.out.trans (hb.mono HX.out.size)); clear hb)
        | (go_at_call 12; (with_reducible refine (G8.out _).mono ?_); rintro e w1 ⟨rfl, hb⟩; replace HX := Lib.hid (HX.out.trans (hb.mono HX.out.size)); clear hb)
        | (go_at_call 14; (with_reducible refine (G12.out _).mono ?_); rintro e w1 ⟨rfl, hb⟩; replace HX := Lib.hid (HX.out.trans (hb.mono HX.out.size)); clear hb)
        | (go_at_call 14; (with_reducible refine (G13.out _).mono ?_); rintro e w1 ⟨rfl, hb⟩; replace HX := Lib.hid (HX.out.trans (hb.mono HX.out.size)); clear hb)
        | (go_at_call 14; (with_reducible refine (G14.out _).mono ?_); rintro e w1 ⟨rfl, hb⟩; replace HX := Lib.hid (HX.out.trans (hb.mono HX.out.size)); clear hb)
        | (go_at_call 14; (with_reducible refine (G15.out _).mono ?_); rintro e w1 ⟨rfl, hb⟩; replace HX := Lib.hid (HX.out.trans (hb.mono HX.out.size)); clear hb)
        | (go_at_call 17; (with_reducible refine (G16.out _ (HT.out.below HX.out)).mono ?_); rintro e w1 ⟨rfl, hb⟩; replace HX := Lib.hid (HX.out.trans (hb.mono HX.out.size)); clear hb)
        | (go_at_call 6; (with_reducible refine (HAL.out _ (HT.out.below HX.out)).mono ?_); rintro e w1 ⟨rfl, hb⟩; replace HX := Lib.hid (HX.out.trans (hb.mono HX.out.size)); clear hb))
      go_ret
      exact ⟨rfl, HX.out⟩
    | true =>
      have t2 := HTI.out h1
      rw [decide_eq_false hab] at t2
      have hcn : ¬ (m1 : Int) < (m2 : Int) := by have := HCL.out h1; omega
      rw [h1] at g8
      rw [t2] at g9
      cases h3 : hasK b c 64 with
      | false =>
        rw [h3] at g10
        have G8 := Lib.hid g8
        have G9 := Lib.hid g9
        have G10 := Lib.hid g10
        have G11 := Lib.hid g11
        have G12 := Lib.hid g12
        have G13 := Lib.hid g13
        have G14 := Lib.hid g14
        have G15 := Lib.hid g15
        have G16 := Lib.hid g16
        generalize bs12 (txtS a) = TA at *
        generalize bs12 (txtS b) = TB at *
        clear g8 g9 g10 g11 g12 g13 g14 g15 g16 h1 h3 t2 ha hb hc ea eb ec hab hA hB hC hsf
        go_enter Tryd.func5, Tryd.ntmps5
        go_wp2_with (first
          | (go_at_call 17; (with_reducible refine (G1.out _ (HT.out.below HX.out)).mono ?_); rintro e w1 ⟨rfl, hb⟩; replace HX := Lib.hid (HX.out.trans (hb.mono HX.out.size)); clear hb)
          | (go_at_call 15; (with_reducible refine (G2.out _ (HT.out.below HX.out)).mono ?_); rintro e w1 ⟨rfl, hb⟩; replace HX := Lib.hid (HX.out.trans (hb.mono HX.out.size)); clear hb)
          | (go_at_call 9; (with_reducible refine (G3.out _ (HT.out.below HX.out)).mono ?_); rintro e w1 ⟨v1, rfl, ho, hb⟩; have HO := Lib.hid (OwnI.ints ho); replace HX := Lib.hid (HX.out.trans (hb.mono HX.out.size)); clear ho hb)
          | (go_at_call 10; (with_reducible refine (G4.out _ _ HO.out).mono ?_); rintro e w1 ⟨rfl, hb⟩; replace HX := Lib.hid (HX.out.trans (hb.mono HX.out.size)); clear hb HO)
          | (go_at_call 12; (with_reducible refine (G5.out _).mono ?_); rintro e w1 ⟨rfl, hb⟩; replace HX := Lib.hid (HX.out.trans (hb.mono HX.out.size)); clear hb)
          | (go_at_call 12; (with_reducible refine (G6.out _).mono ?_); rintro e w1 ⟨rfl, hb⟩; replace HX := Lib.hid (HX.out.trans (hb.mono HX.out.size)); clear hb)
          | (go_at_call 12; (with_reducible refine (G7.out _).mono ?_); rintro e w1 ⟨rfl, hb⟩; replace HX := Lib.hid (HX.out.trans (hb.mono HX.out.size)); clear hb)
          | (go_at_call 12; (with_reducible refine (G8.out _).mono ?_); rintro e w1 ⟨rfl, hb⟩; replace HX := Lib.hid (HX.out.trans (hb.mono HX.out.size)); clear hb)
          | (go_at_call 12; (with_reducible refine (G9.out _).mono ?_); rintro e w1 ⟨rfl, hb⟩; replace HX := Lib.hid (HX.out.trans (hb.mono HX.out.size)); clear hb)
          | (go_at_call 12; (with_reducible refine (G10.out _).mono ?_); rintro e w1 ⟨rfl, hb⟩; replace HX := Lib.hid (HX.out.trans (hb.mono HX.out.size)); clear hb)
          | (go_at_call 14; (with_reducible refine (G12.out _).mono ?_); rintro e w1 ⟨rfl, hb⟩; replace HX := Lib.hid (HX.out.trans (hb.mono HX.out.size)); clear hb)
          | (go_at_call 14; (with_reducible refine (G13.out _).mono ?_); rintro e w1 ⟨rfl, hb⟩; replace HX := Lib.hid (HX.out.trans (hb.mono HX.out.size)); clear hb)
          | (go_at_call 14; (with_reducible refine (G14.out _).mono ?_); rintro e w1 ⟨rfl, hb⟩; replace HX := Lib.hid (HX.out.trans (hb.mono HX.out.size)); clear hb)
          | (go_at_call 14; (with_reducible refine (G15.out _).mono ?_); rintro e w1 ⟨rfl, hb⟩; replace HX := Lib.hid (HX.out.trans (hb.mono HX.out.size)); clear hb)
          | (go_at_call 17; (with_reducible refine (G16.out _ (HT.out.below HX.out)).mono ?_); rintro e w1 ⟨rfl, hb⟩; replace HX := Lib.hid (HX.out.trans (hb.mono HX.out.size)); clear hb)
          | (go_at_call 6; (with_reducible refine (HAL.out _ (HT.out.below HX.out)).mono ?_); rintro e w1 ⟨rfl, hb⟩; replace HX := Lib.hid (HX.out.trans (hb.mono HX.out.size)); clear hb))
        go_ret
        exact ⟨rfl, HX.out⟩

      | true =>
        rw [HTR.out h1 h3] at g11
        rw [h3] at g10
        have G8 := Lib.hid g8
        have G9 := Lib.hid g9
        have G10 := Lib.hid g10
        have G11 := Lib.hid g11
        have G12 := Lib.hid g12
        have G13 := Lib.hid g13
        have G14 := Lib.hid g14
        have G15 := Lib.hid g15
        have G16 := Lib.hid g16
        generalize bs12 (txtS a) = TA at *
        generalize bs12 (txtS b) = TB at *
        clear g8 g9 g10 g11 g12 g13 g14 g15 g16 h1 h3 t2 ha hb hc ea eb ec hab hA hB hC hsf
        go_enter Tryd.func5, Tryd.ntmps5
        go_wp2_with (first
          | (go_at_call 17; (with_reducible refine (G1.out _ (HT.out.below HX.out)).mono ?_); rintro e w1 ⟨rfl, hb⟩; replace HX := Lib.hid (HX.out.trans (hb.mono HX.out.size)); clear hb)
          | (go_at_call 15; (with_reducible refine (G2.out _ (HT.out.below HX.out)).mono ?_); rintro e w1 ⟨rfl, hb⟩; replace HX := Lib.hid (HX.out.trans (hb.mono HX.out.size)); clear hb)
          | (go_at_call 9; (with_reducible refine (G3.out _ (HT.out.below HX.out)).mono ?_); rintro e w1 ⟨v1, rfl, ho, hb⟩; have HO := Lib.hid (OwnI.ints ho); replace HX := Lib.hid (HX.out.trans (hb.mono HX.out.size)); clear ho hb)
          | (go_at_call 10; (with_reducible refine (G4.out _ _ HO.out).mono ?_); rintro e w1 ⟨rfl, hb⟩; replace HX := Lib.hid (HX.out.trans (hb.mono HX.out.size)); clear hb HO)
          | (go_at_call 12; (with_reducible refine (G5.out _).mono ?_); rintro e w1 ⟨rfl, hb⟩; replace HX := Lib.hid (HX.out.trans (hb.mono HX.out.size)); clear hb)
          | (go_at_call 12; (with_reducible refine (G6.out _).mono ?_); rintro e w1 ⟨rfl, hb⟩; replace HX := Lib.hid (HX.out.trans (hb.mono HX.out.size)); clear hb)
          | (go_at_call 12; (with_reducible refine (G7.out _).mono ?_); rintro e w1 ⟨rfl, hb⟩; replace HX := Lib.hid (HX.out.trans (hb.mono HX.out.size)); clear hb)
          | (go_at_call 12; (with_reducible refine (G8.out _).mono ?_); rintro e w1 ⟨rfl, hb⟩; replace HX := Lib.hid (HX.out.trans (hb.mono HX.out.size)); clear hb)
          | (go_at_call 12; (with_reducible refine (G9.out _).mono ?_); rintro e w1 ⟨rfl, hb⟩; replace HX := Lib.hid (HX.out.trans (hb.mono HX.out.size)); clear hb)
          | (go_at_call 12; (with_reducible refine (G10.out _).mono ?_); rintro e w1 ⟨rfl, hb⟩; replace HX := Lib.hid (HX.out.trans (hb.mono HX.out.size)); clear hb)
          | (go_at_call 12; (with_reducible refine (G11.out _).mono ?_); rintro e w1 ⟨rfl, hb⟩; replace HX := Lib.hid (HX.out.trans (hb.mono HX.out.size)); clear hb)
          | (go_at_call 14; (with_reducible refine (G12.out _).mono ?_); rintro e w1 ⟨rfl, hb⟩; replace HX := Lib.hid (HX.out.trans (hb.mono HX.out.size)); clear hb)
          | (go_at_call 14; (with_reducible refine (G13.out _).mono ?_); rintro e w1 ⟨rfl, hb⟩; replace HX := Lib.hid (HX.out.trans (hb.mono HX.out.size)); clear hb)
          | (go_at_call 14; (with_reducible refine (G14.out _).mono ?_); rintro e w1 ⟨rfl, hb⟩; replace HX := Lib.hid (HX.out.trans (hb.mono HX.out.size)); clear hb)
          | (go_at_call 14; (with_reducible refine (G15.out _).mono ?_); rintro e w1 ⟨rfl, hb⟩; replace HX := Lib.hid (HX.out.trans (hb.mono HX.out.size)); clear hb)
          | (go_at_call 17; (with_reducible refine (G16.out _ (HT.out.below HX.out)).mono ?_); rintro e w1 ⟨rfl, hb⟩; replace HX := Lib.hid (HX.out.trans (hb.mono HX.out.size)); clear hb)
          | (go_at_call 6; (with_reducible refine (HAL.out _ (HT.out.below HX.out)).mono ?_); rintro e w1 ⟨rfl, hb⟩; replace HX := Lib.hid (HX.out.trans (hb.mono HX.out.size)); clear hb))
        go_ret
        exact ⟨rfl, HX.out⟩

end Go.Proofs.YtfalohmdjnhikaaDoor
