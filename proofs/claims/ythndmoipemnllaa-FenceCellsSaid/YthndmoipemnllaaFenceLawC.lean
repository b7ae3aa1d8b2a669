/- The law FenceCells. -/
import Derived.Test.YthndmoipemnllaaFenceAlive
import Derived.Test.YthndmoipemnllaaFenceFit
import Derived.Deep.DeepCutAuto
namespace Go.Proofs.Ythndmoipemnllaa
open Go.RowKit
attribute [local go_sem high] field_x field_y

theorem sumN_bd (f : Nat → Int) (B : Int) (n : Nat) (h : ∀ i, i < n → -B ≤ f i ∧ f i ≤ B) : -(B * n) ≤ sumN f n ∧ sumN f n ≤ B * n := by
  induction n with
  | zero => simp [sumN]
  | succ n ih =>
    have h0 := ih fun i hi => h i (by omega)
    have h1 := h n (by omega)
    have e : sumN f (n + 1) = sumN f n + f n := rfl
    have e2 : B * ((n + 1 : Nat) : Int) = B * n + B := by rw [Int.natCast_add, Int.mul_add]; simp
    omega
/-- a column of cells -/
def colm (l : List (Int × Int)) (X a2 : Int) (j : Nat) : Int := sumN (fun y => fcell l (X, a2 - 1 + y)) j
/-- columns of cells -/
def cols (l : List (Int × Int)) (a1 a2 : Int) (n i : Nat) : Int := sumN (fun x => colm l (a1 - 1 + x) a2 n) i
theorem colm_bd {l : List (Int × Int)} (h : rightB l = true) (X a2 : Int) (j : Nat) : -(256 * (j : Int)) ≤ colm l X a2 j ∧ colm l X a2 j ≤ 256 * (j : Int) :=
  sumN_bd _ 256 j fun _ _ => fcell_bd h _
theorem cols_bd {l : List (Int × Int)} (h : rightB l = true) (a1 a2 : Int) (n i : Nat) (hn : n ≤ 16) : -(4096 * (i : Int)) ≤ cols l a1 a2 n i ∧ cols l a1 a2 n i ≤ 4096 * (i : Int) :=
  sumN_bd _ 4096 i fun x _ => by have := colm_bd h (a1 - 1 + x) a2 n; omega

set_option maxHeartbeats 4000000 in
set_option maxRecDepth 100000 in
theorem fenceCells_any (va : Value) (l : List (Int × Int)) (w : World) (ha : PairsAt w va l) (hl : l.length ≤ 9223372036854775807) :
    Calls Try.prog 5 #[va] w fun e w' => e = .returned (.bool true) ∧ Below w.heap.size w w' := by
  have hal := fun w => fAlive_any w
  have HAL := Lib.hid hal
  clear hal
  have HA := Lib.hid ha
  have hform : ∃ a c, va = .slice a l.length c := by obtain ⟨a, c, e, _⟩ := ha; exact ⟨a, c, e⟩
  obtain ⟨a, c, rfl⟩ := hform
  clear ha
  have gb := fun w ha => fBox_any (.slice a l.length c) l w ha hl
  obtain ⟨⟨a1, a2⟩, he1⟩ : ∃ q, blo l l.length = q := ⟨_, rfl⟩
  obtain ⟨⟨b1, b2⟩, he2⟩ : ∃ q, bhi l l.length = q := ⟨_, rfl⟩
  have s1 := fun w => refSmall_any a1 a2 500 w (by decide) (by decide)
  have s2 := fun w => refSmall_any b1 b2 500 w (by decide) (by decide)
  obtain ⟨t1, ht1⟩ : ∃ t, smallB a1 a2 500 = t := ⟨_, rfl⟩
  obtain ⟨t2, ht2⟩ : ∃ t, smallB b1 b2 500 = t := ⟨_, rfl⟩
  rw [ht1] at s1
  rw [ht2] at s2
  have gr := fun w ha => fun hl => fRight_any (.slice a l.length c) l w ha hl
  have gs := fun w ha => fun hl => refRight_any (.slice a l.length c) l w ha hl
  obtain ⟨b, hb⟩ : ∃ b, rightB l = b := ⟨_, rfl⟩
  rw [hb] at gr gs
  rw [he1, he2] at gb
  simp only at gb
  have GB := Lib.hid gb
  have S1 := Lib.hid s1
  have S2 := Lib.hid s2
  have GR := Lib.hid gr
  have GS := Lib.hid gs
  have HE1 := Lib.hid he1
  have HE2 := Lib.hid he2
  have HT1 := Lib.hid ht1
  have HT2 := Lib.hid ht2
  have HRB := Lib.hid hb
  clear gb s1 s2 gr gs he1 he2 ht1 ht2 hb
  have hB : Below w.heap.size w w := Below.refl _ _
  go_enter Try.func5, Try.ntmps5
  go_upto_region 2 with (go_at_call 8; with_reducible refine (GB.out _ HA.out).mono ?_; rintro e w5 ⟨rfl, hb⟩; have hB5 := hB.trans hb; have HP5 := Lib.hid (HA.out.kept hb); clear hb hB)
  have hBe : Below w5.heap.size w5 ((w5.alloc (.cells #[.int .i64 a1, .int .i64 a2] 23)).alloc (.cells #[.int .i64 b1, .int .i64 b2] 23)) := ((Below.refl _ _).alloc (Nat.le_refl _) _).alloc (by simp) _
  have hB6 := hB5.trans (hBe.mono hB5.size)
  have HP6 := Lib.hid (HP5.out.kept hBe)
  have CA6 := (Cell2.new w5 (.int .i64 a1) (.int .i64 a2) 23).alloc (.cells #[.int .i64 b1, .int .i64 b2] 23)
  have CB6 := Cell2.new (w5.alloc (.cells #[.int .i64 a1, .int .i64 a2] 23)) (.int .i64 b1) (.int .i64 b2) 23
  simp only [World.size_alloc] at CB6
  obtain ⟨N5, hN5⟩ : ∃ N, w5.heap.size = N := ⟨_, rfl⟩
  rw [hN5] at CA6 CB6
  try rw [hN5]
  clear hBe hB5 HP5 hN5
  generalize (w5.alloc (.cells #[.int .i64 a1, .int .i64 a2] 23)).alloc (.cells #[.int .i64 b1, .int .i64 b2] 23) = W6 at *
  have HCA := Lib.hid CA6
  have HCB := Lib.hid CB6
  obtain ⟨ca0, ca1, _, _⟩ := CA6
  clear CB6
  by_cases h40 : 40 < l.length
  · go_wp2_with (go_at_call 7; refine (HAL.out _).mono ?_; rintro e u8 ⟨rfl, hb⟩; replace hB6 := hB6.trans (hb.mono hB6.size); clear hb HAL)
    go_ret
    exact ⟨rfl, hB6⟩
  have hl6 : l.length ≤ 1000000 := by omega
  have hall : t1 = false ∨ (t1 = true ∧ t2 = false) ∨ (t1 = true ∧ t2 = true) := by cases t1 <;> cases t2 <;> simp
  rcases hall with rfl | ⟨rfl, rfl⟩ | ⟨rfl, rfl⟩
  · go_wp2_with (first
      | (go_at_call 21; with_reducible refine (S1.out _).mono ?_; rintro e u1 ⟨rfl, hb⟩; replace hB6 := hB6.trans (hb.mono hB6.size); clear hb S1)
      | (go_at_call 7; refine (HAL.out _).mono ?_; rintro e u8 ⟨rfl, hb⟩; replace hB6 := hB6.trans (hb.mono hB6.size); clear hb HAL))
    go_ret
    exact ⟨rfl, hB6⟩
  · go_wp2_with (first
      | (go_at_call 21; with_reducible refine (S1.out _).mono ?_; rintro e u1 ⟨rfl, hb⟩; replace hB6 := hB6.trans (hb.mono hB6.size); obtain ⟨cb0, cb1, _, _⟩ := HCB.out.kept hb; clear hb S1)
      | (go_at_call 21; with_reducible refine (S2.out _).mono ?_; rintro e u2 ⟨rfl, hb⟩; replace hB6 := hB6.trans (hb.mono hB6.size); clear hb S2)
      | (go_at_call 7; refine (HAL.out _).mono ?_; rintro e u8 ⟨rfl, hb⟩; replace hB6 := hB6.trans (hb.mono hB6.size); clear hb HAL))
    go_ret
    exact ⟨rfl, hB6⟩
  have hsa := HT1.out
  have hsb := HT2.out
  unfold smallB at hsa hsb
  simp only [decide_eq_true_eq] at hsa hsb
  obtain ⟨A0, A1, A2, A3⟩ := hsa
  obtain ⟨B0, B1, B2, B3⟩ := hsb
  have hcase : 14 < b1 - a1 ∨ (¬ 14 < b1 - a1 ∧ 14 < b2 - a2) ∨ (¬ 14 < b1 - a1 ∧ ¬ 14 < b2 - a2 ∧ b = false) ∨ (¬ 14 < b1 - a1 ∧ ¬ 14 < b2 - a2 ∧ b = true) := by
    by_cases h1 : 14 < b1 - a1
    · exact .inl h1
    · by_cases h2 : 14 < b2 - a2
      · exact .inr (.inl ⟨h1, h2⟩)
      · cases b
        · exact .inr (.inr (.inl ⟨h1, h2, rfl⟩))
        · exact .inr (.inr (.inr ⟨h1, h2, rfl⟩))
  rcases hcase with h1 | ⟨h1, h2⟩ | ⟨h1, h2, rfl⟩ | ⟨h1, h2, rfl⟩
  rotate_left 3
  · have hb := HRB.out
    have hR := (rightB_iff l).1 hb
    have hw := box_within l
    rw [HE1.out, HE2.out] at hw
    obtain ⟨w1, w2, w3, w4⟩ := hw 0 (by have := hR.1; omega)
    simp only at w1 w2 w3 w4
    obtain ⟨M, hM⟩ : ∃ M : Nat, (M : Int) = b1 - a1 + 2 := ⟨(b1 - a1 + 2).toNat, by omega⟩
    obtain ⟨N, hN⟩ : ∃ N : Nat, (N : Int) = b2 - a2 + 2 := ⟨(b2 - a2 + 2).toNat, by omega⟩
    have hfen : cols l a1 a2 N M = fen l := fen_all hb (a1, a2) (b1, b2) HE1.out HE2.out M N (by simp only; omega) (by simp only; omega)
    have hM16 : M ≤ 16 := by omega
    have hN16 : N ≤ 16 := by omega
    have HCO := Lib.hid fun i => cols_bd hb a1 a2 N i hN16
    have HCM := Lib.hid fun X j => colm_bd hb X a2 j
    have HCB2 := Lib.hid fun p => fcell_bd hb p
    have hout : ∀ X Y : Int, fcell l (X, Y) ≠ 0 → a1 ≤ X ∧ a2 ≤ Y ∧ X < b1 ∧ Y < b2 := by
      intro X Y hne
      by_cases h : X < a1 ∨ Y < a2 ∨ b1 ≤ X ∨ b2 ≤ Y
      · exact absurd (fcell_out hb (a1, a2) (b1, b2) (X, Y) HE1.out HE2.out h) hne
      · omega
    have HOUT := Lib.hid hout
    have HFEN := Lib.hid hfen
    have ga := fun w ha => fArea_any (.slice a l.length c) l w ha hl6
    have gc := fun X Y (hX : -9223372036854775808 ≤ X ∧ X ≤ 9223372036854775807) (hY : -9223372036854775808 ≤ Y ∧ Y ≤ 9223372036854775807) w ha => fCell_any (.slice a l.length c) l X Y w ha hl6 hX hY
    have GA := Lib.hid ga
    have GC := Lib.hid gc
    clear hb hR hw hfen hout ga gc w1 w2 w3 w4
    go_wp2_with (first
      | (go_at_call 21; with_reducible refine (S1.out _).mono ?_; rintro e u1 ⟨rfl, hb⟩; replace hB6 := hB6.trans (hb.mono hB6.size); obtain ⟨cb0, cb1, _, _⟩ := HCB.out.kept hb; have HCA7 := Lib.hid (HCA.out.kept hb); have HCB7 := Lib.hid (HCB.out.kept hb); have HP7 := Lib.hid (HP6.out.kept hb); clear hb S1 HCA HCB HP6)
      | (go_at_call 21; with_reducible refine (S2.out _).mono ?_; rintro e u2 ⟨rfl, hb⟩; replace hB6 := hB6.trans (hb.mono hB6.size); have HCA8 := Lib.hid (HCA7.out.kept hb); have HCB8 := Lib.hid (HCB7.out.kept hb); obtain ⟨da0, da1, _, _⟩ := HCA7.out.kept hb; obtain ⟨db0, db1, _, _⟩ := HCB7.out.kept hb; have HP8 := Lib.hid (HP7.out.kept hb); clear hb S2 HCA7 HCB7 HP7)
      | (go_at_call 10; with_reducible refine (GR.out _ HP8.out hl6).mono ?_; rintro e u3 ⟨rfl, hb⟩; replace hB6 := hB6.trans (hb.mono hB6.size); have HCA9 := Lib.hid (HCA8.out.kept hb); have HCB9 := Lib.hid (HCB8.out.kept hb); have HP9 := Lib.hid (HP8.out.kept hb); clear hb GR HCA8 HCB8 HP8)
      | (go_at_call 11; with_reducible refine (GS.out _ HP9.out hl6).mono ?_; rintro e u4 ⟨rfl, hb⟩; replace hB6 := hB6.trans (hb.mono hB6.size); have CA10 := HCA9.out.kept hb; have CB10 := HCB9.out.kept hb; obtain ⟨ea0, ea1, _, _⟩ := HCA9.out.kept hb; clear hb GS HCA9 HCB9 HP9))
    go_loopw [5, 6, 7, 8] (fun s x _ _ wr => ∃ i : Nat, i ≤ M ∧ x = .int .i64 (a1 - 1 + i) ∧ s = .int .i64 (cols l a1 a2 N i) ∧ Below w.heap.size w wr ∧ Cell2 wr N5 (.int .i64 a1) (.int .i64 a2) ∧ Cell2 wr (N5 + 1) (.int .i64 b1) (.int .i64 b2)) (fun _ x _ _ _ => (b1 + 1 - intOf x).toNat)
    case atStart => exact ⟨0, Nat.zero_le _, by simp, rfl, hB6, CA10, CB10⟩
    case round =>
      clear hB6 CA10 CB10 ca0 ca1 cb0 cb1 da0 da1 db0 db1 ea0 ea1
      obtain ⟨i, hi, rfl, rfl, hB, CA, CB⟩ := hrel
      have hco := HCO.out i
      obtain ⟨T, hT⟩ : ∃ T, cols l a1 a2 N i = T := ⟨_, rfl⟩
      obtain ⟨X, hX⟩ : ∃ X, a1 - 1 + (i : Int) = X := ⟨_, rfl⟩
      rw [hT] at hco
      have T0 : -65536 ≤ T := by omega
      have T1 : T ≤ 65536 := by omega
      obtain ⟨ca0, ca1, _, _⟩ := id CA
      obtain ⟨cb0, cb1, _, _⟩ := id CB
      by_cases hlt : i < M
      · have hnext : cols l a1 a2 N (i + 1) = T + colm l X a2 N := by rw [← hT, ← hX]; rfl
        have HNX := Lib.hid hnext
        have X0 : a1 - 1 ≤ X := by omega
        have X1 : X ≤ b1 := by omega
        have HX := Lib.hid hX
        rw [hT, hX]
        clear hco hnext hT hX
        go_wp2
        go_loopw [5, 7, 8] (fun s y _ wr => ∃ j : Nat, j ≤ N ∧ y = .int .i64 (a2 - 1 + j) ∧ s = .int .i64 (T + colm l X a2 j) ∧ Below w.heap.size w wr ∧ Cell2 wr N5 (.int .i64 a1) (.int .i64 a2) ∧ Cell2 wr (N5 + 1) (.int .i64 b1) (.int .i64 b2)) (fun _ y _ _ => (b2 + 1 - intOf y).toNat)
        case atStart => exact ⟨0, Nat.zero_le _, by simp, by simp [colm, sumN], hB, CA, CB⟩
        case round =>
          clear hB CA CB ca0 ca1 cb0 cb1
          obtain ⟨j, hj, rfl, rfl, hB, CA, CB⟩ := hrel
          have hcm := HCM.out X j
          obtain ⟨U, hU⟩ : ∃ U, colm l X a2 j = U := ⟨_, rfl⟩
          obtain ⟨Y, hY⟩ : ∃ Y, a2 - 1 + (j : Int) = Y := ⟨_, rfl⟩
          rw [hU] at hcm
          have U0 : -4096 ≤ U := by omega
          have U1 : U ≤ 4096 := by omega
          by_cases hlt2 : j < N
          · have hnext : colm l X a2 (j + 1) = U + fcell l (X, Y) := by rw [← hU, ← hY]; rfl
            have Y0 : a2 - 1 ≤ Y := by omega
            have Y1 : Y ≤ b2 := by omega
            have hk := HCB2.out (X, Y)
            have ho := HOUT.out X Y
            have gc := GC.out X Y (by omega) (by omega)
            obtain ⟨K, hK⟩ : ∃ K, fcell l (X, Y) = K := ⟨_, rfl⟩
            rw [hK] at hk ho gc hnext
            have K0 : -256 ≤ K := hk.1
            have K1 : K ≤ 256 := hk.2
            have HC := Lib.hid gc
            have HN2 := Lib.hid hnext
            have HY := Lib.hid hY
            have HAR := Lib.hid (HA.out.kept hB)
            rw [hU, hY]
            clear hcm hnext hU hY hk gc hK
            have hKc : K = 0 ∨ (K ≠ 0 ∧ a1 ≤ X ∧ a2 ≤ Y ∧ X < b1 ∧ Y < b2) := by
              by_cases h : K = 0
              · exact .inl h
              · exact .inr ⟨h, ho h⟩
            clear ho
            rcases hKc with rfl | ⟨k1, k2, k3, k4, k5⟩
            · obtain ⟨da0, da1, _, _⟩ := id CA
              obtain ⟨db0, db1, _, _⟩ := id CB
              go_wp2_with (go_at_call 19; with_reducible refine (HC.out _ HAR.out).mono ?_; rintro e u1 ⟨rfl, hb⟩; have hB2 := hB.trans (hb.mono hB.size); have CA2 := Lib.hid (CA.kept hb); have CB2 := Lib.hid (CB.kept hb); obtain ⟨ca0, ca1, _, _⟩ := CA2.out; obtain ⟨cb0, cb1, _, _⟩ := CB2.out; clear hb HC HAR hB CA CB)
              go_roundw
              case rel => exact ⟨j + 1, by omega, by rw [← HY.out]; go_num, by rw [HN2.out]; go_num, hB2, CA2.out, CB2.out⟩
              case measure => simp [intOf]; omega
            · obtain ⟨da0, da1, _, _⟩ := id CA
              obtain ⟨db0, db1, _, _⟩ := id CB
              have f1 : (K == 0) = false := beq_no' k1
              have f2 : (X == b1) = false := beq_no' (by omega)
              have f3 : (Y == b2) = false := beq_no' (by omega)
              go_wp2_with (go_at_call 19; with_reducible refine (HC.out _ HAR.out).mono ?_; rintro e u1 ⟨rfl, hb⟩; have hB2 := hB.trans (hb.mono hB.size); have CA2 := Lib.hid (CA.kept hb); have CB2 := Lib.hid (CB.kept hb); obtain ⟨ca0, ca1, _, _⟩ := CA2.out; obtain ⟨cb0, cb1, _, _⟩ := CB2.out; clear hb HC HAR hB CA CB)
              go_roundw
              case rel => exact ⟨j + 1, by omega, by rw [← HY.out]; go_num, by rw [HN2.out]; go_num, hB2, CA2.out, CB2.out⟩
              case measure => simp [intOf]; omega
          · have hj2 : j = N := by omega
            subst hj2
            have Y0 : Y = b2 + 1 := by omega
            rw [hU, hY]
            have HU := Lib.hid hU
            clear hcm hU hY
            obtain ⟨ca0, ca1, _, _⟩ := id CA
            obtain ⟨cb0, cb1, _, _⟩ := id CB
            have HCA := Lib.hid CA
            have HCB := Lib.hid CB
            clear CA CB
            go_wp2
            go_roundw
            case rel => exact ⟨i + 1, by omega, by rw [← HX.out]; go_num, by rw [HNX.out, HU.out], hB, HCA.out, HCB.out⟩
            case measure => simp [intOf]; omega
      · have hi2 : i = M := by omega
        have hfin := HFEN.out
        rw [← hi2, hT] at hfin
        have ga := GA.out
        rw [← hfin] at ga
        have HG := Lib.hid ga
        have HP := Lib.hid (HA.out.kept hB)
        have X0 : X = b1 + 1 := by omega
        rw [hT, hX]
        clear hco hT hX hfin ga hi2 CA CB
        go_wp2_with (first
          | (go_at_call 17; with_reducible refine (HG.out _ HP.out).mono ?_; rintro e u1 ⟨rfl, hb⟩; replace hB := hB.trans (hb.mono hB.size); clear hb HG)
          | (go_at_call 7; refine (HAL.out _).mono ?_; rintro e u8 ⟨rfl, hb⟩; replace hB := hB.trans (hb.mono hB.size); clear hb HAL))
        go_ret
        exact ⟨rfl, hB⟩
  all_goals
    go_wp2_with (first
      | (go_at_call 21; with_reducible refine (S1.out _).mono ?_; rintro e u1 ⟨rfl, hb⟩; replace hB6 := hB6.trans (hb.mono hB6.size); obtain ⟨cb0, cb1, _, _⟩ := HCB.out.kept hb; have HCA7 := Lib.hid (HCA.out.kept hb); have HCB7 := Lib.hid (HCB.out.kept hb); have HP7 := Lib.hid (HP6.out.kept hb); clear hb S1 HCA HCB HP6)
      | (go_at_call 21; with_reducible refine (S2.out _).mono ?_; rintro e u2 ⟨rfl, hb⟩; replace hB6 := hB6.trans (hb.mono hB6.size); obtain ⟨da0, da1, _, _⟩ := HCA7.out.kept hb; obtain ⟨db0, db1, _, _⟩ := HCB7.out.kept hb; have HP8 := Lib.hid (HP7.out.kept hb); clear hb S2 HCA7 HCB7 HP7)
      | (go_at_call 10; with_reducible refine (GR.out _ HP8.out hl6).mono ?_; rintro e u3 ⟨rfl, hb⟩; replace hB6 := hB6.trans (hb.mono hB6.size); clear hb GR)
      | (go_at_call 7; refine (HAL.out _).mono ?_; rintro e u8 ⟨rfl, hb⟩; replace hB6 := hB6.trans (hb.mono hB6.size); clear hb HAL))
    go_ret
    exact ⟨rfl, hB6⟩
end Go.Proofs.Ythndmoipemnllaa
