/- Stage 12's program: the tables that lie in the program's variables, the small functions, and what is told of each skill. -/
import Derived.Test.YtfalohmdjnhikaaDoorSkillRefC
import Derived.Test.YtfalohmdjnhikaaDoorSkillMathB
import Derived.Test.YtfalohmdjnhikaaDoorLabels
import Derived.Laws.BitsAllLaws
import Derived.Laws.Bits128
import Derived.Shelf.Spec.TrailingZeros
namespace Go.Proofs.YtfalohmdjnhikaaDoor
open Go.RowKit

/-- the two tables -/
structure Tabs (w : World) : Prop where
  sgn : ∀ n, n < 64 → w.cell? ⟨0, n, none⟩ = some (.int .u8 ((sg n).toNat : Int))
  brj : ∀ j, j < Lib.deBruijn64tab.length → w.cell? ⟨1, j, none⟩ = some (.int .u8 (Lib.deBruijn64tab.getD j 0))
theorem Tabs.below {w w' : World} (h : Tabs w) (hb : Below w.heap.size w w') : Tabs w' :=
  ⟨fun n hn => (hb.cell (World.block_lt_of_cell? _ _ (h.sgn n hn))).trans (h.sgn n hn), fun j hj => (hb.cell (World.block_lt_of_cell? _ _ (h.brj j hj))).trans (h.brj j hj)⟩

/-! ### Has, Count -/
set_option maxHeartbeats 2000000 in
theorem sHas_any (a b : Nat) (W : World) (ha : a < 2 ^ 64) (hb : b < 2 ^ 64) : Calls Tryd.prog 12 #[.int .u64 (a : Int), .int .u64 (b : Int)] W fun e w' => e = .returned (.bool (hasK a b 64)) ∧ Below W.heap.size W w' := by
  have h1 := u64_andNot_nat b a hb ha
  have h2 := hasK_andNot a b ha
  generalize b &&& (18446744073709551615 - a) = x at *
  have H2 := Lib.hid h2
  clear h2
  go_enter Tryd.func12, Tryd.ntmps12
  go_wp2
  go_ret
  exact ⟨ret_b (by rw [H2.out]; by_cases h : x = 0 <;> simp [h]), Below.refl _ _⟩

theorem m85 : rep 85 8 = 6148914691236517205 := by decide
theorem m51 : rep 51 8 = 3689348814741910323 := by decide
theorem m15 : rep 15 8 = 1085102592571150095 := by decide

set_option maxHeartbeats 4000000 in
set_option maxRecDepth 100000 in
theorem ones_any (x : Nat) (W : World) (hx : x < 2 ^ 64) : Calls Tryd.prog 22 #[.int .u64 (x : Int)] W fun e w' => e = .returned (.int .i64 ((lsS x 64).length : Nat)) ∧ W = w' := by
  obtain ⟨y, y1, y2, y3, hw, e1, e2, e3, l0, l1, l2, l3, hm⟩ := count_all x
  unfold WW T3 T2 T1 at hw
  rw [m85, m51, m15] at hw
  have k1 := u64_and_nat (x / 2) 6148914691236517205 (by omega) (by decide)
  have k2 := u64_and_nat x 6148914691236517205 hx (by decide)
  have c1 : x / 2 &&& 6148914691236517205 < 6148914691236517206 := Nat.lt_succ_of_le Nat.and_le_right
  have c2 : x &&& 6148914691236517205 < 6148914691236517206 := Nat.lt_succ_of_le Nat.and_le_right
  generalize x / 2 &&& 6148914691236517205 = x1 at *
  generalize x &&& 6148914691236517205 = x2 at *
  have k3 := u64_and_nat ((x1 + x2) / 4) 3689348814741910323 (by omega) (by decide)
  have k4 := u64_and_nat (x1 + x2) 3689348814741910323 (by omega) (by decide)
  have c3 : (x1 + x2) / 4 &&& 3689348814741910323 < 3689348814741910324 := Nat.lt_succ_of_le Nat.and_le_right
  have c4 : (x1 + x2) &&& 3689348814741910323 < 3689348814741910324 := Nat.lt_succ_of_le Nat.and_le_right
  generalize (x1 + x2) / 4 &&& 3689348814741910323 = x3 at *
  generalize (x1 + x2) &&& 3689348814741910323 = x4 at *
  have k5 := u64_and_nat ((x3 + x4) / 16 + (x3 + x4)) 1085102592571150095 (by omega) (by decide)
  rw [hw] at k5
  replace k1 : bits .and .u64 ((x : Int) / 2) 6148914691236517205 = (x1 : Int) := k1
  replace k2 : bits .and .u64 (x : Int) 6148914691236517205 = (x2 : Int) := k2
  have w1 : IntKind.u64.wrap ((x1 : Int) + (x2 : Int)) = ((x1 + x2 : Nat) : Int) := by rw [IntKind.wrap_u64]; omega
  generalize x1 + x2 = z1 at *
  replace k3 : bits .and .u64 ((z1 : Int) / 4) 3689348814741910323 = (x3 : Int) := k3
  replace k4 : bits .and .u64 (z1 : Int) 3689348814741910323 = (x4 : Int) := k4
  have w2 : IntKind.u64.wrap ((x3 : Int) + (x4 : Int)) = ((x3 + x4 : Nat) : Int) := by rw [IntKind.wrap_u64]; omega
  have hz2 : x3 + x4 < 7378697629483820648 := by omega
  generalize x3 + x4 = z2 at *
  have w3 : IntKind.u64.wrap ((z2 : Int) / 16 + (z2 : Int)) = ((z2 / 16 + z2 : Nat) : Int) := by rw [IntKind.wrap_u64]; omega
  generalize z2 / 16 + z2 = z3 at *
  replace k5 : bits .and .u64 (z3 : Int) 1085102592571150095 = (y : Int) := k5
  have w4 : IntKind.u64.wrap ((y : Int) + (y : Int) / 256) = (y1 : Int) := by rw [IntKind.wrap_u64]; omega
  have w5 : IntKind.u64.wrap ((y1 : Int) + (y1 : Int) / 65536) = (y2 : Int) := by rw [IntKind.wrap_u64]; omega
  have w6 : IntKind.u64.wrap ((y2 : Int) + (y2 : Int) / 4294967296) = (y3 : Int) := by rw [IntKind.wrap_u64]; omega
  have w7 : IntKind.i64.wrap (y3 : Int) = (y3 : Int) := by rw [IntKind.wrap_i64]; omega
  have k7 : (y3 : Int) % 128 = ((lsS x 64).length : Int) := by omega
  have k6 : bits .and .i64 (y3 : Int) 127 = ((lsS x 64).length : Int) := by rw [i64_and127, k7]
  have y30 : (y3 : Int) ≤ 9000000000000000000 := by omega
  generalize (lsS x 64).length = n at *
  clear hm hw e1 e2 e3 l0 l1 l2 l3 c1 c2 c3 c4 hz2
  go_enter Tryd.func22, Tryd.ntmps22
  go_wp2
  go_ret
  exact ⟨rfl, rfl⟩
set_option maxHeartbeats 1000000 in
theorem sCount_any (w : Nat) (W : World) (hw : w < 2 ^ 64) : Calls Tryd.prog 14 #[.int .u64 (w : Int)] W fun e w' => e = .returned (.int .i64 ((lsS w 64).length : Nat)) ∧ Below W.heap.size W w' := by
  have h := Lib.hid (ones_any w W hw)
  generalize (lsS w 64).length = n at *
  go_enter Tryd.func14, Tryd.ntmps14
  go_wp2_with (go_at_call 22; (with_reducible refine h.out.mono ?_); rintro e w1 ⟨rfl, rfl⟩)
  go_ret
  exact ⟨rfl, Below.refl _ _⟩
/-! ### Of -/
theorem u64_fits {P : Nat} (h : P < 2 ^ 64) : IntKind.u64.wrap (P : Int) = (P : Int) := IntWalk.u64_in _ (by omega)
theorem inI_next (l : List Int) (j n : Nat) (hj : j < l.length) (he : l[j] = (n : Int)) (hn : n < 64) : ofS (inI (l.take (j + 1))) 64 = ofS (inI (l.take j)) 64 ||| 2 ^ n := by
  refine ofS_or hn fun i _ => ?_
  unfold inI
  rw [take_mem l _ j hj, he]
  congr 1
  exact decide_eq_decide.2 ⟨fun h => by omega, fun h => by omega⟩
theorem inI_past (l : List Int) (j : Nat) (hj : j < l.length) (he : l[j] < 0 ∨ 64 ≤ l[j]) : ofS (inI (l.take (j + 1))) 64 = ofS (inI (l.take j)) 64 := by
  refine ofS_congr 64 fun i hi => ?_
  unfold inI
  rw [take_mem l _ j hj, decide_eq_false (show ¬ l[j] = (i : Int) by omega), Bool.or_false]
set_option maxHeartbeats 4000000 in
set_option maxRecDepth 100000 in
theorem sOf_any (va : Value) (l : List Int) (W : World) (ha : IntsAt W va l) (hl : l.length ≤ 1000000) : Calls Tryd.prog 10 #[va] W fun e w' => e = .returned (.int .u64 (ofS (inI l) 64 : Int)) ∧ Below W.heap.size W w' := by
  have HA := Lib.hid ha
  obtain ⟨a, c, rfl⟩ := IntsAt.form ha
  clear ha
  go_enter Tryd.func10, Tryd.ntmps10
  go_wp2
  go_loopw [3, 8] (fun wv jv wr => ∃ j : Nat, j ≤ l.length ∧ jv = .int .i64 j ∧ wv = .int .u64 (ofS (inI (l.take j)) 64 : Nat) ∧ W = wr) (fun _ jv _ => l.length - (intOf jv).toNat)
  case atStart => exact ⟨0, by omega, rfl, by rw [List.take_zero, show inI [] = fun _ => false from rfl, ofS_none]; rfl, rfl⟩
  case round =>
    obtain ⟨j, hj, rfl, rfl, rfl⟩ := hrel
    by_cases hlj : j < l.length
    · obtain ⟨g, o, cc, e, hlc, _, p0⟩ := IntsAt.spot HA.out j hlj
      cases e
      have j1 : (j : Int) < (l.length : Int) := by omega
      have j0 : (0 : Int) ≤ (j : Int) := by omega
      have hnx := inI_next l j
      have hpa := inI_past l j hlj
      have hlt := ofS_lt (inI (l.take j)) 64
      generalize ofS (inI (l.take j)) 64 = A at *
      obtain ⟨B, hBB⟩ : ∃ B, ofS (inI (l.take (j + 1))) 64 = B := ⟨_, rfl⟩
      rw [hBB] at hnx hpa
      have HBB := Lib.hid hBB
      clear hBB
      have HN := Lib.hid fun n he hn => hnx n hlj he hn
      have HP := Lib.hid hpa
      obtain ⟨x, hx⟩ : ∃ x, l[j] = x := ⟨_, rfl⟩
      rw [hx] at HN HP p0
      clear hnx hpa hx hlj
      by_cases hr : 0 ≤ x ∧ x < 64
      · obtain ⟨n, rfl⟩ : ∃ n : Nat, x = (n : Int) := ⟨x.toNat, by omega⟩
        have hn : n < 64 := by omega
        have hB := HN.out n rfl hn
        have n0 : (0 : Int) ≤ (n : Int) := hr.1
        have n1 : (n : Int) < 64 := hr.2
        have hp : 2 ^ n < 2 ^ 64 := Nat.pow_lt_pow_right (by decide) hn
        have hor := u64_or_nat A (2 ^ n) hlt hp
        have hsh : IntKind.u64.wrap ((2 : Int) ^ n) = ((2 ^ n : Nat) : Int) := by rw [show ((2 : Int) ^ n) = ((2 ^ n : Nat) : Int) by simp]; exact u64_fits hp
        rw [← hB] at hor
        generalize 2 ^ n = P at *
        clear hB hlt hp hr HN HP
        go_wp2
        go_roundw
        case rel => exact ⟨j + 1, by omega, by go_num, by rw [HBB.out], by trivial⟩
        case measure => simp [intOf] <;> omega
      · have hB := HP.out (by omega)
        subst hB
        clear HN HP hlt
        by_cases hx0 : 0 ≤ x
        · have hx1 : ¬ x < 64 := by omega
          go_wp2
          go_roundw
          case rel => exact ⟨j + 1, by omega, by go_num, by rw [HBB.out], by trivial⟩
          case measure => simp [intOf] <;> omega
        · go_wp2
          go_roundw
          case rel => exact ⟨j + 1, by omega, by go_num, by rw [HBB.out], by trivial⟩
          case measure => simp [intOf] <;> omega
    · have hke : j = l.length := by omega
      subst hke
      have HE := Lib.hid (List.take_length (l := l))
      obtain ⟨A, hA⟩ : ∃ A, ofS (inI (l.take l.length)) 64 = A := ⟨_, rfl⟩
      rw [hA]
      have HAA := Lib.hid hA
      clear hA
      go_wp2
      go_ret
      have := HAA.out
      rw [HE.out] at this
      subst this
      exact ⟨rfl, Below.refl _ _⟩

/-! ### each -/
set_option maxHeartbeats 1000000 in
theorem tz_core (x k idx : Nat) (w : World) (hx0 : ((x : Int) == 0) = false)
    (key : IntKind.u64.wrap (bits BinOp.and IntKind.u64 (x : Int) (IntKind.u64.wrap (-(x : Int))) * 285870213051353865) / 288230376151711744 = (idx : Int))
    (hi : idx < 64) (hk : k < 64) (hcell : w.cell? ⟨1, idx, none⟩ = some (.int .u8 k)) :
    Calls Tryd.prog 28 #[.int .u64 x] w fun e w' => e = .returned (.int .i64 k) ∧ w' = w := by
  have i1 : (idx : Int) < 64 := by omega
  have i0 : (0 : Int) ≤ (idx : Int) := by omega
  go_enter Tryd.func28, Tryd.ntmps28
  go_wp2_with (simp only [key])
  go_ret
  exact ⟨rfl, rfl⟩
theorem tz_any (x : Nat) (w : World) (hx : x < 2 ^ 64) (hT : Tabs w) : Calls Tryd.prog 28 #[.int .u64 (x : Int)] w fun e w' => e = .returned (.int .i64 ((Lib.ctz 64 x : Nat) : Int)) ∧ w' = w := by
  by_cases hx0 : x = 0
  · subst hx0
    go_enter Tryd.func28, Tryd.ntmps28
    go_wp2
    go_ret
    exact ⟨rfl, rfl⟩
  · obtain ⟨hlow, hk⟩ := Lib.lowest_bit 64 x hx0 hx
    obtain ⟨hi, htab⟩ := Lib.deBruijn64_at _ hk
    have hcell := hT.brj _ hi
    rw [htab] at hcell
    exact tz_core x _ _ w (by simp; omega) (tz64_key x _ hx hx0 hlow) hi hk hcell

set_option maxHeartbeats 2000000 in
set_option maxRecDepth 100000 in
theorem each_List (x0 : Nat) (c1 : Value) (J : List Nat → World → Prop) (hx0 : x0 < 2 ^ 64) (hJT : ∀ d w1, J d w1 → Tabs w1)
    (hT : ∀ (d : List Nat) (n : Nat) (w1 : World), n < 64 → d ++ [n] <+: lsS x0 64 → J d w1 → Calls Tryd.prog 21 #[.int .i64 (n : Int), c1] w1 fun e w' => e = .returned (.tuple #[]) ∧ J (d ++ [n]) w')
    (w : World) (h0 : J [] w) :
    Calls Tryd.prog 20 #[.int .u64 (x0 : Int), .func (.func 21) #[] #[c1]] w fun e w' => e = .returned (.tuple #[]) ∧ J (lsS x0 64) w' := by
  have HJT := Lib.hid hJT
  have HT := Lib.hid hT
  have H0 := Lib.hid h0
  clear hJT hT h0
  go_enter Tryd.func20, Tryd.ntmps20
  refine wp_scope_goto 0 (fun n a' w' => ∃ (X : Int) (d : List Nat), X = n ∧ n ≤ x0 ∧ d ++ lsS n 64 = lsS x0 64 ∧ J d w' ∧ ∃ u2 u3 u4 u5 u6 u7 u8 u9 u10 u11 u12 u13, a' = { tmps := #[.int .u64 X, .func (.func 21) #[] #[c1], u2, u3, u4, u5, u6, u7, u8, u9, u10, u11, u12, u13], defers := [] }) rfl rfl ?_ ?_
  · rintro n a' w' ⟨X, d, hX, hn, hd, hJ, u2, u3, u4, u5, u6, u7, u8, u9, u10, u11, u12, u13, rfl⟩ K hK
    have HJ := Lib.hid hJ
    clear hJ
    by_cases hz : n = 0
    · subst hz
      subst hX
      rw [lsS_zero, List.append_nil] at hd
      have HD := Lib.hid hd
      clear hd hK hn
      go_wp2
      simp only [Exit.jump]
      exact bodyPost_ret (v := .tuple #[]) (by simp [results, Tryd.results20]) rfl ⟨rfl, by rw [← HD.out]; exact HJ.out⟩
    · have hn64 : n < 2 ^ 64 := by omega
      obtain ⟨hc, hlt, hls⟩ := low_step n hz hn64
      rw [hls] at hd
      have hand := u64_and_nat n (n - 1) hn64 (by omega)
      have hw : IntKind.u64.wrap (X - 1) = ((n - 1 : Nat) : Int) := by rw [IntWalk.u64_in _ (by omega)]; omega
      have TZ := Lib.hid (fun w1 h => tz_any n w1 hn64 h)
      generalize Lib.ctz 64 n = t at *
      generalize n &&& (n - 1) = m at *
      have TE := Lib.hid (fun w1 => HT.out d t w1 hc (by rw [← hd]; exact ⟨lsS m 64, by simp⟩))
      have HD := Lib.hid hd
      have HK := Lib.hid hK
      have hX0 : (X == 0) = false := by simp; omega
      subst hX
      have hm : (m : Int) ≤ 18446744073709551615 := by omega
      clear hd hls hK hn64 hc
      generalize n - 1 = n1 at *
      have hLT := Lib.hid hlt
      have hNX := Lib.hid hn
      clear hlt hn
      go_wp2_with (first
        | (go_at_call 28; (with_reducible refine (TZ.out _ (HJT.out _ _ HJ.out)).mono ?_); rintro e w1 ⟨rfl, rfl⟩)
        | (go_at_call 21; (with_reducible refine (TE.out _ HJ.out).mono ?_); rintro e w1 ⟨rfl, hj⟩; have HJ2 := Lib.hid hj; clear hj))
      go_step3
      refine ⟨rfl, HK.out m _ _ hLT.out ⟨_, d ++ [t], rfl, by have := hLT.out; have := hNX.out; omega, by rw [List.append_assoc]; exact HD.out, HJ2.out, _, _, _, _, _, _, _, _, _, _, _, _,  rfl⟩⟩
  · intro K hpass
    go_wp2
    go_step3
    rename_i hback
    exact hback _ _ (hpass x0 _ _ ⟨_, [], rfl, Nat.le_refl _, rfl, H0.out, _, _, _, _, _, _, _, _, _, _, _, _,  rfl⟩)

set_option maxHeartbeats 2000000 in
set_option maxRecDepth 100000 in
theorem each_Text (x0 : Nat) (c1 : Value) (J : List Nat → World → Prop) (hx0 : x0 < 2 ^ 64) (hJT : ∀ d w1, J d w1 → Tabs w1)
    (hT : ∀ (d : List Nat) (n : Nat) (w1 : World), n < 64 → d ++ [n] <+: lsS x0 64 → J d w1 → Calls Tryd.prog 25 #[.int .i64 (n : Int), c1] w1 fun e w' => e = .returned (.tuple #[]) ∧ J (d ++ [n]) w')
    (w : World) (h0 : J [] w) :
    Calls Tryd.prog 20 #[.int .u64 (x0 : Int), .func (.func 25) #[] #[c1]] w fun e w' => e = .returned (.tuple #[]) ∧ J (lsS x0 64) w' := by
  have HJT := Lib.hid hJT
  have HT := Lib.hid hT
  have H0 := Lib.hid h0
  clear hJT hT h0
  go_enter Tryd.func20, Tryd.ntmps20
  refine wp_scope_goto 0 (fun n a' w' => ∃ (X : Int) (d : List Nat), X = n ∧ n ≤ x0 ∧ d ++ lsS n 64 = lsS x0 64 ∧ J d w' ∧ ∃ u2 u3 u4 u5 u6 u7 u8 u9 u10 u11 u12 u13, a' = { tmps := #[.int .u64 X, .func (.func 25) #[] #[c1], u2, u3, u4, u5, u6, u7, u8, u9, u10, u11, u12, u13], defers := [] }) rfl rfl ?_ ?_
  · rintro n a' w' ⟨X, d, hX, hn, hd, hJ, u2, u3, u4, u5, u6, u7, u8, u9, u10, u11, u12, u13, rfl⟩ K hK
    have HJ := Lib.hid hJ
    clear hJ
    by_cases hz : n = 0
    · subst hz
      subst hX
      rw [lsS_zero, List.append_nil] at hd
      have HD := Lib.hid hd
      clear hd hK hn
      go_wp2
      simp only [Exit.jump]
      exact bodyPost_ret (v := .tuple #[]) (by simp [results, Tryd.results20]) rfl ⟨rfl, by rw [← HD.out]; exact HJ.out⟩
    · have hn64 : n < 2 ^ 64 := by omega
      obtain ⟨hc, hlt, hls⟩ := low_step n hz hn64
      rw [hls] at hd
      have hand := u64_and_nat n (n - 1) hn64 (by omega)
      have hw : IntKind.u64.wrap (X - 1) = ((n - 1 : Nat) : Int) := by rw [IntWalk.u64_in _ (by omega)]; omega
      have TZ := Lib.hid (fun w1 h => tz_any n w1 hn64 h)
      generalize Lib.ctz 64 n = t at *
      generalize n &&& (n - 1) = m at *
      have TE := Lib.hid (fun w1 => HT.out d t w1 hc (by rw [← hd]; exact ⟨lsS m 64, by simp⟩))
      have HD := Lib.hid hd
      have HK := Lib.hid hK
      have hX0 : (X == 0) = false := by simp; omega
      subst hX
      have hm : (m : Int) ≤ 18446744073709551615 := by omega
      clear hd hls hK hn64 hc
      generalize n - 1 = n1 at *
      have hLT := Lib.hid hlt
      have hNX := Lib.hid hn
      clear hlt hn
      go_wp2_with (first
        | (go_at_call 28; (with_reducible refine (TZ.out _ (HJT.out _ _ HJ.out)).mono ?_); rintro e w1 ⟨rfl, rfl⟩)
        | (go_at_call 25; (with_reducible refine (TE.out _ HJ.out).mono ?_); rintro e w1 ⟨rfl, hj⟩; have HJ2 := Lib.hid hj; clear hj))
      go_step3
      refine ⟨rfl, HK.out m _ _ hLT.out ⟨_, d ++ [t], rfl, by have := hLT.out; have := hNX.out; omega, by rw [List.append_assoc]; exact HD.out, HJ2.out, _, _, _, _, _, _, _, _, _, _, _, _,  rfl⟩⟩
  · intro K hpass
    go_wp2
    go_step3
    rename_i hback
    exact hback _ _ (hpass x0 _ _ ⟨_, [], rfl, Nat.le_refl _, rfl, H0.out, _, _, _, _, _, _, _, _, _, _, _, _,  rfl⟩)

set_option maxHeartbeats 2000000 in
set_option maxRecDepth 100000 in
theorem each_Parse (x0 : Nat) (c1 c2 : Value) (J : List Nat → World → Prop) (hx0 : x0 < 2 ^ 64) (hJT : ∀ d w1, J d w1 → Tabs w1)
    (hT : ∀ (d : List Nat) (n : Nat) (w1 : World), n < 64 → d ++ [n] <+: lsS x0 64 → J d w1 → Calls Tryd.prog 23 #[.int .i64 (n : Int), c1, c2] w1 fun e w' => e = .returned (.tuple #[]) ∧ J (d ++ [n]) w')
    (w : World) (h0 : J [] w) :
    Calls Tryd.prog 20 #[.int .u64 (x0 : Int), .func (.func 23) #[] #[c1, c2]] w fun e w' => e = .returned (.tuple #[]) ∧ J (lsS x0 64) w' := by
  have HJT := Lib.hid hJT
  have HT := Lib.hid hT
  have H0 := Lib.hid h0
  clear hJT hT h0
  go_enter Tryd.func20, Tryd.ntmps20
  refine wp_scope_goto 0 (fun n a' w' => ∃ (X : Int) (d : List Nat), X = n ∧ n ≤ x0 ∧ d ++ lsS n 64 = lsS x0 64 ∧ J d w' ∧ ∃ u2 u3 u4 u5 u6 u7 u8 u9 u10 u11 u12 u13, a' = { tmps := #[.int .u64 X, .func (.func 23) #[] #[c1, c2], u2, u3, u4, u5, u6, u7, u8, u9, u10, u11, u12, u13], defers := [] }) rfl rfl ?_ ?_
  · rintro n a' w' ⟨X, d, hX, hn, hd, hJ, u2, u3, u4, u5, u6, u7, u8, u9, u10, u11, u12, u13, rfl⟩ K hK
    have HJ := Lib.hid hJ
    clear hJ
    by_cases hz : n = 0
    · subst hz
      subst hX
      rw [lsS_zero, List.append_nil] at hd
      have HD := Lib.hid hd
      clear hd hK hn
      go_wp2
      simp only [Exit.jump]
      exact bodyPost_ret (v := .tuple #[]) (by simp [results, Tryd.results20]) rfl ⟨rfl, by rw [← HD.out]; exact HJ.out⟩
    · have hn64 : n < 2 ^ 64 := by omega
      obtain ⟨hc, hlt, hls⟩ := low_step n hz hn64
      rw [hls] at hd
      have hand := u64_and_nat n (n - 1) hn64 (by omega)
      have hw : IntKind.u64.wrap (X - 1) = ((n - 1 : Nat) : Int) := by rw [IntWalk.u64_in _ (by omega)]; omega
      have TZ := Lib.hid (fun w1 h => tz_any n w1 hn64 h)
      generalize Lib.ctz 64 n = t at *
      generalize n &&& (n - 1) = m at *
      have TE := Lib.hid (fun w1 => HT.out d t w1 hc (by rw [← hd]; exact ⟨lsS m 64, by simp⟩))
      have HD := Lib.hid hd
      have HK := Lib.hid hK
      have hX0 : (X == 0) = false := by simp; omega
      subst hX
      have hm : (m : Int) ≤ 18446744073709551615 := by omega
      clear hd hls hK hn64 hc
      generalize n - 1 = n1 at *
      have hLT := Lib.hid hlt
      have hNX := Lib.hid hn
      clear hlt hn
      go_wp2_with (first
        | (go_at_call 28; (with_reducible refine (TZ.out _ (HJT.out _ _ HJ.out)).mono ?_); rintro e w1 ⟨rfl, rfl⟩)
        | (go_at_call 23; (with_reducible refine (TE.out _ HJ.out).mono ?_); rintro e w1 ⟨rfl, hj⟩; have HJ2 := Lib.hid hj; clear hj))
      go_step3
      refine ⟨rfl, HK.out m _ _ hLT.out ⟨_, d ++ [t], rfl, by have := hLT.out; have := hNX.out; omega, by rw [List.append_assoc]; exact HD.out, HJ2.out, _, _, _, _, _, _, _, _, _, _, _, _,  rfl⟩⟩
  · intro K hpass
    go_wp2
    go_step3
    rename_i hback
    exact hback _ _ (hpass x0 _ _ ⟨_, [], rfl, Nat.le_refl _, rfl, H0.out, _, _, _, _, _, _, _, _, _, _, _, _,  rfl⟩)
end Go.Proofs.YtfalohmdjnhikaaDoor
