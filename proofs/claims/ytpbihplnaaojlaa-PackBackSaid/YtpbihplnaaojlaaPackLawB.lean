/- The law PackBack. -/
import Derived.Test.YtpbihplnaaojlaaPackLawT
namespace Go.Proofs.Ytpbihplnaaojlaa
open Go.RowKit

set_option maxHeartbeats 2000000 in
set_option maxRecDepth 100000 in
theorem lBoth_any (va vb : Value) (l r : List UInt8) (w : World) (ha : BytesAt w va l) (hb : BytesAt w vb r) (hl : l.length ≤ 1000000) (hr : r.length ≤ 1000000) :
    Calls Try.prog 21 #[va, vb] w fun e w' => ∃ v, e = .returned v ∧ BytesAt w' v (l ++ r) ∧ Below w.heap.size w w' := by
  obtain ⟨i0, hi, hz0, hz1, hz2⟩ := info_parts info_byte
  have ho := ownb_empty w
  have hB := (Below.refl w.heap.size w).alloc (Nat.le_refl _) (.cells #[] 5)
  have hA1 := ha.kept hB
  have HBB := Lib.hid hb
  obtain ⟨a, c, rfl⟩ := RowsAt.form ha
  obtain ⟨a', c', rfl⟩ := RowsAt.form hb
  clear ha hb
  go_enter Try.func21, Try.ntmps21
  go_wp2_with (at_builtin; refine wpList_append_rows csB_len (by decide) csB_one rfl _ _ 22 rfl w.heap.size 5 i0 (.int .u8 0) 1 Try.underlying22 hi hz0 hz1 hz2 rfl _ _ rfl ho _ _ rfl hA1 (by unfold maxLen; simp; omega) (by simp; omega) (by simp) ?_)
  intro v0 w1 o1 g1
  have hB1 := OwnR.below ho hB (by simp) g1
  replace o1 : OwnB w1 w.heap.size v0 l := o1
  have hB2 := HBB.out.kept hB1
  clear ho hB g1 hA1
  go_wp2_with (at_builtin; refine wpList_append_rows csB_len (by decide) csB_one rfl _ _ 22 rfl w.heap.size 5 i0 (.int .u8 0) 1 Try.underlying22 hi hz0 hz1 hz2 rfl _ _ rfl o1 _ _ rfl hB2 (by unfold maxLen; omega) (by omega) hB1.size ?_)
  intro v2 w2 o2 g2
  have hB3 := OwnR.below o1 hB1 hB1.size g2
  have HO2 := Lib.hid o2
  clear o1 o2 g2 hB1 hB2
  go_wp2
  go_ret
  exact ⟨_, rfl, OwnB.bytes HO2.out, hB3⟩

/-! ### Mathematics -/
theorem take_back (n x : Nat) (l : List UInt8) (hn : n ≤ 8) : takeB (bn (bigs n x) ++ l) (n : Int) = (x % 256 ^ n, l, 0) := by
  have hlen : (bn (bigs n x)).length = n := by rw [bn_len, bigs_length]
  unfold takeB
  rw [if_neg (by omega), if_neg (by rw [List.length_append, hlen]; omega), Int.toNat_natCast]
  rw [show (bn (bigs n x) ++ l).take n = bn (bigs n x) by rw [List.take_append_of_le_length (by omega), List.take_of_length_le (by omega)]]
  rw [show (bn (bigs n x) ++ l).drop n = l by rw [List.drop_append_of_le_length (by omega), List.drop_of_length_le (by omega)]; rfl]
  rw [nb_bn (bigs_byte n x), unbig_bigs]
theorem nb_append (a b : List UInt8) : nb (a ++ b) = nb a ++ nb b := List.map_append
theorem unv_back8 (x : Nat) (l : List UInt8) (hx : x < 18446744073709551616) : unvB (bn (varL x) ++ l) = (x, l, 0) := by
  have h : unv 0 0 (nb (bn (varL x) ++ l)) = (x, nb l, 0) := by
    rw [nb_append, nb_bn (varL_byte x), unv_var (nb l) x 0 0 (.inl rfl) (by simpa using hx)]
    simp
  unfold unvB
  rw [h, bn_nb]
  rfl
theorem unv_lt (l : List Nat) : ∀ i a, i ≤ 9 → a < 128 ^ i → (∀ b ∈ l, b < 256) → (unv i a l).1 < 18446744073709551616 := by
  induction l with
  | nil => intro i a _ _ _; simp [unv]
  | cons b l ih =>
    intro i a hi ha hb
    have hb0 := hb b (by simp)
    unfold unv
    split
    · decide
    · rename_i hn
      obtain ⟨r1, r2⟩ := unv_room hi ha hb0 hn
      split
      · exact r1
      · exact ih (i + 1) _ (by omega) r2 fun x hx => hb x (by simp [hx])
theorem unvB_lt (l : List UInt8) : (unvB l).1 < 18446744073709551616 := unv_lt (nb l) 0 0 (by decide) (by decide) (nb_byte l)
theorem unvB_back (l : List UInt8) (h : (unvB l).2.2 = 0) : bn (varL (unvB l).1) ++ (unvB l).2.1 = l := by
  have h0 : (unv 0 0 (nb l)).2.2 = 0 := by
    have h' : eno (unv 0 0 (nb l)).2.2 = 0 := h
    unfold eno at h'
    split at h'
    · assumption
    · split at h' <;> cases h'
  obtain ⟨⟨z, r, t⟩, hz⟩ : ∃ t, unv 0 0 (nb l) = t := ⟨_, rfl⟩
  rw [hz] at h0
  simp only at h0
  subst h0
  obtain ⟨w, hw, hl, _⟩ := unv_back z r (nb l) 0 0 (nb_byte l) hz
  have hw' : z = w := by simpa using hw
  subst hw'
  have : unvB l = (z, bn r, 0) := by unfold unvB; rw [hz]; rfl
  rw [this]
  show bn (varL z) ++ bn r = l
  rw [← bn_append, ← hl, bn_nb]

set_option maxHeartbeats 4000000 in
set_option maxRecDepth 100000 in
theorem packBack_any (va : Value) (l : List UInt8) (X V : Int) (K : Int) (w : World) (ha : BytesAt w va l) (hl : l.length ≤ 9223372036854775807) (hX : 0 ≤ X ∧ X < 18446744073709551616) (hV : 0 ≤ V ∧ V < 18446744073709551616) (hK : 0 ≤ K ∧ K < 256) :
    Calls Try.prog 6 #[va, .int .u64 X, .int .u64 V, .int .u8 K] w fun e w' => e = .returned (.bool true) ∧ Below w.heap.size w w' := by
  have HAL := Lib.hid fun w => kAlive_any w
  have HA := Lib.hid ha
  obtain ⟨a, c, rfl⟩ := RowsAt.form ha
  clear ha
  by_cases h300 : 300 < l.length
  · go_enter Try.func6, Try.ntmps6
    go_wp2_with (go_at_call 7; (with_reducible refine (HAL.out _).mono ?_); rintro e w1 ⟨rfl, hb⟩)
    go_ret
    exact ⟨rfl, hb⟩
  · obtain ⟨x, rfl⟩ : ∃ x : Nat, X = x := ⟨X.toNat, by omega⟩
    obtain ⟨y, rfl⟩ : ∃ x : Nat, V = x := ⟨V.toNat, by omega⟩
    obtain ⟨n, hn⟩ : ∃ n : Nat, K % 9 = n := ⟨(K % 9).toNat, by omega⟩
    have hn8 : n ≤ 8 := by omega
    have hkn : kk (n : Int) = n := by unfold kk; omega
    have hxx : x < 18446744073709551616 := by omega
    have hvv : y < 18446744073709551616 := by omega
    have hm8 : n = 8 → x % 256 ^ n = x := fun e => by subst e; exact Nat.mod_eq_of_lt (by simpa using hxx)
    have hmlt : x % 256 ^ n < 18446744073709551616 := Nat.lt_of_le_of_lt (Nat.mod_le _ _) hxx
    have hsame : bigs n (x % 256 ^ n) = bigs n x := bigs_same rfl
    have g1 : ∀ w, Calls Try.prog 11 #[.slice none 0 0, .int .u64 (x : Int), .int .i64 (n : Int)] w fun e w' => ∃ v, e = .returned v ∧ BytesAt w' v (bn (bigs n x)) ∧ Below w.heap.size w w' := fun w => by
      have := kPut_any (.slice none 0 0) [] x n w (RowsAt.nil _ _ _) (by simp) hxx
      rw [hkn] at this
      exact this
    have g2 : ∀ w, Calls Try.prog 11 #[.slice none 0 0, .int .u64 ((x % 256 ^ n : Nat) : Int), .int .i64 (n : Int)] w fun e w' => ∃ v, e = .returned v ∧ BytesAt w' v (bn (bigs n x)) ∧ Below w.heap.size w w' := fun w => by
      have := kPut_any (.slice none 0 0) [] (x % 256 ^ n) n w (RowsAt.nil _ _ _) (by simp) hmlt
      rw [hkn, hsame] at this
      exact this
    have hpl : (bn (bigs n x)).length ≤ 8 := by rw [bn_len, bigs_length]; exact hn8
    have g3 := fun w va ha => kTake_any va (bn (bigs n x) ++ l) n w ha (by rw [List.length_append]; omega)
    rw [take_back n x l hn8] at g3
    simp only at g3
    generalize x % 256 ^ n = q at *
    generalize bn (bigs n x) = L at *
    have gb1 := fun w va ha hb => lBoth_any va (.slice a l.length c) L l w ha hb (by omega) (by omega)
    have gs1 := fun w va ha hb => refBSame_any va (.slice a l.length c) l l w ha hb
    have gs2 := fun w va vb ha hb => refBSame_any va vb L L w ha hb
    rw [decide_eq_true rfl] at gs1 gs2
    have hlx := varL_ten hxx
    have hly := varL_ten hvv
    have g4 : ∀ w, Calls Try.prog 15 #[.slice none 0 0, .int .u64 (x : Int)] w fun e w' => ∃ v, e = .returned v ∧ BytesAt w' v (bn (varL x)) ∧ Below w.heap.size w w' := fun w => kVar_any (.slice none 0 0) [] x w (RowsAt.nil _ _ _) (by simp) hxx
    have g5 : ∀ w, Calls Try.prog 15 #[.slice none 0 0, .int .u64 (y : Int)] w fun e w' => ∃ v, e = .returned v ∧ BytesAt w' v (bn (varL y)) ∧ Below w.heap.size w w' := fun w => kVar_any (.slice none 0 0) [] y w (RowsAt.nil _ _ _) (by simp) hvv
    have gb2 := fun w va ha hb => lBoth_any va (.slice a l.length c) (bn (varL x)) l w ha hb (by rw [bn_len]; omega) (by omega)
    have g6 := fun w va ha => kUnvar_any va (bn (varL x) ++ l) w ha (by rw [List.length_append, bn_len]; omega)
    rw [unv_back8 x l hxx] at g6
    simp only at g6
    have hmono : x ≤ y → (bn (varL x)).length ≤ (bn (varL y)).length := fun h => by rw [bn_len, bn_len]; exact varL_mono x y h
    have hzl := unvB_lt l
    have g7 := fun w ha => kUnvar_any (.slice a l.length c) l w ha (by omega)
    have hback := unvB_back l
    have g8 : ∀ w, Calls Try.prog 15 #[.slice none 0 0, .int .u64 ((unvB l).1 : Int)] w fun e w' => ∃ v, e = .returned v ∧ BytesAt w' v (bn (varL (unvB l).1)) ∧ Below w.heap.size w w' := fun w => kVar_any (.slice none 0 0) [] (unvB l).1 w (RowsAt.nil _ _ _) (by simp) hzl
    have hlz := varL_ten hzl
    obtain ⟨⟨z, r, t⟩, hz⟩ : ∃ t, unvB l = t := ⟨_, rfl⟩
    rw [hz] at hback g7 g8 hlz
    simp only at hback g7 g8 hlz
    have gb3 : t = 0 → ∀ w va vb, BytesAt w va (bn (varL z)) → BytesAt w vb r → Calls Try.prog 21 #[va, vb] w fun e w' => ∃ v, e = .returned v ∧ BytesAt w' v l ∧ Below w.heap.size w w' := fun ht w va vb ha hb => by
      have hr : r.length ≤ 300 := by have := congrArg List.length (hback ht); rw [List.length_append] at this; omega
      have := lBoth_any va vb (bn (varL z)) r w ha hb (by rw [bn_len]; omega) (by omega)
      rw [hback ht] at this
      exact this
    generalize bn (varL z) = Z at *
    generalize bn (varL x) = A at *
    generalize bn (varL y) = C at *
    have G1 := Lib.hid g1
    have G2 := Lib.hid g2
    have G3 := Lib.hid g3
    have GB1 := Lib.hid gb1
    have GS1 := Lib.hid gs1
    have GS2 := Lib.hid gs2
    have G4 := Lib.hid g4
    have G5 := Lib.hid g5
    have GB2 := Lib.hid gb2
    have G6 := Lib.hid g6
    have G7 := Lib.hid g7
    have G8 := Lib.hid g8
    have GB3 := Lib.hid gb3
    have HM := Lib.hid hmono
    have HM8 := Lib.hid hm8
    have M1 := Lib.hid trivial
    have M2 := Lib.hid trivial
    have hle300 : (l.length : Int) ≤ 300 := by omega
    clear g1 g2 g3 gb1 gs1 gs2 g4 g5 gb2 g6 g7 g8 gb3 hmono hm8 hback hz hlz hly hlx hzl hpl hsame hmlt hkn hxx hvv hX hV h300 hl
    have hc1 : (((n : Int) == 8) = true ∧ ((q : Int) != (x : Int)) = false) ∨ ((n : Int) == 8) = false := by
      by_cases e : n = 8
      · left
        refine ⟨by rw [e]; rfl, ?_⟩
        rw [HM8.out e]
        simp
      · right
        exact beq_no8 (by omega)
    have hc2 : t = 0 ∨ (t == 0) = false := by
      by_cases e : t = 0
      · exact .inl e
      · exact .inr (beq_no8 e)
    have hc3 : ((y : Int) < (x : Int)) ∨ (¬ (y : Int) < (x : Int) ∧ (A.length : Int) ≤ (C.length : Int)) := by
      by_cases e : y < x
      · exact .inl (by omega)
      · exact .inr ⟨by omega, by have := HM.out (by omega); omega⟩
    clear hn8
    rcases hc1 with ⟨k1, k2⟩ | k1
    all_goals
      rcases hc2 with rfl | k3
    all_goals
      rcases hc3 with k4 | ⟨k4, k5⟩
    all_goals
      go_enter Try.func6, Try.ntmps6
      go_wp2_with (first
        | (go_at_call 11; have M := M1; (with_reducible refine (G1.out _).mono ?_); rintro e w1 ⟨v1, rfl, hp1, hb⟩; have HP1 := Lib.hid hp1; have HB := Lib.hid hb; clear hp1 hb M M1)
        | (go_at_call 21; (with_reducible refine (GB1.out _ _ HP1.out (HA.out.kept HB.out)).mono ?_); rintro e w2 ⟨v2, rfl, hp2, hb⟩; have HP2 := Lib.hid hp2; replace HB := Lib.hid (HB.out.trans (hb.mono HB.out.size)); clear hp2 hb HP1)
        | (go_at_call 8; (with_reducible refine (G3.out _ _ HP2.out).mono ?_); rintro e w3 ⟨v3, rfl, hp3, hb⟩; have HP3 := Lib.hid hp3; replace HB := Lib.hid (HB.out.trans (hb.mono HB.out.size)); clear hp3 hb HP2)
        | (go_at_call 10; (with_reducible refine (GS1.out _ _ HP3.out (HA.out.kept HB.out)).mono ?_); rintro e w4 ⟨rfl, rfl⟩; clear HP3)
        | (go_at_call 11; (with_reducible refine (G2.out _).mono ?_); rintro e w5 ⟨v5, rfl, hp5, hb⟩; have HP5 := Lib.hid hp5; replace HB := Lib.hid (HB.out.trans (hb.mono HB.out.size)); clear hp5 hb)
        | (go_at_call 11; (with_reducible refine (G1.out _).mono ?_); rintro e w6 ⟨v6, rfl, hp6, hb⟩; have HP6 := Lib.hid hp6; replace HP5 := Lib.hid (HP5.out.kept hb); replace HB := Lib.hid (HB.out.trans (hb.mono HB.out.size)); clear hp6 hb)
        | (go_at_call 10; (with_reducible refine (GS2.out _ _ _ HP5.out HP6.out).mono ?_); rintro e w7 ⟨rfl, rfl⟩; clear HP5 HP6)
        | (go_at_call 15; have M := M2; (with_reducible refine (G4.out _).mono ?_); rintro e w8 ⟨v8, rfl, hp8, hb⟩; have HP8 := Lib.hid hp8; replace HB := Lib.hid (HB.out.trans (hb.mono HB.out.size)); clear hp8 hb M M2)
        | (go_at_call 21; (with_reducible refine (GB2.out _ _ HP8.out (HA.out.kept HB.out)).mono ?_); rintro e w9 ⟨v9, rfl, hp9, hb⟩; have HP9 := Lib.hid hp9; replace HB := Lib.hid (HB.out.trans (hb.mono HB.out.size)); clear hp9 hb HP8)
        | (go_at_call 13; (with_reducible refine (G6.out _ _ HP9.out).mono ?_); rintro e w10 ⟨v10, rfl, hp10, hb⟩; have HP10 := Lib.hid hp10; replace HB := Lib.hid (HB.out.trans (hb.mono HB.out.size)); clear hp10 hb HP9)
        | (go_at_call 10; (with_reducible refine (GS1.out _ _ HP10.out (HA.out.kept HB.out)).mono ?_); rintro e w11 ⟨rfl, rfl⟩; clear HP10)
        | (go_at_call 13; (with_reducible refine (G7.out _ (HA.out.kept HB.out)).mono ?_); rintro e w12 ⟨v12, rfl, hp12, hb⟩; have HP12 := Lib.hid hp12; replace HB := Lib.hid (HB.out.trans (hb.mono HB.out.size)); clear hp12 hb)
        | (go_at_call 15; (with_reducible refine (G8.out _).mono ?_); rintro e w13 ⟨v13, rfl, hp13, hb⟩; have HP13 := Lib.hid hp13; replace HP12 := Lib.hid (HP12.out.kept hb); replace HB := Lib.hid (HB.out.trans (hb.mono HB.out.size)); clear hp13 hb G8)
        | (go_at_call 21; (with_reducible refine (GB3.out (by trivial) _ _ _ HP13.out HP12.out).mono ?_); rintro e w14 ⟨v14, rfl, hp14, hb⟩; have HP14 := Lib.hid hp14; replace HB := Lib.hid (HB.out.trans (hb.mono HB.out.size)); clear hp14 hb HP13)
        | (go_at_call 10; (with_reducible refine (GS1.out _ _ HP14.out (HA.out.kept HB.out)).mono ?_); rintro e w15 ⟨rfl, rfl⟩; clear HP14)
        | (go_at_call 15; (with_reducible refine (G4.out _).mono ?_); rintro e w16 ⟨v16, rfl, hp16, hb⟩; obtain ⟨a16, c16, rfl⟩ := RowsAt.form hp16; replace HB := Lib.hid (HB.out.trans (hb.mono HB.out.size)); clear hp16 hb)
        | (go_at_call 15; (with_reducible refine (G5.out _).mono ?_); rintro e w17 ⟨v17, rfl, hp17, hb⟩; obtain ⟨a17, c17, rfl⟩ := RowsAt.form hp17; replace HB := Lib.hid (HB.out.trans (hb.mono HB.out.size)); clear hp17 hb)
        | (go_at_call 7; (with_reducible refine (HAL.out _).mono ?_); rintro e w18 ⟨rfl, hb⟩; replace HB := Lib.hid (HB.out.trans (hb.mono HB.out.size)); clear hb))
      go_ret
      exact ⟨rfl, HB.out⟩
end Go.Proofs.Ytpbihplnaaojlaa
