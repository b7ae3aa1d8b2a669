/- The walks of the laws of layer 2. -/
import Derived.Test.YtjkppobncdkfgaaSatRef
namespace Go.Proofs.Ytjkppobncdkfgaa
open Go.RowKit

theorem add2 (m a b : Int) (w : World) (hm0 : 0 ≤ m) (hm : m ≤ 9223372036854775807) (ha : -9223372036854775808 ≤ a) (ha' : a ≤ 9223372036854775807) (hb : -9223372036854775808 ≤ b) (hb' : b ≤ 9223372036854775807) :
    Calls Try.prog 14 #[.int .i64 m, .slice (some ⟨w.heap.size, 0, none⟩) 2 2] (w.alloc (.cells #[.int .i64 a, .int .i64 b] 3)) fun e w' => e = .returned (.int .i64 (sadd m [a, b])) ∧ Below w.heap.size w w' := by
  refine (add_any m _ [a, b] _ hm (IntsAt.lit w [a, b] 3) (by simp) ?_).mono ?_
  · intro x hx
    simp at hx
    rcases hx with rfl | rfl <;> constructor <;> assumption
  · rintro e w' ⟨rfl, hb⟩
    exact ⟨ret_int (by rw [show max m 0 = m by omega]), ((Below.refl _ _).alloc (Nat.le_refl _) _).trans (hb.mono (by simp))⟩
theorem add3 (m a b c : Int) (w : World) (hm0 : 0 ≤ m) (hm : m ≤ 9223372036854775807) (ha : -9223372036854775808 ≤ a) (ha' : a ≤ 9223372036854775807) (hb : -9223372036854775808 ≤ b) (hb' : b ≤ 9223372036854775807) (hc : -9223372036854775808 ≤ c) (hc' : c ≤ 9223372036854775807) :
    Calls Try.prog 14 #[.int .i64 m, .slice (some ⟨w.heap.size, 0, none⟩) 3 3] (w.alloc (.cells #[.int .i64 a, .int .i64 b, .int .i64 c] 3)) fun e w' => e = .returned (.int .i64 (sadd m [a, b, c])) ∧ Below w.heap.size w w' := by
  refine (add_any m _ [a, b, c] _ hm (IntsAt.lit w [a, b, c] 3) (by simp) ?_).mono ?_
  · intro x hx
    simp at hx
    rcases hx with rfl | rfl | rfl <;> constructor <;> assumption
  · rintro e w' ⟨rfl, hb⟩
    exact ⟨ret_int (by rw [show max m 0 = m by omega]), ((Below.refl _ _).alloc (Nat.le_refl _) _).trans (hb.mono (by simp))⟩
theorem mul2 (m a b : Int) (w : World) (hm0 : 0 ≤ m) (hm : m ≤ 9223372036854775807) (ha : -9223372036854775808 ≤ a) (ha' : a ≤ 9223372036854775807) (hb : -9223372036854775808 ≤ b) (hb' : b ≤ 9223372036854775807) :
    Calls Try.prog 16 #[.int .i64 m, .slice (some ⟨w.heap.size, 0, none⟩) 2 2] (w.alloc (.cells #[.int .i64 a, .int .i64 b] 3)) fun e w' => e = .returned (.int .i64 (smul m [a, b])) ∧ Below w.heap.size w w' := by
  refine (mul_any m _ [a, b] _ hm (IntsAt.lit w [a, b] 3) (by simp) ?_).mono ?_
  · intro x hx
    simp at hx
    rcases hx with rfl | rfl <;> constructor <;> assumption
  · rintro e w' ⟨rfl, hb⟩
    exact ⟨ret_int (by rw [show max m 0 = m by omega]), ((Below.refl _ _).alloc (Nat.le_refl _) _).trans (hb.mono (by simp))⟩
theorem mul3 (m a b c : Int) (w : World) (hm0 : 0 ≤ m) (hm : m ≤ 9223372036854775807) (ha : -9223372036854775808 ≤ a) (ha' : a ≤ 9223372036854775807) (hb : -9223372036854775808 ≤ b) (hb' : b ≤ 9223372036854775807) (hc : -9223372036854775808 ≤ c) (hc' : c ≤ 9223372036854775807) :
    Calls Try.prog 16 #[.int .i64 m, .slice (some ⟨w.heap.size, 0, none⟩) 3 3] (w.alloc (.cells #[.int .i64 a, .int .i64 b, .int .i64 c] 3)) fun e w' => e = .returned (.int .i64 (smul m [a, b, c])) ∧ Below w.heap.size w w' := by
  refine (mul_any m _ [a, b, c] _ hm (IntsAt.lit w [a, b, c] 3) (by simp) ?_).mono ?_
  · intro x hx
    simp at hx
    rcases hx with rfl | rfl | rfl <;> constructor <;> assumption
  · rintro e w' ⟨rfl, hb⟩
    exact ⟨ret_int (by rw [show max m 0 = m by omega]), ((Below.refl _ _).alloc (Nat.le_refl _) _).trans (hb.mono (by simp))⟩

set_option maxHeartbeats 400000 in
theorem alive_any (w : World) :
    Calls Try.prog 13 #[] w fun e w' => e = .returned (.bool true) ∧ Below w.heap.size w w' := by
  have e1 : sadd 100 [60, 50] = 100 := by decide
  have e2 : smul 1000 [6, 7] = 42 := by decide
  have e3 : iover 7 2 = 4 := by decide
  have e4 : iless 3 5 = 0 := by decide
  have e5 : iclip 9 1 5 = 5 := by decide
  have hB := Below.refl w.heap.size w
  go_enter Try.func13, Try.ntmps13
  go_wp2_with (first
    | (go_at_call 14; refine (add2 _ _ _ _ (by omega) (by omega) (by omega) (by omega) (by omega) (by omega)).mono ?_; rintro e w1 ⟨rfl, hb⟩; replace hB := hB.trans (hb.mono hB.size); clear hb)
    | (go_at_call 16; refine (mul2 _ _ _ _ (by omega) (by omega) (by omega) (by omega) (by omega) (by omega)).mono ?_; rintro e w2 ⟨rfl, hb⟩; replace hB := hB.trans (hb.mono hB.size); clear hb)
    | (go_at_call 11; refine (over_any _ _ _ (by omega) (by omega)).mono ?_; rintro e w3 ⟨rfl, rfl⟩)
    | (go_at_call 9; refine (less_any _ _ _ (by omega) (by omega)).mono ?_; rintro e w4 ⟨rfl, rfl⟩)
    | (go_at_call 7; refine (clip_any _ _ _ _).mono ?_; rintro e w5 ⟨rfl, rfl⟩))
  go_ret
  exact ⟨rfl, hB⟩

theorem satTells_any (a b c : Int) (w : World) (ha : -9223372036854775808 ≤ a ∧ a ≤ 9223372036854775807) (hb : -9223372036854775808 ≤ b ∧ b ≤ 9223372036854775807) :
    Calls Try.prog 3 #[.int .i64 a, .int .i64 b, .int .i64 c] w fun e w' => e = .returned (.bool true) ∧ Below w.heap.size w w' := by
  go_enter Try.func3, Try.ntmps3
  go_wp2_with (first
    | (go_at_call 7; refine (clip_any _ _ _ _).mono ?_; rintro e w5 ⟨rfl, rfl⟩)
    | (go_at_call 8; refine (refClip_any _ _ _ _).mono ?_; rintro e w5 ⟨rfl, rfl⟩)
    | (go_at_call 9; refine (less_any _ _ _ ha hb).mono ?_; rintro e w4 ⟨rfl, rfl⟩)
    | (go_at_call 10; refine (refLess_any _ _ _ ha hb).mono ?_; rintro e w4 ⟨rfl, rfl⟩)
    | (go_at_call 11; refine (over_any _ _ _ ha.2 hb.2).mono ?_; rintro e w3 ⟨rfl, rfl⟩)
    | (go_at_call 12; refine (refOver_any _ _ _ ha.2 hb.2).mono ?_; rintro e w3 ⟨rfl, rfl⟩)
    | (go_at_call 13; refine (alive_any _).mono ?_; rintro e w6 ⟨rfl, hB⟩))
  go_ret
  exact ⟨rfl, hB⟩

set_option maxHeartbeats 400000 in
theorem satSums_any (m : Int) (v : Value) (l : List Int) (w : World) (hm : m ≤ 9223372036854775807) (hl : IntsAt w v l) (hlen : l.length ≤ 9223372036854775807) (hr : InI64 l) :
    Calls Try.prog 4 #[.int .i64 m, v] w fun e w' => e = .returned (.bool true) ∧ Below w.heap.size w w' := by
  have HL := Lib.hid hl
  obtain ⟨a, cap, rfl, hcap, hcells⟩ := hl
  have HR := Lib.hid hr
  clear hr hcells
  have hB := Below.refl w.heap.size w
  by_cases h : l.length ≤ 100
  · go_enter Try.func4, Try.ntmps4
    go_wp2_with (first
      | (go_at_call 14; refine (add_any _ _ l _ hm (HL.out.below hB) hlen HR.out).mono ?_; rintro e w1 ⟨rfl, hb⟩; replace hB := hB.trans (hb.mono hB.size); clear hb)
      | (go_at_call 15; refine (refAdd_any _ _ l _ hm (HL.out.below hB) hlen HR.out).mono ?_; rintro e w1 ⟨rfl, rfl⟩)
      | (go_at_call 16; refine (mul_any _ _ l _ hm (HL.out.below hB) hlen HR.out).mono ?_; rintro e w1 ⟨rfl, hb⟩; replace hB := hB.trans (hb.mono hB.size); clear hb)
      | (go_at_call 17; refine (refMul_any _ _ l _ hm (HL.out.below hB) hlen HR.out).mono ?_; rintro e w1 ⟨rfl, hb⟩; replace hB := hB.trans (hb.mono hB.size); clear hb)
      | (go_at_call 13; refine (alive_any _).mono ?_; rintro e w6 ⟨rfl, hb⟩; replace hB := hB.trans (hb.mono hB.size); clear hb))
    go_ret
    exact ⟨rfl, hB⟩
  · go_enter Try.func4, Try.ntmps4
    go_wp2_with (go_at_call 13; refine (alive_any _).mono ?_; rintro e w6 ⟨rfl, hb⟩; replace hB := hB.trans (hb.mono hB.size); clear hb)
    go_ret
    exact ⟨rfl, hB⟩

set_option maxHeartbeats 4000000 in
set_option maxRecDepth 100000 in
theorem satLaws_any (most a b c : Int) (w : World) (hm1 : most ≤ 9223372036854775807) (ha : -9223372036854775808 ≤ a) (ha' : a ≤ 9223372036854775807) (hb : -9223372036854775808 ≤ b) (hb' : b ≤ 9223372036854775807) (hc : -9223372036854775808 ≤ c) (hc' : c ≤ 9223372036854775807) :
    Calls Try.prog 5 #[.int .i64 most, .int .i64 a, .int .i64 b, .int .i64 c] w fun e w' => e = .returned (.bool true) ∧ Below w.heap.size w w' := by
  obtain ⟨m, hm⟩ : ∃ m, max most 0 = m := ⟨_, rfl⟩
  obtain ⟨x, hx⟩ : ∃ x, min a b = x := ⟨_, rfl⟩
  obtain ⟨y, hy⟩ : ∃ y, max a b = y := ⟨_, rfl⟩
  have hm0 : 0 ≤ m := by omega
  have hmm : m ≤ 9223372036854775807 := by omega
  have hxy : x ≤ y := by omega
  have hx1 : -9223372036854775808 ≤ x := by omega
  have hx2 : x ≤ 9223372036854775807 := by omega
  have hy1 : -9223372036854775808 ≤ y := by omega
  have hy2 : y ≤ 9223372036854775807 := by omega
  have s1 := sadd_turn m a b c
  have s2 := sadd_left hm0 a b c
  have s3 := sadd_right hm0 a b c
  have p1 := smul_turn m a b c
  have p2 := smul_left hm0 a b c
  have p3 := smul_right hm0 a b c
  have d1 := smul_sum hm0 a b c
  obtain ⟨bs1, bs2⟩ := sadd_bd hm0 [a, b, c]
  obtain ⟨bp1, bp2⟩ := smul_bd hm0 [a, b, c]
  obtain ⟨b1, b2⟩ := sadd_bd hm0 [a, b]
  obtain ⟨b3, b4⟩ := sadd_bd hm0 [b, c]
  obtain ⟨b5, b6⟩ := smul_bd hm0 [a, b]
  obtain ⟨b7, b8⟩ := smul_bd hm0 [b, c]
  obtain ⟨b9, b10⟩ := smul_bd hm0 [a, c]
  have g1 := sadd_grows (c := c) hm0 hxy
  have g2 := smul_grows (c := c) hm0 hxy
  have g3 := iless_grows (c := c) hxy
  have hB := Below.refl w.heap.size w
  go_enter Try.func5, Try.ntmps5
  go_wp2_with (first
    | (go_at_call 14; ((first | with_reducible refine (add3 m _ _ _ _ hm0 hmm (by omega) (by omega) (by omega) (by omega) (by omega) (by omega)).mono ?_ | with_reducible refine (add2 m _ _ _ hm0 hmm (by omega) (by omega) (by omega) (by omega)).mono ?_); rintro e w1 ⟨rfl, hb⟩; replace hB := hB.trans (hb.mono hB.size); clear hb))
    | (go_at_call 16; ((first | with_reducible refine (mul3 m _ _ _ _ hm0 hmm (by omega) (by omega) (by omega) (by omega) (by omega) (by omega)).mono ?_ | with_reducible refine (mul2 m _ _ _ hm0 hmm (by omega) (by omega) (by omega) (by omega)).mono ?_); rintro e w2 ⟨rfl, hb⟩; replace hB := hB.trans (hb.mono hB.size); clear hb))
    | (go_at_call 9; refine (less_any _ _ _ (by omega) (by omega)).mono ?_; rintro e w4 ⟨rfl, rfl⟩)
    | (go_at_call 13; refine (alive_any _).mono ?_; rintro e w6 ⟨rfl, hb⟩; replace hB := hB.trans (hb.mono hB.size); clear hb))
  go_ret
  exact ⟨rfl, hB⟩

set_option maxHeartbeats 1000000 in
theorem satOver_any (a b : Int) (w : World) (ha : -9223372036854775808 ≤ a) (ha' : a ≤ 9223372036854775807) (hb : -9223372036854775808 ≤ b) (hb' : b ≤ 9223372036854775807) :
    Calls Try.prog 6 #[.int .i64 a, .int .i64 b] w fun e w' => e = .returned (.bool true) ∧ Below w.heap.size w w' := by
  have hbd := iover_bd a b
  have hen := iover_enough (b := b) ha'
  have hle := fun h => iover_least (a := a) (b := b) h
  have hbk := iless_back (b := b) ha'
  have hld : 0 ≤ iless a b ∧ iless a b ≤ 9223372036854775807 := by unfold iless; omega
  obtain ⟨x, hx⟩ : ∃ x, max a 0 = x := ⟨_, rfl⟩
  obtain ⟨y, hy⟩ : ∃ y, max b 1 = y := ⟨_, rfl⟩
  obtain ⟨z, hz⟩ : ∃ z, max b 0 = z := ⟨_, rfl⟩
  obtain ⟨u, hu⟩ : ∃ u, min x z = u := ⟨_, rfl⟩
  obtain ⟨n, hn⟩ : ∃ n, iover a b = n := ⟨_, rfl⟩
  obtain ⟨d, hd⟩ : ∃ d, iless a b = d := ⟨_, rfl⟩
  have hx0 : 0 ≤ x := by omega
  have hx1 : x ≤ 9223372036854775807 := by omega
  have hy0 : 1 ≤ y := by omega
  have hy1 : y ≤ 9223372036854775807 := by omega
  have hz0 : 0 ≤ z := by omega
  have hz1 : z ≤ 9223372036854775807 := by omega
  have hu0 : 0 ≤ u := by omega
  have hu1 : u ≤ 9223372036854775807 := by omega
  rw [hn, hx] at hbd
  rw [hn, hx, hy] at hen
  rw [hn, hx, hy] at hle
  rw [hd, hx, hz, hu] at hbk
  rw [hd] at hld
  obtain ⟨hn0, hn1⟩ := hbd
  obtain ⟨hd0, hd1⟩ := hld
  have hB := Below.refl w.heap.size w
  by_cases h0 : 0 < n
  · obtain ⟨ha0, hq⟩ := hle h0
    have hx2 : 1 ≤ x := by omega
    clear hle
    go_enter Try.func6, Try.ntmps6
    go_wp2_with (first
      | (go_at_call 11; refine (over_any _ _ _ (by omega) (by omega)).mono ?_; rintro e w3 ⟨rfl, rfl⟩)
      | (go_at_call 16; refine (mul2 _ _ _ _ (by omega) (by omega) (by omega) (by omega) (by omega) (by omega)).mono ?_; rintro e w2 ⟨rfl, hb⟩; replace hB := hB.trans (hb.mono hB.size); clear hb)
      | (go_at_call 14; refine (add2 _ _ _ _ (by omega) (by omega) (by omega) (by omega) (by omega) (by omega)).mono ?_; rintro e w1 ⟨rfl, hb⟩; replace hB := hB.trans (hb.mono hB.size); clear hb)
      | (go_at_call 9; refine (less_any _ _ _ (by omega) (by omega)).mono ?_; rintro e w4 ⟨rfl, rfl⟩)
      | (go_at_call 13; refine (alive_any _).mono ?_; rintro e w6 ⟨rfl, hb⟩; replace hB := hB.trans (hb.mono hB.size); clear hb))
    go_ret
    exact ⟨rfl, hB⟩
  · clear hle
    go_enter Try.func6, Try.ntmps6
    go_wp2_with (first
      | (go_at_call 11; refine (over_any _ _ _ (by omega) (by omega)).mono ?_; rintro e w3 ⟨rfl, rfl⟩)
      | (go_at_call 16; refine (mul2 _ _ _ _ (by omega) (by omega) (by omega) (by omega) (by omega) (by omega)).mono ?_; rintro e w2 ⟨rfl, hb⟩; replace hB := hB.trans (hb.mono hB.size); clear hb)
      | (go_at_call 14; refine (add2 _ _ _ _ (by omega) (by omega) (by omega) (by omega) (by omega) (by omega)).mono ?_; rintro e w1 ⟨rfl, hb⟩; replace hB := hB.trans (hb.mono hB.size); clear hb)
      | (go_at_call 9; refine (less_any _ _ _ (by omega) (by omega)).mono ?_; rintro e w4 ⟨rfl, rfl⟩)
      | (go_at_call 13; refine (alive_any _).mono ?_; rintro e w6 ⟨rfl, hb⟩; replace hB := hB.trans (hb.mono hB.size); clear hb))
    go_ret
    exact ⟨rfl, hB⟩
end Go.Proofs.Ytjkppobncdkfgaa
