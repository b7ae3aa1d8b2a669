/- Great whole numbers as floats: they are rounded, and stay great. Plain mathematics. -/
import Derived.Test.YthndmoipemnllaaFloat
namespace Go.Proofs.Ythndmoipemnllaa
open Ieee

theorem read_high (s : Bool) (z r : Nat) (hz1 : 1 ≤ z) (hz2 : z < 2047) (hr : r < 2 ^ 52) :
    double.read (double.word s (z * 2 ^ 52 + r)) = .number s (2 ^ 52 + r) ((z : Int) - 1075) := by
  have hlt : z * 2 ^ 52 + r < 2 ^ 63 := by
    have : z * 2 ^ 52 ≤ 2046 * 2 ^ 52 := Nat.mul_le_mul_right _ (by omega)
    omega
  have e1 : double.signWeight = 2 ^ 63 := rfl
  have e2 : double.binade = 2 ^ 52 := rfl
  have e3 : double.infRung = 2047 * 2 ^ 52 := rfl
  have e4 : double.leastPlace = -1074 := by decide
  have hm : double.word s (z * 2 ^ 52 + r) % 2 ^ 63 = z * 2 ^ 52 + r := by
    unfold Format.word
    rw [e1]
    cases s
    · exact Nat.mod_eq_of_lt hlt
    · simp only [if_true]; omega
  have hs : (double.word s (z * 2 ^ 52 + r) / 2 ^ 63 % 2 == 1) = s := by
    unfold Format.word
    rw [e1]
    cases s
    · have : (z * 2 ^ 52 + r) / 2 ^ 63 = 0 := Nat.div_eq_of_lt hlt
      simp only [Bool.false_eq_true, if_false, this]; rfl
    · simp only [if_true]
      have : (2 ^ 63 + (z * 2 ^ 52 + r)) / 2 ^ 63 = 1 := by omega
      rw [this]; rfl
  have hdv : (z * 2 ^ 52 + r) / 2 ^ 52 = z := by
    rw [Nat.add_comm, Nat.add_mul_div_right _ _ (by omega), Nat.div_eq_of_lt hr]; omega
  have hmd : (z * 2 ^ 52 + r) % 2 ^ 52 = r := by
    rw [Nat.add_comm, Nat.add_mul_mod_self_right, Nat.mod_eq_of_lt hr]
  have g1 : ¬ z * 2 ^ 52 + r < 2 ^ 52 := by
    have : 1 * 2 ^ 52 ≤ z * 2 ^ 52 := Nat.mul_le_mul_right _ hz1
    omega
  have g2 : z * 2 ^ 52 + r < 2047 * 2 ^ 52 := by
    have : z * 2 ^ 52 ≤ 2046 * 2 ^ 52 := Nat.mul_le_mul_right _ (by omega)
    omega
  unfold Format.read
  simp only [e1, e2, e3, e4, hm, hs, if_neg g1, if_pos g2, hmd, hdv]
  congr 1
  omega

theorem fits_small {z K : Nat} (hz : z ≤ 1085) (hK : K ≤ 2 ^ 53) : z * 2 ^ 52 + K ≤ 2047 * 2 ^ 52 := by
  have e : (2 : Nat) ^ 52 = 4503599627370496 := rfl
  have e' : (2 : Nat) ^ 53 = 9007199254740992 := rfl
  rw [e'] at hK
  rw [e]
  omega
theorem carry_up (d : Nat) : (d + 1074) * 2 ^ 52 + 2 ^ 53 = (d + 1076) * 2 ^ 52 + 0 := by
  have e : (2 : Nat) ^ 52 = 4503599627370496 := rfl
  have e' : (2 : Nat) ^ 53 = 9007199254740992 := rfl
  rw [e', e]
  omega
theorem carry_no (d r : Nat) : (d + 1074) * 2 ^ 52 + (2 ^ 52 + r) = (d + 1075) * 2 ^ 52 + r := by
  have e : (2 : Nat) ^ 52 = 4503599627370496 := rfl
  rw [e]
  omega
theorem word_at (s : Bool) {a b : Nat} (h : a = b) : double.word s a = double.word s b := by rw [h]
theorem num_at (s : Bool) (m : Nat) {a b : Int} (h : a = b) : Datum.number s m a = Datum.number s m b := by rw [h]

theorem write_high (s : Bool) (m : Nat) (h1 : 2 ^ 53 ≤ m) (h2 : m ≤ 2 ^ 63) : ∃ M e : Nat, double.read (double.nearest s m 0) = .number s M (e : Int) ∧ 2 ^ 52 ≤ M ∧ 1 ≤ e := by
  have hm0 : m ≠ 0 := by omega
  obtain ⟨t, ht⟩ : ∃ t, m.log2 = t := ⟨_, rfl⟩
  have ht1 : 2 ^ t ≤ m := by rw [← ht]; exact Nat.log2_self_le hm0
  have ht2 : m < 2 ^ (t + 1) := by rw [← ht]; exact Nat.lt_log2_self
  have t53 : 53 ≤ t := by
    rcases Nat.lt_or_ge t 53 with h | h
    · have : 2 ^ (t + 1) ≤ 2 ^ 53 := Nat.pow_le_pow_right (by omega) (by omega)
      omega
    · exact h
  have t63 : t ≤ 63 := by
    rcases Nat.lt_or_ge 63 t with h | h
    · have : 2 ^ 64 ≤ 2 ^ t := Nat.pow_le_pow_right (by omega) (by omega)
      omega
    · exact h
  obtain ⟨d, rfl⟩ : ∃ d, t = d + 52 := ⟨t - 52, by omega⟩
  have hlast : max ((0 : Int) + ((m.log2 : Nat) : Int) - (double.fractionBits : Int)) double.leastPlace = (d : Int) := by
    have e4 : double.leastPlace = -1074 := by decide
    have e5 : (double.fractionBits : Int) = 52 := rfl
    rw [ht, e4, e5]
    omega
  have hlow1 : 2 ^ 52 ≤ m / 2 ^ d := by
    rw [Nat.le_div_iff_mul_le (Nat.two_pow_pos d), ← Nat.pow_add, Nat.add_comm]
    exact ht1
  have hlow2 : m / 2 ^ d < 2 ^ 53 := by
    rw [Nat.div_lt_iff_lt_mul (Nat.two_pow_pos d), ← Nat.pow_add, show 53 + d = d + 52 + 1 by omega]
    exact ht2
  obtain ⟨K, hK⟩ : ∃ K, Toward.even.cut s (m <<< ((0 : Int) - (d : Int)).toNat) ((d : Int) - 0).toNat = K := ⟨_, rfl⟩
  have hK2 : 2 ^ 52 ≤ K ∧ K ≤ 2 ^ 53 := by
    rw [← hK, show ((0 : Int) - (d : Int)).toNat = 0 by omega, show ((d : Int) - 0).toNat = d by omega]
    unfold Toward.cut
    simp only [Nat.shiftLeft_eq, Nat.pow_zero, Nat.mul_one, Nat.one_mul, ht, show min d (d + 52 + 2) = d by omega]
    generalize (decide (2 ^ d < 2 * (m % 2 ^ d)) || (2 ^ d == 2 * (m % 2 ^ d) && m / 2 ^ d % 2 == 1)) = b
    generalize m / 2 ^ d = L at *
    cases b
    · exact ⟨by simpa using hlow1, by simpa using Nat.le_of_lt hlow2⟩
    · simp only [Bool.toNat_true]
      omega
  have e2 : double.binade = 2 ^ 52 := rfl
  have e3 : double.infRung = 2047 * 2 ^ 52 := rfl
  have e4 : double.leastPlace = -1074 := by decide
  have hn : double.nearest s m 0 = double.word s ((d + 1074) * 2 ^ 52 + K) := by
    unfold Format.nearest
    rw [if_neg hm0]
    simp only [hlast, hK]
    rw [e4, e2, e3, show ((d : Int) - (-1074)).toNat = d + 1074 by omega]
    have e6 : (d + 1074) * 2 ^ 52 + K ≤ 2047 * 2 ^ 52 := fits_small (by omega) hK2.2
    exact congrArg (double.word s) (Nat.min_eq_left e6)
  rw [hn]
  by_cases hc : K = 2 ^ 53
  · refine ⟨2 ^ 52 + 0, d + 1, ?_, by omega, by omega⟩
    rw [hc, carry_up, read_high s (d + 1076) 0 (by omega) (by omega) (by omega)]
    exact num_at s _ (by omega)
  · obtain ⟨r, rfl⟩ : ∃ r, K = 2 ^ 52 + r := ⟨K - 2 ^ 52, by omega⟩
    refine ⟨2 ^ 52 + r, d, ?_, by omega, by omega⟩
    rw [carry_no, read_high s (d + 1075) r (by omega) (by omega) (by omega)]
    exact num_at s _ (by omega)

/-- Any number of 64 bits is a whole number as a float: itself, if it is small; great on its side, if not. -/
theorem ofInt_any {n : Int} (h : -9223372036854775808 ≤ n ∧ n ≤ 9223372036854775807) : ∃ x, Fl (floatOfInt .f64 n) x ∧ ((n.natAbs < 2 ^ 53 ∧ x = n) ∨ (2 ^ 53 ≤ n ∧ 2 ^ 53 ≤ x) ∨ (n ≤ -2 ^ 53 ∧ x ≤ -2 ^ 53)) := by
  by_cases hs : n.natAbs < 2 ^ 53
  · exact ⟨n, ofInt_whole hs, .inl ⟨hs, rfl⟩⟩
  · obtain ⟨M, e, hr, hM, he⟩ := write_high (n < 0) n.natAbs (by omega) (by omega)
    have hbig : 2 ^ 53 ≤ M * 2 ^ e := by
      have h2 : 2 ^ 1 ≤ 2 ^ e := Nat.pow_le_pow_right (by omega) he
      calc 2 ^ 53 = 2 ^ 52 * 2 ^ 1 := by decide
        _ ≤ M * 2 ^ e := Nat.mul_le_mul hM h2
    have hv : SV (decide (n < 0)) M (e : Int) (if n < 0 then -((M * 2 ^ e : Nat) : Int) else ((M * 2 ^ e : Nat) : Int)) := by
      refine ⟨0, by omega, ?_⟩
      unfold signed
      rw [Nat.shiftLeft_eq, show ((e : Int) + ((0 : Nat) : Int)).toNat = e by omega]
      by_cases hn : n < 0
      · simp [hn]
      · simp [hn]
    refine ⟨_, ⟨_, M, (e : Int), hr, hv⟩, ?_⟩
    generalize M * 2 ^ e = X at *
    by_cases hn : n < 0
    · rw [if_pos hn]
      refine .inr (.inr ⟨by omega, by omega⟩)
    · rw [if_neg hn]
      refine .inr (.inl ⟨by omega, by omega⟩)
end Go.Proofs.Ythndmoipemnllaa
