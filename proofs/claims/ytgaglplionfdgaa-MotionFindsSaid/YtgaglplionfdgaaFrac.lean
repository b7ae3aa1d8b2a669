/- What floats give of fractions whose denominator is a power of two. -/
import Derived.Test.YtgaglplionfdgaaFloat
namespace Go.Proofs.Ytgaglplionfdgaa
open Ieee

/-- the word is n / 2 ^ D -/
def Fh (D : Nat) (b : Nat) (n : Int) : Prop := ∃ s m e, double.read b = .number s m e ∧ SV s m (e + D) n

theorem read_word_d (s : Bool) (d r : Nat) (hd : d ≤ 1000) (hr : r < 2 ^ 52) :
    double.read (double.word s ((1075 - d) * 2 ^ 52 + r)) = .number s (2 ^ 52 + r) (-(d : Int)) := by
  have hlt : (1075 - d) * 2 ^ 52 + r < 2 ^ 63 := by
    have : (1075 - d) * 2 ^ 52 ≤ 1075 * 2 ^ 52 := Nat.mul_le_mul_right _ (by omega)
    omega
  have e1 : double.signWeight = 2 ^ 63 := rfl
  have e2 : double.binade = 2 ^ 52 := rfl
  have e3 : double.infRung = 2047 * 2 ^ 52 := rfl
  have e4 : double.leastPlace = -1074 := by decide
  have hm : double.word s ((1075 - d) * 2 ^ 52 + r) % 2 ^ 63 = (1075 - d) * 2 ^ 52 + r := by
    unfold Format.word
    rw [e1]
    cases s
    · exact Nat.mod_eq_of_lt hlt
    · simp only [if_true]; omega
  have hs : (double.word s ((1075 - d) * 2 ^ 52 + r) / 2 ^ 63 % 2 == 1) = s := by
    unfold Format.word
    rw [e1]
    cases s
    · have : ((1075 - d) * 2 ^ 52 + r) / 2 ^ 63 = 0 := Nat.div_eq_of_lt hlt
      simp only [Bool.false_eq_true, if_false, this]; rfl
    · simp only [if_true]
      have : (2 ^ 63 + ((1075 - d) * 2 ^ 52 + r)) / 2 ^ 63 = 1 := by omega
      rw [this]; rfl
  have hdv : ((1075 - d) * 2 ^ 52 + r) / 2 ^ 52 = 1075 - d := by
    rw [Nat.add_comm, Nat.add_mul_div_right _ _ (by omega), Nat.div_eq_of_lt hr]; omega
  have hmd : ((1075 - d) * 2 ^ 52 + r) % 2 ^ 52 = r := by
    rw [Nat.add_comm, Nat.add_mul_mod_self_right, Nat.mod_eq_of_lt hr]
  have g1 : ¬ (1075 - d) * 2 ^ 52 + r < 2 ^ 52 := by
    have : 1 * 2 ^ 52 ≤ (1075 - d) * 2 ^ 52 := Nat.mul_le_mul_right _ (by omega)
    omega
  have g2 : (1075 - d) * 2 ^ 52 + r < 2047 * 2 ^ 52 := by
    have : (1075 - d) * 2 ^ 52 ≤ 1075 * 2 ^ 52 := Nat.mul_le_mul_right _ (by omega)
    omega
  unfold Format.read
  simp only [e1, e2, e3, e4, hm, hs, if_neg g1, if_pos g2, hmd, hdv]
  congr 1
  omega

theorem write_frac {s : Bool} {m : Nat} {p n : Int} (D : Nat) (hD : D ≤ 100) (h : SV s m (p + D) n) (hn : n.natAbs < 2 ^ 53) : Fh D (double.write (.number s m p)) n := by
  show Fh D (double.nearest s m p) n
  obtain ⟨P, hP⟩ : ∃ P : Int, p + D = P := ⟨_, rfl⟩
  rw [hP] at h
  by_cases hm : m = 0
  · subst hm
    have h0 : n = 0 := by
      obtain ⟨k, _, hk⟩ := h
      have e : signed s 0 (P + k).toNat = 0 := by unfold signed; cases s <;> simp
      rw [e] at hk
      rcases Int.mul_eq_zero.1 hk.symm with h | h
      · exact h
      · exact absurd h (Int.ne_of_gt (Int.pow_pos (by omega)))
    subst h0
    refine ⟨s, 0, -1074, ?_, 1074, by omega, ?_⟩
    · unfold Format.nearest
      rw [if_pos rfl]
      exact read_zero s
    · rw [Int.zero_mul]; unfold signed; cases s <;> simp only [Nat.zero_shiftLeft] <;> rfl
  · -- the magnitude
    obtain ⟨k, hk, hkv⟩ := h
    have hN : m * 2 ^ (P + k).toNat = n.natAbs * 2 ^ k ∧ n = (if s then -(n.natAbs : Int) else n.natAbs) := by
      have p1 : (0 : Int) < 2 ^ k := Int.pow_pos (by omega)
      unfold signed at hkv
      rw [Nat.shiftLeft_eq] at hkv
      have hmp : 0 < m * 2 ^ (P + k).toNat := Nat.mul_pos (by omega) (Nat.two_pow_pos _)
      cases s
      · simp only [Bool.false_eq_true, if_false] at hkv ⊢
        have hpos : 0 ≤ n := by
          rcases Int.lt_or_le n 0 with h | h
          · have := Int.mul_neg_of_neg_of_pos h p1
            omega
          · exact h
        have e : (n.natAbs : Int) = n := Int.natAbs_of_nonneg hpos
        refine ⟨?_, e.symm⟩
        apply Int.ofNat_inj.1
        rw [hkv, Int.natCast_mul, e]
        simp
      · simp only [if_true] at hkv ⊢
        have hneg : n ≤ 0 := by
          rcases Int.lt_or_le 0 n with h | h
          · have := Int.mul_pos h p1
            omega
          · exact h
        have e : (n.natAbs : Int) = -n := Int.ofNat_natAbs_of_nonpos hneg
        refine ⟨?_, by omega⟩
        apply Int.ofNat_inj.1
        rw [Int.natCast_mul n.natAbs, e, Int.neg_mul]
        simp only [Int.natCast_pow, Int.cast_ofNat_Int]
        omega
    obtain ⟨hN, hsn⟩ := hN
    generalize hNN : n.natAbs = N at *
    have hN0 : N ≠ 0 := by
      intro h0
      subst h0
      rw [Nat.zero_mul] at hN
      rcases Nat.mul_eq_zero.1 hN with h | h
      · exact hm h
      · exact absurd h (Nat.ne_of_gt (Nat.two_pow_pos _))
    -- the place of the first digit
    obtain ⟨t, ht⟩ : ∃ t, N.log2 = t := ⟨_, rfl⟩
    have ht1 : 2 ^ t ≤ N := by rw [← ht]; exact Nat.log2_self_le hN0
    have ht2 : N < 2 ^ (t + 1) := by rw [← ht]; exact Nat.lt_log2_self
    have ht52 : t ≤ 52 := by
      rcases Nat.lt_or_ge 52 t with h | h
      · have : 2 ^ 53 ≤ 2 ^ t := Nat.pow_le_pow_right (by omega) h
        omega
      · exact h
    obtain ⟨L, hL⟩ : ∃ L, m.log2 = L := ⟨_, rfl⟩
    have hLt : (L : Int) + P = t := by
      have h1 : (m * 2 ^ (P + k).toNat).log2 = L + (P + k).toNat := by rw [← hL]; exact log2_mul hm
      have h2 : (N * 2 ^ k).log2 = t + k := by rw [← ht]; exact log2_mul hN0
      rw [hN, h2] at h1
      omega
    -- what is kept
    have hlast : max (p + (m.log2 : Int) - (double.fractionBits : Int)) double.leastPlace = (t : Int) - D - 52 := by
      have e4 : double.leastPlace = -1074 := by decide
      have e5 : (double.fractionBits : Int) = 52 := rfl
      rw [hL, e4, e5]
      omega
    have hkept : Toward.even.cut s (m <<< (p - ((t : Int) - D - 52)).toNat) ((t : Int) - D - 52 - p).toNat = N * 2 ^ (52 - t) := by
      rw [Nat.shiftLeft_eq]
      rcases Nat.le_total L 52 with hl | hl
      · have e1 : ((t : Int) - D - 52 - p).toNat = 0 := by omega
        have e2 : (p - ((t : Int) - D - 52)).toNat = 52 - L := by omega
        rw [e1, e2]
        have e3 : m * 2 ^ (52 - L) = N * 2 ^ (52 - t) := by
          have h1 : (m * 2 ^ (52 - L)) * 2 ^ ((P + k).toNat + t) = (N * 2 ^ (52 - t)) * 2 ^ ((P + k).toNat + t) := by
            have a1 : m * 2 ^ (52 - L) * 2 ^ ((P + k).toNat + t) = (m * 2 ^ (P + k).toNat) * 2 ^ (52 - L + t) := by
              rw [Nat.mul_assoc, Nat.mul_assoc, ← Nat.pow_add, ← Nat.pow_add]; congr 2; omega
            have a2 : N * 2 ^ (52 - t) * 2 ^ ((P + k).toNat + t) = (N * 2 ^ k) * 2 ^ (52 - L + t) := by
              rw [Nat.mul_assoc, Nat.mul_assoc, ← Nat.pow_add, ← Nat.pow_add]; congr 2; omega
            rw [a1, a2, hN]
          exact Nat.eq_of_mul_eq_mul_right (Nat.two_pow_pos _) h1
        have h2 := cut_exact .even s (m * 2 ^ (52 - L)) 0 (.inl (Nat.ne_of_gt (Nat.mul_pos (by omega) (Nat.two_pow_pos _))))
        rw [Nat.pow_zero, Nat.mul_one] at h2
        rw [h2, e3]
      · have e2 : (p - ((t : Int) - D - 52)).toNat = 0 := by omega
        have e1 : ((t : Int) - D - 52 - p).toNat = L - 52 := by omega
        rw [e1, e2, Nat.pow_zero, Nat.mul_one]
        have e3 : m = N * 2 ^ (52 - t) * 2 ^ (L - 52) := by
          have h1 : m * 2 ^ (P + k).toNat = N * 2 ^ (52 - t) * 2 ^ (L - 52) * 2 ^ (P + k).toNat := by
            rw [hN, Nat.mul_assoc, Nat.mul_assoc, ← Nat.pow_add, ← Nat.pow_add]; congr 2; omega
          exact Nat.eq_of_mul_eq_mul_right (Nat.two_pow_pos _) h1
        rw [e3]
        exact cut_exact .even s _ _ (.inl (Nat.ne_of_gt (Nat.mul_pos (by omega) (Nat.two_pow_pos _))))
    -- between the ends of a binade
    have hk1 : 2 ^ 52 ≤ N * 2 ^ (52 - t) := by
      have : 2 ^ t * 2 ^ (52 - t) ≤ N * 2 ^ (52 - t) := Nat.mul_le_mul_right _ ht1
      rw [← Nat.pow_add, show t + (52 - t) = 52 by omega] at this
      exact this
    have hk2 : N * 2 ^ (52 - t) < 2 ^ 53 := by
      have : N * 2 ^ (52 - t) < 2 ^ (t + 1) * 2 ^ (52 - t) := Nat.mul_lt_mul_of_pos_right ht2 (Nat.two_pow_pos _)
      rw [← Nat.pow_add, show t + 1 + (52 - t) = 53 by omega] at this
      exact this
    obtain ⟨r, hr⟩ : ∃ r, N * 2 ^ (52 - t) = 2 ^ 52 + r := ⟨_, (Nat.add_sub_cancel' hk1).symm⟩
    have hrl : r < 2 ^ 52 := by omega
    refine ⟨s, 2 ^ 52 + r, -((52 - t + D : Nat) : Int), ?_, 52 - t, by omega, ?_⟩
    · unfold Format.nearest
      rw [if_neg hm]
      simp only [hlast, hkept]
      have e4 : double.leastPlace = -1074 := by decide
      have e2 : double.binade = 2 ^ 52 := rfl
      have e3 : double.infRung = 2047 * 2 ^ 52 := rfl
      rw [e4, e2, e3, hr]
      have hrw := read_word_d s (52 - t + D) r (by omega) hrl
      obtain ⟨z, hz⟩ : ∃ z, 1075 - (52 - t + D) = z := ⟨_, rfl⟩
      rw [hz] at hrw
      have hz1 : z ≤ 1075 := by omega
      have e5 : ((t : Int) - D - 52 - (-1074)).toNat * 2 ^ 52 + (2 ^ 52 + r) = z * 2 ^ 52 + r := by
        have : ((t : Int) - D - 52 - (-1074)).toNat + 1 = z := by omega
        rw [← this, Nat.add_mul]; omega
      have e6 : z * 2 ^ 52 + r ≤ 2047 * 2 ^ 52 := rung_small hz1 hrl
      refine Eq.trans (congrArg (fun y => double.read (double.word s (min y (2047 * 2 ^ 52)))) e5) ?_
      refine Eq.trans (congrArg (fun y => double.read (double.word s y)) (Nat.min_eq_left e6)) ?_
      exact hrw
    · rw [show (-((52 - t + D : Nat) : Int) + (D : Int) + ((52 - t : Nat) : Int)).toNat = 0 by omega, ← hr, hsn]
      unfold signed
      cases s <;> simp [Nat.shiftLeft_eq, Int.neg_mul]
theorem mul_frac {a b : Nat} {x y : Int} {D : Nat} (hD : D ≤ 100) (ha : Fl a x) (hb : Fh D b y) (h : (x * y).natAbs < 2 ^ 53) : floatBits .mul .f64 a b = some (fbits .mul a b) ∧ Fh D (fbits .mul a b) (x * y) := by
  obtain ⟨s, m, i, hr, hv⟩ := ha
  obtain ⟨t, n, j, hr', hv'⟩ := hb
  have key : ∃ r, floatBits .mul .f64 a b = some r ∧ Fh D r (x * y) := by
    unfold floatBits
    simp only [FloatKind.format, Format.mul, hr, hr', Datum.product, Option.map_some]
    refine ⟨_, rfl, write_frac D hD ?_ h⟩
    obtain ⟨k, hk, h1⟩ := hv
    obtain ⟨k', hk', h2⟩ := hv'
    refine ⟨k + k', by omega, ?_⟩
    rw [show (i + j + (D : Int) + ((k + k' : Nat) : Int)).toNat = (i + k).toNat + (j + D + k').toNat by omega, signed_mul, h1, h2, Int.pow_add, Int.mul_assoc, Int.mul_assoc]
    congr 1
    rw [← Int.mul_assoc, Int.mul_comm _ y, Int.mul_assoc]
  obtain ⟨r, h1, h2⟩ := key
  have e : fbits .mul a b = r := by unfold fbits; rw [h1]; rfl
  rw [e]
  exact ⟨h1, h2⟩

theorem add_frac {a b : Nat} {x y : Int} {D : Nat} (hD : D ≤ 100) (ha : Fh D a x) (hb : Fh D b y) (h : (x + y).natAbs < 2 ^ 53) : floatBits .add .f64 a b = some (fbits .add a b) ∧ Fh D (fbits .add a b) (x + y) := by
  obtain ⟨s, m, i, hr, hv⟩ := ha
  obtain ⟨t, n, j, hr', hv'⟩ := hb
  have key : ∃ r, floatBits .add .f64 a b = some r ∧ Fh D r (x + y) := by
    unfold floatBits
    simp only [FloatKind.format, Format.add, hr, hr', Datum.sum, Option.map_some]
    refine ⟨_, rfl, write_frac D hD ?_ h⟩
    obtain ⟨k, hk⟩ : ∃ k : Nat, 0 ≤ min i j + D + k := ⟨(-(min i j)).toNat, by omega⟩
    refine ⟨k, hk, ?_⟩
    have h1 := hv.at k (by omega)
    have h2 := hv'.at k (by omega)
    rw [show (i + D + k).toNat = (i - min i j).toNat + (min i j + D + k).toNat by omega, signed_shift] at h1
    rw [show (j + D + k).toNat = (j - min i j).toNat + (min i j + D + k).toNat by omega, signed_shift] at h2
    rw [Int.add_mul, ← h1, ← h2, ← Int.add_mul]
    generalize signed s m (i - min i j).toNat + signed t n (j - min i j).toNat = T
    unfold signed
    rw [Nat.shiftLeft_eq]
    by_cases hT : T = 0
    · subst hT; simp
    · rw [if_neg hT]
      by_cases hn : T < 0
      · simp only [hn, decide_true, if_true, Int.natCast_mul, Int.natCast_pow, Int.cast_ofNat_Int, ← Int.neg_mul]
        congr 1; omega
      · simp only [hn, decide_false, Bool.false_eq_true, if_false, Int.natCast_mul, Int.natCast_pow, Int.cast_ofNat_Int]
        congr 1; omega
  obtain ⟨r, h1, h2⟩ := key
  have e : fbits .add a b = r := by unfold fbits; rw [h1]; rfl
  rw [e]
  exact ⟨h1, h2⟩

theorem sub_frac {a b : Nat} {x y : Int} {D : Nat} (hD : D ≤ 100) (ha : Fh D a x) (hb : Fh D b y) (h : (x - y).natAbs < 2 ^ 53) : floatBits .sub .f64 a b = some (fbits .sub a b) ∧ Fh D (fbits .sub a b) (x - y) := by
  obtain ⟨s, m, i, hr, hv⟩ := ha
  obtain ⟨t, n, j, hr', hv'⟩ := hb
  have key : ∃ r, floatBits .sub .f64 a b = some r ∧ Fh D r (x - y) := by
    unfold floatBits
    simp only [FloatKind.format, Format.sub, hr, hr', Datum.opposite, Datum.sum, Option.map_some]
    refine ⟨_, rfl, write_frac D hD ?_ h⟩
    obtain ⟨k, hk⟩ : ∃ k : Nat, 0 ≤ min i j + D + k := ⟨(-(min i j)).toNat, by omega⟩
    refine ⟨k, hk, ?_⟩
    have h1 := hv.at k (by omega)
    have h2 := hv'.at k (by omega)
    rw [show (i + D + k).toNat = (i - min i j).toNat + (min i j + D + k).toNat by omega, signed_shift] at h1
    rw [show (j + D + k).toNat = (j - min i j).toNat + (min i j + D + k).toNat by omega, signed_shift] at h2
    rw [Int.sub_mul, ← h1, ← h2, ← Int.sub_mul, signed_not]
    clear h1 h2
    generalize signed s m (i - min i j).toNat = A
    generalize signed t n (j - min i j).toNat = B
    rw [@Int.sub_eq_add_neg A B]
    generalize A + -B = T
    unfold signed
    rw [Nat.shiftLeft_eq]
    by_cases hT : T = 0
    · subst hT; simp
    · rw [if_neg hT]
      by_cases hn : T < 0
      · simp only [hn, decide_true, if_true, Int.natCast_mul, Int.natCast_pow, Int.cast_ofNat_Int, ← Int.neg_mul]
        congr 1; omega
      · simp only [hn, decide_false, Bool.false_eq_true, if_false, Int.natCast_mul, Int.natCast_pow, Int.cast_ofNat_Int]
        congr 1; omega
  obtain ⟨r, h1, h2⟩ := key
  have e : fbits .sub a b = r := by unfold fbits; rw [h1]; rfl
  rw [e]
  exact ⟨h1, h2⟩

theorem frac_of_whole {b : Nat} {n : Int} (D : Nat) (h : Fl b n) : Fh D b (n * 2 ^ D) := by
  obtain ⟨s, m, e, hr, k, hk, hv⟩ := h
  refine ⟨s, m, e, hr, k, by omega, ?_⟩
  rw [show (e + D + k).toNat = (e + k).toNat + D by omega]
  have := signed_shift s m (e + k).toNat D
  rw [this, hv, Int.mul_assoc, Int.mul_assoc, Int.mul_comm (2 ^ k)]

theorem cut_zero (s : Bool) (q d : Nat) : Toward.zero.cut s q d = q / 2 ^ d := by
  unfold Toward.cut
  simp only [Bool.toNat_false, Nat.add_zero, Nat.one_shiftLeft]
  rcases Nat.le_total d (q.log2 + 2) with h | h
  · rw [Nat.min_eq_left h]
  · rw [Nat.min_eq_right h]
    have h1 : q < 2 ^ (q.log2 + 1) := Nat.lt_log2_self
    have h2 : 2 ^ (q.log2 + 1) ≤ 2 ^ (q.log2 + 2) := Nat.pow_le_pow_right (by omega) (by omega)
    have h3 : 2 ^ (q.log2 + 2) ≤ 2 ^ d := Nat.pow_le_pow_right (by omega) h
    rw [Nat.div_eq_of_lt (by omega), Nat.div_eq_of_lt (by omega)]

theorem toInt_frac {D : Nat} {b : Nat} {n : Int} (h : Fh D b n) (h1 : -9223372036854775808 ≤ n.tdiv (2 ^ D)) (h2 : n.tdiv (2 ^ D) ≤ 9223372036854775807) : floatToIntVal .f64 b .i64 = some (n.tdiv (2 ^ D)) := by
  obtain ⟨s, m, e, hr, hv⟩ := h
  unfold floatToIntVal FloatKind.decode
  -- the magnitude
  have hm : m * 2 ^ e.toNat / 2 ^ (-e).toNat = n.natAbs / 2 ^ D := by
    have h3 := hv.at (-e).toNat (by omega)
    have h5 : (signed s m (e + D + ((-e).toNat : Int)).toNat).natAbs = m * 2 ^ (e + D + ((-e).toNat : Int)).toNat := by
      unfold signed
      rw [Nat.shiftLeft_eq]
      cases s
      · simp only [Bool.false_eq_true, if_false]; exact Int.natAbs_natCast _
      · simp only [if_true]; rw [Int.natAbs_neg]; exact Int.natAbs_natCast _
    rw [h3, Int.natAbs_mul, Int.natAbs_pow, show (e + D + ((-e).toNat : Int)).toNat = e.toNat + D by omega] at h5
    have h6 : n.natAbs * 2 ^ (-e).toNat = m * 2 ^ e.toNat * 2 ^ D := by
      rw [Nat.mul_assoc, ← Nat.pow_add]; exact h5
    have e1 : m * 2 ^ e.toNat * 2 ^ D / (2 ^ (-e).toNat * 2 ^ D) = m * 2 ^ e.toNat / 2 ^ (-e).toNat := Nat.mul_div_mul_right _ _ (Nat.two_pow_pos _)
    have e2 : n.natAbs * 2 ^ (-e).toNat / (2 ^ D * 2 ^ (-e).toNat) = n.natAbs / 2 ^ D := Nat.mul_div_mul_right _ _ (Nat.two_pow_pos _)
    rw [← e1, ← e2, h6, Nat.mul_comm (2 ^ D)]
  have hs : n = if s then -(n.natAbs : Int) else n.natAbs := by
    obtain ⟨k, _, hk⟩ := hv
    have p1 : (0 : Int) < 2 ^ k := Int.pow_pos (by omega)
    unfold signed at hk
    cases s
    · simp only [Bool.false_eq_true, if_false] at hk ⊢
      have : 0 ≤ n := by
        rcases Int.lt_or_le n 0 with h | h
        · have h7 := Int.mul_neg_of_neg_of_pos h p1
          rw [← hk] at h7
          exact absurd h7 (Int.not_lt.2 (Int.natCast_nonneg _))
        · exact h
      omega
    · simp only [if_true] at hk ⊢
      have : n ≤ 0 := by
        rcases Int.lt_or_le 0 n with h | h
        · have h7 := Int.mul_pos h p1
          rw [← hk] at h7
          have h8 : (0 : Int) ≤ ((m <<< (e + D + k).toNat : Nat) : Int) := Int.natCast_nonneg _
          omega
        · exact h
      omega
  have ht : n.tdiv (2 ^ D) = if s then -((n.natAbs / 2 ^ D : Nat) : Int) else ((n.natAbs / 2 ^ D : Nat) : Int) := by
    cases s
    · simp only [Bool.false_eq_true, if_false] at hs ⊢
      rw [hs]
      simp
    · simp only [if_true] at hs ⊢
      rw [hs, Int.neg_tdiv]
      simp
  have hi : (double.read b).toInt .zero = some (n.tdiv (2 ^ D)) := by
    rw [hr, ht]
    simp only [Datum.toInt, Datum.integral]
    congr 1
    rw [cut_zero, Nat.shiftLeft_eq, hm]
    unfold signed
    simp
  have e1 : IntKind.i64.min = -9223372036854775808 := by decide
  have e2 : IntKind.i64.max = 9223372036854775807 := by decide
  show (match (double.read b).toInt .zero with
    | some n => if IntKind.i64.min ≤ n ∧ n ≤ IntKind.i64.max then some n else none
    | none => none) = some (n.tdiv (2 ^ D))
  rw [hi]
  simp only [e1, e2]
  rw [if_pos ⟨h1, h2⟩]
end Go.Proofs.Ytgaglplionfdgaa
