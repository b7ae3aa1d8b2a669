/- Whole numbers as floats: what add, sub, mul, neg, abs, max and the conversions give of words that stand for small whole numbers. Plain mathematics. -/
import Derived.Laws.ComplexArith
namespace Go.Proofs.Ythndmoipemnllaa
open Ieee

/-- the number that a sign, a magnitude and a place stand for is n -/
def SV (s : Bool) (m : Nat) (e : Int) (n : Int) : Prop := ∃ k : Nat, 0 ≤ e + k ∧ signed s m (e + k).toNat = n * 2 ^ k
/-- the word b stands for the whole number n -/
def Fl (b : Nat) (n : Int) : Prop := ∃ s m e, double.read b = .number s m e ∧ SV s m e n

theorem signed_shift (s : Bool) (m u v : Nat) : signed s m (u + v) = signed s m u * 2 ^ v := by
  unfold signed
  simp only [Nat.shiftLeft_eq, Nat.pow_add]
  cases s <;> simp [Int.mul_assoc, Int.neg_mul]

theorem SV.at {s : Bool} {m : Nat} {e n : Int} (h : SV s m e n) (k : Nat) (hk : 0 ≤ e + k) : signed s m (e + k).toNat = n * 2 ^ k := by
  obtain ⟨k0, h0, h1⟩ := h
  have p0 : (0 : Int) < 2 ^ k0 := Int.pow_pos (by omega)
  rcases Nat.le_total k0 k with hle | hle
  · obtain ⟨d, rfl⟩ := Nat.exists_eq_add_of_le hle
    rw [show (e + ((k0 + d : Nat) : Int)).toNat = (e + k0).toNat + d by omega, signed_shift, h1, Int.pow_add, Int.mul_assoc]
  · obtain ⟨d, rfl⟩ := Nat.exists_eq_add_of_le hle
    have pd : (2 : Int) ^ d ≠ 0 := Int.ne_of_gt (Int.pow_pos (by omega))
    rw [show (e + ((k + d : Nat) : Int)).toNat = (e + k).toNat + d by omega, signed_shift, Int.pow_add, ← Int.mul_assoc] at h1
    exact Int.eq_of_mul_eq_mul_right pd h1

theorem SV.unique {s : Bool} {m : Nat} {e n n' : Int} (h : SV s m e n) (h' : SV s m e n') : n = n' := by
  obtain ⟨k, hk, h1⟩ := h
  have h2 := h'.at k hk
  rw [h1] at h2
  exact Int.eq_of_mul_eq_mul_right (Int.ne_of_gt (Int.pow_pos (by omega))) h2

theorem Fl.unique {b : Nat} {n n' : Int} (h : Fl b n) (h' : Fl b n') : n = n' := by
  obtain ⟨s, m, e, hr, hv⟩ := h
  obtain ⟨s', m', e', hr', hv'⟩ := h'
  rw [hr] at hr'
  cases hr'
  exact hv.unique hv'

theorem cut_exact (way : Toward) (s : Bool) (q d : Nat) (h : q ≠ 0 ∨ way = .zero) : way.cut s (q * 2 ^ d) d = q := by
  have h1 : min d ((q * 2 ^ d).log2 + 2) = d ∨ q = 0 := by
    by_cases hq : q = 0
    · exact .inr hq
    · refine .inl (Nat.min_eq_left ?_)
      have : d ≤ (q * 2 ^ d).log2 := (Nat.le_log2 (by have := Nat.two_pow_pos d; exact Nat.ne_of_gt (Nat.mul_pos (by omega) this))).2 (Nat.le_mul_of_pos_left _ (by omega))
      omega
  rcases h1 with h1 | h1
  · unfold Toward.cut
    simp only [h1, Nat.shiftLeft_eq, Nat.one_mul, Nat.mul_mod_left, Nat.mul_div_cancel _ (Nat.two_pow_pos d)]
    have hp := Nat.two_pow_pos d
    cases way <;> simp <;> omega
  · subst h1
    rcases h with h | h
    · exact absurd rfl h
    · subst h
      unfold Toward.cut
      simp

theorem read_zero (s : Bool) : double.read (double.word s 0) = .number s 0 (-1074) := by
  cases s <;> decide +kernel

theorem read_word (s : Bool) (d r : Nat) (hd : d ≤ 52) (hr : r < 2 ^ 52) :
    double.read (double.word s ((1075 - d) * 2 ^ 52 + r)) = .number s (2 ^ 52 + r) (-(d : Int)) := by
  have hlt : (1075 - d) * 2 ^ 52 + r < 2 ^ 63 := by
    have : (1075 - d) * 2 ^ 52 ≤ 1075 * 2 ^ 52 := Nat.mul_le_mul_right _ (by omega)
    omega
  have e1 : double.signWeight = 2 ^ 63 := rfl
  have e2 : double.binade = 2 ^ 52 := rfl
  have e3 : double.infRung = 2047 * 2 ^ 52 := rfl
  have e4 : double.leastPlace = -1074 := by decide
  have hm : double.word s ((1075 - d) * 2 ^ 52 + r) % 2 ^ 63 = (1075 - d) * 2 ^ 52 + r := by
    unfold Format.word
    rw [e1]
    cases s
    · exact Nat.mod_eq_of_lt hlt
    · simp only [if_true]; omega
  have hs : (double.word s ((1075 - d) * 2 ^ 52 + r) / 2 ^ 63 % 2 == 1) = s := by
    unfold Format.word
    rw [e1]
    cases s
    · have : ((1075 - d) * 2 ^ 52 + r) / 2 ^ 63 = 0 := Nat.div_eq_of_lt hlt
      simp only [Bool.false_eq_true, if_false, this]; rfl
    · simp only [if_true]
      have : (2 ^ 63 + ((1075 - d) * 2 ^ 52 + r)) / 2 ^ 63 = 1 := by omega
      rw [this]; rfl
  have hdv : ((1075 - d) * 2 ^ 52 + r) / 2 ^ 52 = 1075 - d := by
    rw [Nat.add_comm, Nat.add_mul_div_right _ _ (by omega), Nat.div_eq_of_lt hr]; omega
  have hmd : ((1075 - d) * 2 ^ 52 + r) % 2 ^ 52 = r := by
    rw [Nat.add_comm, Nat.add_mul_mod_self_right, Nat.mod_eq_of_lt hr]
  have g1 : ¬ (1075 - d) * 2 ^ 52 + r < 2 ^ 52 := by
    have : 1 * 2 ^ 52 ≤ (1075 - d) * 2 ^ 52 := Nat.mul_le_mul_right _ (by omega)
    omega
  have g2 : (1075 - d) * 2 ^ 52 + r < 2047 * 2 ^ 52 := by
    have : (1075 - d) * 2 ^ 52 ≤ 1075 * 2 ^ 52 := Nat.mul_le_mul_right _ (by omega)
    omega
  unfold Format.read
  simp only [e1, e2, e3, e4, hm, hs, if_neg g1, if_pos g2, hmd, hdv]
  congr 1
  omega

theorem rung_small {z r : Nat} (hz : z ≤ 1075) (hr : r < 2 ^ 52) : z * 2 ^ 52 + r ≤ 2047 * 2 ^ 52 := by
  have e : (2 : Nat) ^ 52 = 4503599627370496 := rfl
  rw [e] at hr ⊢
  omega

theorem log2_mul {m k : Nat} (hm : m ≠ 0) : (m * 2 ^ k).log2 = m.log2 + k := by
  have hp := Nat.two_pow_pos k
  rw [Nat.log2_eq_iff (Nat.ne_of_gt (Nat.mul_pos (by omega) hp))]
  refine ⟨?_, ?_⟩
  · rw [Nat.pow_add]; exact Nat.mul_le_mul_right _ (Nat.log2_self_le hm)
  · rw [show m.log2 + k + 1 = (m.log2 + 1) + k by omega, Nat.pow_add]; exact Nat.mul_lt_mul_of_pos_right Nat.lt_log2_self hp

/-- A small whole number is written as it is. -/
theorem write_whole {s : Bool} {m : Nat} {p n : Int} (h : SV s m p n) (hn : n.natAbs < 2 ^ 53) : Fl (double.write (.number s m p)) n := by
  show Fl (double.nearest s m p) n
  by_cases hm : m = 0
  · subst hm
    have h0 : n = 0 := by
      obtain ⟨k, _, hk⟩ := h
      have e : signed s 0 (p + k).toNat = 0 := by unfold signed; cases s <;> simp
      rw [e] at hk
      rcases Int.mul_eq_zero.1 hk.symm with h | h
      · exact h
      · exact absurd h (Int.ne_of_gt (Int.pow_pos (by omega)))
    subst h0
    refine ⟨s, 0, -1074, ?_, 1074, by omega, ?_⟩
    · unfold Format.nearest
      rw [if_pos rfl]
      exact read_zero s
    · rw [Int.zero_mul]; unfold signed; cases s <;> simp only [Nat.zero_shiftLeft] <;> rfl
  · -- the magnitude
    obtain ⟨k, hk, hkv⟩ := h
    have hN : m * 2 ^ (p + k).toNat = n.natAbs * 2 ^ k ∧ n = (if s then -(n.natAbs : Int) else n.natAbs) := by
      have p1 : (0 : Int) < 2 ^ k := Int.pow_pos (by omega)
      unfold signed at hkv
      rw [Nat.shiftLeft_eq] at hkv
      have hmp : 0 < m * 2 ^ (p + k).toNat := Nat.mul_pos (by omega) (Nat.two_pow_pos _)
      cases s
      · simp only [Bool.false_eq_true, if_false] at hkv ⊢
        have hpos : 0 ≤ n := by
          rcases Int.lt_or_le n 0 with h | h
          · have := Int.mul_neg_of_neg_of_pos h p1
            omega
          · exact h
        have e : (n.natAbs : Int) = n := Int.natAbs_of_nonneg hpos
        refine ⟨?_, e.symm⟩
        apply Int.ofNat_inj.1
        rw [hkv, Int.natCast_mul, e]
        simp
      · simp only [if_true] at hkv ⊢
        have hneg : n ≤ 0 := by
          rcases Int.lt_or_le 0 n with h | h
          · have := Int.mul_pos h p1
            omega
          · exact h
        have e : (n.natAbs : Int) = -n := Int.ofNat_natAbs_of_nonpos hneg
        refine ⟨?_, by omega⟩
        apply Int.ofNat_inj.1
        rw [Int.natCast_mul n.natAbs, e, Int.neg_mul]
        simp only [Int.natCast_pow, Int.cast_ofNat_Int]
        omega
    obtain ⟨hN, hsn⟩ := hN
    generalize hNN : n.natAbs = N at *
    have hN0 : N ≠ 0 := by
      intro h0
      subst h0
      rw [Nat.zero_mul] at hN
      rcases Nat.mul_eq_zero.1 hN with h | h
      · exact hm h
      · exact absurd h (Nat.ne_of_gt (Nat.two_pow_pos _))
    -- the place of the first digit
    obtain ⟨t, ht⟩ : ∃ t, N.log2 = t := ⟨_, rfl⟩
    have ht1 : 2 ^ t ≤ N := by rw [← ht]; exact Nat.log2_self_le hN0
    have ht2 : N < 2 ^ (t + 1) := by rw [← ht]; exact Nat.lt_log2_self
    have ht52 : t ≤ 52 := by
      rcases Nat.lt_or_ge 52 t with h | h
      · have : 2 ^ 53 ≤ 2 ^ t := Nat.pow_le_pow_right (by omega) h
        omega
      · exact h
    obtain ⟨L, hL⟩ : ∃ L, m.log2 = L := ⟨_, rfl⟩
    have hLt : (L : Int) + p = t := by
      have h1 : (m * 2 ^ (p + k).toNat).log2 = L + (p + k).toNat := by rw [← hL]; exact log2_mul hm
      have h2 : (N * 2 ^ k).log2 = t + k := by rw [← ht]; exact log2_mul hN0
      rw [hN, h2] at h1
      omega
    -- what is kept
    have hlast : max (p + (m.log2 : Int) - (double.fractionBits : Int)) double.leastPlace = (t : Int) - 52 := by
      have e4 : double.leastPlace = -1074 := by decide
      have e5 : (double.fractionBits : Int) = 52 := rfl
      rw [hL, e4, e5]
      omega
    have hkept : Toward.even.cut s (m <<< (p - ((t : Int) - 52)).toNat) ((t : Int) - 52 - p).toNat = N * 2 ^ (52 - t) := by
      rw [Nat.shiftLeft_eq]
      rcases Nat.le_total L 52 with hl | hl
      · have e1 : ((t : Int) - 52 - p).toNat = 0 := by omega
        have e2 : (p - ((t : Int) - 52)).toNat = 52 - L := by omega
        rw [e1, e2]
        have e3 : m * 2 ^ (52 - L) = N * 2 ^ (52 - t) := by
          have h1 : (m * 2 ^ (52 - L)) * 2 ^ ((p + k).toNat + t) = (N * 2 ^ (52 - t)) * 2 ^ ((p + k).toNat + t) := by
            have a1 : m * 2 ^ (52 - L) * 2 ^ ((p + k).toNat + t) = (m * 2 ^ (p + k).toNat) * 2 ^ (52 - L + t) := by
              rw [Nat.mul_assoc, Nat.mul_assoc, ← Nat.pow_add, ← Nat.pow_add]; congr 2; omega
            have a2 : N * 2 ^ (52 - t) * 2 ^ ((p + k).toNat + t) = (N * 2 ^ k) * 2 ^ (52 - L + t) := by
              rw [Nat.mul_assoc, Nat.mul_assoc, ← Nat.pow_add, ← Nat.pow_add]; congr 2; omega
            rw [a1, a2, hN]
          exact Nat.eq_of_mul_eq_mul_right (Nat.two_pow_pos _) h1
        have h2 := cut_exact .even s (m * 2 ^ (52 - L)) 0 (.inl (Nat.ne_of_gt (Nat.mul_pos (by omega) (Nat.two_pow_pos _))))
        rw [Nat.pow_zero, Nat.mul_one] at h2
        rw [h2, e3]
      · have e2 : (p - ((t : Int) - 52)).toNat = 0 := by omega
        have e1 : ((t : Int) - 52 - p).toNat = L - 52 := by omega
        rw [e1, e2, Nat.pow_zero, Nat.mul_one]
        have e3 : m = N * 2 ^ (52 - t) * 2 ^ (L - 52) := by
          have h1 : m * 2 ^ (p + k).toNat = N * 2 ^ (52 - t) * 2 ^ (L - 52) * 2 ^ (p + k).toNat := by
            rw [hN, Nat.mul_assoc, Nat.mul_assoc, ← Nat.pow_add, ← Nat.pow_add]; congr 2; omega
          exact Nat.eq_of_mul_eq_mul_right (Nat.two_pow_pos _) h1
        rw [e3]
        exact cut_exact .even s _ _ (.inl (Nat.ne_of_gt (Nat.mul_pos (by omega) (Nat.two_pow_pos _))))
    -- between the ends of a binade
    have hk1 : 2 ^ 52 ≤ N * 2 ^ (52 - t) := by
      have : 2 ^ t * 2 ^ (52 - t) ≤ N * 2 ^ (52 - t) := Nat.mul_le_mul_right _ ht1
      rw [← Nat.pow_add, show t + (52 - t) = 52 by omega] at this
      exact this
    have hk2 : N * 2 ^ (52 - t) < 2 ^ 53 := by
      have : N * 2 ^ (52 - t) < 2 ^ (t + 1) * 2 ^ (52 - t) := Nat.mul_lt_mul_of_pos_right ht2 (Nat.two_pow_pos _)
      rw [← Nat.pow_add, show t + 1 + (52 - t) = 53 by omega] at this
      exact this
    obtain ⟨r, hr⟩ : ∃ r, N * 2 ^ (52 - t) = 2 ^ 52 + r := ⟨_, (Nat.add_sub_cancel' hk1).symm⟩
    have hrl : r < 2 ^ 52 := by omega
    refine ⟨s, 2 ^ 52 + r, -((52 - t : Nat) : Int), ?_, 52 - t, by omega, ?_⟩
    · unfold Format.nearest
      rw [if_neg hm]
      simp only [hlast, hkept]
      have e4 : double.leastPlace = -1074 := by decide
      have e2 : double.binade = 2 ^ 52 := rfl
      have e3 : double.infRung = 2047 * 2 ^ 52 := rfl
      rw [e4, e2, e3, hr]
      have hrw := read_word s (52 - t) r (by omega) hrl
      obtain ⟨z, hz⟩ : ∃ z, 1075 - (52 - t) = z := ⟨_, rfl⟩
      rw [hz] at hrw
      have hz1 : z ≤ 1075 := by omega
      have e5 : ((t : Int) - 52 - (-1074)).toNat * 2 ^ 52 + (2 ^ 52 + r) = z * 2 ^ 52 + r := by
        have : ((t : Int) - 52 - (-1074)).toNat + 1 = z := by omega
        rw [← this, Nat.add_mul]; omega
      have e6 : z * 2 ^ 52 + r ≤ 2047 * 2 ^ 52 := rung_small hz1 hrl
      refine Eq.trans (congrArg (fun y => double.read (double.word s (min y (2047 * 2 ^ 52)))) e5) ?_
      refine Eq.trans (congrArg (fun y => double.read (double.word s y)) (Nat.min_eq_left e6)) ?_
      exact hrw
    · rw [show (-((52 - t : Nat) : Int) + ((52 - t : Nat) : Int)).toNat = 0 by omega, ← hr, hsn]
      unfold signed
      cases s <;> simp [Nat.shiftLeft_eq, Int.neg_mul]

def fbits (op : BinOp) (a b : Nat) : Nat := (floatBits op .f64 a b).getD 0

theorem add_whole {a b : Nat} {x y : Int} (ha : Fl a x) (hb : Fl b y) (h : (x + y).natAbs < 2 ^ 53) : floatBits .add .f64 a b = some (fbits .add a b) ∧ Fl (fbits .add a b) (x + y) := by
  obtain ⟨s, m, i, hr, hv⟩ := ha
  obtain ⟨t, n, j, hr', hv'⟩ := hb
  have key : ∃ r, floatBits .add .f64 a b = some r ∧ Fl r (x + y) := by
    unfold floatBits
    simp only [FloatKind.format, Format.add, hr, hr', Datum.sum, Option.map_some]
    refine ⟨_, rfl, write_whole ?_ h⟩
    obtain ⟨k, hk⟩ : ∃ k : Nat, 0 ≤ min i j + k := ⟨(-(min i j)).toNat, by omega⟩
    refine ⟨k, hk, ?_⟩
    have h1 := hv.at k (by omega)
    have h2 := hv'.at k (by omega)
    rw [show (i + k).toNat = (i - min i j).toNat + (min i j + k).toNat by omega, signed_shift] at h1
    rw [show (j + k).toNat = (j - min i j).toNat + (min i j + k).toNat by omega, signed_shift] at h2
    rw [Int.add_mul, ← h1, ← h2, ← Int.add_mul]
    generalize signed s m (i - min i j).toNat + signed t n (j - min i j).toNat = T
    unfold signed
    rw [Nat.shiftLeft_eq]
    by_cases hT : T = 0
    · subst hT; simp
    · rw [if_neg hT]
      by_cases hn : T < 0
      · simp only [hn, decide_true, if_true, Int.natCast_mul, Int.natCast_pow, Int.cast_ofNat_Int, ← Int.neg_mul]
        congr 1; omega
      · simp only [hn, decide_false, Bool.false_eq_true, if_false, Int.natCast_mul, Int.natCast_pow, Int.cast_ofNat_Int]
        congr 1; omega
  obtain ⟨r, h1, h2⟩ := key
  have e : fbits .add a b = r := by unfold fbits; rw [h1]; rfl
  rw [e]
  exact ⟨h1, h2⟩

theorem signed_not (s : Bool) (m u : Nat) : signed (!s) m u = -signed s m u := by unfold signed; cases s <;> simp

theorem sub_whole {a b : Nat} {x y : Int} (ha : Fl a x) (hb : Fl b y) (h : (x - y).natAbs < 2 ^ 53) : floatBits .sub .f64 a b = some (fbits .sub a b) ∧ Fl (fbits .sub a b) (x - y) := by
  obtain ⟨s, m, i, hr, hv⟩ := ha
  obtain ⟨t, n, j, hr', hv'⟩ := hb
  have key : ∃ r, floatBits .sub .f64 a b = some r ∧ Fl r (x - y) := by
    unfold floatBits
    simp only [FloatKind.format, Format.sub, hr, hr', Datum.opposite, Datum.sum, Option.map_some]
    refine ⟨_, rfl, write_whole ?_ h⟩
    obtain ⟨k, hk⟩ : ∃ k : Nat, 0 ≤ min i j + k := ⟨(-(min i j)).toNat, by omega⟩
    refine ⟨k, hk, ?_⟩
    have h1 := hv.at k (by omega)
    have h2 := hv'.at k (by omega)
    rw [show (i + k).toNat = (i - min i j).toNat + (min i j + k).toNat by omega, signed_shift] at h1
    rw [show (j + k).toNat = (j - min i j).toNat + (min i j + k).toNat by omega, signed_shift] at h2
    rw [Int.sub_mul, ← h1, ← h2, ← Int.sub_mul, signed_not]
    clear h1 h2
    generalize signed s m (i - min i j).toNat = A
    generalize signed t n (j - min i j).toNat = B
    rw [@Int.sub_eq_add_neg A B]
    generalize A + -B = T
    unfold signed
    rw [Nat.shiftLeft_eq]
    by_cases hT : T = 0
    · subst hT; simp
    · rw [if_neg hT]
      by_cases hn : T < 0
      · simp only [hn, decide_true, if_true, Int.natCast_mul, Int.natCast_pow, Int.cast_ofNat_Int, ← Int.neg_mul]
        congr 1; omega
      · simp only [hn, decide_false, Bool.false_eq_true, if_false, Int.natCast_mul, Int.natCast_pow, Int.cast_ofNat_Int]
        congr 1; omega
  obtain ⟨r, h1, h2⟩ := key
  have e : fbits .sub a b = r := by unfold fbits; rw [h1]; rfl
  rw [e]
  exact ⟨h1, h2⟩

theorem signed_mul (s t : Bool) (m n u v : Nat) : signed (s ^^ t) (m * n) (u + v) = signed s m u * signed t n v := by
  unfold signed
  simp only [Nat.shiftLeft_eq, Nat.pow_add]
  have e : ((m * n * (2 ^ u * 2 ^ v) : Nat) : Int) = (m * 2 ^ u : Nat) * (n * 2 ^ v : Nat) := by
    simp only [Int.natCast_mul]
    rw [Int.mul_assoc, Int.mul_assoc]; congr 1
    rw [← Int.mul_assoc, Int.mul_comm (n : Int), Int.mul_assoc]
  rw [e]
  cases s <;> cases t <;> simp [Int.neg_mul, Int.mul_neg]

theorem mul_whole {a b : Nat} {x y : Int} (ha : Fl a x) (hb : Fl b y) (h : (x * y).natAbs < 2 ^ 53) : floatBits .mul .f64 a b = some (fbits .mul a b) ∧ Fl (fbits .mul a b) (x * y) := by
  obtain ⟨s, m, i, hr, hv⟩ := ha
  obtain ⟨t, n, j, hr', hv'⟩ := hb
  have key : ∃ r, floatBits .mul .f64 a b = some r ∧ Fl r (x * y) := by
    unfold floatBits
    simp only [FloatKind.format, Format.mul, hr, hr', Datum.product, Option.map_some]
    refine ⟨_, rfl, write_whole ?_ h⟩
    obtain ⟨k, hk, h1⟩ := hv
    obtain ⟨k', hk', h2⟩ := hv'
    refine ⟨k + k', by omega, ?_⟩
    rw [show (i + j + ((k + k' : Nat) : Int)).toNat = (i + k).toNat + (j + k').toNat by omega, signed_mul, h1, h2, Int.pow_add, Int.mul_assoc, Int.mul_assoc]
    congr 1
    rw [← Int.mul_assoc, Int.mul_comm _ y, Int.mul_assoc]
  obtain ⟨r, h1, h2⟩ := key
  have e : fbits .mul a b = r := by unfold fbits; rw [h1]; rfl
  rw [e]
  exact ⟨h1, h2⟩

theorem ofInt_whole {n : Int} (h : n.natAbs < 2 ^ 53) : Fl (floatOfInt .f64 n) n := by
  show Fl (double.write (.number (n < 0) n.natAbs 0)) n
  refine write_whole ⟨0, by omega, ?_⟩ h
  unfold signed
  simp only [Nat.shiftLeft_eq]
  by_cases hn : n < 0
  · simp [hn]; omega
  · simp [hn]; omega

theorem toInt_whole {b : Nat} {n : Int} (h : Fl b n) (h1 : -9223372036854775808 ≤ n) (h2 : n ≤ 9223372036854775807) : floatToIntVal .f64 b .i64 = some n := by
  obtain ⟨s, m, e, hr, hv⟩ := h
  unfold floatToIntVal FloatKind.decode
  have hi : (double.read b).toInt .zero = some n := by
    rw [hr]
    simp only [Datum.toInt, Datum.integral]
    congr 1
    rcases Int.le_total 0 e with he | he
    · have h3 := hv.at 0 (by omega)
      simp only [Int.pow_zero, Int.mul_one] at h3
      rw [show (-e).toNat = 0 by omega]
      have h4 := cut_exact .zero s (m <<< e.toNat) 0 (.inr rfl)
      rw [Nat.pow_zero, Nat.mul_one] at h4
      rw [h4, ← h3, show (e + (0 : Nat)).toNat = e.toNat by omega]
      unfold signed; simp
    · have h3 := hv.at (-e).toNat (by omega)
      rw [show (e + ((-e).toNat : Int)).toNat = 0 by omega] at h3
      rw [show e.toNat = 0 by omega, Nat.shiftLeft_zero]
      have hm : m = n.natAbs * 2 ^ (-e).toNat := by
        have h5 : (signed s m 0).natAbs = m := by unfold signed; cases s <;> simp
        rw [← h5, h3, Int.natAbs_mul, Int.natAbs_pow]; rfl
      rw [hm, cut_exact .zero s _ _ (.inr rfl)]
      have p1 : (0 : Int) < 2 ^ (-e).toNat := Int.pow_pos (by omega)
      unfold signed at h3 ⊢
      simp only [Nat.shiftLeft_zero] at h3 ⊢
      cases s
      · simp only [Bool.false_eq_true, if_false] at h3 ⊢
        have : 0 ≤ n := by
          rcases Int.lt_or_le n 0 with h | h
          · have := Int.mul_neg_of_neg_of_pos h p1; omega
          · exact h
        omega
      · simp only [if_true] at h3 ⊢
        have : n ≤ 0 := by
          rcases Int.lt_or_le 0 n with h | h
          · have := Int.mul_pos h p1; omega
          · exact h
        omega
  have e1 : IntKind.i64.min = -9223372036854775808 := by decide
  have e2 : IntKind.i64.max = 9223372036854775807 := by decide
  show (match (double.read b).toInt .zero with
    | some n => if IntKind.i64.min ≤ n ∧ n ≤ IntKind.i64.max then some n else none
    | none => none) = some n
  rw [hi]
  simp only [e1, e2]
  rw [if_pos ⟨h1, h2⟩]

theorem neg_whole {b : Nat} {n : Int} (h : Fl b n) : Fl (Op.negFloat .f64 b) (-n) := by
  obtain ⟨s, m, e, hr, k, hk, hv⟩ := h
  refine ⟨!s, m, e, ?_, k, hk, by rw [signed_not, hv, Int.neg_mul]⟩
  have hx : Op.negFloat .f64 b = b ^^^ 2 ^ 63 := rfl
  have h1 : (b ^^^ 2 ^ 63) % 2 ^ 63 = b % 2 ^ 63 := by
    rw [Nat.xor_mod_two_pow]; simp
  have h2 : ((b ^^^ 2 ^ 63) / 2 ^ 63 % 2 == 1) = !(b / 2 ^ 63 % 2 == 1) := by
    rw [Nat.xor_div_two_pow, Nat.div_self (by omega : 0 < 2 ^ 63), show (b / 2 ^ 63 ^^^ 1) % 2 = ((b / 2 ^ 63) % 2 ^^^ 1) by rw [show (2 : Nat) = 2 ^ 1 by rfl, Nat.xor_mod_two_pow]]
    have : b / 2 ^ 63 % 2 < 2 := Nat.mod_lt _ (by omega)
    generalize b / 2 ^ 63 % 2 = q at *
    match q, this with
    | 0, _ => rfl
    | 1, _ => rfl
  unfold Format.read at hr ⊢
  have e1 : double.signWeight = 2 ^ 63 := rfl
  simp only [hx, e1, h1, h2] at hr ⊢
  split
  · rename_i hlt
    simp only [hlt, if_true, Datum.number.injEq] at hr ⊢
    exact ⟨by rw [hr.1], hr.2⟩
  · rename_i hlt
    simp only [hlt, if_false] at hr
    split
    · rename_i hlt2
      simp only [hlt2, if_true, Datum.number.injEq] at hr ⊢
      exact ⟨by rw [hr.1], hr.2⟩
    · rename_i hlt2
      simp only [hlt2, if_false] at hr
      split at hr <;> cases hr

theorem abs_whole {b : Nat} {n : Int} (h : Fl b n) : Fl (b % 2 ^ 63) (max n (-n)) := by
  obtain ⟨s, m, e, hr, k, hk, hv⟩ := h
  refine ⟨false, m, e, ?_, k, hk, ?_⟩
  · unfold Format.read at hr ⊢
    have e1 : double.signWeight = 2 ^ 63 := rfl
    have h2 : (b % 2 ^ 63 / 2 ^ 63 % 2 == 1) = false := by
      rw [Nat.div_eq_of_lt (Nat.mod_lt _ (by omega))]; rfl
    simp only [e1, Nat.mod_mod, h2] at hr ⊢
    split
    · rename_i hlt
      simp only [hlt, if_true, Datum.number.injEq] at hr ⊢
      exact ⟨trivial, hr.2⟩
    · rename_i hlt
      simp only [hlt, if_false] at hr
      split
      · rename_i hlt2
        simp only [hlt2, if_true, Datum.number.injEq] at hr ⊢
        exact ⟨trivial, hr.2⟩
      · rename_i hlt2
        simp only [hlt2, if_false] at hr
        split at hr <;> cases hr
  · have p1 : (0 : Int) < 2 ^ k := Int.pow_pos (by omega)
    have p2 := Int.natCast_nonneg (m <<< (e + k).toNat)
    unfold signed at hv ⊢
    cases s
    · simp only [Bool.false_eq_true, if_false] at hv ⊢
      have : 0 ≤ n := by
        rcases Int.lt_or_le n 0 with h | h
        · have := Int.mul_neg_of_neg_of_pos h p1; omega
        · exact h
      rw [hv, show max n (-n) = n by omega]
    · simp only [Bool.false_eq_true, if_false, if_true] at hv ⊢
      have : n ≤ 0 := by
        rcases Int.lt_or_le 0 n with h | h
        · have := Int.mul_pos h p1; omega
        · exact h
      rw [show max n (-n) = -n by omega, Int.neg_mul, ← hv, Int.neg_neg]

theorem order_whole {a b : Nat} {x y : Int} (ha : Fl a x) (hb : Fl b y) : FloatKind.f64.format.order a b = some (compare x y) := by
  obtain ⟨s, m, i, hr, hv⟩ := ha
  obtain ⟨t, n, j, hr', hv'⟩ := hb
  show double.order a b = _
  unfold Format.order
  rw [hr, hr']
  simp only [Datum.order]
  obtain ⟨k, hk⟩ : ∃ k : Nat, 0 ≤ min i j + k := ⟨(-(min i j)).toNat, by omega⟩
  have h1 := hv.at k (by omega)
  have h2 := hv'.at k (by omega)
  rw [show (i + k).toNat = (i - min i j).toNat + (min i j + k).toNat by omega, signed_shift] at h1
  rw [show (j + k).toNat = (j - min i j).toNat + (min i j + k).toNat by omega, signed_shift] at h2
  generalize signed s m (i - min i j).toNat = A at *
  generalize signed t n (j - min i j).toNat = B at *
  have p1 : (0 : Int) < 2 ^ k := Int.pow_pos (by omega)
  have p2 : (0 : Int) < 2 ^ (min i j + k).toNat := Int.pow_pos (by omega)
  congr 1
  have lt : ∀ {A B x y : Int}, A * 2 ^ (min i j + k).toNat = x * 2 ^ k → B * 2 ^ (min i j + k).toNat = y * 2 ^ k → x < y → A < B := by
    intro A B x y h1 h2 h
    have := Int.mul_lt_mul_of_pos_right h p1
    rw [← h1, ← h2] at this
    exact Int.lt_of_mul_lt_mul_right this (Int.le_of_lt p2)
  rcases Int.lt_trichotomy x y with h | h | h
  · have := lt h1 h2 h
    rw [show compare A B = .lt from Int.compare_eq_lt.2 this, show compare x y = .lt from Int.compare_eq_lt.2 h]
  · have : A = B := by
      have h3 : A * 2 ^ (min i j + k).toNat = B * 2 ^ (min i j + k).toNat := by rw [h1, h2, h]
      exact Int.eq_of_mul_eq_mul_right (Int.ne_of_gt p2) h3
    rw [show compare A B = .eq from Int.compare_eq_eq.2 this, show compare x y = .eq from Int.compare_eq_eq.2 h]
  · have := lt h2 h1 h
    rw [show compare A B = .gt from Int.compare_eq_gt.2 this, show compare x y = .gt from Int.compare_eq_gt.2 h]

/-- the greater word -/
def fmax (a b : Nat) : Nat :=
  match FloatKind.f64.format.order a b with
  | some .lt => b
  | some .gt => a
  | _ => if (FloatKind.f64.decode a).neg then b else a

theorem max_whole {a b : Nat} {x y : Int} (ha : Fl a x) (hb : Fl b y) : Fl (fmax a b) (max x y) := by
  unfold fmax
  rw [order_whole ha hb]
  rcases Int.lt_trichotomy x y with h | h | h
  · rw [show compare x y = .lt from Int.compare_eq_lt.2 h, show max x y = y by omega]; exact hb
  · rw [show compare x y = .eq from Int.compare_eq_eq.2 h]
    subst h
    simp only [show max x x = x by omega]
    split
    · exact hb
    · exact ha
  · rw [show compare x y = .gt from Int.compare_eq_gt.2 h, show max x y = x by omega]; exact ha

theorem one_whole : Fl 4607182418800017408 1 := by
  refine ⟨false, 2 ^ 52, -52, by decide +kernel, 52, by omega, by decide +kernel⟩
theorem zero_whole : Fl 0 0 := by
  refine ⟨false, 0, -1074, by decide +kernel, 1074, by omega, by decide +kernel⟩
theorem Fl.lt_of_format {b : Nat} {r : Nat} {op : BinOp} {a : Nat} (h : floatBits op .f64 a b = some r) : r < 2 ^ 64 := by
  have := floatBits_wf h
  simpa [Lit.wf] using this
end Go.Proofs.Ythndmoipemnllaa
