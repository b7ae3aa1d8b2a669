/- Texts of this proof, joined: Float; GaussA; Labels; GaussB; GaussC; GaussR; WalkRefA. -/
import Derived.Test.YtddlgnfghecncaaBun1
import Derived.Laws.ComplexArith
import Derived.Test.YtddlgnfghecncaaRows
import Derived.WalkSpells
import Derived.WalkLawsBesides
import Derived.Lib.Hide
import Derived.Lib.MinMax
import Derived.WalkKit
import Derived.Deep.LoopGhost
import Derived.Deep.DeepCutAuto
/- Whole numbers as floats: what add, sub, mul, neg, abs, max and the conversions give of words that stand for small whole numbers. Plain mathematics. -/
namespace Go.Proofs.Ytddlgnfghecncaa
open Ieee

/-- the number that a sign, a magnitude and a place stand for is n -/
def SV (s : Bool) (m : Nat) (e : Int) (n : Int) : Prop := ∃ k : Nat, 0 ≤ e + k ∧ signed s m (e + k).toNat = n * 2 ^ k
/-- the word b stands for the whole number n -/
def Fl (b : Nat) (n : Int) : Prop := ∃ s m e, double.read b = .number s m e ∧ SV s m e n

theorem signed_shift (s : Bool) (m u v : Nat) : signed s m (u + v) = signed s m u * 2 ^ v := by
  unfold signed
  simp only [Nat.shiftLeft_eq, Nat.pow_add]
  cases s <;> simp [Int.mul_assoc, Int.neg_mul]

theorem SV.at {s : Bool} {m : Nat} {e n : Int} (h : SV s m e n) (k : Nat) (hk : 0 ≤ e + k) : signed s m (e + k).toNat = n * 2 ^ k := by
  obtain ⟨k0, h0, h1⟩ := h
  have p0 : (0 : Int) < 2 ^ k0 := Int.pow_pos (by omega)
  rcases Nat.le_total k0 k with hle | hle
  · obtain ⟨d, rfl⟩ := Nat.exists_eq_add_of_le hle
    rw [show (e + ((k0 + d : Nat) : Int)).toNat = (e + k0).toNat + d by omega, signed_shift, h1, Int.pow_add, Int.mul_assoc]
  · obtain ⟨d, rfl⟩ := Nat.exists_eq_add_of_le hle
    have pd : (2 : Int) ^ d ≠ 0 := Int.ne_of_gt (Int.pow_pos (by omega))
    rw [show (e + ((k + d : Nat) : Int)).toNat = (e + k).toNat + d by omega, signed_shift, Int.pow_add, ← Int.mul_assoc] at h1
    exact Int.eq_of_mul_eq_mul_right pd h1

theorem SV.unique {s : Bool} {m : Nat} {e n n' : Int} (h : SV s m e n) (h' : SV s m e n') : n = n' := by
  obtain ⟨k, hk, h1⟩ := h
  have h2 := h'.at k hk
  rw [h1] at h2
  exact Int.eq_of_mul_eq_mul_right (Int.ne_of_gt (Int.pow_pos (by omega))) h2

theorem Fl.unique {b : Nat} {n n' : Int} (h : Fl b n) (h' : Fl b n') : n = n' := by
  obtain ⟨s, m, e, hr, hv⟩ := h
  obtain ⟨s', m', e', hr', hv'⟩ := h'
  rw [hr] at hr'
  cases hr'
  exact hv.unique hv'

theorem cut_exact (way : Toward) (s : Bool) (q d : Nat) (h : q ≠ 0 ∨ way = .zero) : way.cut s (q * 2 ^ d) d = q := by
  have h1 : min d ((q * 2 ^ d).log2 + 2) = d ∨ q = 0 := by
    by_cases hq : q = 0
    · exact .inr hq
    · refine .inl (Nat.min_eq_left ?_)
      have : d ≤ (q * 2 ^ d).log2 := (Nat.le_log2 (by have := Nat.two_pow_pos d; exact Nat.ne_of_gt (Nat.mul_pos (by omega) this))).2 (Nat.le_mul_of_pos_left _ (by omega))
      omega
  rcases h1 with h1 | h1
  · unfold Toward.cut
    simp only [h1, Nat.shiftLeft_eq, Nat.one_mul, Nat.mul_mod_left, Nat.mul_div_cancel _ (Nat.two_pow_pos d)]
    have hp := Nat.two_pow_pos d
    cases way <;> simp <;> omega
  · subst h1
    rcases h with h | h
    · exact absurd rfl h
    · subst h
      unfold Toward.cut
      simp

theorem read_zero (s : Bool) : double.read (double.word s 0) = .number s 0 (-1074) := by
  cases s <;> decide +kernel

theorem read_word (s : Bool) (d r : Nat) (hd : d ≤ 52) (hr : r < 2 ^ 52) :
    double.read (double.word s ((1075 - d) * 2 ^ 52 + r)) = .number s (2 ^ 52 + r) (-(d : Int)) := by
  have hlt : (1075 - d) * 2 ^ 52 + r < 2 ^ 63 := by
    have : (1075 - d) * 2 ^ 52 ≤ 1075 * 2 ^ 52 := Nat.mul_le_mul_right _ (by omega)
    omega
  have e1 : double.signWeight = 2 ^ 63 := rfl
  have e2 : double.binade = 2 ^ 52 := rfl
  have e3 : double.infRung = 2047 * 2 ^ 52 := rfl
  have e4 : double.leastPlace = -1074 := by decide
  have hm : double.word s ((1075 - d) * 2 ^ 52 + r) % 2 ^ 63 = (1075 - d) * 2 ^ 52 + r := by
    unfold Format.word
    rw [e1]
    cases s
    · exact Nat.mod_eq_of_lt hlt
    · simp only [if_true]; omega
  have hs : (double.word s ((1075 - d) * 2 ^ 52 + r) / 2 ^ 63 % 2 == 1) = s := by
    unfold Format.word
    rw [e1]
    cases s
    · have : ((1075 - d) * 2 ^ 52 + r) / 2 ^ 63 = 0 := Nat.div_eq_of_lt hlt
      simp only [Bool.false_eq_true, if_false, this]; rfl
    · simp only [if_true]
      have : (2 ^ 63 + ((1075 - d) * 2 ^ 52 + r)) / 2 ^ 63 = 1 := by omega
      rw [this]; rfl
  have hdv : ((1075 - d) * 2 ^ 52 + r) / 2 ^ 52 = 1075 - d := by
    rw [Nat.add_comm, Nat.add_mul_div_right _ _ (by omega), Nat.div_eq_of_lt hr]; omega
  have hmd : ((1075 - d) * 2 ^ 52 + r) % 2 ^ 52 = r := by
    rw [Nat.add_comm, Nat.add_mul_mod_self_right, Nat.mod_eq_of_lt hr]
  have g1 : ¬ (1075 - d) * 2 ^ 52 + r < 2 ^ 52 := by
    have : 1 * 2 ^ 52 ≤ (1075 - d) * 2 ^ 52 := Nat.mul_le_mul_right _ (by omega)
    omega
  have g2 : (1075 - d) * 2 ^ 52 + r < 2047 * 2 ^ 52 := by
    have : (1075 - d) * 2 ^ 52 ≤ 1075 * 2 ^ 52 := Nat.mul_le_mul_right _ (by omega)
    omega
  unfold Format.read
  simp only [e1, e2, e3, e4, hm, hs, if_neg g1, if_pos g2, hmd, hdv]
  congr 1
  omega

theorem rung_small {z r : Nat} (hz : z ≤ 1075) (hr : r < 2 ^ 52) : z * 2 ^ 52 + r ≤ 2047 * 2 ^ 52 := by
  have e : (2 : Nat) ^ 52 = 4503599627370496 := rfl
  rw [e] at hr ⊢
  omega

theorem log2_mul {m k : Nat} (hm : m ≠ 0) : (m * 2 ^ k).log2 = m.log2 + k := by
  have hp := Nat.two_pow_pos k
  rw [Nat.log2_eq_iff (Nat.ne_of_gt (Nat.mul_pos (by omega) hp))]
  refine ⟨?_, ?_⟩
  · rw [Nat.pow_add]; exact Nat.mul_le_mul_right _ (Nat.log2_self_le hm)
  · rw [show m.log2 + k + 1 = (m.log2 + 1) + k by omega, Nat.pow_add]; exact Nat.mul_lt_mul_of_pos_right Nat.lt_log2_self hp

/-- A small whole number is written as it is. -/
theorem write_whole {s : Bool} {m : Nat} {p n : Int} (h : SV s m p n) (hn : n.natAbs < 2 ^ 53) : Fl (double.write (.number s m p)) n := by
  show Fl (double.nearest s m p) n
  by_cases hm : m = 0
  · subst hm
    have h0 : n = 0 := by
      obtain ⟨k, _, hk⟩ := h
      have e : signed s 0 (p + k).toNat = 0 := by unfold signed; cases s <;> simp
      rw [e] at hk
      rcases Int.mul_eq_zero.1 hk.symm with h | h
      · exact h
      · exact absurd h (Int.ne_of_gt (Int.pow_pos (by omega)))
    subst h0
    refine ⟨s, 0, -1074, ?_, 1074, by omega, ?_⟩
    · unfold Format.nearest
      rw [if_pos rfl]
      exact read_zero s
    · rw [Int.zero_mul]; unfold signed; cases s <;> simp only [Nat.zero_shiftLeft] <;> rfl
  · -- the magnitude
    obtain ⟨k, hk, hkv⟩ := h
    have hN : m * 2 ^ (p + k).toNat = n.natAbs * 2 ^ k ∧ n = (if s then -(n.natAbs : Int) else n.natAbs) := by
      have p1 : (0 : Int) < 2 ^ k := Int.pow_pos (by omega)
      unfold signed at hkv
      rw [Nat.shiftLeft_eq] at hkv
      have hmp : 0 < m * 2 ^ (p + k).toNat := Nat.mul_pos (by omega) (Nat.two_pow_pos _)
      cases s
      · simp only [Bool.false_eq_true, if_false] at hkv ⊢
        have hpos : 0 ≤ n := by
          rcases Int.lt_or_le n 0 with h | h
          · have := Int.mul_neg_of_neg_of_pos h p1
            omega
          · exact h
        have e : (n.natAbs : Int) = n := Int.natAbs_of_nonneg hpos
        refine ⟨?_, e.symm⟩
        apply Int.ofNat_inj.1
        rw [hkv, Int.natCast_mul, e]
        simp
      · simp only [if_true] at hkv ⊢
        have hneg : n ≤ 0 := by
          rcases Int.lt_or_le 0 n with h | h
          · have := Int.mul_pos h p1
            omega
          · exact h
        have e : (n.natAbs : Int) = -n := Int.ofNat_natAbs_of_nonpos hneg
        refine ⟨?_, by omega⟩
        apply Int.ofNat_inj.1
        rw [Int.natCast_mul n.natAbs, e, Int.neg_mul]
        simp only [Int.natCast_pow, Int.cast_ofNat_Int]
        omega
    obtain ⟨hN, hsn⟩ := hN
    generalize hNN : n.natAbs = N at *
    have hN0 : N ≠ 0 := by
      intro h0
      subst h0
      rw [Nat.zero_mul] at hN
      rcases Nat.mul_eq_zero.1 hN with h | h
      · exact hm h
      · exact absurd h (Nat.ne_of_gt (Nat.two_pow_pos _))
    -- the place of the first digit
    obtain ⟨t, ht⟩ : ∃ t, N.log2 = t := ⟨_, rfl⟩
    have ht1 : 2 ^ t ≤ N := by rw [← ht]; exact Nat.log2_self_le hN0
    have ht2 : N < 2 ^ (t + 1) := by rw [← ht]; exact Nat.lt_log2_self
    have ht52 : t ≤ 52 := by
      rcases Nat.lt_or_ge 52 t with h | h
      · have : 2 ^ 53 ≤ 2 ^ t := Nat.pow_le_pow_right (by omega) h
        omega
      · exact h
    obtain ⟨L, hL⟩ : ∃ L, m.log2 = L := ⟨_, rfl⟩
    have hLt : (L : Int) + p = t := by
      have h1 : (m * 2 ^ (p + k).toNat).log2 = L + (p + k).toNat := by rw [← hL]; exact log2_mul hm
      have h2 : (N * 2 ^ k).log2 = t + k := by rw [← ht]; exact log2_mul hN0
      rw [hN, h2] at h1
      omega
    -- what is kept
    have hlast : max (p + (m.log2 : Int) - (double.fractionBits : Int)) double.leastPlace = (t : Int) - 52 := by
      have e4 : double.leastPlace = -1074 := by decide
      have e5 : (double.fractionBits : Int) = 52 := rfl
      rw [hL, e4, e5]
      omega
    have hkept : Toward.even.cut s (m <<< (p - ((t : Int) - 52)).toNat) ((t : Int) - 52 - p).toNat = N * 2 ^ (52 - t) := by
      rw [Nat.shiftLeft_eq]
      rcases Nat.le_total L 52 with hl | hl
      · have e1 : ((t : Int) - 52 - p).toNat = 0 := by omega
        have e2 : (p - ((t : Int) - 52)).toNat = 52 - L := by omega
        rw [e1, e2]
        have e3 : m * 2 ^ (52 - L) = N * 2 ^ (52 - t) := by
          have h1 : (m * 2 ^ (52 - L)) * 2 ^ ((p + k).toNat + t) = (N * 2 ^ (52 - t)) * 2 ^ ((p + k).toNat + t) := by
            have a1 : m * 2 ^ (52 - L) * 2 ^ ((p + k).toNat + t) = (m * 2 ^ (p + k).toNat) * 2 ^ (52 - L + t) := by
              rw [Nat.mul_assoc, Nat.mul_assoc, ← Nat.pow_add, ← Nat.pow_add]; congr 2; omega
            have a2 : N * 2 ^ (52 - t) * 2 ^ ((p + k).toNat + t) = (N * 2 ^ k) * 2 ^ (52 - L + t) := by
              rw [Nat.mul_assoc, Nat.mul_assoc, ← Nat.pow_add, ← Nat.pow_add]; congr 2; omega
            rw [a1, a2, hN]
          exact Nat.eq_of_mul_eq_mul_right (Nat.two_pow_pos _) h1
        have h2 := cut_exact .even s (m * 2 ^ (52 - L)) 0 (.inl (Nat.ne_of_gt (Nat.mul_pos (by omega) (Nat.two_pow_pos _))))
        rw [Nat.pow_zero, Nat.mul_one] at h2
        rw [h2, e3]
      · have e2 : (p - ((t : Int) - 52)).toNat = 0 := by omega
        have e1 : ((t : Int) - 52 - p).toNat = L - 52 := by omega
        rw [e1, e2, Nat.pow_zero, Nat.mul_one]
        have e3 : m = N * 2 ^ (52 - t) * 2 ^ (L - 52) := by
          have h1 : m * 2 ^ (p + k).toNat = N * 2 ^ (52 - t) * 2 ^ (L - 52) * 2 ^ (p + k).toNat := by
            rw [hN, Nat.mul_assoc, Nat.mul_assoc, ← Nat.pow_add, ← Nat.pow_add]; congr 2; omega
          exact Nat.eq_of_mul_eq_mul_right (Nat.two_pow_pos _) h1
        rw [e3]
        exact cut_exact .even s _ _ (.inl (Nat.ne_of_gt (Nat.mul_pos (by omega) (Nat.two_pow_pos _))))
    -- between the ends of a binade
    have hk1 : 2 ^ 52 ≤ N * 2 ^ (52 - t) := by
      have : 2 ^ t * 2 ^ (52 - t) ≤ N * 2 ^ (52 - t) := Nat.mul_le_mul_right _ ht1
      rw [← Nat.pow_add, show t + (52 - t) = 52 by omega] at this
      exact this
    have hk2 : N * 2 ^ (52 - t) < 2 ^ 53 := by
      have : N * 2 ^ (52 - t) < 2 ^ (t + 1) * 2 ^ (52 - t) := Nat.mul_lt_mul_of_pos_right ht2 (Nat.two_pow_pos _)
      rw [← Nat.pow_add, show t + 1 + (52 - t) = 53 by omega] at this
      exact this
    obtain ⟨r, hr⟩ : ∃ r, N * 2 ^ (52 - t) = 2 ^ 52 + r := ⟨_, (Nat.add_sub_cancel' hk1).symm⟩
    have hrl : r < 2 ^ 52 := by omega
    refine ⟨s, 2 ^ 52 + r, -((52 - t : Nat) : Int), ?_, 52 - t, by omega, ?_⟩
    · unfold Format.nearest
      rw [if_neg hm]
      simp only [hlast, hkept]
      have e4 : double.leastPlace = -1074 := by decide
      have e2 : double.binade = 2 ^ 52 := rfl
      have e3 : double.infRung = 2047 * 2 ^ 52 := rfl
      rw [e4, e2, e3, hr]
      have hrw := read_word s (52 - t) r (by omega) hrl
      obtain ⟨z, hz⟩ : ∃ z, 1075 - (52 - t) = z := ⟨_, rfl⟩
      rw [hz] at hrw
      have hz1 : z ≤ 1075 := by omega
      have e5 : ((t : Int) - 52 - (-1074)).toNat * 2 ^ 52 + (2 ^ 52 + r) = z * 2 ^ 52 + r := by
        have : ((t : Int) - 52 - (-1074)).toNat + 1 = z := by omega
        rw [← this, Nat.add_mul]; omega
      have e6 : z * 2 ^ 52 + r ≤ 2047 * 2 ^ 52 := rung_small hz1 hrl
      refine Eq.trans (congrArg (fun y => double.read (double.word s (min y (2047 * 2 ^ 52)))) e5) ?_
      refine Eq.trans (congrArg (fun y => double.read (double.word s y)) (Nat.min_eq_left e6)) ?_
      exact hrw
    · rw [show (-((52 - t : Nat) : Int) + ((52 - t : Nat) : Int)).toNat = 0 by omega, ← hr, hsn]
      unfold signed
      cases s <;> simp [Nat.shiftLeft_eq, Int.neg_mul]

def fbits (op : BinOp) (a b : Nat) : Nat := (floatBits op .f64 a b).getD 0

theorem add_whole {a b : Nat} {x y : Int} (ha : Fl a x) (hb : Fl b y) (h : (x + y).natAbs < 2 ^ 53) : floatBits .add .f64 a b = some (fbits .add a b) ∧ Fl (fbits .add a b) (x + y) := by
  obtain ⟨s, m, i, hr, hv⟩ := ha
  obtain ⟨t, n, j, hr', hv'⟩ := hb
  have key : ∃ r, floatBits .add .f64 a b = some r ∧ Fl r (x + y) := by
    unfold floatBits
    simp only [FloatKind.format, Format.add, hr, hr', Datum.sum, Option.map_some]
    refine ⟨_, rfl, write_whole ?_ h⟩
    obtain ⟨k, hk⟩ : ∃ k : Nat, 0 ≤ min i j + k := ⟨(-(min i j)).toNat, by omega⟩
    refine ⟨k, hk, ?_⟩
    have h1 := hv.at k (by omega)
    have h2 := hv'.at k (by omega)
    rw [show (i + k).toNat = (i - min i j).toNat + (min i j + k).toNat by omega, signed_shift] at h1
    rw [show (j + k).toNat = (j - min i j).toNat + (min i j + k).toNat by omega, signed_shift] at h2
    rw [Int.add_mul, ← h1, ← h2, ← Int.add_mul]
    generalize signed s m (i - min i j).toNat + signed t n (j - min i j).toNat = T
    unfold signed
    rw [Nat.shiftLeft_eq]
    by_cases hT : T = 0
    · subst hT; simp
    · rw [if_neg hT]
      by_cases hn : T < 0
      · simp only [hn, decide_true, if_true, Int.natCast_mul, Int.natCast_pow, Int.cast_ofNat_Int, ← Int.neg_mul]
        congr 1; omega
      · simp only [hn, decide_false, Bool.false_eq_true, if_false, Int.natCast_mul, Int.natCast_pow, Int.cast_ofNat_Int]
        congr 1; omega
  obtain ⟨r, h1, h2⟩ := key
  have e : fbits .add a b = r := by unfold fbits; rw [h1]; rfl
  rw [e]
  exact ⟨h1, h2⟩

theorem signed_not (s : Bool) (m u : Nat) : signed (!s) m u = -signed s m u := by unfold signed; cases s <;> simp

theorem sub_whole {a b : Nat} {x y : Int} (ha : Fl a x) (hb : Fl b y) (h : (x - y).natAbs < 2 ^ 53) : floatBits .sub .f64 a b = some (fbits .sub a b) ∧ Fl (fbits .sub a b) (x - y) := by
  obtain ⟨s, m, i, hr, hv⟩ := ha
  obtain ⟨t, n, j, hr', hv'⟩ := hb
  have key : ∃ r, floatBits .sub .f64 a b = some r ∧ Fl r (x - y) := by
    unfold floatBits
    simp only [FloatKind.format, Format.sub, hr, hr', Datum.opposite, Datum.sum, Option.map_some]
    refine ⟨_, rfl, write_whole ?_ h⟩
    obtain ⟨k, hk⟩ : ∃ k : Nat, 0 ≤ min i j + k := ⟨(-(min i j)).toNat, by omega⟩
    refine ⟨k, hk, ?_⟩
    have h1 := hv.at k (by omega)
    have h2 := hv'.at k (by omega)
    rw [show (i + k).toNat = (i - min i j).toNat + (min i j + k).toNat by omega, signed_shift] at h1
    rw [show (j + k).toNat = (j - min i j).toNat + (min i j + k).toNat by omega, signed_shift] at h2
    rw [Int.sub_mul, ← h1, ← h2, ← Int.sub_mul, signed_not]
    clear h1 h2
    generalize signed s m (i - min i j).toNat = A
    generalize signed t n (j - min i j).toNat = B
    rw [@Int.sub_eq_add_neg A B]
    generalize A + -B = T
    unfold signed
    rw [Nat.shiftLeft_eq]
    by_cases hT : T = 0
    · subst hT; simp
    · rw [if_neg hT]
      by_cases hn : T < 0
      · simp only [hn, decide_true, if_true, Int.natCast_mul, Int.natCast_pow, Int.cast_ofNat_Int, ← Int.neg_mul]
        congr 1; omega
      · simp only [hn, decide_false, Bool.false_eq_true, if_false, Int.natCast_mul, Int.natCast_pow, Int.cast_ofNat_Int]
        congr 1; omega
  obtain ⟨r, h1, h2⟩ := key
  have e : fbits .sub a b = r := by unfold fbits; rw [h1]; rfl
  rw [e]
  exact ⟨h1, h2⟩

theorem signed_mul (s t : Bool) (m n u v : Nat) : signed (s ^^ t) (m * n) (u + v) = signed s m u * signed t n v := by
  unfold signed
  simp only [Nat.shiftLeft_eq, Nat.pow_add]
  have e : ((m * n * (2 ^ u * 2 ^ v) : Nat) : Int) = (m * 2 ^ u : Nat) * (n * 2 ^ v : Nat) := by
    simp only [Int.natCast_mul]
    rw [Int.mul_assoc, Int.mul_assoc]; congr 1
    rw [← Int.mul_assoc, Int.mul_comm (n : Int), Int.mul_assoc]
  rw [e]
  cases s <;> cases t <;> simp [Int.neg_mul, Int.mul_neg]

theorem mul_whole {a b : Nat} {x y : Int} (ha : Fl a x) (hb : Fl b y) (h : (x * y).natAbs < 2 ^ 53) : floatBits .mul .f64 a b = some (fbits .mul a b) ∧ Fl (fbits .mul a b) (x * y) := by
  obtain ⟨s, m, i, hr, hv⟩ := ha
  obtain ⟨t, n, j, hr', hv'⟩ := hb
  have key : ∃ r, floatBits .mul .f64 a b = some r ∧ Fl r (x * y) := by
    unfold floatBits
    simp only [FloatKind.format, Format.mul, hr, hr', Datum.product, Option.map_some]
    refine ⟨_, rfl, write_whole ?_ h⟩
    obtain ⟨k, hk, h1⟩ := hv
    obtain ⟨k', hk', h2⟩ := hv'
    refine ⟨k + k', by omega, ?_⟩
    rw [show (i + j + ((k + k' : Nat) : Int)).toNat = (i + k).toNat + (j + k').toNat by omega, signed_mul, h1, h2, Int.pow_add, Int.mul_assoc, Int.mul_assoc]
    congr 1
    rw [← Int.mul_assoc, Int.mul_comm _ y, Int.mul_assoc]
  obtain ⟨r, h1, h2⟩ := key
  have e : fbits .mul a b = r := by unfold fbits; rw [h1]; rfl
  rw [e]
  exact ⟨h1, h2⟩

theorem ofInt_whole {n : Int} (h : n.natAbs < 2 ^ 53) : Fl (floatOfInt .f64 n) n := by
  show Fl (double.write (.number (n < 0) n.natAbs 0)) n
  refine write_whole ⟨0, by omega, ?_⟩ h
  unfold signed
  simp only [Nat.shiftLeft_eq]
  by_cases hn : n < 0
  · simp [hn]; omega
  · simp [hn]; omega

theorem toInt_whole {b : Nat} {n : Int} (h : Fl b n) (h1 : -9223372036854775808 ≤ n) (h2 : n ≤ 9223372036854775807) : floatToIntVal .f64 b .i64 = some n := by
  obtain ⟨s, m, e, hr, hv⟩ := h
  unfold floatToIntVal FloatKind.decode
  have hi : (double.read b).toInt .zero = some n := by
    rw [hr]
    simp only [Datum.toInt, Datum.integral]
    congr 1
    rcases Int.le_total 0 e with he | he
    · have h3 := hv.at 0 (by omega)
      simp only [Int.pow_zero, Int.mul_one] at h3
      rw [show (-e).toNat = 0 by omega]
      have h4 := cut_exact .zero s (m <<< e.toNat) 0 (.inr rfl)
      rw [Nat.pow_zero, Nat.mul_one] at h4
      rw [h4, ← h3, show (e + (0 : Nat)).toNat = e.toNat by omega]
      unfold signed; simp
    · have h3 := hv.at (-e).toNat (by omega)
      rw [show (e + ((-e).toNat : Int)).toNat = 0 by omega] at h3
      rw [show e.toNat = 0 by omega, Nat.shiftLeft_zero]
      have hm : m = n.natAbs * 2 ^ (-e).toNat := by
        have h5 : (signed s m 0).natAbs = m := by unfold signed; cases s <;> simp
        rw [← h5, h3, Int.natAbs_mul, Int.natAbs_pow]; rfl
      rw [hm, cut_exact .zero s _ _ (.inr rfl)]
      have p1 : (0 : Int) < 2 ^ (-e).toNat := Int.pow_pos (by omega)
      unfold signed at h3 ⊢
      simp only [Nat.shiftLeft_zero] at h3 ⊢
      cases s
      · simp only [Bool.false_eq_true, if_false] at h3 ⊢
        have : 0 ≤ n := by
          rcases Int.lt_or_le n 0 with h | h
          · have := Int.mul_neg_of_neg_of_pos h p1; omega
          · exact h
        omega
      · simp only [if_true] at h3 ⊢
        have : n ≤ 0 := by
          rcases Int.lt_or_le 0 n with h | h
          · have := Int.mul_pos h p1; omega
          · exact h
        omega
  have e1 : IntKind.i64.min = -9223372036854775808 := by decide
  have e2 : IntKind.i64.max = 9223372036854775807 := by decide
  show (match (double.read b).toInt .zero with
    | some n => if IntKind.i64.min ≤ n ∧ n ≤ IntKind.i64.max then some n else none
    | none => none) = some n
  rw [hi]
  simp only [e1, e2]
  rw [if_pos ⟨h1, h2⟩]

theorem neg_whole {b : Nat} {n : Int} (h : Fl b n) : Fl (Op.negFloat .f64 b) (-n) := by
  obtain ⟨s, m, e, hr, k, hk, hv⟩ := h
  refine ⟨!s, m, e, ?_, k, hk, by rw [signed_not, hv, Int.neg_mul]⟩
  have hx : Op.negFloat .f64 b = b ^^^ 2 ^ 63 := rfl
  have h1 : (b ^^^ 2 ^ 63) % 2 ^ 63 = b % 2 ^ 63 := by
    rw [Nat.xor_mod_two_pow]; simp
  have h2 : ((b ^^^ 2 ^ 63) / 2 ^ 63 % 2 == 1) = !(b / 2 ^ 63 % 2 == 1) := by
    rw [Nat.xor_div_two_pow, Nat.div_self (by omega : 0 < 2 ^ 63), show (b / 2 ^ 63 ^^^ 1) % 2 = ((b / 2 ^ 63) % 2 ^^^ 1) by rw [show (2 : Nat) = 2 ^ 1 by rfl, Nat.xor_mod_two_pow]]
    have : b / 2 ^ 63 % 2 < 2 := Nat.mod_lt _ (by omega)
    generalize b / 2 ^ 63 % 2 = q at *
    match q, this with
    | 0, _ => rfl
    | 1, _ => rfl
  unfold Format.read at hr ⊢
  have e1 : double.signWeight = 2 ^ 63 := rfl
  simp only [hx, e1, h1, h2] at hr ⊢
  split
  · rename_i hlt
    simp only [hlt, if_true, Datum.number.injEq] at hr ⊢
    exact ⟨by rw [hr.1], hr.2⟩
  · rename_i hlt
    simp only [hlt, if_false] at hr
    split
    · rename_i hlt2
      simp only [hlt2, if_true, Datum.number.injEq] at hr ⊢
      exact ⟨by rw [hr.1], hr.2⟩
    · rename_i hlt2
      simp only [hlt2, if_false] at hr
      split at hr <;> cases hr

theorem abs_whole {b : Nat} {n : Int} (h : Fl b n) : Fl (b % 2 ^ 63) (max n (-n)) := by
  obtain ⟨s, m, e, hr, k, hk, hv⟩ := h
  refine ⟨false, m, e, ?_, k, hk, ?_⟩
  · unfold Format.read at hr ⊢
    have e1 : double.signWeight = 2 ^ 63 := rfl
    have h2 : (b % 2 ^ 63 / 2 ^ 63 % 2 == 1) = false := by
      rw [Nat.div_eq_of_lt (Nat.mod_lt _ (by omega))]; rfl
    simp only [e1, Nat.mod_mod, h2] at hr ⊢
    split
    · rename_i hlt
      simp only [hlt, if_true, Datum.number.injEq] at hr ⊢
      exact ⟨trivial, hr.2⟩
    · rename_i hlt
      simp only [hlt, if_false] at hr
      split
      · rename_i hlt2
        simp only [hlt2, if_true, Datum.number.injEq] at hr ⊢
        exact ⟨trivial, hr.2⟩
      · rename_i hlt2
        simp only [hlt2, if_false] at hr
        split at hr <;> cases hr
  · have p1 : (0 : Int) < 2 ^ k := Int.pow_pos (by omega)
    have p2 := Int.natCast_nonneg (m <<< (e + k).toNat)
    unfold signed at hv ⊢
    cases s
    · simp only [Bool.false_eq_true, if_false] at hv ⊢
      have : 0 ≤ n := by
        rcases Int.lt_or_le n 0 with h | h
        · have := Int.mul_neg_of_neg_of_pos h p1; omega
        · exact h
      rw [hv, show max n (-n) = n by omega]
    · simp only [Bool.false_eq_true, if_false, if_true] at hv ⊢
      have : n ≤ 0 := by
        rcases Int.lt_or_le 0 n with h | h
        · have := Int.mul_pos h p1; omega
        · exact h
      rw [show max n (-n) = -n by omega, Int.neg_mul, ← hv, Int.neg_neg]

theorem order_whole {a b : Nat} {x y : Int} (ha : Fl a x) (hb : Fl b y) : FloatKind.f64.format.order a b = some (compare x y) := by
  obtain ⟨s, m, i, hr, hv⟩ := ha
  obtain ⟨t, n, j, hr', hv'⟩ := hb
  show double.order a b = _
  unfold Format.order
  rw [hr, hr']
  simp only [Datum.order]
  obtain ⟨k, hk⟩ : ∃ k : Nat, 0 ≤ min i j + k := ⟨(-(min i j)).toNat, by omega⟩
  have h1 := hv.at k (by omega)
  have h2 := hv'.at k (by omega)
  rw [show (i + k).toNat = (i - min i j).toNat + (min i j + k).toNat by omega, signed_shift] at h1
  rw [show (j + k).toNat = (j - min i j).toNat + (min i j + k).toNat by omega, signed_shift] at h2
  generalize signed s m (i - min i j).toNat = A at *
  generalize signed t n (j - min i j).toNat = B at *
  have p1 : (0 : Int) < 2 ^ k := Int.pow_pos (by omega)
  have p2 : (0 : Int) < 2 ^ (min i j + k).toNat := Int.pow_pos (by omega)
  congr 1
  have lt : ∀ {A B x y : Int}, A * 2 ^ (min i j + k).toNat = x * 2 ^ k → B * 2 ^ (min i j + k).toNat = y * 2 ^ k → x < y → A < B := by
    intro A B x y h1 h2 h
    have := Int.mul_lt_mul_of_pos_right h p1
    rw [← h1, ← h2] at this
    exact Int.lt_of_mul_lt_mul_right this (Int.le_of_lt p2)
  rcases Int.lt_trichotomy x y with h | h | h
  · have := lt h1 h2 h
    rw [show compare A B = .lt from Int.compare_eq_lt.2 this, show compare x y = .lt from Int.compare_eq_lt.2 h]
  · have : A = B := by
      have h3 : A * 2 ^ (min i j + k).toNat = B * 2 ^ (min i j + k).toNat := by rw [h1, h2, h]
      exact Int.eq_of_mul_eq_mul_right (Int.ne_of_gt p2) h3
    rw [show compare A B = .eq from Int.compare_eq_eq.2 this, show compare x y = .eq from Int.compare_eq_eq.2 h]
  · have := lt h2 h1 h
    rw [show compare A B = .gt from Int.compare_eq_gt.2 this, show compare x y = .gt from Int.compare_eq_gt.2 h]

/-- the greater word -/
def fmax (a b : Nat) : Nat :=
  match FloatKind.f64.format.order a b with
  | some .lt => b
  | some .gt => a
  | _ => if (FloatKind.f64.decode a).neg then b else a

theorem max_whole {a b : Nat} {x y : Int} (ha : Fl a x) (hb : Fl b y) : Fl (fmax a b) (max x y) := by
  unfold fmax
  rw [order_whole ha hb]
  rcases Int.lt_trichotomy x y with h | h | h
  · rw [show compare x y = .lt from Int.compare_eq_lt.2 h, show max x y = y by omega]; exact hb
  · rw [show compare x y = .eq from Int.compare_eq_eq.2 h]
    subst h
    simp only [show max x x = x by omega]
    split
    · exact hb
    · exact ha
  · rw [show compare x y = .gt from Int.compare_eq_gt.2 h, show max x y = x by omega]; exact ha

theorem one_whole : Fl 4607182418800017408 1 := by
  refine ⟨false, 2 ^ 52, -52, by decide +kernel, 52, by omega, by decide +kernel⟩
theorem zero_whole : Fl 0 0 := by
  refine ⟨false, 0, -1074, by decide +kernel, 1074, by omega, by decide +kernel⟩
theorem Fl.lt_of_format {b : Nat} {r : Nat} {op : BinOp} {a : Nat} (h : floatBits op .f64 a b = some r) : r < 2 ^ 64 := by
  have := floatBits_wf h
  simpa [Lit.wf] using this
end Go.Proofs.Ytddlgnfghecncaa
/- The walks of package gauss: fixing, points and numbers. -/
namespace Go.Proofs.Ytddlgnfghecncaa
open Go.RowKit

/-- a block of two cells that may be written -/
structure Cell2 (w : World) (b : Nat) (u v : Value) : Prop where
  c0 : w.cell? ⟨b, 0, none⟩ = some u
  c1 : w.cell? ⟨b, 1, none⟩ = some v
  z0 : w.frozen? ⟨b, 0, none⟩ = false
  z1 : w.frozen? ⟨b, 1, none⟩ = false
theorem Cell2.new (w : World) (u v : Value) (t : TypeId) : Cell2 (w.alloc (.cells #[u, v] t)) w.heap.size u v :=
  ⟨by go_simp, by go_simp, by go_simp, by go_simp⟩
theorem Cell2.below {w w1 : World} {b B : Nat} {u v : Value} (h : Cell2 w b u v) (hb : Below B w w1) (hB : b < B) : Cell2 w1 b u v :=
  ⟨by rw [hb.cell hB]; exact h.c0, by rw [hb.cell hB]; exact h.c1, by rw [hb.frozen hB]; exact h.z0, by rw [hb.frozen hB]; exact h.z1⟩
theorem Cell2.kept {w w1 : World} {b : Nat} {u v : Value} (h : Cell2 w b u v) (hb : Below w.heap.size w w1) : Cell2 w1 b u v :=
  h.below hb (World.block_lt_of_cell? w _ h.c0)
theorem Cell2.alloc {w : World} {b : Nat} {u v : Value} (h : Cell2 w b u v) (o : Obj) : Cell2 (w.alloc o) b u v :=
  h.kept ((Below.refl _ _).alloc (Nat.le_refl _) _)

/-- a part, fixed -/
def fx (n : Int) : Int := max (-1048576) (min n 1048576)
theorem fx_bd (n : Int) : -1048576 ≤ fx n ∧ fx n ≤ 1048576 := by unfold fx; omega
/-- a point as a value -/
abbrev pt (x y : Int) : Value := .agg #[.int .i64 x, .int .i64 y]
/-- a whole number as a float's word -/
def fl (n : Int) : Nat := floatOfInt .f64 n
theorem fl_fx (n : Int) : Fl (fl (fx n)) (fx n) := ofInt_whole (by have := fx_bd n; omega)

theorem near_any (n : Int) (w : World) : Calls Try.prog 79 #[.int .i64 n] w fun e w' => e = .returned (.int .i64 (fx n)) ∧ w = w' := by
  go_enter Try.func79, Try.ntmps79
  go_wp2
  go_ret
  exact ⟨by unfold fx; rfl, rfl⟩

theorem fix_any (x y : Int) (w : World) : Calls Try.prog 60 #[.agg #[.int .i64 x, .int .i64 y]] w fun e w' => e = .returned (.agg #[.int .i64 (fx x), .int .i64 (fx y)]) ∧ Below w.heap.size w w' := by
  go_enter Try.func60, Try.ntmps60
  go_wp2
  refine wp_region_calmT 7 (by kernel_rfl) (by simp) (by kernel_rfl) fun M => ?_
  simp only [List.take_succ_cons, List.take_zero, List.drop_succ_cons, List.drop_zero]
  have hc0 : ∀ n : In M.w, n.w.cell? ⟨w.heap.size, 0, none⟩ = some (.int .i64 x) := fun n => n.cell (M.cell (by go_simp))
  have hc1 : ∀ n : In M.w, n.w.cell? ⟨w.heap.size, 1, none⟩ = some (.int .i64 y) := fun n => n.cell (M.cell (by go_simp))
  repeat (go_big_quiet_step ((go_at_call 79; exact In.call_same (near_any _ _))))
  refine wpQuiet_nil ?_
  intro w1 hb
  obtain ⟨g0, g1, z0, z1⟩ := (Cell2.new (w.alloc (.cells #[.int .i64 x, .int .i64 y] 24)) (.int .i64 0) (.int .i64 0) 24).kept hb
  have hB : Below w.heap.size w w1 := (((Below.refl _ _).alloc (Nat.le_refl _) _).alloc (by simp) _).trans (hb.mono (by simp; omega))
  clear hb hc0 hc1
  simp only [World.size_alloc] at g0 g1 z0 z1
  go_wp2
  refine bodyPost_ret (v := .agg #[.int .i64 (fx x), .int .i64 (fx y)]) ?_ rfl ⟨rfl, (hB.setCell (by simp) _).setCell (by simp) _⟩
  simp [results, Try.results60, go_sem, g0, g1, z0, z1]

theorem number_any (x y : Int) (w : World) : Calls Try.prog 63 #[.agg #[.int .i64 x, .int .i64 y]] w fun e w' => e = .returned (.complex .f64 (fl (fx x)) (fl (fx y))) ∧ Below w.heap.size w w' := by
  go_enter Try.func63, Try.ntmps63
  go_wp2_with (go_at_call 60; refine (fix_any _ _ _).mono ?_; rintro e w1 ⟨rfl, hb⟩; obtain ⟨g0, g1, z0, z1⟩ := (Cell2.new w (.int .i64 x) (.int .i64 y) 24).kept hb; replace hb := ((Below.refl w.heap.size w).alloc (Nat.le_refl _) _).trans (hb.mono (by simp)))
  go_ret
  exact ⟨rfl, (hb.setCell (Nat.le_refl _) _).setCell (Nat.le_refl _) _⟩
end Go.Proofs.Ytddlgnfghecncaa
/- A scope with one label to which the run jumps back: what holds at the label bears a number that every pass lowers. -/
namespace Go.Proofs.Ytddlgnfghecncaa
open Go.RowKit

theorem wp_of_skip {P : Program} {B rest : Code} (h : rest = .seq .skip B) (Q : Exit → Act → World → Prop) (a : Act) (w : World) (hB : B.wp P Q a w) : rest.wp P Q a w := by
  subst h
  exact wp_seq (wp_skip hB)

/-- The label's rest is walked once ('pass'); the way to the label once ('first'). -/
theorem wp_scope_goto {P : Program} {a : Act} {w : World} {Q : Exit → Act → World → Prop} {c rest B : Code} (l : Nat) (I : Nat → Act → World → Prop) (hf : findLabel c l = some rest) (hB : rest = .seq .skip B)
    (pass : ∀ n a w, I n a w → ∀ K : Act → World → Prop, (∀ n' a' w', n' < n → I n' a' w' → K a' w') → B.wp P (Exit.jump l K Q) a w)
    (first : ∀ K : Act → World → Prop, (∀ n a w, I n a w → B.wp P (Exit.jump l K Q) a w) → c.wp P (Exit.jump l K Q) a w) : (Code.scope c).wp P Q a w := by
  refine wp_scope_jumps l (fun a w => ∃ n, I n a w) (fun a w => leastOf (fun n => I n a w)) hf ?_ ?_
  · exact first _ fun n a w h => pass n a w h _ fun n' a' w' _ h' => ⟨n', h'⟩
  · intro a w hI
    have hs := leastOf_spec hI
    refine wp_of_skip hB _ _ _ (pass _ a w hs.1 _ ?_)
    intro n' a' w' hlt h'
    exact ⟨⟨n', h'⟩, Nat.lt_of_le_of_lt ((leastOf_spec ⟨n', h'⟩).2 n' h') hlt⟩

end Go.Proofs.Ytddlgnfghecncaa
/- The walks of package gauss: sums, products, turns, sizes. -/
namespace Go.Proofs.Ytddlgnfghecncaa
open Go.RowKit

theorem i64_in' {n : Int} (h : n.natAbs < 2 ^ 53) : -9223372036854775808 ≤ n ∧ n ≤ 9223372036854775807 := by omega

theorem point_any (p q : Nat) (x y : Int) (hp : Fl p x) (hq : Fl q y) (hx : x.natAbs < 2 ^ 53) (hy : y.natAbs < 2 ^ 53) (w : World) :
    Calls Try.prog 78 #[.complex .f64 p q] w fun e w' => e = .returned (.agg #[.int .i64 x, .int .i64 y]) ∧ Below w.heap.size w w' := by
  have k1 : ∀ w, (convert 72 3 (.float .f64 p)).run Try.prog w = .ok (.int .i64 x) w := fun w => run_convert_float_int w _ _ _ _ _ _ (by rw [Try.underlying72]; rfl) Try.underlying3 (toInt_whole hp (i64_in' hx).1 (i64_in' hx).2)
  have k2 : ∀ w, (convert 72 3 (.float .f64 q)).run Try.prog w = .ok (.int .i64 y) w := fun w => run_convert_float_int w _ _ _ _ _ _ (by rw [Try.underlying72]; rfl) Try.underlying3 (toInt_whole hq (i64_in' hy).1 (i64_in' hy).2)
  go_enter Try.func78, Try.ntmps78
  go_wp2
  refine bodyPost_ret (v := .agg #[.int .i64 x, .int .i64 y]) ?_ rfl ⟨rfl, (Below.refl _ _).alloc (Nat.le_refl _) _⟩
  simp [results, Try.results78, go_sem]

theorem cSum_run (op : BinOp) (hop : op = .add ∨ op = .sub) (t : TypeId) {a b c d : Nat} (h1 : floatBits op .f64 a c = some (fbits op a c)) (h2 : floatBits op .f64 b d = some (fbits op b d)) (w : World) :
    (binOp op t (.complex .f64 a b) (.complex .f64 c d)).run Try.prog w = .ok (.complex .f64 (fbits op a c) (fbits op b d)) w :=
  run_complex_sum w op hop t .f64 a b c d _ _ (by unfold cSumBits; rw [h1, h2]; rfl)

def mulRe (a b c d : Nat) : Nat := fbits .sub (fbits .mul a c) (fbits .mul b d)
def mulIm (a b c d : Nat) : Nat := fbits .add (fbits .mul a d) (fbits .mul b c)
theorem cMul_run (t : TypeId) {a b c d : Nat} {x y u v : Int} (ha : Fl a x) (hb : Fl b y) (hc : Fl c u) (hd : Fl d v)
    (h1 : (x * u).natAbs < 2 ^ 52) (h2 : (y * v).natAbs < 2 ^ 52) (h3 : (x * v).natAbs < 2 ^ 52) (h4 : (y * u).natAbs < 2 ^ 52) :
    (∀ w, (binOp .mul t (.complex .f64 a b) (.complex .f64 c d)).run Try.prog w = .ok (.complex .f64 (mulRe a b c d) (mulIm a b c d)) w) ∧ Fl (mulRe a b c d) (x * u - y * v) ∧ Fl (mulIm a b c d) (x * v + y * u) := by
  obtain ⟨e1, f1⟩ := mul_whole ha hc (by omega)
  obtain ⟨e2, f2⟩ := mul_whole hb hd (by omega)
  obtain ⟨e3, f3⟩ := sub_whole f1 f2 (by omega)
  obtain ⟨e4, f4⟩ := mul_whole ha hd (by omega)
  obtain ⟨e5, f5⟩ := mul_whole hb hc (by omega)
  obtain ⟨e6, f6⟩ := add_whole f4 f5 (by omega)
  exact ⟨fun w => run_complex_mul w t a b c d _ _ (by unfold cMulBits; rw [e1, e2, e4, e5]; simp only [Option.bind_some]; rw [e3, e6]; rfl), f3, f6⟩

theorem mul_bd {a b : Int} {A B : Nat} (ha : a.natAbs ≤ A) (hb : b.natAbs ≤ B) : (a * b).natAbs ≤ A * B := by
  rw [Int.natAbs_mul]; exact Nat.mul_le_mul ha hb
theorem fx_abs (n : Int) : (fx n).natAbs ≤ 1048576 := by have := fx_bd n; omega
theorem fx_mul (n m : Int) : (fx n * fx m).natAbs < 2 ^ 52 := by have := mul_bd (fx_abs n) (fx_abs m); omega

/-- a float's word without its sign -/
def low63 (p : Nat) : Nat := p % 2 ^ 63
theorem bits_run (p : Nat) (w : World) : (callFunc 89 #[.float .f64 p]).run Try.prog w = .ok (.value (.int .u64 p)) w := by kernel_rfl
theorem frombits_run (p : Nat) (w : World) : (callFunc 88 #[.int .u64 (p : Int)]).run Try.prog w = .ok (.value (.float .f64 p)) w := by kernel_rfl
theorem low63_bits (p : Nat) (hp : p < 18446744073709551616) : bits .andNot .u64 (p : Int) 9223372036854775808 = ((low63 p : Nat) : Int) := by
  have h := u64_andNot_nat p 9223372036854775808 hp (by omega)
  have e : (18446744073709551615 - 9223372036854775808 : Nat) = 2 ^ 63 - 1 := rfl
  rw [e, Nat.and_two_pow_sub_one_eq_mod] at h
  exact h

theorem abs_any (p : Nat) (hp : p < 18446744073709551616) (w : World) : Calls Try.prog 80 #[.float .f64 p] w fun e w' => e = .returned (.float .f64 (low63 p)) ∧ w = w' := by
  have h1 := fun w => bits_run p w
  have h2 := fun w => frombits_run (low63 p) w
  have h3 := low63_bits p hp
  go_enter Try.func80, Try.ntmps80
  go_wp2
  go_ret
  exact ⟨rfl, rfl⟩

theorem signs_any (p q : Nat) (hp : p < 18446744073709551616) (hq : q < 18446744073709551616) (w : World) : Calls Try.prog 62 #[.complex .f64 p q] w fun e w' => e = .returned (.tuple #[.float .f64 (low63 p), .float .f64 (low63 q)]) ∧ w = w' := by
  go_enter Try.func62, Try.ntmps62
  go_wp2_with (go_at_call 80; refine (abs_any _ (by assumption) _).mono ?_; rintro e w1 ⟨rfl, rfl⟩)
  go_ret2
  exact ⟨rfl, rfl⟩

theorem fl_lt (n : Int) : fl n < 18446744073709551616 := by
  have := floatOfInt_wf .f64 n
  simpa [fl, Lit.wf] using this
/-- a part without its sign -/
def sz (n : Int) : Int := max (fx n) (-fx n)
theorem sz_bd (n : Int) : 0 ≤ sz n ∧ sz n ≤ 1048576 := by have := fx_bd n; unfold sz; omega
theorem low_sz (n : Int) : Fl (low63 (fl (fx n))) (sz n) := abs_whole (fl_fx n)

theorem max_run (a b : Nat) (x y : Int) (ha : Fl a x) (hb : Fl b y) (ts : Array TypeId) (t : TypeId) (w : World) : (Builtin.max_ ts t #[.float .f64 a, .float .f64 b]).run Try.prog w = .ok (.float .f64 (fmax a b)) w := by
  simp only [Builtin.max_, List.foldlM, Builtin.max2, order_whole ha hb, fmax]
  rcases Int.lt_trichotomy x y with h | h | h
  · rw [show compare x y = .lt from Int.compare_eq_lt.2 h]; rfl
  · rw [show compare x y = .eq from Int.compare_eq_eq.2 h]; rfl
  · rw [show compare x y = .gt from Int.compare_eq_gt.2 h]; rfl

theorem big_any (x y : Int) (w : World) : Calls Try.prog 51 #[.agg #[.int .i64 x, .int .i64 y]] w fun e w' => e = .returned (.int .i64 (max (sz x) (sz y))) ∧ Below w.heap.size w w' := by
  have hx := sz_bd x
  have hy := sz_bd y
  have hre := max_whole (low_sz x) (low_sz y)
  have hrun := fun ts t w => max_run _ _ _ _ (low_sz x) (low_sz y) ts t w
  have k1 : ∀ w, (convert 72 3 (.float .f64 (fmax (low63 (fl (fx x))) (low63 (fl (fx y)))))).run Try.prog w = .ok (.int .i64 (max (sz x) (sz y))) w :=
    fun w => run_convert_float_int w _ _ _ _ _ _ (by rw [Try.underlying72]; rfl) Try.underlying3 (toInt_whole hre (by omega) (by omega))
  clear hre
  have l1 := fl_lt (fx x)
  have l2 := fl_lt (fx y)
  have hB : Below w.heap.size w (w.alloc (.cells #[.int .i64 x, .int .i64 y] 24)) := (Below.refl _ _).alloc (Nat.le_refl _) _
  go_enter Try.func51, Try.ntmps51
  go_wp2_with (first
    | (go_at_call 63; refine (number_any _ _ _).mono ?_; rintro e w1 ⟨rfl, hb⟩; replace hB := hB.trans (hb.mono hB.size); clear hb)
    | (go_at_call 62; refine (signs_any _ _ l1 l2 _).mono ?_; rintro e w2 ⟨rfl, rfl⟩))
  go_ret
  exact ⟨rfl, hB⟩
end Go.Proofs.Ytddlgnfghecncaa
/- The walk of gauss.Turn. -/
namespace Go.Proofs.Ytddlgnfghecncaa
open Go.RowKit

theorem and3 (n : Int) : bits .and .i64 n 3 = n % 4 := by
  have h : (BitVec.ofInt 64 n &&& BitVec.ofInt 64 3).toNat = (n % 4).toNat := by
    rw [BitVec.toNat_and, BitVec.toNat_ofInt, BitVec.toNat_ofInt]
    have e : ((3 : Int) % ((2 ^ 64 : Nat) : Int)).toNat = 2 ^ 2 - 1 := by decide
    rw [e, Nat.and_two_pow_sub_one_eq_mod]
    omega
  show IntKind.i64.wrap _ = _
  have h2 : ((BitVec.ofInt IntKind.i64.bits n &&& BitVec.ofInt IntKind.i64.bits 3).toNat : Int) = n % 4 := by
    have := congrArg (fun k : Nat => (k : Int)) h
    have p := Int.emod_nonneg n (show (4 : Int) ≠ 0 by omega)
    simp only [Int.toNat_of_nonneg p] at this
    exact this
  have p := Int.emod_nonneg n (show (4 : Int) ≠ 0 by omega)
  have q := Int.emod_lt_of_pos n (show (0 : Int) < 4 by omega)
  exact (congrArg _ h2).trans (IntWalk.i64_in _ (by omega))

/-- quarters to the left -/
def rot : Nat → Int → Int → Int × Int
  | 0, x, y => (x, y)
  | j + 1, x, y => (-(rot j x y).2, (rot j x y).1)
theorem rot_abs (j : Nat) (x y : Int) (B : Nat) (hx : x.natAbs ≤ B) (hy : y.natAbs ≤ B) : (rot j x y).1.natAbs ≤ B ∧ (rot j x y).2.natAbs ≤ B := by
  induction j with
  | zero => exact ⟨hx, hy⟩
  | succ j ih => exact ⟨by show (-(rot j x y).2).natAbs ≤ B; rw [Int.natAbs_neg]; exact ih.2, ih.1⟩

theorem turn_step {a b : Nat} {X Y : Int} (ha : Fl a X) (hb : Fl b Y) (hx : X.natAbs ≤ 1048576) (hy : Y.natAbs ≤ 1048576) :
    (∀ w, (binOp .mul 57 (.complex .f64 a b) (.complex .f64 0 4607182418800017408)).run Try.prog w = .ok (.complex .f64 (mulRe a b 0 4607182418800017408) (mulIm a b 0 4607182418800017408)) w) ∧
    Fl (mulRe a b 0 4607182418800017408) (-Y) ∧ Fl (mulIm a b 0 4607182418800017408) X := by
  obtain ⟨h1, h2, h3⟩ := cMul_run 57 ha hb zero_whole one_whole (by simp) (by simp; omega) (by simp; omega) (by simp)
  refine ⟨h1, ?_, ?_⟩
  · simpa using h2
  · simpa using h3

theorem turn_any (x y n : Int) (w : World) : Calls Try.prog 59 #[.agg #[.int .i64 x, .int .i64 y], .int .i64 n] w fun e w' =>
    e = .returned (.agg #[.int .i64 (rot (n % 4).toNat (fx x) (fx y)).1, .int .i64 (rot (n % 4).toNat (fx x) (fx y)).2]) ∧ Below w.heap.size w w' := by
  have ha3 := and3 n
  obtain ⟨q, hq⟩ : ∃ q : Nat, n % 4 = q := ⟨(n % 4).toNat, by omega⟩
  rw [hq] at ha3
  have hq4 : q < 4 := by omega
  have hqn : (n % 4).toNat = q := by omega
  rw [hqn]
  clear hq hqn
  have hC := Cell2.new (w.alloc (.cells #[.int .i64 x, .int .i64 y] 24)) (.int .i64 0) (.int .i64 0) 24
  simp only [World.size_alloc] at hC
  have hB : Below w.heap.size w ((w.alloc (.cells #[.int .i64 x, .int .i64 y] 24)).alloc (.cells #[.int .i64 0, .int .i64 0] 24)) := ((Below.refl _ _).alloc (Nat.le_refl _) _).alloc (by simp) _
  go_enter Try.func59, Try.ntmps59
  go_wp2_with fail
  refine wp_scope_goto 0 (fun k a' w' => ∃ (j : Nat) (a b : Nat) (c : Int), k = q - j ∧ c = q - j ∧ j ≤ q ∧ Fl a (rot j (fx x) (fx y)).1 ∧ Fl b (rot j (fx x) (fx y)).2 ∧ Below w.heap.size w w' ∧ Cell2 w' (w.heap.size + 1) (.int .i64 0) (.int .i64 0) ∧ ∃ u0 u1 u3 u7 u8 u9 u10 u11 u12 u13 u14 u15 u16 u17 u18, a' = { tmps := #[u0, u1, .pointer (some ⟨w.heap.size, 0, none⟩), u3, .pointer (some ⟨w.heap.size + 1, 0, none⟩), .complex .f64 a b, .int .i64 c, u7, u8, u9, u10, u11, u12, u13, u14, u15, u16, u17, u18], defers := [] }) rfl rfl ?_ ?_
  · clear hC hB
    rintro k a' w' ⟨j, a, b, c, rfl, hc, hj, ha, hb, hB, hC, u0, u1, u3, u7, u8, u9, u10, u11, u12, u13, u14, u15, u16, u17, u18, rfl⟩ K hK
    obtain ⟨bx, by'⟩ := rot_abs j (fx x) (fx y) 1048576 (fx_abs x) (fx_abs y)
    by_cases hlt : j < q
    · obtain ⟨hrun, h2, h3⟩ := turn_step ha hb bx by'
      have H2 := Lib.hid h2
      have H3 := Lib.hid h3
      have HC := Lib.hid hc
      have hc0 : 0 < c := by omega
      have hc4 : c < 4 := by omega
      clear h2 h3 ha hb bx by' hc
      go_wp2
      go_step3
      refine ⟨rfl, hK (q - (j + 1)) _ _ (by omega) ⟨j + 1, _, _, _, rfl, by have := HC.out; omega, by omega, H2.out, H3.out, hB, hC, _, _, _, _, _, _, _, _, _, _, _, _, _, _, _,  rfl⟩⟩
    · have e : j = q := by omega
      subst e
      have hc0 : ¬ 0 < c := by omega
      clear hc
      go_wp2_with (go_at_call 78; refine (point_any _ _ _ _ ha hb (by omega) (by omega) _).mono ?_; rintro e w3 ⟨rfl, hb⟩; replace hB := hB.trans (hb.mono hB.size); obtain ⟨g0, g1, z0, z1⟩ := hC.kept hb; clear hb)
      simp only [Exit.jump]
      refine bodyPost_ret (v := .agg #[.int .i64 (rot j (fx x) (fx y)).1, .int .i64 (rot j (fx x) (fx y)).2]) ?_ rfl ⟨rfl, (hB.setCell (by simp) _).setCell (by simp) _⟩
      simp [results, Try.results59, go_sem, g0, g1, z0, z1]
  · intro K hpass
    go_wp2_with (go_at_call 63; refine (number_any _ _ _).mono ?_; rintro e w1 ⟨rfl, hb⟩; replace hB := hB.trans (hb.mono hB.size); replace hC := hC.kept hb; clear hb)
    go_step3
    rename_i hback
    refine hback _ _ (hpass (q - 0) _ _ ⟨0, _, _, _, rfl, by omega, by omega, fl_fx x, fl_fx y, hB, hC, _, _, _, _, _, _, _, _, _, _, _, _, _, _, _,  rfl⟩)
end Go.Proofs.Ytddlgnfghecncaa
/- The walks of the document's answers for layer 3: points. -/
namespace Go.Proofs.Ytddlgnfghecncaa
open Go.RowKit

theorem Cell2.of_heap {w : World} {b : Nat} {u v : Value} {t : TypeId} (h : w.heap[b]? = some (.cells #[u, v] t)) : Cell2 w b u v :=
  ⟨by simp [World.cell?, h], by simp [World.cell?, h], by simp [World.frozen?, h], by simp [World.frozen?, h]⟩

theorem refClip3_any (n a b : Int) (hab : a ≤ b) (w : World) : Calls Try.prog 54 #[.int .i64 n, .int .i64 a, .int .i64 b] w fun e w' => e = .returned (.int .i64 (max a (min n b))) ∧ w = w' := by
  by_cases h : n < a
  · go_enter Try.func54, Try.ntmps54
    go_wp2
    go_ret
    exact ⟨ret_i (by omega), rfl⟩
  · by_cases h1 : b < n
    all_goals
      go_enter Try.func54, Try.ntmps54
      go_wp2
      go_ret
      exact ⟨ret_i (by omega), rfl⟩

theorem part_any (n : Int) (w : World) : Calls Try.prog 61 #[.int .i64 n] w fun e w' => e = .returned (.int .i64 (fx n)) ∧ w = w' := by
  go_enter Try.func61, Try.ntmps61
  go_wp2_with (go_at_call 54; refine (refClip3_any _ _ _ (by omega) _).mono ?_; rintro e w1 ⟨rfl, rfl⟩)
  go_ret
  exact ⟨rfl, rfl⟩

theorem refFix_any (x y : Int) (w : World) : Calls Try.prog 49 #[.agg #[.int .i64 x, .int .i64 y]] w fun e w' => e = .returned (.agg #[.int .i64 (fx x), .int .i64 (fx y)]) ∧ Below w.heap.size w w' := by
  go_enter Try.func49, Try.ntmps49
  go_wp2
  refine wp_region_calmT 7 (by kernel_rfl) (by simp) (by kernel_rfl) fun M => ?_
  simp only [List.take_succ_cons, List.take_zero, List.drop_succ_cons, List.drop_zero]
  have hc0 : ∀ n : In M.w, n.w.cell? ⟨w.heap.size, 0, none⟩ = some (.int .i64 x) := fun n => n.cell (M.cell (by go_simp))
  have hc1 : ∀ n : In M.w, n.w.cell? ⟨w.heap.size, 1, none⟩ = some (.int .i64 y) := fun n => n.cell (M.cell (by go_simp))
  repeat (go_big_quiet_step ((go_at_call 61; exact In.call_same (part_any _ _))))
  refine wpQuiet_nil ?_
  intro w1 hb
  obtain ⟨g0, g1, z0, z1⟩ := (Cell2.new (w.alloc (.cells #[.int .i64 x, .int .i64 y] 24)) (.int .i64 0) (.int .i64 0) 24).kept hb
  have hB : Below w.heap.size w w1 := (((Below.refl _ _).alloc (Nat.le_refl _) _).alloc (by simp) _).trans (hb.mono (by simp; omega))
  clear hb hc0 hc1
  simp only [World.size_alloc] at g0 g1 z0 z1
  go_wp2
  refine bodyPost_ret (v := .agg #[.int .i64 (fx x), .int .i64 (fx y)]) ?_ rfl ⟨rfl, (hB.setCell (by simp) _).setCell (by simp) _⟩
  simp [results, Try.results49, go_sem, g0, g1]

set_option maxHeartbeats 1000000 in
theorem refAdd_any (a1 a2 b1 b2 : Int) (w : World) : Calls Try.prog 57 #[.agg #[.int .i64 a1, .int .i64 a2], .agg #[.int .i64 b1, .int .i64 b2]] w fun e w' => e = .returned (.agg #[.int .i64 (fx a1 + fx b1), .int .i64 (fx a2 + fx b2)]) ∧ Below w.heap.size w w' := by
  have A1 := fx_bd a1
  have A2 := fx_bd a2
  have B1 := fx_bd b1
  have B2 := fx_bd b2
  obtain ⟨A11, A12⟩ := A1
  obtain ⟨A21, A22⟩ := A2
  obtain ⟨B11, B12⟩ := B1
  obtain ⟨B21, B22⟩ := B2
  go_enter Try.func57, Try.ntmps57
  go_wp2
  refine wp_region_calmN 4 6 [(.cells #[.int .i64 0, .int .i64 0] 24, fun b => .pointer (some ⟨b, 0, none⟩)), (.cells #[.int .i64 0, .int .i64 0] 24, fun b => .pointer (some ⟨b, 0, none⟩))] (by kernel_rfl) (by simp) (by simp) (by kernel_rfl) fun M => ?_
  simp only [List.take_succ_cons, List.take_zero, List.drop_succ_cons, List.drop_zero, List.length_cons, List.length_nil, List.take_nil]
  have hc0 : ∀ n : In M.w, n.w.cell? ⟨w.heap.size, 0, none⟩ = some (.int .i64 a1) := fun n => n.cell (M.cell (by go_simp))
  have hc1 : ∀ n : In M.w, n.w.cell? ⟨w.heap.size, 1, none⟩ = some (.int .i64 a2) := fun n => n.cell (M.cell (by go_simp))
  have hd0 : ∀ n : In M.w, n.w.cell? ⟨w.heap.size + 1, 0, none⟩ = some (.int .i64 b1) := fun n => n.cell (M.cell (by go_simp))
  have hd1 : ∀ n : In M.w, n.w.cell? ⟨w.heap.size + 1, 1, none⟩ = some (.int .i64 b2) := fun n => n.cell (M.cell (by go_simp))
  repeat (go_big_quiet_step ((go_at_call 49; exact In.call (refFix_any _ _ _))))
  refine wpQuiet_nil ?_
  clear hc0 hc1 hd0 hd1 M
  refine ⟨rfl, fun n => by simp [go_sem], fun p hp _ => ⟨rfl, fun n => by simp [go_sem], fun q hq hqp w1 hw => ?_⟩⟩
  have hne : q ≠ p := fun e => by rw [e, Gh.set_self] at hqp; cases hqp
  have hb := hw.below
  simp only [World.size_alloc] at hp hq
  have C1 : Cell2 w1 p (.int .i64 0) (.int .i64 0) := Cell2.of_heap (hw.own p _ (by rw [Gh.set_ne _ (Ne.symm hne)]; exact Gh.set_self _ _ _))
  have C2 : Cell2 w1 q (.int .i64 0) (.int .i64 0) := Cell2.of_heap (hw.own q _ (Gh.set_self _ _ _))
  have C3 := (Cell2.new ((w.alloc (.cells #[.int .i64 a1, .int .i64 a2] 24)).alloc (.cells #[.int .i64 b1, .int .i64 b2] 24)) (.int .i64 0) (.int .i64 0) 24).kept hb
  have hB : Below w.heap.size w w1 := ((((Below.refl _ _).alloc (Nat.le_refl _) _).alloc (by simp) _).alloc (by simp; omega) _).trans (hb.mono (by simp; omega))
  simp only [World.size_alloc] at C3
  clear hb hw hqp
  obtain ⟨c10, c11, z10, z11⟩ := C1
  obtain ⟨c20, c21, z20, z21⟩ := C2
  obtain ⟨c30, c31, z30, z31⟩ := C3
  have n1 : p ≠ w.heap.size + 1 + 1 := by omega
  have n2 : q ≠ w.heap.size + 1 + 1 := by omega
  have n3 : w.heap.size + 1 + 1 ≠ p := by omega
  have n4 : w.heap.size + 1 + 1 ≠ q := by omega
  have n5 : p ≠ q := Ne.symm hne
  go_wp2
  refine bodyPost_ret (v := .agg #[.int .i64 (fx a1 + fx b1), .int .i64 (fx a2 + fx b2)]) ?_ rfl ⟨rfl, (((((hB.setCell (by simp; omega) _).setCell (by simp; omega) _).setCell (by simp; omega) _).setCell (by simp; omega) _).setCell (by simp; omega) _).setCell (by simp; omega) _⟩
  simp [results, Try.results57, go_sem, c30, c31, n1, n2, n3, n4]
end Go.Proofs.Ytddlgnfghecncaa
/- The walks of the document's answers for layer 5: counts, what is the same, what is near. -/
namespace Go.Proofs.Ytddlgnfghecncaa
open Go.RowKit

/-- how often a move is done -/
def cnt (m : Int × Int) : Int := if m.1 < 1 ∨ 4 < m.1 then 0 else max 0 (min m.2 1048576)
theorem cnt_bd (m : Int × Int) : 0 ≤ cnt m ∧ cnt m ≤ 1048576 := by unfold cnt; split <;> omega

theorem beq_no' {a b : Int} (h : a ≠ b) : (a == b) = false := by simp [h]

set_option maxHeartbeats 1000000 in
theorem refPoints_any (va vb : Value) (l l' : List (Int × Int)) (w : World) (ha : PairsAt w va l) (hb : PairsAt w vb l') (hl : l.length ≤ 9223372036854775807) (hl' : l'.length ≤ 9223372036854775807) :
    Calls Try.prog 15 #[va, vb] w fun e w' => e = .returned (.bool (decide (l = l'))) ∧ Below w.heap.size w w' := by
  obtain ⟨a, ca, rfl, hca, ha⟩ := ha
  obtain ⟨b, cb, rfl, hcb, hb⟩ := hb
  by_cases hlen : l.length = l'.length
  case neg =>
    have hne : ((l.length : Nat) : Int) ≠ ((l'.length : Nat) : Int) := by omega
    rw [decide_eq_false (fun h => hlen (congrArg List.length h))]
    have h1 := beq_no' hne
    go_enter Try.func15, Try.ntmps15
    go_wp2
    go_ret
    exact ⟨rfl, Below.refl _ _⟩
  have HL := Lib.hid hlen
  rw [← hlen] at hb hl' hcb ⊢
  clear hlen
  go_enter Try.func15, Try.ntmps15
  go_wp2
  go_loopw [5] (fun i wr => ∃ k : Nat, k ≤ l.length ∧ i = .int .i64 k ∧ Below w.heap.size w wr ∧ l.take k = l'.take k) (fun i _ => l.length - (intOf i).toNat)
  case atStart => exact ⟨0, Nat.zero_le _, rfl, Below.refl _ _, rfl⟩
  case round =>
    obtain ⟨k, hk, rfl, hbel, hsame⟩ := hrel
    have HS := Lib.hid hsame
    clear hsame
    by_cases hlt : k < l.length
    · have hlt' : k < l'.length := by rw [← HL.out]; exact hlt
      obtain ⟨ga, oa, rfl, hga, hxa⟩ := ha (by omega)
      obtain ⟨gb, ob, rfl, hgb, hxb⟩ := hb (by omega)
      obtain ⟨⟨x1, x2⟩, hx⟩ : ∃ x, l[k]'hlt = x := ⟨_, rfl⟩
      obtain ⟨⟨y1, y2⟩, hy⟩ : ∃ x, l'[k]'hlt' = x := ⟨_, rfl⟩
      have hx0 := hxa k _ (List.getElem?_eq_getElem hlt)
      have hy0 := hxb k _ (List.getElem?_eq_getElem hlt')
      rw [hx] at hx0
      rw [hy] at hy0
      have p1 : wr.cell? ⟨ga, oa + k * 2, none⟩ = some (.int .i64 x1) := (hbel.cell (p := ⟨ga, oa + k * 2, none⟩) hga).trans hx0.1
      have p2 : wr.cell? ⟨ga, oa + k * 2 + 1, none⟩ = some (.int .i64 x2) := (hbel.cell (p := ⟨ga, oa + k * 2 + 1, none⟩) hga).trans hx0.2
      have p3 : wr.cell? ⟨gb, ob + k * 2, none⟩ = some (.int .i64 y1) := (hbel.cell (p := ⟨gb, ob + k * 2, none⟩) hgb).trans hy0.1
      have p4 : wr.cell? ⟨gb, ob + k * 2 + 1, none⟩ = some (.int .i64 y2) := (hbel.cell (p := ⟨gb, ob + k * 2 + 1, none⟩) hgb).trans hy0.2
      clear hx0 hy0 hxa hxb ha hb
      have HX := Lib.hid hx
      have HY := Lib.hid hy
      clear hx hy
      go_upto_region 6 with fail
      refine wp_region_calm0 (by kernel_rfl) (by kernel_rfl) fun M => ?_
      have q1 := fun n : In M.w => n.cell (M.cell p1)
      have q2 := fun n : In M.w => n.cell (M.cell p2)
      have q3 := fun n : In M.w => n.cell (M.cell p3)
      have q4 := fun n : In M.w => n.cell (M.cell p4)
      have hneq : (x1, x2) ≠ (y1, y2) → l ≠ l' := by
        intro h e
        subst e
        exact h (HX.out.symm.trans HY.out)
      have hcase : (x1 = y1 ∧ x2 = y2) ∨ ((x1 == y1) = false ∧ l ≠ l') ∨ (x1 = y1 ∧ (x2 == y2) = false ∧ l ≠ l') := by
        by_cases e1 : x1 = y1
        · by_cases e2 : x2 = y2
          · exact .inl ⟨e1, e2⟩
          · exact .inr (.inr ⟨e1, beq_no' e2, hneq fun h => e2 (congrArg Prod.snd h)⟩)
        · exact .inr (.inl ⟨beq_no' e1, hneq fun h => e1 (congrArg Prod.fst h)⟩)
      clear hneq
      rcases hcase with ⟨rfl, rfl⟩ | ⟨h1, h2⟩ | ⟨rfl, h1, h2⟩
      · repeat (go_big_quiet_step (fail))
        refine wpQuiet_nil ?_
        intro w1 hb1
        clear q1 q2 q3 q4 M
        go_wp2
        go_roundw
        case rel => exact ⟨k + 1, by omega, by go_num, hbel.trans (hb1.mono hbel.size), by rw [List.take_add_one, List.take_add_one, HS.out, List.getElem?_eq_getElem hlt, List.getElem?_eq_getElem hlt', HX.out, HY.out]⟩
        case measure => simp [intOf]; omega
      all_goals
        have H2 := Lib.hid h2
        clear h2
        repeat (go_big_quiet_step (fail))
        refine wpQuiet_nil ?_
        intro w1 hb1
        clear q1 q2 q3 q4 M
        go_wp2
        go_ret
        exact ⟨ret_b (decide_eq_false H2.out).symm, hbel.trans (hb1.mono hbel.size)⟩
    · clear ha hb
      go_wp2
      go_ret
      have e : l = l' := by
        have h := HS.out
        rw [List.take_of_length_le (by omega), List.take_of_length_le (by have := HL.out; omega)] at h
        exact h
      exact ⟨ret_b (decide_eq_true e).symm, hbel⟩

/-- steps on and back, together -/
def stps : List (Int × Int) → Int
  | [] => 0
  | m :: l => (if m.1 = 1 ∨ m.1 = 2 then cnt m else 0) + stps l
theorem stps_append (a b : List (Int × Int)) : stps (a ++ b) = stps a + stps b := by
  induction a with
  | nil => simp [stps]
  | cons m a ih => simp only [List.cons_append, stps, ih]; omega
theorem stps_nn (l : List (Int × Int)) : 0 ≤ stps l := by
  induction l with
  | nil => simp [stps]
  | cons m l ih => have := cnt_bd m; unfold stps; split <;> omega
theorem stps_take (l : List (Int × Int)) (k : Nat) : stps (l.take k) ≤ stps l := by
  have h := stps_append (l.take k) (l.drop k)
  rw [List.take_append_drop] at h
  have := stps_nn (l.drop k)
  omega
theorem stps_succ (l : List (Int × Int)) (k : Nat) (h : k < l.length) : stps (l.take (k + 1)) = stps (l.take k) + (if (l[k]).1 = 1 ∨ (l[k]).1 = 2 then cnt l[k] else 0) := by
  rw [List.take_add_one, List.getElem?_eq_getElem h, stps_append]
  simp [stps]
theorem stps_le (l : List (Int × Int)) (k : Nat) : stps (l.take k) ≤ 1048576 * k := by
  induction k with
  | zero => simp [stps]
  | succ k ih =>
    by_cases h : k < l.length
    · rw [stps_succ l k h]
      have := cnt_bd l[k]
      split <;> omega
    · rw [List.take_of_length_le (by omega)]
      rw [List.take_of_length_le (by omega)] at ih
      omega

end Go.Proofs.Ytddlgnfghecncaa
