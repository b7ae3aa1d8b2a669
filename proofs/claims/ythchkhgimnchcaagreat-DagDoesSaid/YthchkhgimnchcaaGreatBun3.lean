/- Texts of this proof, joined: Float; GaussA; Labels; GaussB; GaussC; GaussR; WalkRefA; MotionA; GaussS; WalkRefB; OwnPairs; WalkRefC; WalkRefS. -/
import Derived.Test.YthchkhgimnchcaaGreatBun2
import Derived.Laws.ComplexArith
import Derived.Test.YthchkhgimnchcaaGreatRows
import Derived.WalkSpells
import Derived.WalkLawsBesides
import Derived.Lib.Hide
import Derived.Lib.MinMax
import Derived.WalkKit
import Derived.Deep.LoopGhost
import Derived.Deep.DeepCutAuto
import Derived.Laws.Entries
import Derived.Laws.AppendOwn
/- Whole numbers as floats: what add, sub, mul, neg, abs, max and the conversions give of words that stand for small whole numbers. Plain mathematics. -/
namespace Go.Proofs.YthchkhgimnchcaaGreat
open Ieee

/-- the number that a sign, a magnitude and a place stand for is n -/
def SV (s : Bool) (m : Nat) (e : Int) (n : Int) : Prop := ∃ k : Nat, 0 ≤ e + k ∧ signed s m (e + k).toNat = n * 2 ^ k
/-- the word b stands for the whole number n -/
def Fl (b : Nat) (n : Int) : Prop := ∃ s m e, double.read b = .number s m e ∧ SV s m e n

theorem signed_shift (s : Bool) (m u v : Nat) : signed s m (u + v) = signed s m u * 2 ^ v := by
  unfold signed
  simp only [Nat.shiftLeft_eq, Nat.pow_add]
  cases s <;> simp [Int.mul_assoc, Int.neg_mul]

theorem SV.at {s : Bool} {m : Nat} {e n : Int} (h : SV s m e n) (k : Nat) (hk : 0 ≤ e + k) : signed s m (e + k).toNat = n * 2 ^ k := by
  obtain ⟨k0, h0, h1⟩ := h
  have p0 : (0 : Int) < 2 ^ k0 := Int.pow_pos (by omega)
  rcases Nat.le_total k0 k with hle | hle
  · obtain ⟨d, rfl⟩ := Nat.exists_eq_add_of_le hle
    rw [show (e + ((k0 + d : Nat) : Int)).toNat = (e + k0).toNat + d by omega, signed_shift, h1, Int.pow_add, Int.mul_assoc]
  · obtain ⟨d, rfl⟩ := Nat.exists_eq_add_of_le hle
    have pd : (2 : Int) ^ d ≠ 0 := Int.ne_of_gt (Int.pow_pos (by omega))
    rw [show (e + ((k + d : Nat) : Int)).toNat = (e + k).toNat + d by omega, signed_shift, Int.pow_add, ← Int.mul_assoc] at h1
    exact Int.eq_of_mul_eq_mul_right pd h1

theorem SV.unique {s : Bool} {m : Nat} {e n n' : Int} (h : SV s m e n) (h' : SV s m e n') : n = n' := by
  obtain ⟨k, hk, h1⟩ := h
  have h2 := h'.at k hk
  rw [h1] at h2
  exact Int.eq_of_mul_eq_mul_right (Int.ne_of_gt (Int.pow_pos (by omega))) h2

theorem Fl.unique {b : Nat} {n n' : Int} (h : Fl b n) (h' : Fl b n') : n = n' := by
  obtain ⟨s, m, e, hr, hv⟩ := h
  obtain ⟨s', m', e', hr', hv'⟩ := h'
  rw [hr] at hr'
  cases hr'
  exact hv.unique hv'

theorem cut_exact (way : Toward) (s : Bool) (q d : Nat) (h : q ≠ 0 ∨ way = .zero) : way.cut s (q * 2 ^ d) d = q := by
  have h1 : min d ((q * 2 ^ d).log2 + 2) = d ∨ q = 0 := by
    by_cases hq : q = 0
    · exact .inr hq
    · refine .inl (Nat.min_eq_left ?_)
      have : d ≤ (q * 2 ^ d).log2 := (Nat.le_log2 (by have := Nat.two_pow_pos d; exact Nat.ne_of_gt (Nat.mul_pos (by omega) this))).2 (Nat.le_mul_of_pos_left _ (by omega))
      omega
  rcases h1 with h1 | h1
  · unfold Toward.cut
    simp only [h1, Nat.shiftLeft_eq, Nat.one_mul, Nat.mul_mod_left, Nat.mul_div_cancel _ (Nat.two_pow_pos d)]
    have hp := Nat.two_pow_pos d
    cases way <;> simp <;> omega
  · subst h1
    rcases h with h | h
    · exact absurd rfl h
    · subst h
      unfold Toward.cut
      simp

theorem read_zero (s : Bool) : double.read (double.word s 0) = .number s 0 (-1074) := by
  cases s <;> decide +kernel

theorem read_word (s : Bool) (d r : Nat) (hd : d ≤ 52) (hr : r < 2 ^ 52) :
    double.read (double.word s ((1075 - d) * 2 ^ 52 + r)) = .number s (2 ^ 52 + r) (-(d : Int)) := by
  have hlt : (1075 - d) * 2 ^ 52 + r < 2 ^ 63 := by
    have : (1075 - d) * 2 ^ 52 ≤ 1075 * 2 ^ 52 := Nat.mul_le_mul_right _ (by omega)
    omega
  have e1 : double.signWeight = 2 ^ 63 := rfl
  have e2 : double.binade = 2 ^ 52 := rfl
  have e3 : double.infRung = 2047 * 2 ^ 52 := rfl
  have e4 : double.leastPlace = -1074 := by decide
  have hm : double.word s ((1075 - d) * 2 ^ 52 + r) % 2 ^ 63 = (1075 - d) * 2 ^ 52 + r := by
    unfold Format.word
    rw [e1]
    cases s
    · exact Nat.mod_eq_of_lt hlt
    · simp only [if_true]; omega
  have hs : (double.word s ((1075 - d) * 2 ^ 52 + r) / 2 ^ 63 % 2 == 1) = s := by
    unfold Format.word
    rw [e1]
    cases s
    · have : ((1075 - d) * 2 ^ 52 + r) / 2 ^ 63 = 0 := Nat.div_eq_of_lt hlt
      simp only [Bool.false_eq_true, if_false, this]; rfl
    · simp only [if_true]
      have : (2 ^ 63 + ((1075 - d) * 2 ^ 52 + r)) / 2 ^ 63 = 1 := by omega
      rw [this]; rfl
  have hdv : ((1075 - d) * 2 ^ 52 + r) / 2 ^ 52 = 1075 - d := by
    rw [Nat.add_comm, Nat.add_mul_div_right _ _ (by omega), Nat.div_eq_of_lt hr]; omega
  have hmd : ((1075 - d) * 2 ^ 52 + r) % 2 ^ 52 = r := by
    rw [Nat.add_comm, Nat.add_mul_mod_self_right, Nat.mod_eq_of_lt hr]
  have g1 : ¬ (1075 - d) * 2 ^ 52 + r < 2 ^ 52 := by
    have : 1 * 2 ^ 52 ≤ (1075 - d) * 2 ^ 52 := Nat.mul_le_mul_right _ (by omega)
    omega
  have g2 : (1075 - d) * 2 ^ 52 + r < 2047 * 2 ^ 52 := by
    have : (1075 - d) * 2 ^ 52 ≤ 1075 * 2 ^ 52 := Nat.mul_le_mul_right _ (by omega)
    omega
  unfold Format.read
  simp only [e1, e2, e3, e4, hm, hs, if_neg g1, if_pos g2, hmd, hdv]
  congr 1
  omega

theorem rung_small {z r : Nat} (hz : z ≤ 1075) (hr : r < 2 ^ 52) : z * 2 ^ 52 + r ≤ 2047 * 2 ^ 52 := by
  have e : (2 : Nat) ^ 52 = 4503599627370496 := rfl
  rw [e] at hr ⊢
  omega

theorem log2_mul {m k : Nat} (hm : m ≠ 0) : (m * 2 ^ k).log2 = m.log2 + k := by
  have hp := Nat.two_pow_pos k
  rw [Nat.log2_eq_iff (Nat.ne_of_gt (Nat.mul_pos (by omega) hp))]
  refine ⟨?_, ?_⟩
  · rw [Nat.pow_add]; exact Nat.mul_le_mul_right _ (Nat.log2_self_le hm)
  · rw [show m.log2 + k + 1 = (m.log2 + 1) + k by omega, Nat.pow_add]; exact Nat.mul_lt_mul_of_pos_right Nat.lt_log2_self hp

/-- A small whole number is written as it is. -/
theorem write_whole {s : Bool} {m : Nat} {p n : Int} (h : SV s m p n) (hn : n.natAbs < 2 ^ 53) : Fl (double.write (.number s m p)) n := by
  show Fl (double.nearest s m p) n
  by_cases hm : m = 0
  · subst hm
    have h0 : n = 0 := by
      obtain ⟨k, _, hk⟩ := h
      have e : signed s 0 (p + k).toNat = 0 := by unfold signed; cases s <;> simp
      rw [e] at hk
      rcases Int.mul_eq_zero.1 hk.symm with h | h
      · exact h
      · exact absurd h (Int.ne_of_gt (Int.pow_pos (by omega)))
    subst h0
    refine ⟨s, 0, -1074, ?_, 1074, by omega, ?_⟩
    · unfold Format.nearest
      rw [if_pos rfl]
      exact read_zero s
    · rw [Int.zero_mul]; unfold signed; cases s <;> simp only [Nat.zero_shiftLeft] <;> rfl
  · -- the magnitude
    obtain ⟨k, hk, hkv⟩ := h
    have hN : m * 2 ^ (p + k).toNat = n.natAbs * 2 ^ k ∧ n = (if s then -(n.natAbs : Int) else n.natAbs) := by
      have p1 : (0 : Int) < 2 ^ k := Int.pow_pos (by omega)
      unfold signed at hkv
      rw [Nat.shiftLeft_eq] at hkv
      have hmp : 0 < m * 2 ^ (p + k).toNat := Nat.mul_pos (by omega) (Nat.two_pow_pos _)
      cases s
      · simp only [Bool.false_eq_true, if_false] at hkv ⊢
        have hpos : 0 ≤ n := by
          rcases Int.lt_or_le n 0 with h | h
          · have := Int.mul_neg_of_neg_of_pos h p1
            omega
          · exact h
        have e : (n.natAbs : Int) = n := Int.natAbs_of_nonneg hpos
        refine ⟨?_, e.symm⟩
        apply Int.ofNat_inj.1
        rw [hkv, Int.natCast_mul, e]
        simp
      · simp only [if_true] at hkv ⊢
        have hneg : n ≤ 0 := by
          rcases Int.lt_or_le 0 n with h | h
          · have := Int.mul_pos h p1
            omega
          · exact h
        have e : (n.natAbs : Int) = -n := Int.ofNat_natAbs_of_nonpos hneg
        refine ⟨?_, by omega⟩
        apply Int.ofNat_inj.1
        rw [Int.natCast_mul n.natAbs, e, Int.neg_mul]
        simp only [Int.natCast_pow, Int.cast_ofNat_Int]
        omega
    obtain ⟨hN, hsn⟩ := hN
    generalize hNN : n.natAbs = N at *
    have hN0 : N ≠ 0 := by
      intro h0
      subst h0
      rw [Nat.zero_mul] at hN
      rcases Nat.mul_eq_zero.1 hN with h | h
      · exact hm h
      · exact absurd h (Nat.ne_of_gt (Nat.two_pow_pos _))
    -- the place of the first digit
    obtain ⟨t, ht⟩ : ∃ t, N.log2 = t := ⟨_, rfl⟩
    have ht1 : 2 ^ t ≤ N := by rw [← ht]; exact Nat.log2_self_le hN0
    have ht2 : N < 2 ^ (t + 1) := by rw [← ht]; exact Nat.lt_log2_self
    have ht52 : t ≤ 52 := by
      rcases Nat.lt_or_ge 52 t with h | h
      · have : 2 ^ 53 ≤ 2 ^ t := Nat.pow_le_pow_right (by omega) h
        omega
      · exact h
    obtain ⟨L, hL⟩ : ∃ L, m.log2 = L := ⟨_, rfl⟩
    have hLt : (L : Int) + p = t := by
      have h1 : (m * 2 ^ (p + k).toNat).log2 = L + (p + k).toNat := by rw [← hL]; exact log2_mul hm
      have h2 : (N * 2 ^ k).log2 = t + k := by rw [← ht]; exact log2_mul hN0
      rw [hN, h2] at h1
      omega
    -- what is kept
    have hlast : max (p + (m.log2 : Int) - (double.fractionBits : Int)) double.leastPlace = (t : Int) - 52 := by
      have e4 : double.leastPlace = -1074 := by decide
      have e5 : (double.fractionBits : Int) = 52 := rfl
      rw [hL, e4, e5]
      omega
    have hkept : Toward.even.cut s (m <<< (p - ((t : Int) - 52)).toNat) ((t : Int) - 52 - p).toNat = N * 2 ^ (52 - t) := by
      rw [Nat.shiftLeft_eq]
      rcases Nat.le_total L 52 with hl | hl
      · have e1 : ((t : Int) - 52 - p).toNat = 0 := by omega
        have e2 : (p - ((t : Int) - 52)).toNat = 52 - L := by omega
        rw [e1, e2]
        have e3 : m * 2 ^ (52 - L) = N * 2 ^ (52 - t) := by
          have h1 : (m * 2 ^ (52 - L)) * 2 ^ ((p + k).toNat + t) = (N * 2 ^ (52 - t)) * 2 ^ ((p + k).toNat + t) := by
            have a1 : m * 2 ^ (52 - L) * 2 ^ ((p + k).toNat + t) = (m * 2 ^ (p + k).toNat) * 2 ^ (52 - L + t) := by
              rw [Nat.mul_assoc, Nat.mul_assoc, ← Nat.pow_add, ← Nat.pow_add]; congr 2; omega
            have a2 : N * 2 ^ (52 - t) * 2 ^ ((p + k).toNat + t) = (N * 2 ^ k) * 2 ^ (52 - L + t) := by
              rw [Nat.mul_assoc, Nat.mul_assoc, ← Nat.pow_add, ← Nat.pow_add]; congr 2; omega
            rw [a1, a2, hN]
          exact Nat.eq_of_mul_eq_mul_right (Nat.two_pow_pos _) h1
        have h2 := cut_exact .even s (m * 2 ^ (52 - L)) 0 (.inl (Nat.ne_of_gt (Nat.mul_pos (by omega) (Nat.two_pow_pos _))))
        rw [Nat.pow_zero, Nat.mul_one] at h2
        rw [h2, e3]
      · have e2 : (p - ((t : Int) - 52)).toNat = 0 := by omega
        have e1 : ((t : Int) - 52 - p).toNat = L - 52 := by omega
        rw [e1, e2, Nat.pow_zero, Nat.mul_one]
        have e3 : m = N * 2 ^ (52 - t) * 2 ^ (L - 52) := by
          have h1 : m * 2 ^ (p + k).toNat = N * 2 ^ (52 - t) * 2 ^ (L - 52) * 2 ^ (p + k).toNat := by
            rw [hN, Nat.mul_assoc, Nat.mul_assoc, ← Nat.pow_add, ← Nat.pow_add]; congr 2; omega
          exact Nat.eq_of_mul_eq_mul_right (Nat.two_pow_pos _) h1
        rw [e3]
        exact cut_exact .even s _ _ (.inl (Nat.ne_of_gt (Nat.mul_pos (by omega) (Nat.two_pow_pos _))))
    -- between the ends of a binade
    have hk1 : 2 ^ 52 ≤ N * 2 ^ (52 - t) := by
      have : 2 ^ t * 2 ^ (52 - t) ≤ N * 2 ^ (52 - t) := Nat.mul_le_mul_right _ ht1
      rw [← Nat.pow_add, show t + (52 - t) = 52 by omega] at this
      exact this
    have hk2 : N * 2 ^ (52 - t) < 2 ^ 53 := by
      have : N * 2 ^ (52 - t) < 2 ^ (t + 1) * 2 ^ (52 - t) := Nat.mul_lt_mul_of_pos_right ht2 (Nat.two_pow_pos _)
      rw [← Nat.pow_add, show t + 1 + (52 - t) = 53 by omega] at this
      exact this
    obtain ⟨r, hr⟩ : ∃ r, N * 2 ^ (52 - t) = 2 ^ 52 + r := ⟨_, (Nat.add_sub_cancel' hk1).symm⟩
    have hrl : r < 2 ^ 52 := by omega
    refine ⟨s, 2 ^ 52 + r, -((52 - t : Nat) : Int), ?_, 52 - t, by omega, ?_⟩
    · unfold Format.nearest
      rw [if_neg hm]
      simp only [hlast, hkept]
      have e4 : double.leastPlace = -1074 := by decide
      have e2 : double.binade = 2 ^ 52 := rfl
      have e3 : double.infRung = 2047 * 2 ^ 52 := rfl
      rw [e4, e2, e3, hr]
      have hrw := read_word s (52 - t) r (by omega) hrl
      obtain ⟨z, hz⟩ : ∃ z, 1075 - (52 - t) = z := ⟨_, rfl⟩
      rw [hz] at hrw
      have hz1 : z ≤ 1075 := by omega
      have e5 : ((t : Int) - 52 - (-1074)).toNat * 2 ^ 52 + (2 ^ 52 + r) = z * 2 ^ 52 + r := by
        have : ((t : Int) - 52 - (-1074)).toNat + 1 = z := by omega
        rw [← this, Nat.add_mul]; omega
      have e6 : z * 2 ^ 52 + r ≤ 2047 * 2 ^ 52 := rung_small hz1 hrl
      refine Eq.trans (congrArg (fun y => double.read (double.word s (min y (2047 * 2 ^ 52)))) e5) ?_
      refine Eq.trans (congrArg (fun y => double.read (double.word s y)) (Nat.min_eq_left e6)) ?_
      exact hrw
    · rw [show (-((52 - t : Nat) : Int) + ((52 - t : Nat) : Int)).toNat = 0 by omega, ← hr, hsn]
      unfold signed
      cases s <;> simp [Nat.shiftLeft_eq, Int.neg_mul]

def fbits (op : BinOp) (a b : Nat) : Nat := (floatBits op .f64 a b).getD 0

theorem add_whole {a b : Nat} {x y : Int} (ha : Fl a x) (hb : Fl b y) (h : (x + y).natAbs < 2 ^ 53) : floatBits .add .f64 a b = some (fbits .add a b) ∧ Fl (fbits .add a b) (x + y) := by
  obtain ⟨s, m, i, hr, hv⟩ := ha
  obtain ⟨t, n, j, hr', hv'⟩ := hb
  have key : ∃ r, floatBits .add .f64 a b = some r ∧ Fl r (x + y) := by
    unfold floatBits
    simp only [FloatKind.format, Format.add, hr, hr', Datum.sum, Option.map_some]
    refine ⟨_, rfl, write_whole ?_ h⟩
    obtain ⟨k, hk⟩ : ∃ k : Nat, 0 ≤ min i j + k := ⟨(-(min i j)).toNat, by omega⟩
    refine ⟨k, hk, ?_⟩
    have h1 := hv.at k (by omega)
    have h2 := hv'.at k (by omega)
    rw [show (i + k).toNat = (i - min i j).toNat + (min i j + k).toNat by omega, signed_shift] at h1
    rw [show (j + k).toNat = (j - min i j).toNat + (min i j + k).toNat by omega, signed_shift] at h2
    rw [Int.add_mul, ← h1, ← h2, ← Int.add_mul]
    generalize signed s m (i - min i j).toNat + signed t n (j - min i j).toNat = T
    unfold signed
    rw [Nat.shiftLeft_eq]
    by_cases hT : T = 0
    · subst hT; simp
    · rw [if_neg hT]
      by_cases hn : T < 0
      · simp only [hn, decide_true, if_true, Int.natCast_mul, Int.natCast_pow, Int.cast_ofNat_Int, ← Int.neg_mul]
        congr 1; omega
      · simp only [hn, decide_false, Bool.false_eq_true, if_false, Int.natCast_mul, Int.natCast_pow, Int.cast_ofNat_Int]
        congr 1; omega
  obtain ⟨r, h1, h2⟩ := key
  have e : fbits .add a b = r := by unfold fbits; rw [h1]; rfl
  rw [e]
  exact ⟨h1, h2⟩

theorem signed_not (s : Bool) (m u : Nat) : signed (!s) m u = -signed s m u := by unfold signed; cases s <;> simp

theorem sub_whole {a b : Nat} {x y : Int} (ha : Fl a x) (hb : Fl b y) (h : (x - y).natAbs < 2 ^ 53) : floatBits .sub .f64 a b = some (fbits .sub a b) ∧ Fl (fbits .sub a b) (x - y) := by
  obtain ⟨s, m, i, hr, hv⟩ := ha
  obtain ⟨t, n, j, hr', hv'⟩ := hb
  have key : ∃ r, floatBits .sub .f64 a b = some r ∧ Fl r (x - y) := by
    unfold floatBits
    simp only [FloatKind.format, Format.sub, hr, hr', Datum.opposite, Datum.sum, Option.map_some]
    refine ⟨_, rfl, write_whole ?_ h⟩
    obtain ⟨k, hk⟩ : ∃ k : Nat, 0 ≤ min i j + k := ⟨(-(min i j)).toNat, by omega⟩
    refine ⟨k, hk, ?_⟩
    have h1 := hv.at k (by omega)
    have h2 := hv'.at k (by omega)
    rw [show (i + k).toNat = (i - min i j).toNat + (min i j + k).toNat by omega, signed_shift] at h1
    rw [show (j + k).toNat = (j - min i j).toNat + (min i j + k).toNat by omega, signed_shift] at h2
    rw [Int.sub_mul, ← h1, ← h2, ← Int.sub_mul, signed_not]
    clear h1 h2
    generalize signed s m (i - min i j).toNat = A
    generalize signed t n (j - min i j).toNat = B
    rw [@Int.sub_eq_add_neg A B]
    generalize A + -B = T
    unfold signed
    rw [Nat.shiftLeft_eq]
    by_cases hT : T = 0
    · subst hT; simp
    · rw [if_neg hT]
      by_cases hn : T < 0
      · simp only [hn, decide_true, if_true, Int.natCast_mul, Int.natCast_pow, Int.cast_ofNat_Int, ← Int.neg_mul]
        congr 1; omega
      · simp only [hn, decide_false, Bool.false_eq_true, if_false, Int.natCast_mul, Int.natCast_pow, Int.cast_ofNat_Int]
        congr 1; omega
  obtain ⟨r, h1, h2⟩ := key
  have e : fbits .sub a b = r := by unfold fbits; rw [h1]; rfl
  rw [e]
  exact ⟨h1, h2⟩

theorem signed_mul (s t : Bool) (m n u v : Nat) : signed (s ^^ t) (m * n) (u + v) = signed s m u * signed t n v := by
  unfold signed
  simp only [Nat.shiftLeft_eq, Nat.pow_add]
  have e : ((m * n * (2 ^ u * 2 ^ v) : Nat) : Int) = (m * 2 ^ u : Nat) * (n * 2 ^ v : Nat) := by
    simp only [Int.natCast_mul]
    rw [Int.mul_assoc, Int.mul_assoc]; congr 1
    rw [← Int.mul_assoc, Int.mul_comm (n : Int), Int.mul_assoc]
  rw [e]
  cases s <;> cases t <;> simp [Int.neg_mul, Int.mul_neg]

theorem mul_whole {a b : Nat} {x y : Int} (ha : Fl a x) (hb : Fl b y) (h : (x * y).natAbs < 2 ^ 53) : floatBits .mul .f64 a b = some (fbits .mul a b) ∧ Fl (fbits .mul a b) (x * y) := by
  obtain ⟨s, m, i, hr, hv⟩ := ha
  obtain ⟨t, n, j, hr', hv'⟩ := hb
  have key : ∃ r, floatBits .mul .f64 a b = some r ∧ Fl r (x * y) := by
    unfold floatBits
    simp only [FloatKind.format, Format.mul, hr, hr', Datum.product, Option.map_some]
    refine ⟨_, rfl, write_whole ?_ h⟩
    obtain ⟨k, hk, h1⟩ := hv
    obtain ⟨k', hk', h2⟩ := hv'
    refine ⟨k + k', by omega, ?_⟩
    rw [show (i + j + ((k + k' : Nat) : Int)).toNat = (i + k).toNat + (j + k').toNat by omega, signed_mul, h1, h2, Int.pow_add, Int.mul_assoc, Int.mul_assoc]
    congr 1
    rw [← Int.mul_assoc, Int.mul_comm _ y, Int.mul_assoc]
  obtain ⟨r, h1, h2⟩ := key
  have e : fbits .mul a b = r := by unfold fbits; rw [h1]; rfl
  rw [e]
  exact ⟨h1, h2⟩

theorem ofInt_whole {n : Int} (h : n.natAbs < 2 ^ 53) : Fl (floatOfInt .f64 n) n := by
  show Fl (double.write (.number (n < 0) n.natAbs 0)) n
  refine write_whole ⟨0, by omega, ?_⟩ h
  unfold signed
  simp only [Nat.shiftLeft_eq]
  by_cases hn : n < 0
  · simp [hn]; omega
  · simp [hn]; omega

theorem toInt_whole {b : Nat} {n : Int} (h : Fl b n) (h1 : -9223372036854775808 ≤ n) (h2 : n ≤ 9223372036854775807) : floatToIntVal .f64 b .i64 = some n := by
  obtain ⟨s, m, e, hr, hv⟩ := h
  unfold floatToIntVal FloatKind.decode
  have hi : (double.read b).toInt .zero = some n := by
    rw [hr]
    simp only [Datum.toInt, Datum.integral]
    congr 1
    rcases Int.le_total 0 e with he | he
    · have h3 := hv.at 0 (by omega)
      simp only [Int.pow_zero, Int.mul_one] at h3
      rw [show (-e).toNat = 0 by omega]
      have h4 := cut_exact .zero s (m <<< e.toNat) 0 (.inr rfl)
      rw [Nat.pow_zero, Nat.mul_one] at h4
      rw [h4, ← h3, show (e + (0 : Nat)).toNat = e.toNat by omega]
      unfold signed; simp
    · have h3 := hv.at (-e).toNat (by omega)
      rw [show (e + ((-e).toNat : Int)).toNat = 0 by omega] at h3
      rw [show e.toNat = 0 by omega, Nat.shiftLeft_zero]
      have hm : m = n.natAbs * 2 ^ (-e).toNat := by
        have h5 : (signed s m 0).natAbs = m := by unfold signed; cases s <;> simp
        rw [← h5, h3, Int.natAbs_mul, Int.natAbs_pow]; rfl
      rw [hm, cut_exact .zero s _ _ (.inr rfl)]
      have p1 : (0 : Int) < 2 ^ (-e).toNat := Int.pow_pos (by omega)
      unfold signed at h3 ⊢
      simp only [Nat.shiftLeft_zero] at h3 ⊢
      cases s
      · simp only [Bool.false_eq_true, if_false] at h3 ⊢
        have : 0 ≤ n := by
          rcases Int.lt_or_le n 0 with h | h
          · have := Int.mul_neg_of_neg_of_pos h p1; omega
          · exact h
        omega
      · simp only [if_true] at h3 ⊢
        have : n ≤ 0 := by
          rcases Int.lt_or_le 0 n with h | h
          · have := Int.mul_pos h p1; omega
          · exact h
        omega
  have e1 : IntKind.i64.min = -9223372036854775808 := by decide
  have e2 : IntKind.i64.max = 9223372036854775807 := by decide
  show (match (double.read b).toInt .zero with
    | some n => if IntKind.i64.min ≤ n ∧ n ≤ IntKind.i64.max then some n else none
    | none => none) = some n
  rw [hi]
  simp only [e1, e2]
  rw [if_pos ⟨h1, h2⟩]

theorem neg_whole {b : Nat} {n : Int} (h : Fl b n) : Fl (Op.negFloat .f64 b) (-n) := by
  obtain ⟨s, m, e, hr, k, hk, hv⟩ := h
  refine ⟨!s, m, e, ?_, k, hk, by rw [signed_not, hv, Int.neg_mul]⟩
  have hx : Op.negFloat .f64 b = b ^^^ 2 ^ 63 := rfl
  have h1 : (b ^^^ 2 ^ 63) % 2 ^ 63 = b % 2 ^ 63 := by
    rw [Nat.xor_mod_two_pow]; simp
  have h2 : ((b ^^^ 2 ^ 63) / 2 ^ 63 % 2 == 1) = !(b / 2 ^ 63 % 2 == 1) := by
    rw [Nat.xor_div_two_pow, Nat.div_self (by omega : 0 < 2 ^ 63), show (b / 2 ^ 63 ^^^ 1) % 2 = ((b / 2 ^ 63) % 2 ^^^ 1) by rw [show (2 : Nat) = 2 ^ 1 by rfl, Nat.xor_mod_two_pow]]
    have : b / 2 ^ 63 % 2 < 2 := Nat.mod_lt _ (by omega)
    generalize b / 2 ^ 63 % 2 = q at *
    match q, this with
    | 0, _ => rfl
    | 1, _ => rfl
  unfold Format.read at hr ⊢
  have e1 : double.signWeight = 2 ^ 63 := rfl
  simp only [hx, e1, h1, h2] at hr ⊢
  split
  · rename_i hlt
    simp only [hlt, if_true, Datum.number.injEq] at hr ⊢
    exact ⟨by rw [hr.1], hr.2⟩
  · rename_i hlt
    simp only [hlt, if_false] at hr
    split
    · rename_i hlt2
      simp only [hlt2, if_true, Datum.number.injEq] at hr ⊢
      exact ⟨by rw [hr.1], hr.2⟩
    · rename_i hlt2
      simp only [hlt2, if_false] at hr
      split at hr <;> cases hr

theorem abs_whole {b : Nat} {n : Int} (h : Fl b n) : Fl (b % 2 ^ 63) (max n (-n)) := by
  obtain ⟨s, m, e, hr, k, hk, hv⟩ := h
  refine ⟨false, m, e, ?_, k, hk, ?_⟩
  · unfold Format.read at hr ⊢
    have e1 : double.signWeight = 2 ^ 63 := rfl
    have h2 : (b % 2 ^ 63 / 2 ^ 63 % 2 == 1) = false := by
      rw [Nat.div_eq_of_lt (Nat.mod_lt _ (by omega))]; rfl
    simp only [e1, Nat.mod_mod, h2] at hr ⊢
    split
    · rename_i hlt
      simp only [hlt, if_true, Datum.number.injEq] at hr ⊢
      exact ⟨trivial, hr.2⟩
    · rename_i hlt
      simp only [hlt, if_false] at hr
      split
      · rename_i hlt2
        simp only [hlt2, if_true, Datum.number.injEq] at hr ⊢
        exact ⟨trivial, hr.2⟩
      · rename_i hlt2
        simp only [hlt2, if_false] at hr
        split at hr <;> cases hr
  · have p1 : (0 : Int) < 2 ^ k := Int.pow_pos (by omega)
    have p2 := Int.natCast_nonneg (m <<< (e + k).toNat)
    unfold signed at hv ⊢
    cases s
    · simp only [Bool.false_eq_true, if_false] at hv ⊢
      have : 0 ≤ n := by
        rcases Int.lt_or_le n 0 with h | h
        · have := Int.mul_neg_of_neg_of_pos h p1; omega
        · exact h
      rw [hv, show max n (-n) = n by omega]
    · simp only [Bool.false_eq_true, if_false, if_true] at hv ⊢
      have : n ≤ 0 := by
        rcases Int.lt_or_le 0 n with h | h
        · have := Int.mul_pos h p1; omega
        · exact h
      rw [show max n (-n) = -n by omega, Int.neg_mul, ← hv, Int.neg_neg]

theorem order_whole {a b : Nat} {x y : Int} (ha : Fl a x) (hb : Fl b y) : FloatKind.f64.format.order a b = some (compare x y) := by
  obtain ⟨s, m, i, hr, hv⟩ := ha
  obtain ⟨t, n, j, hr', hv'⟩ := hb
  show double.order a b = _
  unfold Format.order
  rw [hr, hr']
  simp only [Datum.order]
  obtain ⟨k, hk⟩ : ∃ k : Nat, 0 ≤ min i j + k := ⟨(-(min i j)).toNat, by omega⟩
  have h1 := hv.at k (by omega)
  have h2 := hv'.at k (by omega)
  rw [show (i + k).toNat = (i - min i j).toNat + (min i j + k).toNat by omega, signed_shift] at h1
  rw [show (j + k).toNat = (j - min i j).toNat + (min i j + k).toNat by omega, signed_shift] at h2
  generalize signed s m (i - min i j).toNat = A at *
  generalize signed t n (j - min i j).toNat = B at *
  have p1 : (0 : Int) < 2 ^ k := Int.pow_pos (by omega)
  have p2 : (0 : Int) < 2 ^ (min i j + k).toNat := Int.pow_pos (by omega)
  congr 1
  have lt : ∀ {A B x y : Int}, A * 2 ^ (min i j + k).toNat = x * 2 ^ k → B * 2 ^ (min i j + k).toNat = y * 2 ^ k → x < y → A < B := by
    intro A B x y h1 h2 h
    have := Int.mul_lt_mul_of_pos_right h p1
    rw [← h1, ← h2] at this
    exact Int.lt_of_mul_lt_mul_right this (Int.le_of_lt p2)
  rcases Int.lt_trichotomy x y with h | h | h
  · have := lt h1 h2 h
    rw [show compare A B = .lt from Int.compare_eq_lt.2 this, show compare x y = .lt from Int.compare_eq_lt.2 h]
  · have : A = B := by
      have h3 : A * 2 ^ (min i j + k).toNat = B * 2 ^ (min i j + k).toNat := by rw [h1, h2, h]
      exact Int.eq_of_mul_eq_mul_right (Int.ne_of_gt p2) h3
    rw [show compare A B = .eq from Int.compare_eq_eq.2 this, show compare x y = .eq from Int.compare_eq_eq.2 h]
  · have := lt h2 h1 h
    rw [show compare A B = .gt from Int.compare_eq_gt.2 this, show compare x y = .gt from Int.compare_eq_gt.2 h]

/-- the greater word -/
def fmax (a b : Nat) : Nat :=
  match FloatKind.f64.format.order a b with
  | some .lt => b
  | some .gt => a
  | _ => if (FloatKind.f64.decode a).neg then b else a

theorem max_whole {a b : Nat} {x y : Int} (ha : Fl a x) (hb : Fl b y) : Fl (fmax a b) (max x y) := by
  unfold fmax
  rw [order_whole ha hb]
  rcases Int.lt_trichotomy x y with h | h | h
  · rw [show compare x y = .lt from Int.compare_eq_lt.2 h, show max x y = y by omega]; exact hb
  · rw [show compare x y = .eq from Int.compare_eq_eq.2 h]
    subst h
    simp only [show max x x = x by omega]
    split
    · exact hb
    · exact ha
  · rw [show compare x y = .gt from Int.compare_eq_gt.2 h, show max x y = x by omega]; exact ha

theorem one_whole : Fl 4607182418800017408 1 := by
  refine ⟨false, 2 ^ 52, -52, by decide +kernel, 52, by omega, by decide +kernel⟩
theorem zero_whole : Fl 0 0 := by
  refine ⟨false, 0, -1074, by decide +kernel, 1074, by omega, by decide +kernel⟩
theorem Fl.lt_of_format {b : Nat} {r : Nat} {op : BinOp} {a : Nat} (h : floatBits op .f64 a b = some r) : r < 2 ^ 64 := by
  have := floatBits_wf h
  simpa [Lit.wf] using this
end Go.Proofs.YthchkhgimnchcaaGreat
/- The walks of package gauss: fixing, points and numbers. -/
namespace Go.Proofs.YthchkhgimnchcaaGreat
open Go.RowKit

/-- a block of two cells that may be written -/
structure Cell2 (w : World) (b : Nat) (u v : Value) : Prop where
  c0 : w.cell? ⟨b, 0, none⟩ = some u
  c1 : w.cell? ⟨b, 1, none⟩ = some v
  z0 : w.frozen? ⟨b, 0, none⟩ = false
  z1 : w.frozen? ⟨b, 1, none⟩ = false
theorem Cell2.new (w : World) (u v : Value) (t : TypeId) : Cell2 (w.alloc (.cells #[u, v] t)) w.heap.size u v :=
  ⟨by go_simp, by go_simp, by go_simp, by go_simp⟩
theorem Cell2.below {w w1 : World} {b B : Nat} {u v : Value} (h : Cell2 w b u v) (hb : Below B w w1) (hB : b < B) : Cell2 w1 b u v :=
  ⟨by rw [hb.cell hB]; exact h.c0, by rw [hb.cell hB]; exact h.c1, by rw [hb.frozen hB]; exact h.z0, by rw [hb.frozen hB]; exact h.z1⟩
theorem Cell2.kept {w w1 : World} {b : Nat} {u v : Value} (h : Cell2 w b u v) (hb : Below w.heap.size w w1) : Cell2 w1 b u v :=
  h.below hb (World.block_lt_of_cell? w _ h.c0)
theorem Cell2.alloc {w : World} {b : Nat} {u v : Value} (h : Cell2 w b u v) (o : Obj) : Cell2 (w.alloc o) b u v :=
  h.kept ((Below.refl _ _).alloc (Nat.le_refl _) _)

/-- a part, fixed -/
def fx (n : Int) : Int := max (-1048576) (min n 1048576)
theorem fx_bd (n : Int) : -1048576 ≤ fx n ∧ fx n ≤ 1048576 := by unfold fx; omega
/-- a point as a value -/
abbrev pt (x y : Int) : Value := .agg #[.int .i64 x, .int .i64 y]
/-- a whole number as a float's word -/
def fl (n : Int) : Nat := floatOfInt .f64 n
theorem fl_fx (n : Int) : Fl (fl (fx n)) (fx n) := ofInt_whole (by have := fx_bd n; omega)

end Go.Proofs.YthchkhgimnchcaaGreat
/- A scope with one label to which the run jumps back: what holds at the label bears a number that every pass lowers. -/
namespace Go.Proofs.YthchkhgimnchcaaGreat
open Go.RowKit

theorem wp_of_skip {P : Program} {B rest : Code} (h : rest = .seq .skip B) (Q : Exit → Act → World → Prop) (a : Act) (w : World) (hB : B.wp P Q a w) : rest.wp P Q a w := by
  subst h
  exact wp_seq (wp_skip hB)

/-- The label's rest is walked once ('pass'); the way to the label once ('first'). -/
theorem wp_scope_goto {P : Program} {a : Act} {w : World} {Q : Exit → Act → World → Prop} {c rest B : Code} (l : Nat) (I : Nat → Act → World → Prop) (hf : findLabel c l = some rest) (hB : rest = .seq .skip B)
    (pass : ∀ n a w, I n a w → ∀ K : Act → World → Prop, (∀ n' a' w', n' < n → I n' a' w' → K a' w') → B.wp P (Exit.jump l K Q) a w)
    (first : ∀ K : Act → World → Prop, (∀ n a w, I n a w → B.wp P (Exit.jump l K Q) a w) → c.wp P (Exit.jump l K Q) a w) : (Code.scope c).wp P Q a w := by
  refine wp_scope_jumps l (fun a w => ∃ n, I n a w) (fun a w => leastOf (fun n => I n a w)) hf ?_ ?_
  · exact first _ fun n a w h => pass n a w h _ fun n' a' w' _ h' => ⟨n', h'⟩
  · intro a w hI
    have hs := leastOf_spec hI
    refine wp_of_skip hB _ _ _ (pass _ a w hs.1 _ ?_)
    intro n' a' w' hlt h'
    exact ⟨⟨n', h'⟩, Nat.lt_of_le_of_lt ((leastOf_spec ⟨n', h'⟩).2 n' h') hlt⟩

end Go.Proofs.YthchkhgimnchcaaGreat
/- The walks of package gauss: sums, products, turns, sizes. -/
namespace Go.Proofs.YthchkhgimnchcaaGreat
open Go.RowKit

theorem i64_in' {n : Int} (h : n.natAbs < 2 ^ 53) : -9223372036854775808 ≤ n ∧ n ≤ 9223372036854775807 := by omega

theorem cSum_run (op : BinOp) (hop : op = .add ∨ op = .sub) (t : TypeId) {a b c d : Nat} (h1 : floatBits op .f64 a c = some (fbits op a c)) (h2 : floatBits op .f64 b d = some (fbits op b d)) (w : World) :
    (binOp op t (.complex .f64 a b) (.complex .f64 c d)).run Tryz.prog w = .ok (.complex .f64 (fbits op a c) (fbits op b d)) w :=
  run_complex_sum w op hop t .f64 a b c d _ _ (by unfold cSumBits; rw [h1, h2]; rfl)

def mulRe (a b c d : Nat) : Nat := fbits .sub (fbits .mul a c) (fbits .mul b d)
def mulIm (a b c d : Nat) : Nat := fbits .add (fbits .mul a d) (fbits .mul b c)
theorem cMul_run (t : TypeId) {a b c d : Nat} {x y u v : Int} (ha : Fl a x) (hb : Fl b y) (hc : Fl c u) (hd : Fl d v)
    (h1 : (x * u).natAbs < 2 ^ 52) (h2 : (y * v).natAbs < 2 ^ 52) (h3 : (x * v).natAbs < 2 ^ 52) (h4 : (y * u).natAbs < 2 ^ 52) :
    (∀ w, (binOp .mul t (.complex .f64 a b) (.complex .f64 c d)).run Tryz.prog w = .ok (.complex .f64 (mulRe a b c d) (mulIm a b c d)) w) ∧ Fl (mulRe a b c d) (x * u - y * v) ∧ Fl (mulIm a b c d) (x * v + y * u) := by
  obtain ⟨e1, f1⟩ := mul_whole ha hc (by omega)
  obtain ⟨e2, f2⟩ := mul_whole hb hd (by omega)
  obtain ⟨e3, f3⟩ := sub_whole f1 f2 (by omega)
  obtain ⟨e4, f4⟩ := mul_whole ha hd (by omega)
  obtain ⟨e5, f5⟩ := mul_whole hb hc (by omega)
  obtain ⟨e6, f6⟩ := add_whole f4 f5 (by omega)
  exact ⟨fun w => run_complex_mul w t a b c d _ _ (by unfold cMulBits; rw [e1, e2, e4, e5]; simp only [Option.bind_some]; rw [e3, e6]; rfl), f3, f6⟩

theorem mul_bd {a b : Int} {A B : Nat} (ha : a.natAbs ≤ A) (hb : b.natAbs ≤ B) : (a * b).natAbs ≤ A * B := by
  rw [Int.natAbs_mul]; exact Nat.mul_le_mul ha hb
theorem fx_abs (n : Int) : (fx n).natAbs ≤ 1048576 := by have := fx_bd n; omega
theorem fx_mul (n m : Int) : (fx n * fx m).natAbs < 2 ^ 52 := by have := mul_bd (fx_abs n) (fx_abs m); omega

/-- a float's word without its sign -/
def low63 (p : Nat) : Nat := p % 2 ^ 63
theorem low63_bits (p : Nat) (hp : p < 18446744073709551616) : bits .andNot .u64 (p : Int) 9223372036854775808 = ((low63 p : Nat) : Int) := by
  have h := u64_andNot_nat p 9223372036854775808 hp (by omega)
  have e : (18446744073709551615 - 9223372036854775808 : Nat) = 2 ^ 63 - 1 := rfl
  rw [e, Nat.and_two_pow_sub_one_eq_mod] at h
  exact h

theorem fl_lt (n : Int) : fl n < 18446744073709551616 := by
  have := floatOfInt_wf .f64 n
  simpa [fl, Lit.wf] using this
/-- a part without its sign -/
def sz (n : Int) : Int := max (fx n) (-fx n)
theorem sz_bd (n : Int) : 0 ≤ sz n ∧ sz n ≤ 1048576 := by have := fx_bd n; unfold sz; omega
theorem low_sz (n : Int) : Fl (low63 (fl (fx n))) (sz n) := abs_whole (fl_fx n)

theorem max_run (a b : Nat) (x y : Int) (ha : Fl a x) (hb : Fl b y) (ts : Array TypeId) (t : TypeId) (w : World) : (Builtin.max_ ts t #[.float .f64 a, .float .f64 b]).run Tryz.prog w = .ok (.float .f64 (fmax a b)) w := by
  simp only [Builtin.max_, List.foldlM, Builtin.max2, order_whole ha hb, fmax]
  rcases Int.lt_trichotomy x y with h | h | h
  · rw [show compare x y = .lt from Int.compare_eq_lt.2 h]; rfl
  · rw [show compare x y = .eq from Int.compare_eq_eq.2 h]; rfl
  · rw [show compare x y = .gt from Int.compare_eq_gt.2 h]; rfl

end Go.Proofs.YthchkhgimnchcaaGreat
/- The walk of gauss.Turn. -/
namespace Go.Proofs.YthchkhgimnchcaaGreat
open Go.RowKit

theorem and3 (n : Int) : bits .and .i64 n 3 = n % 4 := by
  have h : (BitVec.ofInt 64 n &&& BitVec.ofInt 64 3).toNat = (n % 4).toNat := by
    rw [BitVec.toNat_and, BitVec.toNat_ofInt, BitVec.toNat_ofInt]
    have e : ((3 : Int) % ((2 ^ 64 : Nat) : Int)).toNat = 2 ^ 2 - 1 := by decide
    rw [e, Nat.and_two_pow_sub_one_eq_mod]
    omega
  show IntKind.i64.wrap _ = _
  have h2 : ((BitVec.ofInt IntKind.i64.bits n &&& BitVec.ofInt IntKind.i64.bits 3).toNat : Int) = n % 4 := by
    have := congrArg (fun k : Nat => (k : Int)) h
    have p := Int.emod_nonneg n (show (4 : Int) ≠ 0 by omega)
    simp only [Int.toNat_of_nonneg p] at this
    exact this
  have p := Int.emod_nonneg n (show (4 : Int) ≠ 0 by omega)
  have q := Int.emod_lt_of_pos n (show (0 : Int) < 4 by omega)
  exact (congrArg _ h2).trans (IntWalk.i64_in _ (by omega))

/-- quarters to the left -/
def rot : Nat → Int → Int → Int × Int
  | 0, x, y => (x, y)
  | j + 1, x, y => (-(rot j x y).2, (rot j x y).1)
theorem rot_abs (j : Nat) (x y : Int) (B : Nat) (hx : x.natAbs ≤ B) (hy : y.natAbs ≤ B) : (rot j x y).1.natAbs ≤ B ∧ (rot j x y).2.natAbs ≤ B := by
  induction j with
  | zero => exact ⟨hx, hy⟩
  | succ j ih => exact ⟨by show (-(rot j x y).2).natAbs ≤ B; rw [Int.natAbs_neg]; exact ih.2, ih.1⟩

end Go.Proofs.YthchkhgimnchcaaGreat
/- The walks of the document's answers for layer 3: points. -/
namespace Go.Proofs.YthchkhgimnchcaaGreat
open Go.RowKit

theorem Cell2.of_heap {w : World} {b : Nat} {u v : Value} {t : TypeId} (h : w.heap[b]? = some (.cells #[u, v] t)) : Cell2 w b u v :=
  ⟨by simp [World.cell?, h], by simp [World.cell?, h], by simp [World.frozen?, h], by simp [World.frozen?, h]⟩

theorem refClip3_any (n a b : Int) (hab : a ≤ b) (w : World) : Calls Tryz.prog 7 #[.int .i64 n, .int .i64 a, .int .i64 b] w fun e w' => e = .returned (.int .i64 (max a (min n b))) ∧ w = w' := by
  by_cases h : n < a
  · go_enter Tryz.func7, Tryz.ntmps7
    go_wp2
    go_ret
    exact ⟨ret_i (by omega), rfl⟩
  · by_cases h1 : b < n
    all_goals
      go_enter Tryz.func7, Tryz.ntmps7
      go_wp2
      go_ret
      exact ⟨ret_i (by omega), rfl⟩

end Go.Proofs.YthchkhgimnchcaaGreat
/- The walks of the document's answers for layer 5: counts, what is the same, what is near. -/
namespace Go.Proofs.YthchkhgimnchcaaGreat
open Go.RowKit

/-- how often a move is done -/
def cnt (m : Int × Int) : Int := if m.1 < 1 ∨ 4 < m.1 then 0 else max 0 (min m.2 1048576)
theorem cnt_bd (m : Int × Int) : 0 ≤ cnt m ∧ cnt m ≤ 1048576 := by unfold cnt; split <;> omega

theorem beq_no' {a b : Int} (h : a ≠ b) : (a == b) = false := by simp [h]

/-- steps on and back, together -/
def stps : List (Int × Int) → Int
  | [] => 0
  | m :: l => (if m.1 = 1 ∨ m.1 = 2 then cnt m else 0) + stps l
theorem stps_append (a b : List (Int × Int)) : stps (a ++ b) = stps a + stps b := by
  induction a with
  | nil => simp [stps]
  | cons m a ih => simp only [List.cons_append, stps, ih]; omega
theorem stps_nn (l : List (Int × Int)) : 0 ≤ stps l := by
  induction l with
  | nil => simp [stps]
  | cons m l ih => have := cnt_bd m; unfold stps; split <;> omega
theorem stps_take (l : List (Int × Int)) (k : Nat) : stps (l.take k) ≤ stps l := by
  have h := stps_append (l.take k) (l.drop k)
  rw [List.take_append_drop] at h
  have := stps_nn (l.drop k)
  omega
theorem stps_succ (l : List (Int × Int)) (k : Nat) (h : k < l.length) : stps (l.take (k + 1)) = stps (l.take k) + (if (l[k]).1 = 1 ∨ (l[k]).1 = 2 then cnt l[k] else 0) := by
  rw [List.take_add_one, List.getElem?_eq_getElem h, stps_append]
  simp [stps]
theorem stps_le (l : List (Int × Int)) (k : Nat) : stps (l.take k) ≤ 1048576 * k := by
  induction k with
  | zero => simp [stps]
  | succ k ih =>
    by_cases h : k < l.length
    · rw [stps_succ l k h]
      have := cnt_bd l[k]
      split <;> omega
    · rw [List.take_of_length_le (by omega)]
      rw [List.take_of_length_le (by omega)] at ih
      omega

end Go.Proofs.YthchkhgimnchcaaGreat
/- The walks of package motion: numbers, points, turns. -/
namespace Go.Proofs.YthchkhgimnchcaaGreat
open Go.RowKit

theorem store_complex (P : Program) (w : World) (a : Addr) (m : Mode) (k : FloatKind) (x y : Nat) : (store a (.complex k x y) m).run P w = stored P w a (.complex k x y) m := run_store P w a _ m rfl
attribute [local go_sem] store_complex

/-- a block of three cells that may be written -/
structure Cell3 (w : World) (b : Nat) (u v x : Value) : Prop where
  c0 : w.cell? ⟨b, 0, none⟩ = some u
  c1 : w.cell? ⟨b, 1, none⟩ = some v
  c2 : w.cell? ⟨b, 2, none⟩ = some x
  z0 : w.frozen? ⟨b, 0, none⟩ = false
  z1 : w.frozen? ⟨b, 1, none⟩ = false
  z2 : w.frozen? ⟨b, 2, none⟩ = false
theorem Cell3.new (w : World) (u v x : Value) (t : TypeId) : Cell3 (w.alloc (.cells #[u, v, x] t)) w.heap.size u v x :=
  ⟨by go_simp, by go_simp, by go_simp, by go_simp, by go_simp, by go_simp⟩
theorem Cell3.below {w w1 : World} {b B : Nat} {u v x : Value} (h : Cell3 w b u v x) (hb : Below B w w1) (hB : b < B) : Cell3 w1 b u v x :=
  ⟨by rw [hb.cell hB]; exact h.c0, by rw [hb.cell hB]; exact h.c1, by rw [hb.cell hB]; exact h.c2, by rw [hb.frozen hB]; exact h.z0, by rw [hb.frozen hB]; exact h.z1, by rw [hb.frozen hB]; exact h.z2⟩
theorem Cell3.kept {w w1 : World} {b : Nat} {u v x : Value} (h : Cell3 w b u v x) (hb : Below w.heap.size w w1) : Cell3 w1 b u v x :=
  h.below hb (World.block_lt_of_cell? w _ h.c0)
theorem Cell3.alloc {w : World} {b : Nat} {u v x : Value} (h : Cell3 w b u v x) (o : Obj) : Cell3 (w.alloc o) b u v x :=
  h.kept ((Below.refl _ _).alloc (Nat.le_refl _) _)
theorem Cell3.of_heap {w : World} {b : Nat} {u v x : Value} {t : TypeId} (h : w.heap[b]? = some (.cells #[u, v, x] t)) : Cell3 w b u v x :=
  ⟨by simp [World.cell?, h], by simp [World.cell?, h], by simp [World.cell?, h], by simp [World.frozen?, h], by simp [World.frozen?, h], by simp [World.frozen?, h]⟩

theorem Cell3.away {w : World} {b : Nat} {u v x : Value} (h : Cell3 w b u v x) (a : Addr) (y : Value) (hne : a.block ≠ b) : Cell3 (w.setCell a y) b u v x :=
  ⟨(World.cell?_setCell_other w a _ y (by rintro rfl; exact hne rfl)).trans h.c0, (World.cell?_setCell_other w a _ y (by rintro rfl; exact hne rfl)).trans h.c1, (World.cell?_setCell_other w a _ y (by rintro rfl; exact hne rfl)).trans h.c2, by simp [h.z0], by simp [h.z1], by simp [h.z2]⟩
theorem Cell2.away {w : World} {b : Nat} {u v : Value} (h : Cell2 w b u v) (a : Addr) (y : Value) (hne : a.block ≠ b) : Cell2 (w.setCell a y) b u v :=
  ⟨(World.cell?_setCell_other w a _ y (by rintro rfl; exact hne rfl)).trans h.c0, (World.cell?_setCell_other w a _ y (by rintro rfl; exact hne rfl)).trans h.c1, by simp [h.z0], by simp [h.z1]⟩
theorem Cell3.set {w : World} {b : Nat} {u v x : Value} (h : Cell3 w b u v x) (u' v' x' : Value) : Cell3 (((w.setCell ⟨b, 0, none⟩ u').setCell ⟨b, 1, none⟩ v').setCell ⟨b, 2, none⟩ x') b u' v' x' := by
  obtain ⟨c0, c1, c2, z0, z1, z2⟩ := h
  exact ⟨by simp [go_sem, c0], by simp [go_sem, c1], by simp [go_sem, c2], by simp [z0], by simp [z1], by simp [z2]⟩
theorem Cell2.set {w : World} {b : Nat} {u v : Value} (h : Cell2 w b u v) (u' v' : Value) : Cell2 ((w.setCell ⟨b, 0, none⟩ u').setCell ⟨b, 1, none⟩ v') b u' v' := by
  obtain ⟨c0, c1, z0, z1⟩ := h
  exact ⟨by simp [go_sem, c0], by simp [go_sem, c1], by simp [z0], by simp [z1]⟩

/-! ### Turns -/
theorem rot_zero (q : Nat) : rot q 0 0 = (0, 0) := by
  induction q with
  | zero => rfl
  | succ q ih => unfold rot; rw [ih]; rfl
theorem rot_four (q : Nat) (x y : Int) : rot (q + 4) x y = rot q x y := by
  simp [rot]
theorem rot_mod (q : Nat) (x y : Int) : rot (q % 4) x y = rot q x y := by
  have : ∀ k, rot (q % 4 + 4 * k) x y = rot (q % 4) x y := by
    intro k
    induction k with
    | zero => rfl
    | succ k ih => rw [show q % 4 + 4 * (k + 1) = (q % 4 + 4 * k) + 4 by omega, rot_four, ih]
  have h := this (q / 4)
  rw [show q % 4 + 4 * (q / 4) = q by omega] at h
  exact h.symm
theorem rot_add (q r : Nat) (x y : Int) : rot q (rot r x y).1 (rot r x y).2 = rot (q + r) x y := by
  induction q with
  | zero => simp [rot]
  | succ q ih => rw [show q + 1 + r = (q + r) + 1 by omega]; unfold rot; rw [ih]
theorem rot_sum (q : Nat) (x y u v : Int) : rot q (x + u) (y + v) = ((rot q x y).1 + (rot q u v).1, (rot q x y).2 + (rot q u v).2) := by
  induction q with
  | zero => rfl
  | succ q ih => unfold rot; rw [ih]; simp; omega
theorem rot_neg (q : Nat) (x y : Int) : rot q (-x) (-y) = (-(rot q x y).1, -(rot q x y).2) := by
  induction q with
  | zero => rfl
  | succ q ih => unfold rot; rw [ih]
/-- a turn's number -/
def uq (q : Nat) : Int := (rot q 1 0).1
def vq (q : Nat) : Int := (rot q 1 0).2
theorem unit_mul (q : Nat) (x y : Int) : uq q * x - vq q * y = (rot q x y).1 ∧ uq q * y + vq q * x = (rot q x y).2 := by
  induction q with
  | zero => simp [uq, vq, rot]
  | succ q ih =>
    obtain ⟨h1, h2⟩ := ih
    have e1 : uq (q + 1) = -vq q := rfl
    have e2 : vq (q + 1) = uq q := rfl
    rw [e1, e2]
    have e3 : (rot (q + 1) x y).1 = -(rot q x y).2 := rfl
    have e4 : (rot (q + 1) x y).2 = (rot q x y).1 := rfl
    rw [e3, e4, ← h1, ← h2]
    simp only [Int.neg_mul]
    omega
theorem unit_abs (q : Nat) : (uq q).natAbs ≤ 1 ∧ (vq q).natAbs ≤ 1 := rot_abs q 1 0 1 (by decide) (by decide)
theorem unit_fx (q : Nat) : fx (uq q) = uq q ∧ fx (vq q) = vq q := by
  obtain ⟨h1, h2⟩ := unit_abs q
  unfold fx
  omega
theorem unit_le (q : Nat) {x : Int} {B : Nat} (h : x.natAbs ≤ B) : (uq q * x).natAbs ≤ B ∧ (vq q * x).natAbs ≤ B := by
  obtain ⟨h1, h2⟩ := unit_abs q
  have a := mul_bd h1 h
  have b := mul_bd h2 h
  omega
theorem unit_one {q : Nat} (h : q < 4) : (uq q = 1 ∧ vq q = 0) ↔ q = 0 := by
  have : q = 0 ∨ q = 1 ∨ q = 2 ∨ q = 3 := by omega
  rcases this with rfl | rfl | rfl | rfl <;> decide
theorem fl_small {n : Int} (h : n.natAbs ≤ 1048576) : Fl (fl n) n := ofInt_whole (by omega)

theorem ord_eq {a b : Nat} {x y : Int} (ha : Fl a x) (hb : Fl b y) : (FloatKind.f64.format.order a b == some .eq) = decide (x = y) := by
  rw [order_whole ha hb]
  rcases Int.lt_trichotomy x y with h | h | h
  · rw [show compare x y = .lt from Int.compare_eq_lt.2 h, decide_eq_false (by omega)]; rfl
  · rw [show compare x y = .eq from Int.compare_eq_eq.2 h, decide_eq_true h]; rfl
  · rw [show compare x y = .gt from Int.compare_eq_gt.2 h, decide_eq_false (by omega)]; rfl
theorem cSum_whole {op : BinOp} (t : TypeId) {a b c d : Nat} {x y u v : Int} (ha : Fl a x) (hb : Fl b y) (hc : Fl c u) (hd : Fl d v) (hop : op = .add) (h1 : (x + u).natAbs < 2 ^ 53) (h2 : (y + v).natAbs < 2 ^ 53) :
    (∀ w, (binOp op t (.complex .f64 a b) (.complex .f64 c d)).run Tryz.prog w = .ok (.complex .f64 (fbits op a c) (fbits op b d)) w) ∧ Fl (fbits op a c) (x + u) ∧ Fl (fbits op b d) (y + v) := by
  subst hop
  obtain ⟨e1, f1⟩ := add_whole ha hc h1
  obtain ⟨e2, f2⟩ := add_whole hb hd h2
  exact ⟨cSum_run .add (by simp) t e1 e2, f1, f2⟩
theorem cDif_whole (t : TypeId) {a b c d : Nat} {x y u v : Int} (ha : Fl a x) (hb : Fl b y) (hc : Fl c u) (hd : Fl d v) (h1 : (x - u).natAbs < 2 ^ 53) (h2 : (y - v).natAbs < 2 ^ 53) :
    (∀ w, (binOp .sub t (.complex .f64 a b) (.complex .f64 c d)).run Tryz.prog w = .ok (.complex .f64 (fbits .sub a c) (fbits .sub b d)) w) ∧ Fl (fbits .sub a c) (x - u) ∧ Fl (fbits .sub b d) (y - v) := by
  obtain ⟨e1, f1⟩ := sub_whole ha hc h1
  obtain ⟨e2, f2⟩ := sub_whole hb hd h2
  exact ⟨cSum_run .sub (by simp) t e1 e2, f1, f2⟩

/-! ### The walks -/
/-- quarters left of a number of turns -/
def qr (n : Int) : Nat := (n % 4).toNat
theorem qr_lt (n : Int) : qr n < 4 := by unfold qr; omega

end Go.Proofs.YthchkhgimnchcaaGreat
/- The walks of the document's answers for layer 3: mirrors, turns, sizes. -/
namespace Go.Proofs.YthchkhgimnchcaaGreat
open Go.RowKit

theorem sq_nn (a : Int) : 0 ≤ a * a := by
  rcases Int.le_total 0 a with h | h
  · exact Int.mul_nonneg h h
  · exact Int.mul_nonneg_of_nonpos_of_nonpos h h
def smallB (x y m : Int) : Bool := decide (-m ≤ x ∧ x ≤ m ∧ -m ≤ y ∧ y ≤ m)
theorem refSmall_any (x y m : Int) (w : World) (hm : 0 ≤ m) (hm' : m ≤ 9223372036854775807) : Calls Tryz.prog 63 #[.agg #[.int .i64 x, .int .i64 y], .int .i64 m] w fun e w' => e = .returned (.bool (smallB x y m)) ∧ Below w.heap.size w w' := by
  by_cases h1 : -m ≤ x
  · by_cases h2 : x ≤ m
    · by_cases h3 : -m ≤ y
      · by_cases h4 : y ≤ m
        all_goals
          go_enter Tryz.func63, Tryz.ntmps63
          go_wp2
          go_ret
          exact ⟨ret_b (by simp [smallB, *] <;> omega), (Below.refl _ _).alloc (Nat.le_refl _) _⟩
      · go_enter Tryz.func63, Tryz.ntmps63
        go_wp2
        go_ret
        exact ⟨ret_b (by simp [smallB, *] <;> omega), (Below.refl _ _).alloc (Nat.le_refl _) _⟩
    · go_enter Tryz.func63, Tryz.ntmps63
      go_wp2
      go_ret
      exact ⟨ret_b (by simp [smallB, *] <;> omega), (Below.refl _ _).alloc (Nat.le_refl _) _⟩
  · go_enter Tryz.func63, Tryz.ntmps63
    go_wp2
    go_ret
    exact ⟨ret_b (by simp [smallB, *] <;> omega), (Below.refl _ _).alloc (Nat.le_refl _) _⟩
end Go.Proofs.YthchkhgimnchcaaGreat
/- The walks of the document's answers for layer 5: where a walk ends. -/
namespace Go.Proofs.YthchkhgimnchcaaGreat
open Go.RowKit

/-- where a walk ends: quarters, and the place -/
def estep (s : Int × Int × Int) (m : Int × Int) : Int × Int × Int :=
  if m.1 = 1 then (s.1, s.2.1 + cnt m * uq (s.1 % 4).toNat, s.2.2 + cnt m * vq (s.1 % 4).toNat)
  else if m.1 = 2 then (s.1, s.2.1 + -cnt m * uq (s.1 % 4).toNat, s.2.2 + -cnt m * vq (s.1 % 4).toNat)
  else if m.1 = 3 then ((s.1 + cnt m) % 4, s.2.1, s.2.2)
  else if m.1 = 4 then ((s.1 + 3 * cnt m) % 4, s.2.1, s.2.2)
  else s
def eend (l : List (Int × Int)) : Int × Int × Int := l.foldl estep (0, 0, 0)
theorem eend_succ (l : List (Int × Int)) (k : Nat) (h : k < l.length) : eend (l.take (k + 1)) = estep (eend (l.take k)) l[k] := by
  unfold eend
  rw [List.take_add_one, List.getElem?_eq_getElem h, List.foldl_append]
  rfl
theorem bd_add {x p : Int} {B : Nat} (h : x.natAbs ≤ B) (hp : p.natAbs ≤ 1048576) : (x + p).natAbs ≤ B + 1048576 := by omega
theorem bd_up {x : Int} {B : Nat} (h : x.natAbs ≤ B) : x.natAbs ≤ B + 1048576 := by omega
theorem mod4_bd (a : Int) : 0 ≤ a % 4 ∧ a % 4 ≤ 3 := by omega
theorem cnt_abs (m : Int × Int) : (cnt m).natAbs ≤ 1048576 ∧ (-cnt m).natAbs ≤ 1048576 := by have := cnt_bd m; omega
theorem unit_bd {c : Int} (q : Nat) (h : c.natAbs ≤ 1048576) : (c * uq q).natAbs ≤ 1048576 ∧ (c * vq q).natAbs ≤ 1048576 := ⟨mul_bd h (unit_abs q).1, mul_bd h (unit_abs q).2⟩
theorem estep_bd (s : Int × Int × Int) (m : Int × Int) (B : Nat) (h0 : 0 ≤ s.1 ∧ s.1 ≤ 3) (h1 : s.2.1.natAbs ≤ B) (h2 : s.2.2.natAbs ≤ B) :
    (0 ≤ (estep s m).1 ∧ (estep s m).1 ≤ 3) ∧ (estep s m).2.1.natAbs ≤ B + 1048576 ∧ (estep s m).2.2.natAbs ≤ B + 1048576 := by
  obtain ⟨hc, hd⟩ := cnt_abs m
  unfold estep
  split
  · exact ⟨h0, bd_add h1 (unit_bd _ hc).1, bd_add h2 (unit_bd _ hc).2⟩
  · split
    · exact ⟨h0, bd_add h1 (unit_bd _ hd).1, bd_add h2 (unit_bd _ hd).2⟩
    · split
      · exact ⟨mod4_bd _, bd_up h1, bd_up h2⟩
      · split
        · exact ⟨mod4_bd _, bd_up h1, bd_up h2⟩
        · exact ⟨h0, bd_up h1, bd_up h2⟩
theorem eend_bd (l : List (Int × Int)) (k : Nat) : (0 ≤ (eend (l.take k)).1 ∧ (eend (l.take k)).1 ≤ 3) ∧ (eend (l.take k)).2.1.natAbs ≤ k * 1048576 ∧ (eend (l.take k)).2.2.natAbs ≤ k * 1048576 := by
  induction k with
  | zero => simp [eend]
  | succ k ih =>
    by_cases h : k < l.length
    · rw [eend_succ l k h]
      have := estep_bd _ l[k] _ ih.1 ih.2.1 ih.2.2
      rw [Nat.add_mul, Nat.one_mul]
      exact this
    · rw [List.take_of_length_le (by omega)]
      rw [List.take_of_length_le (by omega)] at ih
      refine ⟨ih.1, Nat.le_trans ih.2.1 (Nat.mul_le_mul_right _ (by omega)), Nat.le_trans ih.2.2 (Nat.mul_le_mul_right _ (by omega))⟩

end Go.Proofs.YthchkhgimnchcaaGreat
/- Lists of structs of two numbers that a call gathers by itself. -/
namespace Go.Proofs.YthchkhgimnchcaaGreat
open Go.RowKit

/-- the cells of pairs -/
def flat : List (Int × Int) → List Value
  | [] => []
  | x :: l => .int .i64 x.1 :: .int .i64 x.2 :: flat l
theorem flat_length (l : List (Int × Int)) : (flat l).length = l.length * 2 := by
  induction l with
  | nil => rfl
  | cons x l ih => simp only [flat, List.length_cons, ih]; omega
theorem flat_append (a b : List (Int × Int)) : flat (a ++ b) = flat a ++ flat b := by
  induction a with
  | nil => rfl
  | cons x a ih => simp [flat, ih]
theorem flat_at (l : List (Int × Int)) (j : Nat) (x : Int × Int) (h : l[j]? = some x) : (flat l)[j * 2]? = some (.int .i64 x.1) ∧ (flat l)[j * 2 + 1]? = some (.int .i64 x.2) := by
  induction l generalizing j with
  | nil => simp at h
  | cons y l ih =>
    cases j with
    | zero => simp at h; subst h; simp [flat]
    | succ j =>
      have h' := ih j (by simpa using h)
      have e : (j + 1) * 2 = j * 2 + 1 + 1 := by omega
      rw [e]
      simpa [flat] using h'
/-- a list that the call gathers by itself, in memory from B on -/
def OwnP (w : World) (B : Nat) (e : TypeId) (v : Value) (l : List (Int × Int)) : Prop := w.ownsRow B e 2 v l.length (flat l)
theorem OwnP.nil (w : World) (B : Nat) (e : TypeId) : OwnP w B e (.slice none 0 0) [] := World.ownsRow_nil _ _ _ _
theorem OwnP.pairs {w : World} {B : Nat} {e : TypeId} {v : Value} {l : List (Int × Int)} (h : OwnP w B e v l) : PairsAt w v l := by
  rcases h.2 with ⟨rfl, h0⟩ | ⟨g, cap, cur, rfl, hg, hh, hnc, hcp, hcs, htake⟩
  · rw [List.eq_nil_of_length_eq_zero h0]
    exact PairsAt.nil w
  · refine ⟨_, cap, rfl, hnc, fun h0 => ⟨g, 0, rfl, lt_of_block hh, fun j x hj => ?_⟩⟩
    obtain ⟨h1, h2⟩ := flat_at l j x hj
    have hjl : j < l.length := (List.getElem?_eq_some_iff.1 hj).1
    have cell : ∀ i u, i < l.length * 2 → (flat l)[i]? = some u → w.cell? ⟨g, 0 + i, none⟩ = some u := by
      intro i u hi hu
      rw [← htake, List.getElem?_take_of_lt hi] at hu
      simp [World.cell?, hh]
      simpa using hu
    exact ⟨cell _ _ (by omega) h1, cell _ _ (by omega) h2⟩
theorem OwnP.below {w wq w1 : World} {B : Nat} {e : TypeId} {v : Value} {l : List (Int × Int)} {wr : World} (hown : OwnP wr B e v l) (hB : Below B w wq) (hz : B ≤ wq.heap.size) (hg : wq.grownBy w1 v.ownBlock) : Below B w w1 := by
  refine hB.grown hg hz fun k hk => ?_
  rcases hown.2 with ⟨rfl, _⟩ | ⟨g, cap, cur, rfl, hg, _⟩
  · simp [Value.ownBlock] at hk
  · simp [Value.ownBlock] at hk
    omega
theorem OwnP.alloc {w : World} {B : Nat} {e : TypeId} {v : Value} {l : List (Int × Int)} (h : OwnP w B e v l) (o : Obj) : OwnP (w.alloc o) B e v l := World.ownsRow.alloc h o
end Go.Proofs.YthchkhgimnchcaaGreat
/- The walks of the document's answers for layer 5: a walk the other way round. -/
namespace Go.Proofs.YthchkhgimnchcaaGreat
open Go.RowKit

/-- a move the other way round -/
def rev1 (m : Int × Int) : Int × Int := (if m.1 = 1 then 2 else if m.1 = 2 then 1 else if m.1 = 3 then 4 else if m.1 = 4 then 3 else m.1, m.2)
def revw (l : List (Int × Int)) : List (Int × Int) := l.reverse.map rev1
theorem revw_drop (l : List (Int × Int)) (k : Nat) (h : k < l.length) : revw (l.drop k) = revw (l.drop (k + 1)) ++ [rev1 l[k]] := by
  unfold revw
  rw [List.drop_eq_getElem_cons h, List.reverse_cons, List.map_append]
  rfl

end Go.Proofs.YthchkhgimnchcaaGreat
/- The walks of the document's answers for layer 5: what a move does, and the move that does so. -/
namespace Go.Proofs.YthchkhgimnchcaaGreat
open Go.RowKit

/-- what a move does: steps on, and quarters to the left -/
def pln (m : Int × Int) : Int × Int := if m.1 = 1 then (cnt m, 0) else if m.1 = 2 then (-cnt m, 0) else if m.1 = 3 then (0, cnt m % 4) else if m.1 = 4 then (0, 3 * cnt m % 4) else (0, 0)

/-- the move that does so -/
def one1 (s q : Int) : List (Int × Int) := if 0 < s then [(1, s)] else if s < 0 then [(2, -s)] else if q = 3 then [(4, 1)] else if 0 < q then [(3, q)] else []
theorem own_lit (w : World) (e : TypeId) (x y : Int) : PairsAt (w.alloc (.cells #[.int .i64 x, .int .i64 y] e)) (.slice (some ⟨w.heap.size, 0, none⟩) 1 1) [(x, y)] := by
  have o : OwnP (w.alloc (.cells #[.int .i64 x, .int .i64 y] e)) w.heap.size e (.slice (some ⟨w.heap.size, 0, none⟩) 1 1) [(x, y)] :=
    ⟨rfl, .inr ⟨w.heap.size, 1, #[.int .i64 x, .int .i64 y], rfl, Nat.le_refl _, heap_alloc_new w _, Nat.le_refl _, by decide, rfl, rfl⟩⟩
  exact o.pairs

end Go.Proofs.YthchkhgimnchcaaGreat
