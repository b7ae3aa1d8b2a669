/- Stage 12's program: the lowest bit, counting in eight bytes, reading a text by looking for each sign: plain mathematics. -/
import Derived.Test.YtlgemfgikdaelaaSkillMath
import Derived.Lib.TrailingZeros
namespace Go.Proofs.Ytlgemfgikdaelaa

/-! ### Numbers of a set -/
theorem ofS_testBit (P : Nat → Bool) (j : Nat) : ∀ k, (ofS P k).testBit j = (decide (j < k) && P j)
  | 0 => by simp [ofS]
  | k + 1 => by
    have ih := ofS_testBit P j k
    have hlt := ofS_lt P k
    unfold ofS
    by_cases hp : P k = true
    · rw [if_pos hp, Nat.add_comm, show 2 ^ k + ofS P k = 2 ^ k * 1 + ofS P k by omega, Nat.testBit_two_pow_mul_add 1 hlt]
      by_cases hj : j < k
      · rw [if_pos hj, ih, decide_eq_true hj, decide_eq_true (show j < k + 1 by omega)]
      · rw [if_neg hj]
        by_cases he : j = k
        · subst he
          rw [Nat.sub_self, decide_eq_true (show j < j + 1 by omega), hp]
          rfl
        · rw [decide_eq_false (show ¬ j < k + 1 by omega), Bool.false_and]
          obtain ⟨d, rfl⟩ : ∃ d, j = k + (d + 1) := ⟨j - k - 1, by omega⟩
          rw [show k + (d + 1) - k = d + 1 by omega, Nat.testBit_succ]
          simp
    · rw [if_neg hp, Nat.add_zero, ih]
      by_cases he : j = k
      · subst he
        simp at hp
        simp [hp]
      · by_cases hj : j < k
        · rw [decide_eq_true hj, decide_eq_true (show j < k + 1 by omega)]
        · rw [decide_eq_false hj, decide_eq_false (show ¬ j < k + 1 by omega)]
theorem ofS_or {P Q : Nat → Bool} {n : Nat} (hn : n < 64) (h : ∀ j, j < 64 → Q j = (P j || decide (j = n))) : ofS Q 64 = ofS P 64 ||| 2 ^ n := by
  apply Nat.eq_of_testBit_eq
  intro j
  rw [Nat.testBit_or, ofS_testBit, ofS_testBit, Nat.testBit_two_pow]
  by_cases hj : j < 64
  · rw [decide_eq_true hj, h j hj, Bool.true_and, Bool.true_and]
    by_cases e : j = n
    · subst e; simp
    · rw [decide_eq_false e, decide_eq_false (fun h => e h.symm)]
  · rw [decide_eq_false hj, decide_eq_false (show ¬ n = j by omega)]
    rfl
theorem ofS_none (k : Nat) : ofS (fun _ => false) k = 0 := by
  induction k with
  | zero => rfl
  | succ k ih => unfold ofS; rw [ih]; rfl
theorem lsS_ofS (P : Nat → Bool) : lsS (ofS P 64) 64 = (List.range 64).filter P := by
  unfold lsS
  refine List.filter_congr fun n hn => ?_
  rw [ofS_testBit, decide_eq_true (List.mem_range.1 hn), Bool.true_and]
theorem lsS_zero (k : Nat) : lsS 0 k = [] := by
  unfold lsS
  simp

/-! ### The lowest bit -/
theorem low_and (t m : Nat) : (2 ^ t * (2 * m + 1)) &&& (2 ^ t * (2 * m + 1) - 1) = 2 ^ (t + 1) * m := by
  have hp : 0 < 2 ^ t := Nat.two_pow_pos t
  have e1 : 2 ^ t * (2 * m + 1) = 2 ^ (t + 1) * m + 2 ^ t := by rw [Nat.pow_succ]; grind
  have e2 : 2 ^ t * (2 * m + 1) - 1 = 2 ^ (t + 1) * m + (2 ^ t - 1) := by omega
  have h1 : 2 ^ t < 2 ^ (t + 1) := by rw [Nat.pow_succ]; omega
  have h2 : 2 ^ t - 1 < 2 ^ (t + 1) := by omega
  rw [e2, e1]
  apply Nat.eq_of_testBit_eq
  intro j
  rw [Nat.testBit_and, Nat.testBit_two_pow_mul_add _ h1, Nat.testBit_two_pow_mul_add _ h2, Nat.testBit_two_pow_mul]
  by_cases hj : j < t + 1
  · rw [if_pos hj, if_pos hj, decide_eq_false (show ¬ j ≥ t + 1 by omega), Bool.false_and, Nat.testBit_two_pow, Nat.testBit_two_pow_sub_one]
    by_cases e : t = j
    · rw [decide_eq_true e, decide_eq_false (show ¬ j < t by omega)]; rfl
    · rw [decide_eq_false e]; rfl
  · rw [if_neg hj, if_neg hj, Bool.and_self, decide_eq_true (show j ≥ t + 1 by omega), Bool.true_and]
theorem low_bits (t m j : Nat) : (2 ^ t * (2 * m + 1)).testBit j = (decide (j = t) || (2 ^ (t + 1) * m).testBit j) := by
  have e1 : 2 ^ t * (2 * m + 1) = 2 ^ (t + 1) * m + 2 ^ t := by rw [Nat.pow_succ]; grind
  have h1 : 2 ^ t < 2 ^ (t + 1) := by have := Nat.two_pow_pos t; rw [Nat.pow_succ]; omega
  rw [e1, Nat.testBit_two_pow_mul_add _ h1, Nat.testBit_two_pow_mul]
  by_cases hj : j < t + 1
  · rw [if_pos hj, decide_eq_false (show ¬ j ≥ t + 1 by omega), Bool.false_and, Bool.or_false, Nat.testBit_two_pow]
    exact decide_eq_decide.2 eq_comm
  · rw [if_neg hj, decide_eq_true (show j ≥ t + 1 by omega), Bool.true_and, decide_eq_false (show ¬ j = t by omega), Bool.false_or]
theorem lsS_low (t m : Nat) : ∀ k, lsS (2 ^ t * (2 * m + 1)) k = if t < k then t :: lsS (2 ^ (t + 1) * m) k else lsS (2 ^ (t + 1) * m) k
  | 0 => by rw [if_neg (by omega)]; rfl
  | k + 1 => by
    have ih := lsS_low t m k
    rw [lsS_succ, lsS_succ, ih, low_bits]
    by_cases h : t < k
    · rw [if_pos h, if_pos (show t < k + 1 by omega), decide_eq_false (show ¬ k = t by omega), Bool.false_or]
      rfl
    · rw [if_neg h]
      by_cases e : k = t
      · subst e
        have hz : ∀ j, j < k + 1 → (2 ^ (k + 1) * m).testBit j = false := fun j hj => by
          rw [Nat.testBit_two_pow_mul, decide_eq_false (show ¬ j ≥ k + 1 by omega), Bool.false_and]
        have hn : lsS (2 ^ (k + 1) * m) k = [] := by
          unfold lsS
          rw [List.filter_eq_nil_iff]
          intro j hj
          rw [hz j (by have := List.mem_range.1 hj; omega)]
          simp
        rw [hn, decide_eq_true rfl, Bool.true_or, if_pos rfl, if_pos (show k < k + 1 by omega), hz k (by omega)]
        rfl
      · rw [if_neg (show ¬ t < k + 1 by omega), decide_eq_false e, Bool.false_or]
/-- one round of 'each' -/
theorem low_step (x : Nat) (h0 : x ≠ 0) (hx : x < 2 ^ 64) : Lib.ctz 64 x < 64 ∧ x &&& (x - 1) < x ∧ lsS x 64 = Lib.ctz 64 x :: lsS (x &&& (x - 1)) 64 := by
  have hc : Lib.ctz 64 x = Lib.ctzFrom 64 x := if_neg h0
  obtain ⟨m, hm, hk⟩ := Lib.ctzFrom_spec 64 x (by omega) hx
  rw [hc]
  generalize Lib.ctzFrom 64 x = t at *
  subst hm
  have hp : 0 < 2 ^ t := Nat.two_pow_pos t
  refine ⟨hk, ?_, ?_⟩
  · rw [low_and, Nat.pow_succ]
    have : 2 ^ t * (2 * m + 1) = 2 ^ t * 2 * m + 2 ^ t := by grind
    omega
  · rw [low_and, lsS_low t m 64, if_pos hk]

/-! ### Counting -/
theorem and_byte (q c m d : Nat) (hc : c < 256) (hd : d < 256) : (256 * q + c) &&& (256 * m + d) = 256 * (q &&& m) + (c &&& d) := by
  have hcd : c &&& d < 2 ^ 8 := Nat.and_lt_two_pow _ hd
  apply Nat.eq_of_testBit_eq
  intro j
  have e : (256 : Nat) = 2 ^ 8 := rfl
  rw [e, Nat.testBit_and, Nat.testBit_two_pow_mul_add _ hc, Nat.testBit_two_pow_mul_add _ hd, Nat.testBit_two_pow_mul_add _ hcd]
  by_cases hj : j < 8
  · rw [if_pos hj, if_pos hj, if_pos hj, Nat.testBit_and]
  · rw [if_neg hj, if_neg hj, if_neg hj, Nat.testBit_and]
/-- a byte, k times -/
def rep (d : Nat) : Nat → Nat
  | 0 => 0
  | k + 1 => 256 * rep d k + d
def t1 (c : Nat) : Nat := (c / 2 &&& 85) + (c &&& 85)
def t2 (c : Nat) : Nat := (c / 4 &&& 51) + (c &&& 51)
def t3 (c : Nat) : Nat := (c / 16 + c) &&& 15
def T1 (k x : Nat) : Nat := (x / 2 &&& rep 85 k) + (x &&& rep 85 k)
def T2 (k x : Nat) : Nat := (x / 4 &&& rep 51 k) + (x &&& rep 51 k)
def T3 (k x : Nat) : Nat := (x / 16 + x) &&& rep 15 k
theorem b1 : ∀ c, c < 256 → (128 + c / 2) &&& 85 = c / 2 &&& 85 := by decide +kernel
theorem b2 : ∀ r, r < 4 → ∀ c, c < 256 → (64 * r + c / 4) &&& 51 = c / 4 &&& 51 := by decide +kernel
theorem b3 : ∀ r, r < 5 → ∀ c, c < 120 → (16 * r + (c / 16 + c)) &&& 15 = (c / 16 + c) &&& 15 := by decide +kernel
theorem T1_step (k q c : Nat) (hc : c < 256) : T1 (k + 1) (256 * q + c) = 256 * T1 k q + t1 c := by
  have e1 : (256 * q + c) / 2 = 256 * (q / 2) + (128 * (q % 2) + c / 2) := by omega
  have hl : 128 * (q % 2) + c / 2 < 256 := by omega
  have e2 : (128 * (q % 2) + c / 2) &&& 85 = c / 2 &&& 85 := by
    rcases Nat.mod_two_eq_zero_or_one q with h | h
    · rw [h, Nat.mul_zero, Nat.zero_add]
    · rw [h, Nat.mul_one, b1 c hc]
  unfold T1 t1
  rw [show rep 85 (k + 1) = 256 * rep 85 k + 85 from rfl, e1, and_byte _ _ _ _ hl (by decide), and_byte _ _ _ _ hc (by decide), e2]
  omega
theorem T2_step (k q c : Nat) (hc : c < 256) : T2 (k + 1) (256 * q + c) = 256 * T2 k q + t2 c := by
  have e1 : (256 * q + c) / 4 = 256 * (q / 4) + (64 * (q % 4) + c / 4) := by omega
  have hl : 64 * (q % 4) + c / 4 < 256 := by omega
  have e2 := b2 (q % 4) (by omega) c hc
  unfold T2 t2
  rw [show rep 51 (k + 1) = 256 * rep 51 k + 51 from rfl, e1, and_byte _ _ _ _ hl (by decide), and_byte _ _ _ _ hc (by decide), e2]
  omega
theorem T3_step (k q c : Nat) (hq : q % 16 < 5) (hc : c < 120) : T3 (k + 1) (256 * q + c) = 256 * T3 k q + t3 c := by
  have e1 : (256 * q + c) / 16 + (256 * q + c) = 256 * (q / 16 + q) + (16 * (q % 16) + (c / 16 + c)) := by omega
  have hl : 16 * (q % 16) + (c / 16 + c) < 256 := by omega
  have e2 := b3 (q % 16) hq c hc
  unfold T3 t3
  rw [show rep 15 (k + 1) = 256 * rep 15 k + 15 from rfl, e1, and_byte _ _ _ _ hl (by decide), e2]
/-- how many bits a byte has -/
def pc (c : Nat) : Nat := t3 (t2 (t1 c))
theorem t1_lt : ∀ c, c < 256 → t1 c < 256 := by decide +kernel
theorem t2_lt : ∀ c, c < 256 → t2 (t1 c) < 120 ∧ t2 (t1 c) % 16 < 5 := by decide +kernel
theorem pc_is : ∀ c, c < 256 → pc c = (lsS c 8).length ∧ pc c ≤ 8 := by decide +kernel
def WW (k x : Nat) : Nat := T3 k (T2 k (T1 k x))
theorem T2_mod (k x : Nat) : T2 k (T1 k x) % 16 < 5 := by
  cases k with
  | zero => simp [T2, T1, rep]
  | succ k =>
    have e : x = 256 * (x / 256) + x % 256 := by omega
    have hc : x % 256 < 256 := by omega
    rw [e, T1_step _ _ _ hc, T2_step _ _ _ (t1_lt _ hc)]
    have := (t2_lt _ hc).2
    omega
theorem WW_step (k q c : Nat) (hc : c < 256) : WW (k + 1) (256 * q + c) = 256 * WW k q + pc c := by
  unfold WW pc
  rw [T1_step _ _ _ hc, T2_step _ _ _ (t1_lt _ hc), T3_step _ _ _ (T2_mod _ _) (t2_lt _ hc).1]
theorem cnt_step (q c k : Nat) (hc : c < 256) : (lsS (256 * q + c) (8 + k)).length = (lsS c 8).length + (lsS q k).length := by
  have hb : ∀ j, (256 * q + c).testBit j = if j < 8 then c.testBit j else q.testBit (j - 8) := fun j => Nat.testBit_two_pow_mul_add (i := 8) q hc j
  induction k with
  | zero =>
    rw [show lsS q 0 = [] from rfl, List.length_nil, Nat.add_zero]
    congr 1
    unfold lsS
    refine List.filter_congr fun j hj => ?_
    rw [hb, if_pos (List.mem_range.1 hj)]
  | succ k ih =>
    rw [← Nat.add_assoc, lsS_succ (256 * q + c) (8 + k), lsS_succ q k, List.length_append, List.length_append, ih, hb (8 + k), if_neg (show ¬ 8 + k < 8 by omega), show 8 + k - 8 = k by omega]
    cases q.testBit k <;> simp <;> omega
/-- the eight sums -/
theorem WW_bytes (x : Nat) : ∃ p0 p1 p2 p3 p4 p5 p6 p7 : Nat, p0 ≤ 8 ∧ p1 ≤ 8 ∧ p2 ≤ 8 ∧ p3 ≤ 8 ∧ p4 ≤ 8 ∧ p5 ≤ 8 ∧ p6 ≤ 8 ∧ p7 ≤ 8 ∧
    WW 8 x = 256 * (256 * (256 * (256 * (256 * (256 * (256 * p7 + p6) + p5) + p4) + p3) + p2) + p1) + p0 ∧ (lsS x 64).length = p0 + p1 + p2 + p3 + p4 + p5 + p6 + p7 := by
  have sp : ∀ k y, WW (k + 1) y = 256 * WW k (y / 256) + pc (y % 256) := fun k y => by
    have e : y = 256 * (y / 256) + y % 256 := by omega
    have := WW_step k (y / 256) (y % 256) (by omega)
    rwa [← e] at this
  have sc : ∀ k y, (lsS y (8 + k)).length = pc (y % 256) + (lsS (y / 256) k).length := fun k y => by
    have e : y = 256 * (y / 256) + y % 256 := by omega
    have := cnt_step (y / 256) (y % 256) k (by omega)
    rwa [← e, ← (pc_is (y % 256) (by omega)).1] at this
  have le : ∀ y, pc (y % 256) ≤ 8 := fun y => (pc_is (y % 256) (by omega)).2
  refine ⟨_, _, _, _, _, _, _, _, le x, le (x / 256), le (x / 256 / 256), le (x / 256 / 256 / 256), le (x / 256 / 256 / 256 / 256), le (x / 256 / 256 / 256 / 256 / 256), le (x / 256 / 256 / 256 / 256 / 256 / 256), le (x / 256 / 256 / 256 / 256 / 256 / 256 / 256), ?_, ?_⟩
  · rw [sp, sp, sp, sp, sp, sp, sp, sp]
    rw [show WW 0 (x / 256 / 256 / 256 / 256 / 256 / 256 / 256 / 256) = 0 by simp [WW, T3, rep], Nat.mul_zero, Nat.zero_add]
  · have a1 := sc 56 x
    have a2 := sc 48 (x / 256)
    have a3 := sc 40 (x / 256 / 256)
    have a4 := sc 32 (x / 256 / 256 / 256)
    have a5 := sc 24 (x / 256 / 256 / 256 / 256)
    have a6 := sc 16 (x / 256 / 256 / 256 / 256 / 256)
    have a7 := sc 8 (x / 256 / 256 / 256 / 256 / 256 / 256)
    have a8 := sc 0 (x / 256 / 256 / 256 / 256 / 256 / 256 / 256)
    rw [show lsS (x / 256 / 256 / 256 / 256 / 256 / 256 / 256 / 256) 0 = [] from rfl, List.length_nil] at a8
    simp only [Nat.reduceAdd] at a1 a2 a3 a4 a5 a6 a7 a8
    rw [a1, a2, a3, a4, a5, a6, a7, a8]
    omega
theorem dv8 {v w r : Nat} (h : v = 256 * w + r) (hr : r < 256) : v / 256 = w := by omega
theorem ad8 {z w p z' w' q : Nat} (h : z = 256 * w + p) (h' : z' = 256 * w' + q) : z + z' = 256 * (w + w') + (p + q) := by omega
theorem bd8 {z w p : Nat} (B : Nat) (h : z = 256 * w + p) (hp : p ≤ 8) (hw : w ≤ B) : z ≤ 256 * B + 8 := by omega
theorem md8 {x w p : Nat} (h : x = 256 * w + p) (hp : p < 128) : x % 128 = p := by omega
theorem bds8 {y z1 z2 z3 z4 z5 z6 z7 : Nat} (b0 : y ≤ 578721382704613384) (b1 : z1 ≤ 2260630401189896) (b2 : z2 ≤ 8830587504648) (b3 : z3 ≤ 34494482440) (b4 : z4 ≤ 134744072) (b5 : z5 ≤ 526344) (b6 : z6 ≤ 2056) (b7 : z7 ≤ 8) :
    y < 9000000000000000000 ∧ y + z1 < 9000000000000000000 ∧ y + z1 + (z2 + z3) < 9000000000000000000 ∧ y + z1 + (z2 + z3) + (z4 + z5 + (z6 + z7)) < 9000000000000000000 := by
  refine ⟨by omega, by omega, by omega, by omega⟩
theorem s2_8 {a b : Nat} (h1 : a ≤ 8) (h2 : b ≤ 8) : a + b < 256 := by omega
theorem s4_8 {a b c d : Nat} (h1 : a ≤ 8) (h2 : b ≤ 8) (h3 : c ≤ 8) (h4 : d ≤ 8) : a + b + (c + d) < 256 := by omega
theorem s8_8 {a b c d e f g i : Nat} (h1 : a ≤ 8) (h2 : b ≤ 8) (h3 : c ≤ 8) (h4 : d ≤ 8) (h5 : e ≤ 8) (h6 : f ≤ 8) (h7 : g ≤ 8) (h8 : i ≤ 8) : a + b + (c + d) + (e + f + (g + i)) < 128 := by omega
/-- the last sums -/
theorem sum8 (p0 p1 p2 p3 p4 p5 p6 p7 y : Nat) (h0 : p0 ≤ 8) (h1 : p1 ≤ 8) (h2 : p2 ≤ 8) (h3 : p3 ≤ 8) (h4 : p4 ≤ 8) (h5 : p5 ≤ 8) (h6 : p6 ≤ 8) (h7 : p7 ≤ 8)
    (hy : y = 256 * (256 * (256 * (256 * (256 * (256 * (256 * p7 + p6) + p5) + p4) + p3) + p2) + p1) + p0) :
    ∃ y1 y2 y3, y1 = y + y / 256 ∧ y2 = y1 + y1 / 65536 ∧ y3 = y2 + y2 / 4294967296 ∧ y < 9000000000000000000 ∧ y1 < 9000000000000000000 ∧ y2 < 9000000000000000000 ∧ y3 < 9000000000000000000 ∧ y3 % 128 = p0 + p1 + p2 + p3 + p4 + p5 + p6 + p7 := by
  obtain ⟨z7, e7⟩ : ∃ z, z = p7 := ⟨_, rfl⟩
  obtain ⟨z6, e6⟩ : ∃ z, z = 256 * z7 + p6 := ⟨_, rfl⟩
  obtain ⟨z5, e5⟩ : ∃ z, z = 256 * z6 + p5 := ⟨_, rfl⟩
  obtain ⟨z4, e4⟩ : ∃ z, z = 256 * z5 + p4 := ⟨_, rfl⟩
  obtain ⟨z3, e3⟩ : ∃ z, z = 256 * z4 + p3 := ⟨_, rfl⟩
  obtain ⟨z2, e2⟩ : ∃ z, z = 256 * z3 + p2 := ⟨_, rfl⟩
  obtain ⟨z1, e1⟩ : ∃ z, z = 256 * z2 + p1 := ⟨_, rfl⟩
  rw [← e7, ← e6, ← e5, ← e4, ← e3, ← e2, ← e1] at hy
  have e7' : z7 = 256 * 0 + p7 := by rw [e7, Nat.mul_zero, Nat.zero_add]
  have b7 : z7 ≤ 8 := by rw [e7]; exact h7
  have b6 := bd8 _ e6 h6 b7
  have b5 := bd8 _ e5 h5 b6
  have b4 := bd8 _ e4 h4 b5
  have b3 := bd8 _ e3 h3 b4
  have b2 := bd8 _ e2 h2 b3
  have b1 := bd8 _ e1 h1 b2
  have b0 := bd8 _ hy h0 b1
  obtain ⟨l0, l1, l2, l3⟩ := bds8 b0 b1 b2 b3 b4 b5 b6 b7
  clear b0 b1 b2 b3 b4 b5 b6 b7
  have c0 := ad8 hy e1
  have c1 := ad8 e1 e2
  have c2 := ad8 e2 e3
  have c3 := ad8 e3 e4
  have c4 := ad8 e4 e5
  have c5 := ad8 e5 e6
  have c6 := ad8 e6 e7'
  have g0 := ad8 c0 c2
  have g1 := ad8 c1 c3
  have g2 := ad8 c2 c4
  have g3 := ad8 c3 c5
  have g4 := ad8 c4 c6
  have x0 := ad8 g0 g4
  have q1 : y / 256 = z1 := dv8 hy (Nat.lt_of_le_of_lt h0 (by decide))
  have s0 : p0 + p1 < 256 := s2_8 h0 h1
  have s1 : p1 + p2 < 256 := s2_8 h1 h2
  have s2 : p0 + p1 + (p2 + p3) < 256 := s4_8 h0 h1 h2 h3
  have s3 : p1 + p2 + (p3 + p4) < 256 := s4_8 h1 h2 h3 h4
  have s4 : p2 + p3 + (p4 + p5) < 256 := s4_8 h2 h3 h4 h5
  have s5 : p3 + p4 + (p5 + p6) < 256 := s4_8 h3 h4 h5 h6
  have s6 : p0 + p1 + (p2 + p3) + (p4 + p5 + (p6 + p7)) < 128 := s8_8 h0 h1 h2 h3 h4 h5 h6 h7
  have q2 : (y + z1) / 65536 = z2 + z3 := by
    rw [show (65536 : Nat) = 256 * 256 from rfl, ← Nat.div_div_eq_div_mul, dv8 c0 s0, dv8 c1 s1]
  have q3 : (y + z1 + (z2 + z3)) / 4294967296 = z4 + z5 + (z6 + z7) := by
    rw [show (4294967296 : Nat) = 256 * 256 * 256 * 256 from rfl, ← Nat.div_div_eq_div_mul, ← Nat.div_div_eq_div_mul, ← Nat.div_div_eq_div_mul, dv8 g0 s2, dv8 g1 s3, dv8 g2 s4, dv8 g3 s5]
  refine ⟨y + z1, y + z1 + (z2 + z3), y + z1 + (z2 + z3) + (z4 + z5 + (z6 + z7)), by rw [q1], by rw [q2], by rw [q3], l0, l1, l2, l3, ?_⟩
  rw [md8 x0 s6]
  simp only [Nat.add_assoc]
theorem count_all (x : Nat) : ∃ y y1 y2 y3, WW 8 x = y ∧ y1 = y + y / 256 ∧ y2 = y1 + y1 / 65536 ∧ y3 = y2 + y2 / 4294967296 ∧ y < 9000000000000000000 ∧ y1 < 9000000000000000000 ∧ y2 < 9000000000000000000 ∧ y3 < 9000000000000000000 ∧ y3 % 128 = (lsS x 64).length := by
  obtain ⟨p0, p1, p2, p3, p4, p5, p6, p7, h0, h1, h2, h3, h4, h5, h6, h7, hw, hl⟩ := WW_bytes x
  obtain ⟨y1, y2, y3, e1, e2, e3, l0, l1, l2, l3, hm⟩ := sum8 p0 p1 p2 p3 p4 p5 p6 p7 _ h0 h1 h2 h3 h4 h5 h6 h7 hw
  exact ⟨_, y1, y2, y3, rfl, e1, e2, e3, l0, l1, l2, l3, by rw [hm, hl]⟩

/-! ### Has -/
theorem hasK_andNot (a b : Nat) (ha : a < 2 ^ 64) : hasK a b 64 = decide (b &&& (18446744073709551615 - a) = 0) := by
  have e : 18446744073709551615 - a = 2 ^ 64 - (a + 1) := by omega
  rw [e]
  have hbit : ∀ j, (b &&& (2 ^ 64 - (a + 1))).testBit j = (b.testBit j && (decide (j < 64) && !a.testBit j)) := fun j => by
    rw [Nat.testBit_and, Nat.testBit_two_pow_sub_succ ha]
  by_cases h : b &&& (2 ^ 64 - (a + 1)) = 0
  · rw [decide_eq_true h]
    refine (hasK_iff a b 64).2 fun n hn hbn => ?_
    have := hbit n
    rw [h, Nat.zero_testBit, hbn, decide_eq_true hn] at this
    simpa using this
  · rw [decide_eq_false h]
    cases hk : hasK a b 64 with
    | false => rfl
    | true =>
      refine absurd (Nat.eq_of_testBit_eq fun j => ?_) h
      rw [hbit, Nat.zero_testBit]
      by_cases hj : j < 64
      · cases hbj : b.testBit j with
        | false => rfl
        | true => rw [(hasK_iff a b 64).1 hk j hj hbj]; simp
      · rw [decide_eq_false hj]; simp

/-! ### Reading by looking for each sign -/
/-- the set whose signs stand in a text -/
def inS (s : List UInt8) : Nat := ofS (fun n => decide (sg n ∈ s)) 64
theorem inS_lt (s : List UInt8) : inS s < 2 ^ 64 := ofS_lt _ 64
theorem parK_at (s : List UInt8) : ∀ k, ∀ i (h : i < (parK s k).length), s[i]? = some (sg ((parK s k)[i]))
  | 0, i, h => by simp [parK] at h
  | k + 1, i, h => by
    have ih := parK_at s k
    by_cases hc : s[(parK s k).length]? = some (sg k)
    · have e : parK s (k + 1) = parK s k ++ [k] := by conv => lhs; unfold parK; rw [if_pos hc]
      simp only [e] at h ⊢
      rw [List.length_append] at h
      by_cases hi : i < (parK s k).length
      · rw [List.getElem_append_left hi]
        exact ih i hi
      · have : i = (parK s k).length := by simp at h; omega
        subst this
        rw [hc]
        simp
    · have e : parK s (k + 1) = parK s k := by conv => lhs; unfold parK; rw [if_neg hc]
      simp only [e] at h ⊢
      exact ih i h
theorem parK_map (s : List UInt8) (h : (parK s 64).length = s.length) : s = (parK s 64).map sg := by
  apply List.ext_getElem?
  intro i
  by_cases hi : i < (parK s 64).length
  · rw [parK_at s 64 i hi, List.getElem?_map, List.getElem?_eq_getElem hi]
    rfl
  · rw [List.getElem?_eq_none (by omega), List.getElem?_eq_none (by rw [List.length_map]; omega)]
theorem parK_pre (s : List UInt8) (k : Nat) : ∀ j, ∀ n, n < k → (n ∈ parK s (k + j) ↔ n ∈ parK s k)
  | 0, n, _ => Iff.rfl
  | j + 1, n, hn => by
    rw [← parK_pre s k j n hn, ← Nat.add_assoc]
    conv => lhs; unfold parK
    split
    · rw [List.mem_append]
      simp
      omega
    · rfl
theorem lsS_parK (s : List UInt8) (w : Nat) (hw : ∀ n, n < 64 → (w.testBit n = true ↔ n ∈ parK s 64)) : ∀ k, k ≤ 64 → lsS w k = parK s k
  | 0, _ => by simp [lsS, parK]
  | k + 1, hk => by
    have ih := lsS_parK s w hw k (by omega)
    have h1 := hw k (by omega)
    have h2 := parK_pre s (k + 1) (64 - (k + 1)) k (by omega)
    rw [show k + 1 + (64 - (k + 1)) = 64 by omega] at h2
    rw [lsS_succ, ih]
    by_cases hc : s[(parK s k).length]? = some (sg k)
    · have e : parK s (k + 1) = parK s k ++ [k] := by conv => lhs; unfold parK; rw [if_pos hc]
      rw [e] at h2 ⊢
      rw [if_pos (h1.2 (h2.2 (by simp)))]
    · have e : parK s (k + 1) = parK s k := by conv => lhs; unfold parK; rw [if_neg hc]
      rw [e] at h2 ⊢
      rw [if_neg, List.append_nil]
      intro hb
      have := parK_mem s k k (h2.1 (h1.1 hb))
      omega
theorem par_one : ∀ n, n < 64 → (sg n ∈ ([45] : List UInt8)) = False := fun n hn => by
  have := sg_no n hn
  simp [this]
/-- the answer, told by the text of the set -/
theorem parS_is (s : List UInt8) : parS s = if 64 < s.length then (0, false) else if txtS (inS s) = s then (inS s, true) else (0, false) := by
  by_cases hl : 64 < s.length
  · rw [if_pos hl]
    have := parK_len s 64
    unfold parS
    rw [if_neg (fun h => by rw [h] at hl; simp at hl), if_pos (Or.inl (by omega))]
  · rw [if_neg hl]
    by_cases ht : txtS (inS s) = s
    · rw [if_pos ht]
      have := par_txt (inS s) (inS_lt s)
      rwa [ht] at this
    · rw [if_neg ht]
      unfold parS
      by_cases h45 : s = [45]
      · refine absurd ?_ ht
        have e : inS s = 0 := by
          unfold inS
          rw [ofS_congr (Q := fun _ => false) 64 (fun n hn => by subst h45; rw [decide_eq_false]; rw [par_one n hn]; exact id), ofS_none]
        rw [e, h45]
        decide +kernel
      · rw [if_neg h45]
        by_cases hc : (parK s 64).length < s.length ∨ s = []
        · rw [if_pos hc]
        · refine absurd ?_ ht
          have hlen : (parK s 64).length = s.length := by
            have := parK_fits s 64
            have : ¬ (parK s 64).length < s.length := fun h => hc (Or.inl h)
            omega
          have hmap := parK_map s hlen
          have hin : ∀ n, n < 64 → ((inS s).testBit n = true ↔ n ∈ parK s 64) := fun n hn => by
            unfold inS
            rw [ofS_testBit, decide_eq_true hn, Bool.true_and, decide_eq_true_iff]
            constructor
            · intro h
              rw [hmap] at h
              obtain ⟨m, hm, e⟩ := List.mem_map.1 h
              have h64 := parK_mem s 64 m hm
              rw [← sg_inj m h64 n hn e]
              exact hm
            · intro h
              rw [hmap]
              exact List.mem_map.2 ⟨n, h, rfl⟩
          have hls := lsS_parK s (inS s) hin 64 (Nat.le_refl _)
          unfold txtS txtK
          rw [hls, ← hmap, if_neg (fun h => hc (Or.inr h))]
theorem txtS_nz (w : Nat) (hw : w < 2 ^ 64) (h : w ≠ 0) : txtS w = (lsS w 64).map sg := by
  have : txtK w 64 ≠ [] := fun h0 => by
    have hl : lsS w 64 = [] := by simpa [txtK] using h0
    have e := ofS_list w hw
    rw [hl] at e
    have e2 : ofS (fun n => decide (n ∈ ([] : List Nat))) 64 = 0 := by decide +kernel
    omega
  unfold txtS
  rw [if_neg this]
  rfl
end Go.Proofs.Ytlgemfgikdaelaa
