/- Texts of this proof, joined: SkillMathB; PlanD; PlanE; PlanF; PlanG; PlanH; TkD; BtA. -/
import Derived.Test.YthchkhgimnchcaaGreatBun14
import Derived.Lib.TrailingZeros
import Derived.Laws.BitsAllLaws
import Derived.Shelf.Abstract
/- Stage 12's program: the lowest bit, counting in eight bytes, reading a text by looking for each sign: plain mathematics. -/
namespace Go.Proofs.YthchkhgimnchcaaGreat

/-! ### Numbers of a set -/
theorem ofS_testBit (P : Nat → Bool) (j : Nat) : ∀ k, (ofS P k).testBit j = (decide (j < k) && P j)
  | 0 => by simp [ofS]
  | k + 1 => by
    have ih := ofS_testBit P j k
    have hlt := ofS_lt P k
    unfold ofS
    by_cases hp : P k = true
    · rw [if_pos hp, Nat.add_comm, show 2 ^ k + ofS P k = 2 ^ k * 1 + ofS P k by omega, Nat.testBit_two_pow_mul_add 1 hlt]
      by_cases hj : j < k
      · rw [if_pos hj, ih, decide_eq_true hj, decide_eq_true (show j < k + 1 by omega)]
      · rw [if_neg hj]
        by_cases he : j = k
        · subst he
          rw [Nat.sub_self, decide_eq_true (show j < j + 1 by omega), hp]
          rfl
        · rw [decide_eq_false (show ¬ j < k + 1 by omega), Bool.false_and]
          obtain ⟨d, rfl⟩ : ∃ d, j = k + (d + 1) := ⟨j - k - 1, by omega⟩
          rw [show k + (d + 1) - k = d + 1 by omega, Nat.testBit_succ]
          simp
    · rw [if_neg hp, Nat.add_zero, ih]
      by_cases he : j = k
      · subst he
        simp at hp
        simp [hp]
      · by_cases hj : j < k
        · rw [decide_eq_true hj, decide_eq_true (show j < k + 1 by omega)]
        · rw [decide_eq_false hj, decide_eq_false (show ¬ j < k + 1 by omega)]
theorem ofS_or {P Q : Nat → Bool} {n : Nat} (hn : n < 64) (h : ∀ j, j < 64 → Q j = (P j || decide (j = n))) : ofS Q 64 = ofS P 64 ||| 2 ^ n := by
  apply Nat.eq_of_testBit_eq
  intro j
  rw [Nat.testBit_or, ofS_testBit, ofS_testBit, Nat.testBit_two_pow]
  by_cases hj : j < 64
  · rw [decide_eq_true hj, h j hj, Bool.true_and, Bool.true_and]
    by_cases e : j = n
    · subst e; simp
    · rw [decide_eq_false e, decide_eq_false (fun h => e h.symm)]
  · rw [decide_eq_false hj, decide_eq_false (show ¬ n = j by omega)]
    rfl
theorem ofS_none (k : Nat) : ofS (fun _ => false) k = 0 := by
  induction k with
  | zero => rfl
  | succ k ih => unfold ofS; rw [ih]; rfl
theorem lsS_ofS (P : Nat → Bool) : lsS (ofS P 64) 64 = (List.range 64).filter P := by
  unfold lsS
  refine List.filter_congr fun n hn => ?_
  rw [ofS_testBit, decide_eq_true (List.mem_range.1 hn), Bool.true_and]
theorem lsS_zero (k : Nat) : lsS 0 k = [] := by
  unfold lsS
  simp

/-! ### The lowest bit -/
theorem low_and (t m : Nat) : (2 ^ t * (2 * m + 1)) &&& (2 ^ t * (2 * m + 1) - 1) = 2 ^ (t + 1) * m := by
  have hp : 0 < 2 ^ t := Nat.two_pow_pos t
  have e1 : 2 ^ t * (2 * m + 1) = 2 ^ (t + 1) * m + 2 ^ t := by rw [Nat.pow_succ]; grind
  have e2 : 2 ^ t * (2 * m + 1) - 1 = 2 ^ (t + 1) * m + (2 ^ t - 1) := by omega
  have h1 : 2 ^ t < 2 ^ (t + 1) := by rw [Nat.pow_succ]; omega
  have h2 : 2 ^ t - 1 < 2 ^ (t + 1) := by omega
  rw [e2, e1]
  apply Nat.eq_of_testBit_eq
  intro j
  rw [Nat.testBit_and, Nat.testBit_two_pow_mul_add _ h1, Nat.testBit_two_pow_mul_add _ h2, Nat.testBit_two_pow_mul]
  by_cases hj : j < t + 1
  · rw [if_pos hj, if_pos hj, decide_eq_false (show ¬ j ≥ t + 1 by omega), Bool.false_and, Nat.testBit_two_pow, Nat.testBit_two_pow_sub_one]
    by_cases e : t = j
    · rw [decide_eq_true e, decide_eq_false (show ¬ j < t by omega)]; rfl
    · rw [decide_eq_false e]; rfl
  · rw [if_neg hj, if_neg hj, Bool.and_self, decide_eq_true (show j ≥ t + 1 by omega), Bool.true_and]
theorem low_bits (t m j : Nat) : (2 ^ t * (2 * m + 1)).testBit j = (decide (j = t) || (2 ^ (t + 1) * m).testBit j) := by
  have e1 : 2 ^ t * (2 * m + 1) = 2 ^ (t + 1) * m + 2 ^ t := by rw [Nat.pow_succ]; grind
  have h1 : 2 ^ t < 2 ^ (t + 1) := by have := Nat.two_pow_pos t; rw [Nat.pow_succ]; omega
  rw [e1, Nat.testBit_two_pow_mul_add _ h1, Nat.testBit_two_pow_mul]
  by_cases hj : j < t + 1
  · rw [if_pos hj, decide_eq_false (show ¬ j ≥ t + 1 by omega), Bool.false_and, Bool.or_false, Nat.testBit_two_pow]
    exact decide_eq_decide.2 eq_comm
  · rw [if_neg hj, decide_eq_true (show j ≥ t + 1 by omega), Bool.true_and, decide_eq_false (show ¬ j = t by omega), Bool.false_or]
theorem lsS_low (t m : Nat) : ∀ k, lsS (2 ^ t * (2 * m + 1)) k = if t < k then t :: lsS (2 ^ (t + 1) * m) k else lsS (2 ^ (t + 1) * m) k
  | 0 => by rw [if_neg (by omega)]; rfl
  | k + 1 => by
    have ih := lsS_low t m k
    rw [lsS_succ, lsS_succ, ih, low_bits]
    by_cases h : t < k
    · rw [if_pos h, if_pos (show t < k + 1 by omega), decide_eq_false (show ¬ k = t by omega), Bool.false_or]
      rfl
    · rw [if_neg h]
      by_cases e : k = t
      · subst e
        have hz : ∀ j, j < k + 1 → (2 ^ (k + 1) * m).testBit j = false := fun j hj => by
          rw [Nat.testBit_two_pow_mul, decide_eq_false (show ¬ j ≥ k + 1 by omega), Bool.false_and]
        have hn : lsS (2 ^ (k + 1) * m) k = [] := by
          unfold lsS
          rw [List.filter_eq_nil_iff]
          intro j hj
          rw [hz j (by have := List.mem_range.1 hj; omega)]
          simp
        rw [hn, decide_eq_true rfl, Bool.true_or, if_pos rfl, if_pos (show k < k + 1 by omega), hz k (by omega)]
        rfl
      · rw [if_neg (show ¬ t < k + 1 by omega), decide_eq_false e, Bool.false_or]
/-- one round of 'each' -/
theorem low_step (x : Nat) (h0 : x ≠ 0) (hx : x < 2 ^ 64) : Lib.ctz 64 x < 64 ∧ x &&& (x - 1) < x ∧ lsS x 64 = Lib.ctz 64 x :: lsS (x &&& (x - 1)) 64 := by
  have hc : Lib.ctz 64 x = Lib.ctzFrom 64 x := if_neg h0
  obtain ⟨m, hm, hk⟩ := Lib.ctzFrom_spec 64 x (by omega) hx
  rw [hc]
  generalize Lib.ctzFrom 64 x = t at *
  subst hm
  have hp : 0 < 2 ^ t := Nat.two_pow_pos t
  refine ⟨hk, ?_, ?_⟩
  · rw [low_and, Nat.pow_succ]
    have : 2 ^ t * (2 * m + 1) = 2 ^ t * 2 * m + 2 ^ t := by grind
    omega
  · rw [low_and, lsS_low t m 64, if_pos hk]

/-! ### Counting -/
theorem and_byte (q c m d : Nat) (hc : c < 256) (hd : d < 256) : (256 * q + c) &&& (256 * m + d) = 256 * (q &&& m) + (c &&& d) := by
  have hcd : c &&& d < 2 ^ 8 := Nat.and_lt_two_pow _ hd
  apply Nat.eq_of_testBit_eq
  intro j
  have e : (256 : Nat) = 2 ^ 8 := rfl
  rw [e, Nat.testBit_and, Nat.testBit_two_pow_mul_add _ hc, Nat.testBit_two_pow_mul_add _ hd, Nat.testBit_two_pow_mul_add _ hcd]
  by_cases hj : j < 8
  · rw [if_pos hj, if_pos hj, if_pos hj, Nat.testBit_and]
  · rw [if_neg hj, if_neg hj, if_neg hj, Nat.testBit_and]
/-- a byte, k times -/
def rep (d : Nat) : Nat → Nat
  | 0 => 0
  | k + 1 => 256 * rep d k + d
def t1 (c : Nat) : Nat := (c / 2 &&& 85) + (c &&& 85)
def t2 (c : Nat) : Nat := (c / 4 &&& 51) + (c &&& 51)
def t3 (c : Nat) : Nat := (c / 16 + c) &&& 15
def T1 (k x : Nat) : Nat := (x / 2 &&& rep 85 k) + (x &&& rep 85 k)
def T2 (k x : Nat) : Nat := (x / 4 &&& rep 51 k) + (x &&& rep 51 k)
def T3 (k x : Nat) : Nat := (x / 16 + x) &&& rep 15 k
theorem b1 : ∀ c, c < 256 → (128 + c / 2) &&& 85 = c / 2 &&& 85 := by decide +kernel
theorem b2 : ∀ r, r < 4 → ∀ c, c < 256 → (64 * r + c / 4) &&& 51 = c / 4 &&& 51 := by decide +kernel
theorem b3 : ∀ r, r < 5 → ∀ c, c < 120 → (16 * r + (c / 16 + c)) &&& 15 = (c / 16 + c) &&& 15 := by decide +kernel
theorem T1_step (k q c : Nat) (hc : c < 256) : T1 (k + 1) (256 * q + c) = 256 * T1 k q + t1 c := by
  have e1 : (256 * q + c) / 2 = 256 * (q / 2) + (128 * (q % 2) + c / 2) := by omega
  have hl : 128 * (q % 2) + c / 2 < 256 := by omega
  have e2 : (128 * (q % 2) + c / 2) &&& 85 = c / 2 &&& 85 := by
    rcases Nat.mod_two_eq_zero_or_one q with h | h
    · rw [h, Nat.mul_zero, Nat.zero_add]
    · rw [h, Nat.mul_one, b1 c hc]
  unfold T1 t1
  rw [show rep 85 (k + 1) = 256 * rep 85 k + 85 from rfl, e1, and_byte _ _ _ _ hl (by decide), and_byte _ _ _ _ hc (by decide), e2]
  omega
theorem T2_step (k q c : Nat) (hc : c < 256) : T2 (k + 1) (256 * q + c) = 256 * T2 k q + t2 c := by
  have e1 : (256 * q + c) / 4 = 256 * (q / 4) + (64 * (q % 4) + c / 4) := by omega
  have hl : 64 * (q % 4) + c / 4 < 256 := by omega
  have e2 := b2 (q % 4) (by omega) c hc
  unfold T2 t2
  rw [show rep 51 (k + 1) = 256 * rep 51 k + 51 from rfl, e1, and_byte _ _ _ _ hl (by decide), and_byte _ _ _ _ hc (by decide), e2]
  omega
theorem T3_step (k q c : Nat) (hq : q % 16 < 5) (hc : c < 120) : T3 (k + 1) (256 * q + c) = 256 * T3 k q + t3 c := by
  have e1 : (256 * q + c) / 16 + (256 * q + c) = 256 * (q / 16 + q) + (16 * (q % 16) + (c / 16 + c)) := by omega
  have hl : 16 * (q % 16) + (c / 16 + c) < 256 := by omega
  have e2 := b3 (q % 16) hq c hc
  unfold T3 t3
  rw [show rep 15 (k + 1) = 256 * rep 15 k + 15 from rfl, e1, and_byte _ _ _ _ hl (by decide), e2]
/-- how many bits a byte has -/
def pc (c : Nat) : Nat := t3 (t2 (t1 c))
theorem t1_lt : ∀ c, c < 256 → t1 c < 256 := by decide +kernel
theorem t2_lt : ∀ c, c < 256 → t2 (t1 c) < 120 ∧ t2 (t1 c) % 16 < 5 := by decide +kernel
theorem pc_is : ∀ c, c < 256 → pc c = (lsS c 8).length ∧ pc c ≤ 8 := by decide +kernel
def WW (k x : Nat) : Nat := T3 k (T2 k (T1 k x))
theorem T2_mod (k x : Nat) : T2 k (T1 k x) % 16 < 5 := by
  cases k with
  | zero => simp [T2, T1, rep]
  | succ k =>
    have e : x = 256 * (x / 256) + x % 256 := by omega
    have hc : x % 256 < 256 := by omega
    rw [e, T1_step _ _ _ hc, T2_step _ _ _ (t1_lt _ hc)]
    have := (t2_lt _ hc).2
    omega
theorem WW_step (k q c : Nat) (hc : c < 256) : WW (k + 1) (256 * q + c) = 256 * WW k q + pc c := by
  unfold WW pc
  rw [T1_step _ _ _ hc, T2_step _ _ _ (t1_lt _ hc), T3_step _ _ _ (T2_mod _ _) (t2_lt _ hc).1]
theorem cnt_step (q c k : Nat) (hc : c < 256) : (lsS (256 * q + c) (8 + k)).length = (lsS c 8).length + (lsS q k).length := by
  have hb : ∀ j, (256 * q + c).testBit j = if j < 8 then c.testBit j else q.testBit (j - 8) := fun j => Nat.testBit_two_pow_mul_add (i := 8) q hc j
  induction k with
  | zero =>
    rw [show lsS q 0 = [] from rfl, List.length_nil, Nat.add_zero]
    congr 1
    unfold lsS
    refine List.filter_congr fun j hj => ?_
    rw [hb, if_pos (List.mem_range.1 hj)]
  | succ k ih =>
    rw [← Nat.add_assoc, lsS_succ (256 * q + c) (8 + k), lsS_succ q k, List.length_append, List.length_append, ih, hb (8 + k), if_neg (show ¬ 8 + k < 8 by omega), show 8 + k - 8 = k by omega]
    cases q.testBit k <;> simp <;> omega
/-- the eight sums -/
theorem WW_bytes (x : Nat) : ∃ p0 p1 p2 p3 p4 p5 p6 p7 : Nat, p0 ≤ 8 ∧ p1 ≤ 8 ∧ p2 ≤ 8 ∧ p3 ≤ 8 ∧ p4 ≤ 8 ∧ p5 ≤ 8 ∧ p6 ≤ 8 ∧ p7 ≤ 8 ∧
    WW 8 x = 256 * (256 * (256 * (256 * (256 * (256 * (256 * p7 + p6) + p5) + p4) + p3) + p2) + p1) + p0 ∧ (lsS x 64).length = p0 + p1 + p2 + p3 + p4 + p5 + p6 + p7 := by
  have sp : ∀ k y, WW (k + 1) y = 256 * WW k (y / 256) + pc (y % 256) := fun k y => by
    have e : y = 256 * (y / 256) + y % 256 := by omega
    have := WW_step k (y / 256) (y % 256) (by omega)
    rwa [← e] at this
  have sc : ∀ k y, (lsS y (8 + k)).length = pc (y % 256) + (lsS (y / 256) k).length := fun k y => by
    have e : y = 256 * (y / 256) + y % 256 := by omega
    have := cnt_step (y / 256) (y % 256) k (by omega)
    rwa [← e, ← (pc_is (y % 256) (by omega)).1] at this
  have le : ∀ y, pc (y % 256) ≤ 8 := fun y => (pc_is (y % 256) (by omega)).2
  refine ⟨_, _, _, _, _, _, _, _, le x, le (x / 256), le (x / 256 / 256), le (x / 256 / 256 / 256), le (x / 256 / 256 / 256 / 256), le (x / 256 / 256 / 256 / 256 / 256), le (x / 256 / 256 / 256 / 256 / 256 / 256), le (x / 256 / 256 / 256 / 256 / 256 / 256 / 256), ?_, ?_⟩
  · rw [sp, sp, sp, sp, sp, sp, sp, sp]
    rw [show WW 0 (x / 256 / 256 / 256 / 256 / 256 / 256 / 256 / 256) = 0 by simp [WW, T3, rep], Nat.mul_zero, Nat.zero_add]
  · have a1 := sc 56 x
    have a2 := sc 48 (x / 256)
    have a3 := sc 40 (x / 256 / 256)
    have a4 := sc 32 (x / 256 / 256 / 256)
    have a5 := sc 24 (x / 256 / 256 / 256 / 256)
    have a6 := sc 16 (x / 256 / 256 / 256 / 256 / 256)
    have a7 := sc 8 (x / 256 / 256 / 256 / 256 / 256 / 256)
    have a8 := sc 0 (x / 256 / 256 / 256 / 256 / 256 / 256 / 256)
    rw [show lsS (x / 256 / 256 / 256 / 256 / 256 / 256 / 256 / 256) 0 = [] from rfl, List.length_nil] at a8
    simp only [Nat.reduceAdd] at a1 a2 a3 a4 a5 a6 a7 a8
    rw [a1, a2, a3, a4, a5, a6, a7, a8]
    omega
theorem dv8 {v w r : Nat} (h : v = 256 * w + r) (hr : r < 256) : v / 256 = w := by omega
theorem ad8 {z w p z' w' q : Nat} (h : z = 256 * w + p) (h' : z' = 256 * w' + q) : z + z' = 256 * (w + w') + (p + q) := by omega
theorem bd8 {z w p : Nat} (B : Nat) (h : z = 256 * w + p) (hp : p ≤ 8) (hw : w ≤ B) : z ≤ 256 * B + 8 := by omega
theorem md8 {x w p : Nat} (h : x = 256 * w + p) (hp : p < 128) : x % 128 = p := by omega
theorem bds8 {y z1 z2 z3 z4 z5 z6 z7 : Nat} (b0 : y ≤ 578721382704613384) (b1 : z1 ≤ 2260630401189896) (b2 : z2 ≤ 8830587504648) (b3 : z3 ≤ 34494482440) (b4 : z4 ≤ 134744072) (b5 : z5 ≤ 526344) (b6 : z6 ≤ 2056) (b7 : z7 ≤ 8) :
    y < 9000000000000000000 ∧ y + z1 < 9000000000000000000 ∧ y + z1 + (z2 + z3) < 9000000000000000000 ∧ y + z1 + (z2 + z3) + (z4 + z5 + (z6 + z7)) < 9000000000000000000 := by
  refine ⟨by omega, by omega, by omega, by omega⟩
theorem s2_8 {a b : Nat} (h1 : a ≤ 8) (h2 : b ≤ 8) : a + b < 256 := by omega
theorem s4_8 {a b c d : Nat} (h1 : a ≤ 8) (h2 : b ≤ 8) (h3 : c ≤ 8) (h4 : d ≤ 8) : a + b + (c + d) < 256 := by omega
theorem s8_8 {a b c d e f g i : Nat} (h1 : a ≤ 8) (h2 : b ≤ 8) (h3 : c ≤ 8) (h4 : d ≤ 8) (h5 : e ≤ 8) (h6 : f ≤ 8) (h7 : g ≤ 8) (h8 : i ≤ 8) : a + b + (c + d) + (e + f + (g + i)) < 128 := by omega
/-- the last sums -/
theorem sum8 (p0 p1 p2 p3 p4 p5 p6 p7 y : Nat) (h0 : p0 ≤ 8) (h1 : p1 ≤ 8) (h2 : p2 ≤ 8) (h3 : p3 ≤ 8) (h4 : p4 ≤ 8) (h5 : p5 ≤ 8) (h6 : p6 ≤ 8) (h7 : p7 ≤ 8)
    (hy : y = 256 * (256 * (256 * (256 * (256 * (256 * (256 * p7 + p6) + p5) + p4) + p3) + p2) + p1) + p0) :
    ∃ y1 y2 y3, y1 = y + y / 256 ∧ y2 = y1 + y1 / 65536 ∧ y3 = y2 + y2 / 4294967296 ∧ y < 9000000000000000000 ∧ y1 < 9000000000000000000 ∧ y2 < 9000000000000000000 ∧ y3 < 9000000000000000000 ∧ y3 % 128 = p0 + p1 + p2 + p3 + p4 + p5 + p6 + p7 := by
  obtain ⟨z7, e7⟩ : ∃ z, z = p7 := ⟨_, rfl⟩
  obtain ⟨z6, e6⟩ : ∃ z, z = 256 * z7 + p6 := ⟨_, rfl⟩
  obtain ⟨z5, e5⟩ : ∃ z, z = 256 * z6 + p5 := ⟨_, rfl⟩
  obtain ⟨z4, e4⟩ : ∃ z, z = 256 * z5 + p4 := ⟨_, rfl⟩
  obtain ⟨z3, e3⟩ : ∃ z, z = 256 * z4 + p3 := ⟨_, rfl⟩
  obtain ⟨z2, e2⟩ : ∃ z, z = 256 * z3 + p2 := ⟨_, rfl⟩
  obtain ⟨z1, e1⟩ : ∃ z, z = 256 * z2 + p1 := ⟨_, rfl⟩
  rw [← e7, ← e6, ← e5, ← e4, ← e3, ← e2, ← e1] at hy
  have e7' : z7 = 256 * 0 + p7 := by rw [e7, Nat.mul_zero, Nat.zero_add]
  have b7 : z7 ≤ 8 := by rw [e7]; exact h7
  have b6 := bd8 _ e6 h6 b7
  have b5 := bd8 _ e5 h5 b6
  have b4 := bd8 _ e4 h4 b5
  have b3 := bd8 _ e3 h3 b4
  have b2 := bd8 _ e2 h2 b3
  have b1 := bd8 _ e1 h1 b2
  have b0 := bd8 _ hy h0 b1
  obtain ⟨l0, l1, l2, l3⟩ := bds8 b0 b1 b2 b3 b4 b5 b6 b7
  clear b0 b1 b2 b3 b4 b5 b6 b7
  have c0 := ad8 hy e1
  have c1 := ad8 e1 e2
  have c2 := ad8 e2 e3
  have c3 := ad8 e3 e4
  have c4 := ad8 e4 e5
  have c5 := ad8 e5 e6
  have c6 := ad8 e6 e7'
  have g0 := ad8 c0 c2
  have g1 := ad8 c1 c3
  have g2 := ad8 c2 c4
  have g3 := ad8 c3 c5
  have g4 := ad8 c4 c6
  have x0 := ad8 g0 g4
  have q1 : y / 256 = z1 := dv8 hy (Nat.lt_of_le_of_lt h0 (by decide))
  have s0 : p0 + p1 < 256 := s2_8 h0 h1
  have s1 : p1 + p2 < 256 := s2_8 h1 h2
  have s2 : p0 + p1 + (p2 + p3) < 256 := s4_8 h0 h1 h2 h3
  have s3 : p1 + p2 + (p3 + p4) < 256 := s4_8 h1 h2 h3 h4
  have s4 : p2 + p3 + (p4 + p5) < 256 := s4_8 h2 h3 h4 h5
  have s5 : p3 + p4 + (p5 + p6) < 256 := s4_8 h3 h4 h5 h6
  have s6 : p0 + p1 + (p2 + p3) + (p4 + p5 + (p6 + p7)) < 128 := s8_8 h0 h1 h2 h3 h4 h5 h6 h7
  have q2 : (y + z1) / 65536 = z2 + z3 := by
    rw [show (65536 : Nat) = 256 * 256 from rfl, ← Nat.div_div_eq_div_mul, dv8 c0 s0, dv8 c1 s1]
  have q3 : (y + z1 + (z2 + z3)) / 4294967296 = z4 + z5 + (z6 + z7) := by
    rw [show (4294967296 : Nat) = 256 * 256 * 256 * 256 from rfl, ← Nat.div_div_eq_div_mul, ← Nat.div_div_eq_div_mul, ← Nat.div_div_eq_div_mul, dv8 g0 s2, dv8 g1 s3, dv8 g2 s4, dv8 g3 s5]
  refine ⟨y + z1, y + z1 + (z2 + z3), y + z1 + (z2 + z3) + (z4 + z5 + (z6 + z7)), by rw [q1], by rw [q2], by rw [q3], l0, l1, l2, l3, ?_⟩
  rw [md8 x0 s6]
  simp only [Nat.add_assoc]
theorem count_all (x : Nat) : ∃ y y1 y2 y3, WW 8 x = y ∧ y1 = y + y / 256 ∧ y2 = y1 + y1 / 65536 ∧ y3 = y2 + y2 / 4294967296 ∧ y < 9000000000000000000 ∧ y1 < 9000000000000000000 ∧ y2 < 9000000000000000000 ∧ y3 < 9000000000000000000 ∧ y3 % 128 = (lsS x 64).length := by
  obtain ⟨p0, p1, p2, p3, p4, p5, p6, p7, h0, h1, h2, h3, h4, h5, h6, h7, hw, hl⟩ := WW_bytes x
  obtain ⟨y1, y2, y3, e1, e2, e3, l0, l1, l2, l3, hm⟩ := sum8 p0 p1 p2 p3 p4 p5 p6 p7 _ h0 h1 h2 h3 h4 h5 h6 h7 hw
  exact ⟨_, y1, y2, y3, rfl, e1, e2, e3, l0, l1, l2, l3, by rw [hm, hl]⟩

/-! ### Has -/
theorem hasK_andNot (a b : Nat) (ha : a < 2 ^ 64) : hasK a b 64 = decide (b &&& (18446744073709551615 - a) = 0) := by
  have e : 18446744073709551615 - a = 2 ^ 64 - (a + 1) := by omega
  rw [e]
  have hbit : ∀ j, (b &&& (2 ^ 64 - (a + 1))).testBit j = (b.testBit j && (decide (j < 64) && !a.testBit j)) := fun j => by
    rw [Nat.testBit_and, Nat.testBit_two_pow_sub_succ ha]
  by_cases h : b &&& (2 ^ 64 - (a + 1)) = 0
  · rw [decide_eq_true h]
    refine (hasK_iff a b 64).2 fun n hn hbn => ?_
    have := hbit n
    rw [h, Nat.zero_testBit, hbn, decide_eq_true hn] at this
    simpa using this
  · rw [decide_eq_false h]
    cases hk : hasK a b 64 with
    | false => rfl
    | true =>
      refine absurd (Nat.eq_of_testBit_eq fun j => ?_) h
      rw [hbit, Nat.zero_testBit]
      by_cases hj : j < 64
      · cases hbj : b.testBit j with
        | false => rfl
        | true => rw [(hasK_iff a b 64).1 hk j hj hbj]; simp
      · rw [decide_eq_false hj]; simp

/-! ### Reading by looking for each sign -/
/-- the set whose signs stand in a text -/
def inS (s : List UInt8) : Nat := ofS (fun n => decide (sg n ∈ s)) 64
theorem inS_lt (s : List UInt8) : inS s < 2 ^ 64 := ofS_lt _ 64
theorem parK_at (s : List UInt8) : ∀ k, ∀ i (h : i < (parK s k).length), s[i]? = some (sg ((parK s k)[i]))
  | 0, i, h => by simp [parK] at h
  | k + 1, i, h => by
    have ih := parK_at s k
    by_cases hc : s[(parK s k).length]? = some (sg k)
    · have e : parK s (k + 1) = parK s k ++ [k] := by conv => lhs; unfold parK; rw [if_pos hc]
      simp only [e] at h ⊢
      rw [List.length_append] at h
      by_cases hi : i < (parK s k).length
      · rw [List.getElem_append_left hi]
        exact ih i hi
      · have : i = (parK s k).length := by simp at h; omega
        subst this
        rw [hc]
        simp
    · have e : parK s (k + 1) = parK s k := by conv => lhs; unfold parK; rw [if_neg hc]
      simp only [e] at h ⊢
      exact ih i h
theorem parK_map (s : List UInt8) (h : (parK s 64).length = s.length) : s = (parK s 64).map sg := by
  apply List.ext_getElem?
  intro i
  by_cases hi : i < (parK s 64).length
  · rw [parK_at s 64 i hi, List.getElem?_map, List.getElem?_eq_getElem hi]
    rfl
  · rw [List.getElem?_eq_none (by omega), List.getElem?_eq_none (by rw [List.length_map]; omega)]
theorem parK_pre (s : List UInt8) (k : Nat) : ∀ j, ∀ n, n < k → (n ∈ parK s (k + j) ↔ n ∈ parK s k)
  | 0, n, _ => Iff.rfl
  | j + 1, n, hn => by
    rw [← parK_pre s k j n hn, ← Nat.add_assoc]
    conv => lhs; unfold parK
    split
    · rw [List.mem_append]
      simp
      omega
    · rfl
theorem lsS_parK (s : List UInt8) (w : Nat) (hw : ∀ n, n < 64 → (w.testBit n = true ↔ n ∈ parK s 64)) : ∀ k, k ≤ 64 → lsS w k = parK s k
  | 0, _ => by simp [lsS, parK]
  | k + 1, hk => by
    have ih := lsS_parK s w hw k (by omega)
    have h1 := hw k (by omega)
    have h2 := parK_pre s (k + 1) (64 - (k + 1)) k (by omega)
    rw [show k + 1 + (64 - (k + 1)) = 64 by omega] at h2
    rw [lsS_succ, ih]
    by_cases hc : s[(parK s k).length]? = some (sg k)
    · have e : parK s (k + 1) = parK s k ++ [k] := by conv => lhs; unfold parK; rw [if_pos hc]
      rw [e] at h2 ⊢
      rw [if_pos (h1.2 (h2.2 (by simp)))]
    · have e : parK s (k + 1) = parK s k := by conv => lhs; unfold parK; rw [if_neg hc]
      rw [e] at h2 ⊢
      rw [if_neg, List.append_nil]
      intro hb
      have := parK_mem s k k (h2.1 (h1.1 hb))
      omega
theorem par_one : ∀ n, n < 64 → (sg n ∈ ([45] : List UInt8)) = False := fun n hn => by
  have := sg_no n hn
  simp [this]
/-- the answer, told by the text of the set -/
theorem parS_is (s : List UInt8) : parS s = if 64 < s.length then (0, false) else if txtS (inS s) = s then (inS s, true) else (0, false) := by
  by_cases hl : 64 < s.length
  · rw [if_pos hl]
    have := parK_len s 64
    unfold parS
    rw [if_neg (fun h => by rw [h] at hl; simp at hl), if_pos (Or.inl (by omega))]
  · rw [if_neg hl]
    by_cases ht : txtS (inS s) = s
    · rw [if_pos ht]
      have := par_txt (inS s) (inS_lt s)
      rwa [ht] at this
    · rw [if_neg ht]
      unfold parS
      by_cases h45 : s = [45]
      · refine absurd ?_ ht
        have e : inS s = 0 := by
          unfold inS
          rw [ofS_congr (Q := fun _ => false) 64 (fun n hn => by subst h45; rw [decide_eq_false]; rw [par_one n hn]; exact id), ofS_none]
        rw [e, h45]
        decide +kernel
      · rw [if_neg h45]
        by_cases hc : (parK s 64).length < s.length ∨ s = []
        · rw [if_pos hc]
        · refine absurd ?_ ht
          have hlen : (parK s 64).length = s.length := by
            have := parK_fits s 64
            have : ¬ (parK s 64).length < s.length := fun h => hc (Or.inl h)
            omega
          have hmap := parK_map s hlen
          have hin : ∀ n, n < 64 → ((inS s).testBit n = true ↔ n ∈ parK s 64) := fun n hn => by
            unfold inS
            rw [ofS_testBit, decide_eq_true hn, Bool.true_and, decide_eq_true_iff]
            constructor
            · intro h
              rw [hmap] at h
              obtain ⟨m, hm, e⟩ := List.mem_map.1 h
              have h64 := parK_mem s 64 m hm
              rw [← sg_inj m h64 n hn e]
              exact hm
            · intro h
              rw [hmap]
              exact List.mem_map.2 ⟨n, h, rfl⟩
          have hls := lsS_parK s (inS s) hin 64 (Nat.le_refl _)
          unfold txtS txtK
          rw [hls, ← hmap, if_neg (fun h => hc (Or.inr h))]
theorem txtS_nz (w : Nat) (hw : w < 2 ^ 64) (h : w ≠ 0) : txtS w = (lsS w 64).map sg := by
  have : txtK w 64 ≠ [] := fun h0 => by
    have hl : lsS w 64 = [] := by simpa [txtK] using h0
    have e := ofS_list w hw
    rw [hl] at e
    have e2 : ofS (fun n => decide (n ∈ ([] : List Nat))) 64 = 0 := by decide +kernel
    omega
  unfold txtS
  rw [if_neg this]
  rfl
end Go.Proofs.YthchkhgimnchcaaGreat
/- The walks of package plan: aisles moved. -/
namespace Go.Proofs.YthchkhgimnchcaaGreat
open Go.RowKit

theorem hsetk {w : World} {b : Nat} {cs : Array Value} {t : TypeId} (h : w.heap[b]? = some (.cells cs t)) (i : Nat) (x : Value) : (w.setCell ⟨b, i, none⟩ x).heap[b]? = some (.cells (cs.setIfInBounds i x) t) := by
  unfold World.setCell
  simp only [Array.getElem?_modify, if_pos, h, Option.map_some]
  rfl
theorem cells5 {w : World} {b : Nat} {u0 u1 u2 u3 u4 : Value} {t : TypeId} (h : w.heap[b]? = some (.cells #[u0, u1, u2, u3, u4] t)) :
    (w.cell? ⟨b, 0, none⟩ = some u0 ∧ w.cell? ⟨b, 1, none⟩ = some u1 ∧ w.cell? ⟨b, 2, none⟩ = some u2 ∧ w.cell? ⟨b, 3, none⟩ = some u3 ∧ w.cell? ⟨b, 4, none⟩ = some u4) ∧
      (w.frozen? ⟨b, 0, none⟩ = false ∧ w.frozen? ⟨b, 1, none⟩ = false ∧ w.frozen? ⟨b, 2, none⟩ = false ∧ w.frozen? ⟨b, 3, none⟩ = false ∧ w.frozen? ⟨b, 4, none⟩ = false) := by
  refine ⟨⟨?_, ?_, ?_, ?_, ?_⟩, ?_, ?_, ?_, ?_, ?_⟩ <;> simp [World.cell?, World.frozen?, h]

end Go.Proofs.YthchkhgimnchcaaGreat
/- The walks of package plan: the way. -/
namespace Go.Proofs.YthchkhgimnchcaaGreat
open Go.RowKit

/-! ### The way is two straight ones -/
theorem rway_ne (a b : Int × Int) (how : Int) : rway a b how = a :: (rway a b how).tail := by
  by_cases h : a = b
  · subst h; rw [rway_self]; rfl
  · rw [rway_cons how h]; rfl
theorem trn_self (how : Int) (b : Int × Int) : trn how b b = b := by unfold trn; split <;> rfl
theorem rst_trn {a b : Int × Int} {how : Int} (h : a ≠ trn how a b) : rst b how a = rst (trn how a b) how a ∧ trn how (rst b how a) b = trn how a b ∧ a ≠ b := by
  obtain ⟨a1, a2⟩ := a
  obtain ⟨b1, b2⟩ := b
  unfold trn at *
  by_cases hh : how = 1
  · subst hh
    simp only [if_pos] at *
    have h1 : a2 ≠ b2 := fun e => h (by rw [e])
    unfold rst
    simp [h1]
  · simp only [if_neg hh] at *
    have h1 : a1 ≠ b1 := fun e => h (by rw [e])
    unfold rst
    simp [h1, hh]
theorem rway_split (how : Int) (b : Int × Int) : ∀ n a, gap a (trn how a b) = n → rway a b how = rway a (trn how a b) how ++ (rway (trn how a b) b how).tail := by
  intro n
  induction n with
  | zero =>
    intro a h
    have e := gap_zero h
    rw [← e, rway_self, List.cons_append, List.nil_append]
    exact rway_ne _ _ _
  | succ n ih =>
    intro a h
    have hne : a ≠ trn how a b := fun e => by rw [← e] at h; unfold gap at h; omega
    obtain ⟨h1, h2, h3⟩ := rst_trn hne
    have hg := rst_gap how hne
    rw [rway_cons how h3, rway_cons how hne, ← h1]
    have := ih (rst b how a) (by rw [h2, h1]; omega)
    rw [h2] at this
    rw [this, List.cons_append]
/-- a straight way -/
def strt (a b : Int × Int) : Prop := a.1 = b.1 ∨ a.2 = b.2
theorem sgn_zero : sgn 0 = 0 := rfl
theorem tw_sgn (a b : Int) : tw a b = a + sgn (b - a) := by
  unfold tw sgn
  split <;> (try split) <;> (try split) <;> omega
theorem sgn_keep {a b : Int} (h : a + sgn (b - a) ≠ b) : sgn (b - (a + sgn (b - a))) = sgn (b - a) := by
  rcases Int.lt_trichotomy (b - a) 0 with h1 | h1 | h1
  · have hs : sgn (b - a) = -1 := if_pos h1
    rw [hs] at h ⊢
    exact if_pos (by omega)
  · have hs : sgn (b - a) = 0 := by rw [h1]; rfl
    rw [hs] at h ⊢
    omega
  · have hs : sgn (b - a) = 1 := by unfold sgn; rw [if_neg (by omega), if_pos h1]
    rw [hs] at h ⊢
    unfold sgn
    rw [if_neg (by omega), if_pos (by omega)]
theorem rst_strt {a b : Int × Int} (how : Int) (h : strt a b) (hne : a ≠ b) : rst b how a = (a.1 + sgn (b.1 - a.1), a.2 + sgn (b.2 - a.2)) ∧ strt (rst b how a) b ∧
    (rst b how a ≠ b → sgn (b.1 - (rst b how a).1) = sgn (b.1 - a.1) ∧ sgn (b.2 - (rst b how a).2) = sgn (b.2 - a.2)) := by
  obtain ⟨a1, a2⟩ := a
  obtain ⟨b1, b2⟩ := b
  have hr : rst (b1, b2) how (a1, a2) = (a1 + sgn (b1 - a1), a2 + sgn (b2 - a2)) := by
    unfold strt at h
    simp only at h
    rcases h with rfl | rfl
    · have h2 : a2 ≠ b2 := fun e => hne (by rw [e])
      unfold rst
      rw [if_neg (by simp [h2]), Int.sub_self, sgn_zero, Int.add_zero, tw_sgn]
    · unfold rst
      rw [if_pos (.inl rfl), Int.sub_self, sgn_zero, Int.add_zero, tw_sgn]
  rw [hr]
  refine ⟨rfl, ?_, fun hn => ?_⟩
  · unfold strt at *
    simp only at *
    rcases h with rfl | rfl
    · left; rw [Int.sub_self, sgn_zero, Int.add_zero]
    · right; rw [Int.sub_self, sgn_zero, Int.add_zero]
  · unfold strt at h
    simp only at *
    rcases h with rfl | rfl
    · have e : a1 + sgn (a1 - a1) = a1 := by rw [Int.sub_self, sgn_zero, Int.add_zero]
      rw [e]
      exact ⟨rfl, sgn_keep fun h => hn (by rw [e, h])⟩
    · have e : a2 + sgn (a2 - a2) = a2 := by rw [Int.sub_self, sgn_zero, Int.add_zero]
      rw [e]
      exact ⟨sgn_keep fun h => hn (by rw [e, h]), rfl⟩
theorem sgn_abs (x : Int) : (sgn x).natAbs ≤ 1 := by unfold sgn; split <;> (try split) <;> omega
theorem wdb {x : Int} (h : -1000 ≤ x ∧ x ≤ 1000) : x.natAbs ≤ 1000 := by omega

/-! ### What is gathered -/
theorem hset1c {w : World} {b : Nat} {x : Value} {t : TypeId} (h : w.heap[b]? = some (.cells #[x] t)) (x' : Value) : (w.setCell ⟨b, 0, none⟩ x').heap[b]? = some (.cells #[x'] t) := by
  unfold World.setCell
  simp only [Array.getElem?_modify, if_pos, h, Option.map_some]
  rfl

end Go.Proofs.YthchkhgimnchcaaGreat
/- The walks of package plan: each step of a straight way; the whole way. -/
namespace Go.Proofs.YthchkhgimnchcaaGreat
open Go.RowKit

end Go.Proofs.YthchkhgimnchcaaGreat
/- The walks of package plan: the way, by two straight ones. -/
namespace Go.Proofs.YthchkhgimnchcaaGreat
open Go.RowKit

theorem ownp_one (w : World) (x y : Int) : OwnP (w.alloc (.cells #[.int .i64 x, .int .i64 y] 47)) w.heap.size 47 (.slice (some ⟨w.heap.size, 0, none⟩) 1 1) [(x, y)] :=
  ⟨rfl, .inr ⟨w.heap.size, 1, _, rfl, Nat.le_refl _, Array.getElem?_push_size, by simp, by simp [maxLen], rfl, rfl⟩⟩

end Go.Proofs.YthchkhgimnchcaaGreat
/- The walks of package plan: which aisles a way goes through. -/
namespace Go.Proofs.YthchkhgimnchcaaGreat
open Go.RowKit Go.Sort

/-! ### Mathematics -/
theorem putR_rise (n : Int) : ∀ (l : List Int) (d : Bool), l.Pairwise (· < ·) → (putR n l d).Pairwise (· < ·)
  | [], d, _ => by cases d <;> simp [putR]
  | x :: l, d, h => by
    rw [List.pairwise_cons] at h
    have ih := putR_rise n l (d || decide (n ≤ x)) h.2
    have hm := fun m => putR_mem n l (d || decide (n ≤ x)) m
    unfold putR
    generalize putR n l (d || decide (n ≤ x)) = R at *
    by_cases h1 : d = false ∧ n ≤ x
    · obtain ⟨rfl, h1⟩ := h1
      have hR : ∀ m ∈ R, x < m := by
        intro m hmR
        rcases (hm m).1 hmR with ⟨h2, _⟩ | ⟨h2, _⟩
        · simp [h1] at h2
        · exact h.1 m h2
      rw [if_pos ⟨rfl, h1⟩]
      by_cases h3 : x = n
      · rw [if_neg (by simp [h3])]
        subst h3
        simp only [List.append_nil, List.singleton_append, List.pairwise_cons]
        exact ⟨hR, ih⟩
      · rw [if_pos h3]
        simp only [List.cons_append, List.nil_append, List.pairwise_cons, List.mem_cons]
        refine ⟨fun m hmm => ?_, hR, ih⟩
        rcases hmm with rfl | hmm
        · omega
        · have := hR m hmm; omega
    · rw [if_neg h1]
      by_cases h3 : x = n
      · rw [if_neg (by simp [h3])]
        simpa using ih
      · rw [if_pos h3]
        simp only [List.cons_append, List.nil_append, List.pairwise_cons]
        refine ⟨fun m hmR => ?_, ih⟩
        rcases (hm m).1 hmR with ⟨h2, rfl⟩ | ⟨h2, _⟩
        · simp at h2
          omega
        · exact h.1 m h2
theorem crs7_rise (hit : Ais → Bool) (l : List Ais) : (crs7 hit l).Pairwise (· < ·) := by
  unfold crs7
  have key : ∀ (l : List Ais) (out : List Int), out.Pairwise (· < ·) → (l.foldl (fun out a => if hit a = true then putR a.id out false else out) out).Pairwise (· < ·) := by
    intro l
    induction l with
    | nil => intro out h; exact h
    | cons a l ih =>
      intro out h
      rw [List.foldl_cons]
      refine ih _ ?_
      split
      · exact putR_rise _ _ _ h
      · exact h
  exact key l [] List.Pairwise.nil
/-- the IDs of those that are hit -/
def hids (hit : Ais → Bool) (l : List Ais) : List Int := (l.filter hit).map Ais.id
theorem crs7_sorted (hit : Ais → Bool) (l : List Ais) : Lib.compact ((hids hit l).mergeSort fun x y => decide (x ≤ y)) = crs7 hit l := by
  refine rise_ext (compact_rise (sorted_ms _)) (crs7_rise hit l) fun m => ?_
  rw [compact_mem, List.mem_mergeSort, crs7_mem]
  unfold hids
  rw [List.mem_map]
  constructor
  · rintro ⟨a, h1, h2⟩
    rw [List.mem_filter] at h1
    exact ⟨a, h1.1, h1.2, h2⟩
  · rintro ⟨a, h1, h2, h3⟩
    exact ⟨a, List.mem_filter.2 ⟨h1, h2⟩, h3⟩
theorem hids_next (hit : Ais → Bool) (l : List Ais) (k : Nat) (h : k < l.length) : hids hit (l.take (k + 1)) = hids hit (l.take k) ++ (if hit (pa l k) = true then [(pa l k).id] else []) := by
  unfold hids
  rw [List.take_succ_eq_append_getElem h, List.filter_append, List.map_append, pa_get l k h]
  congr 1
  by_cases hh : hit l[k] = true <;> simp [hh]
theorem hids_len (hit : Ais → Bool) (l : List Ais) (k : Nat) : (hids hit (l.take k)).length ≤ l.length := by
  unfold hids
  rw [List.length_map]
  exact Nat.le_trans (List.length_filter_le _ _) (by simp; omega)
theorem meet_ex (a b : Ais) : meetB a b = true ↔ ∃ x y, hasB a x y = true ∧ hasB b x y = true := by
  rw [meet_is, decide_eq_true_eq]
  constructor
  · intro h
    refine ⟨max a.lx b.lx, max a.ly b.ly, ?_, ?_⟩ <;> unfold hasB <;> rw [decide_eq_true_eq] <;> omega
  · rintro ⟨x, y, h1, h2⟩
    unfold hasB at h1 h2
    rw [decide_eq_true_eq] at h1 h2
    omega
/-- the block between two corners -/
def blk (a b : Int × Int) : Ais := ⟨0, min a.1 b.1, min a.2 b.2, max a.1 b.1, max a.2 b.2⟩
theorem hit_is (a b : Int × Int) (how : Int) (A : Ais) : hitB (rway a b how) A = (meetB A (blk a (trn how a b)) || meetB A (blk (trn how a b) b)) := by
  rw [Bool.eq_iff_iff, Bool.or_eq_true, meet_ex, meet_ex]
  unfold hitB
  rw [List.any_eq_true]
  obtain ⟨a1, a2⟩ := a
  obtain ⟨b1, b2⟩ := b
  by_cases hh : how = 1
  · subst hh
    simp only [mem_y, onY, btw, trn, if_pos, blk]
    constructor
    · rintro ⟨⟨x, y⟩, h1 | h1, h2⟩
      · exact .inl ⟨x, y, h2, by unfold hasB; rw [decide_eq_true_eq]; simp only at *; omega⟩
      · exact .inr ⟨x, y, h2, by unfold hasB; rw [decide_eq_true_eq]; simp only at *; omega⟩
    · rintro (⟨x, y, h1, h2⟩ | ⟨x, y, h1, h2⟩)
      · refine ⟨(x, y), .inl ?_, h1⟩
        unfold hasB at h2
        rw [decide_eq_true_eq] at h2
        simp only at *
        omega
      · refine ⟨(x, y), .inr ?_, h1⟩
        unfold hasB at h2
        rw [decide_eq_true_eq] at h2
        simp only at *
        omega
  · simp only [mem_x hh, onX, btw, trn, if_neg hh, blk]
    constructor
    · rintro ⟨⟨x, y⟩, h1 | h1, h2⟩
      · exact .inl ⟨x, y, h2, by unfold hasB; rw [decide_eq_true_eq]; simp only at *; omega⟩
      · exact .inr ⟨x, y, h2, by unfold hasB; rw [decide_eq_true_eq]; simp only at *; omega⟩
    · rintro (⟨x, y, h1, h2⟩ | ⟨x, y, h1, h2⟩)
      · refine ⟨(x, y), .inl ?_, h1⟩
        unfold hasB at h2
        rw [decide_eq_true_eq] at h2
        simp only at *
        omega
      · refine ⟨(x, y), .inr ?_, h1⟩
        unfold hasB at h2
        rw [decide_eq_true_eq] at h2
        simp only at *
        omega

/-! ### Sorted, and each once -/
theorem psort_any (a w : World) (B : Nat) (v : Value) (l : List Int) (hB : Below B a w) (hz : B ≤ w.heap.size) (h : OwnI w B v l) (hl : l.length ≤ 1000000) :
    Calls Tryz.prog 42 #[v] w fun e w' => e = .returned (.tuple #[]) ∧
      Calls Tryz.prog 105 #[v] w' fun e w'' => ∃ u, e = .returned u ∧ IntsAt w'' u (Lib.compact (l.mergeSort fun x y => decide (x ≤ y))) ∧ Below B a w'' := by
  by_cases h0 : l.length = 0
  · obtain ⟨p, c, rfl⟩ := h.ints.form
    have hnil : l = [] := List.eq_nil_of_length_eq_zero h0
    have hc : Lib.compact (l.mergeSort fun x y => decide (x ≤ y)) = [] := List.eq_nil_of_length_eq_zero (by have h1 := Lib.compact_length_le (l.mergeSort fun x y => decide (x ≤ y)); rw [List.length_mergeSort] at h1; omega)
    rw [h0, hc]
    refine (Tryz.slices_Sort_int_none p c w).mono ?_
    rintro e w1 ⟨rfl, rfl⟩
    refine ⟨rfl, (Tryz.slices_Compact_int_empty p c w1).mono ?_⟩
    rintro e w2 ⟨rfl, rfl⟩
    refine ⟨_, rfl, ?_, hB⟩
    have := h.ints
    rw [hnil] at this
    exact this
  · obtain ⟨g, cap, rfl, hBg, hg, hcap, hH⟩ := h.holds (by omega)
    have hlen : (l.mergeSort fun x y => decide (x ≤ y)).length = l.length := List.length_mergeSort l
    refine (Tryz.slices_Sort_int g 0 cap l w hH hg (by omega)).mono ?_
    rintro e w1 ⟨rfl, n, os, rfl⟩
    refine ⟨rfl, ?_⟩
    have hS := holds_sorted (n := n) (os := os) hH hg
    have hC := Tryz.slices_Compact_int g 0 cap (l.mergeSort fun x y => decide (x ≤ y)) _ hS (by omega) (by omega)
    have hI := fun q => ints_compact (n := n) (q := q) (os := os) hH hg hcap
    have hB1 := below_row (n := n) (off := 0) (d := (l.mergeSort fun x y => decide (x ≤ y)).toArray) (os := os) hB hBg hz
    rw [hlen] at hC
    refine hC.mono ?_
    rintro e w2 ⟨rfl, q, rfl⟩
    refine ⟨_, rfl, ?_, below_row' hB1 hBg (by have := hB1.size; simp; omega)⟩
    have := hI q
    rw [hlen] at this
    exact this

end Go.Proofs.YthchkhgimnchcaaGreat
/- Stage 22: the program's Same and SameRules. -/
namespace Go.Proofs.YthchkhgimnchcaaGreat
open Go.RowKit

theorem ownGe {α : Type} {w : World} {B : Nat} {e : TypeId} {K : Nat} {cs : α → List Value} {v : Value} {l : List α} (h : OwnR w B e K cs v l) : ∀ g, v.ownBlock = some g → B ≤ g := by
  intro g hg
  rcases h.2 with ⟨rfl, _⟩ | ⟨g', cap, cur, rfl, hg', _⟩
  · simp [Value.ownBlock] at hg
  · simp [Value.ownBlock] at hg
    omega
set_option maxHeartbeats 4000000 in
set_option maxRecDepth 100000 in
theorem tClone_any (x : Sp) (w : World) (ha : IntsAt w x.v x.aft) (hl : x.aft.length ≤ 1000) :
    Calls Tryz.prog 37 #[spv x] w fun e w' => ∃ y : Sp, e = .returned (spv y) ∧ IntsAt w' y.v y.aft ∧ sameS y x = true ∧ y.aft = x.aft ∧ Below w.heap.size w w' := by
  have G := Lib.hid fun w h => cloneI_any x.v x.aft w h (by omega)
  have hsame : ∀ a' c', sameS { x with a := a', c := c' } x = true := fun a' c' => by simp [sameS, plainB]
  have HS := Lib.hid hsame
  clear hsame
  obtain ⟨id, prio, sk, ge, fx, fy, tx, ty, a, c, l⟩ := x
  dsimp only [Sp.v, spv] at *
  have hal1 := (Below.refl w.heap.size w).alloc (Nat.le_refl _) (.cells #[.int .i64 id, .int .i64 prio, .int .u64 sk, .int .u64 ge, .int .i64 fx, .int .i64 fy, .int .i64 tx, .int .i64 ty, .slice a l.length c] 49)
  have hX := boxS w id prio sk ge fx fy tx ty (.slice a l.length c)
  have hI := ha.below hal1
  obtain ⟨W1, hW1⟩ : ∃ W1, w.alloc (.cells #[.int .i64 id, .int .i64 prio, .int .u64 sk, .int .u64 ge, .int .i64 fx, .int .i64 fy, .int .i64 tx, .int .i64 ty, .slice a l.length c] 49) = W1 := ⟨_, rfl⟩
  have hsz : W1.heap.size = w.heap.size + 1 := by rw [← hW1]; simp
  rw [hW1] at hal1 hX hI
  have hal2 := (Below.refl W1.heap.size W1).alloc (Nat.le_refl _) (.cells #[.int .i64 0, .int .i64 0, .int .u64 0, .int .u64 0, .int .i64 0, .int .i64 0, .int .i64 0, .int .i64 0, .slice none 0 0] 49)
  have hY := boxS W1 0 0 0 0 0 0 0 0 (.slice none 0 0)
  rw [hsz] at hY
  have HX := Lib.hid (hX.kept hal2)
  have HY := Lib.hid hY
  have HI := Lib.hid (hI.below hal2)
  have HB := Lib.hid (hal1.trans (hal2.mono hal1.size))
  rw [← hW1] at HX HY HI HB
  have c6 := HX.out.cell 8 rfl
  clear hal1 hX hI hal2 hY hsz hW1 ha
  go_enter Tryz.func37, Tryz.ntmps37
  go_wp2_with (go_at_call 51; (with_reducible refine (G.out _ HI.out).mono ?_); rintro e w1 ⟨v', rfl, ho, hb1⟩; obtain ⟨a', c', e⟩ := RowsAt.form (OwnR.rows csI_len ho); subst e; have HO := Lib.hid ho; replace HX := Lib.hid (HX.out.kept hb1); replace HY := Lib.hid (HY.out.kept hb1); replace HB := Lib.hid (HB.out.trans (hb1.mono HB.out.size)); clear hb1 c6 ho; have f8 := HX.out.free 8 rfl; have e8 := HX.out.cell 8 rfl; have HX2 := Lib.hid (HX.out.set 8 (.slice a' l.length c')); have HY2 := Lib.hid (HY.out.away ⟨w.heap.size, 8, none⟩ (.slice a' l.length c') (by simp)); have c0 := HX2.out.cell 0 rfl; have c1 := HX2.out.cell 1 rfl; have c2 := HX2.out.cell 2 rfl; have c3 := HX2.out.cell 3 rfl; have c4 := HX2.out.cell 4 rfl; have c5 := HX2.out.cell 5 rfl; have c6 := HX2.out.cell 6 rfl; have c7 := HX2.out.cell 7 rfl; have c8 := HX2.out.cell 8 rfl; have y0 := HY2.out.cell 0 rfl; have z0 := HY2.out.free 0 rfl; have y1 := HY2.out.cell 1 rfl; have z1 := HY2.out.free 1 rfl; have y2 := HY2.out.cell 2 rfl; have z2 := HY2.out.free 2 rfl; have y3 := HY2.out.cell 3 rfl; have z3 := HY2.out.free 3 rfl; have y4 := HY2.out.cell 4 rfl; have z4 := HY2.out.free 4 rfl; have y5 := HY2.out.cell 5 rfl; have z5 := HY2.out.free 5 rfl; have y6 := HY2.out.cell 6 rfl; have z6 := HY2.out.free 6 rfl; have y7 := HY2.out.cell 7 rfl; have z7 := HY2.out.free 7 rfl; have y8 := HY2.out.cell 8 rfl; have z8 := HY2.out.free 8 rfl)
  have hge := ownGe HO.out
  have hn1 : (Value.slice a' l.length c').ownBlock ≠ some w.heap.size := fun e => by have := hge _ e; simp at this <;> omega
  have hn2 : (Value.slice a' l.length c').ownBlock ≠ some (w.heap.size + 1) := fun e => by have := hge _ e; simp at this <;> omega
  have hb1 := HB.out.setCell (p := ⟨w.heap.size, 8, none⟩) (Nat.le_refl _) (.slice a' l.length c')
  have hl1 : w.heap.size ≤ w.heap.size + 1 := by omega
  refine bodyPost_ret (v := .agg #[.int .i64 id, .int .i64 prio, .int .u64 sk, .int .u64 ge, .int .i64 fx, .int .i64 fy, .int .i64 tx, .int .i64 ty, .slice a' l.length c']) ?_ rfl ⟨⟨id, prio, sk, ge, fx, fy, tx, ty, a', c', l⟩, rfl, ?_, HS.out a' c', rfl, ?_⟩
  · simp [results, Tryz.results37, go_sem, y0, y1, y2, y3, y4, y5, y6, y7, y8]
  · exact OwnI.ints ((((((((((HO.out.away _ _ hn1).away _ _ hn2).away _ _ hn2).away _ _ hn2).away _ _ hn2).away _ _ hn2).away _ _ hn2).away _ _ hn2).away _ _ hn2).away _ _ hn2)
  · exact ((((((((hb1.setCell hl1 _).setCell hl1 _).setCell hl1 _).setCell hl1 _).setCell hl1 _).setCell hl1 _).setCell hl1 _).setCell hl1 _).setCell hl1 _
end Go.Proofs.YthchkhgimnchcaaGreat
/- Stage 23's program: all: of each one of a list a function that is handed on is asked. -/
namespace Go.Proofs.YthchkhgimnchcaaGreat
open Go.RowKit

/-- specs in memory -/
def SpsAt (w : World) (v : Value) (L : List Sp) : Prop := RowsAt w 9 csSp v L ∧ ∀ x ∈ L, IntsAt w x.v x.aft
section
variable {w w' : World} {v : Value} {L : List Sp}
theorem SpsAt.kept (h : SpsAt w v L) (hb : Below w.heap.size w w') : SpsAt w' v L := ⟨RowsAt.kept h.1 hb, fun x hx => (h.2 x hx).below hb⟩
theorem SpsAt.form (h : SpsAt w v L) : ∃ a c, v = .slice a L.length c := RowsAt.form h.1
theorem SpsAt.spot (h : SpsAt w v L) (k : Nat) (hk : k < L.length) : ∃ g o cc id prio sk ge fx fy tx ty a c l, L[k] = ⟨id, prio, sk, ge, fx, fy, tx, ty, a, c, l⟩ ∧ v = .slice (some ⟨g, o, none⟩) L.length cc ∧ L.length ≤ cc ∧
    w.cell? ⟨g, o + k * 9, none⟩ = some (.int .i64 id) ∧ w.cell? ⟨g, o + k * 9 + 1, none⟩ = some (.int .i64 prio) ∧ w.cell? ⟨g, o + k * 9 + 2, none⟩ = some (.int .u64 sk) ∧ w.cell? ⟨g, o + k * 9 + 3, none⟩ = some (.int .u64 ge) ∧
    w.cell? ⟨g, o + k * 9 + 4, none⟩ = some (.int .i64 fx) ∧ w.cell? ⟨g, o + k * 9 + 5, none⟩ = some (.int .i64 fy) ∧ w.cell? ⟨g, o + k * 9 + 6, none⟩ = some (.int .i64 tx) ∧ w.cell? ⟨g, o + k * 9 + 7, none⟩ = some (.int .i64 ty) ∧
    w.cell? ⟨g, o + k * 9 + 8, none⟩ = some (.slice a l.length c) ∧ IntsAt w (.slice a l.length c) l := by
  obtain ⟨g, o, cc, e, hc, _, hx⟩ := RowsAt.spot h.1 k hk
  have hi := h.2 _ (List.getElem_mem hk)
  generalize L[k] = x at *
  obtain ⟨id, prio, sk, ge, fx, fy, tx, ty, a, c, l⟩ := x
  exact ⟨g, o, cc, id, prio, sk, ge, fx, fy, tx, ty, a, c, l, rfl, e, hc, hx 0 _ rfl, hx 1 _ rfl, hx 2 _ rfl, hx 3 _ rfl, hx 4 _ rfl, hx 5 _ rfl, hx 6 _ rfl, hx 7 _ rfl, hx 8 _ rfl, hi⟩
end
theorem all_drop {α : Type} (p : α → Bool) (l : List α) (j : Nat) (h : j < l.length) : (l.drop j).all p = (p l[j] && (l.drop (j + 1)).all p) := by
  rw [List.drop_eq_getElem_cons h, List.all_cons]

set_option maxHeartbeats 1000000 in
theorem allI_any (p : Int → Bool) (g : FuncId) (q : Value) (eg : ∀ args w, (callFunc g args).run Tryz.prog w = .ok (.enter g args) w)
    (va : Value) (l : List Int) (w : World) (hl : IntsAt w va l) (hlen : l.length ≤ 1000000)
    (hT : ∀ w' x, x ∈ l → Below w.heap.size w w' → Calls Tryz.prog g #[.int .i64 x, q] w' fun e w'' => e = .returned (.bool (p x)) ∧ Below w'.heap.size w' w'') :
    Calls Tryz.prog 68 #[va, .func (.func g) #[] #[q]] w fun e w' => e = .returned (.bool (l.all p)) ∧ Below w.heap.size w w' := by
  obtain ⟨r, hr⟩ : ∃ r, l.all p = r := ⟨_, rfl⟩
  rw [hr]
  have HR := Lib.hid hr
  have HT := Lib.hid hT
  have HL := Lib.hid hl
  have HLE := Lib.hid hlen
  obtain ⟨a, c, rfl⟩ := hl.form
  clear hr hT hl
  go_enter Tryz.func68, Tryz.ntmps68
  go_wp2
  refine wp_scope_goto 0 (fun n a' w' => ∃ (j : Nat) (z : Int), n = l.length - j ∧ z = j ∧ j ≤ l.length ∧ (l.drop j).all p = r ∧ Below w.heap.size w w' ∧ ∃ u2 u3 u6 u7 u8 u9 u10 u11 u12 u13 u14 u15 u16 u17 u18, a' = { tmps := #[.slice a l.length c, .func (.func g) #[] #[q], u2, u3, .bool false, .int .i64 z, u6, u7, u8, u9, u10, u11, u12, u13, u14, u15, u16, u17, u18], defers := [] }) rfl rfl ?_ ?_
  · rintro n a' w' ⟨j, _, rfl, rfl, hj, hrun, hmv, u2, u3, u6, u7, u8, u9, u10, u11, u12, u13, u14, u15, u16, u17, u18, rfl⟩ K hK
    have HK := Lib.hid hK
    have HM := Lib.hid hmv
    have HRU := Lib.hid hrun
    clear hK hmv hrun
    by_cases hlt : j < l.length
    · obtain ⟨gb, o, cc, e, hlc, _, p0⟩ := (HL.out.below HM.out).spot j hlt
      cases e
      have hx := HT.out w' l[j] (List.getElem_mem hlt) HM.out
      have hd := all_drop p l j hlt
      generalize l[j] = x at *
      obtain ⟨b, hsb⟩ : ∃ b, p x = b := ⟨_, rfl⟩
      rw [hsb] at hx hd
      have HX := Lib.hid hx
      have HD := Lib.hid hd
      have j0 : (0 : Int) ≤ (j : Int) := by omega
      have j1 : (j : Int) < (l.length : Int) := by omega
      have j2 : ((j : Int) == (l.length : Int)) = false := beq_noI (by omega)
      clear hx hd hsb
      cases b with
      | true =>
        go_wp2_with (go_at_fn g; (with_reducible refine HX.out.mono ?_); rintro e w1 ⟨rfl, hm1⟩; have HM3 := Lib.hid (HM.out.trans (hm1.mono HM.out.size)); clear hm1)
        go_step3
        exact ⟨rfl, HK.out (l.length - (j + 1)) _ _ (by omega) ⟨j + 1, _, rfl, by omega, by omega, by have := HD.out; rw [Bool.true_and] at this; exact this.symm.trans HRU.out, HM3.out, _, _, _, _, _, _, _, _, _, _, _, _, _, _, _,  rfl⟩⟩
      | false =>
        have HF := Lib.hid (show false = r by rw [← HRU.out, HD.out, Bool.false_and])
        go_wp2_with (go_at_fn g; (with_reducible refine HX.out.mono ?_); rintro e w1 ⟨rfl, hm1⟩; have HM3 := Lib.hid (HM.out.trans (hm1.mono HM.out.size)); clear hm1)
        simp only [Exit.jump]
        go_ret
        exact ⟨ret_b HF.out, HM3.out⟩
    · have e : j = l.length := by omega
      subst e
      have hrr := HRU.out
      rw [List.drop_length] at hrr
      have HF := Lib.hid (show true = r from hrr)
      clear hrr hlt
      go_wp2
      simp only [Exit.jump]
      go_ret
      exact ⟨ret_b HF.out, HM.out⟩
  · intro K hpass
    go_wp2
    go_step3
    rename_i hback
    exact hback _ _ (hpass (l.length - 0) _ _ ⟨0, _, rfl, rfl, by omega, HR.out, Below.refl _ _, _, _, _, _, _, _, _, _, _, _, _, _, _, _, _,  rfl⟩)

set_option maxHeartbeats 1000000 in
theorem allS_any (p : Sp → Bool) (g : FuncId) (q : Value) (eg : ∀ args w, (callFunc g args).run Tryz.prog w = .ok (.enter g args) w)
    (va : Value) (l : List Sp) (w : World) (hl : SpsAt w va l) (hlen : l.length ≤ 1000000)
    (hT : ∀ w' x, x ∈ l → IntsAt w' x.v x.aft → Below w.heap.size w w' → Calls Tryz.prog g #[q, spv x] w' fun e w'' => e = .returned (.bool (p x)) ∧ Below w'.heap.size w' w'') :
    Calls Tryz.prog 54 #[va, .func (.func g) #[q] #[]] w fun e w' => e = .returned (.bool (l.all p)) ∧ Below w.heap.size w w' := by
  obtain ⟨r, hr⟩ : ∃ r, l.all p = r := ⟨_, rfl⟩
  rw [hr]
  have HR := Lib.hid hr
  have HT := Lib.hid hT
  have HL := Lib.hid hl
  have HLE := Lib.hid hlen
  obtain ⟨a, c, rfl⟩ := hl.form
  clear hr hT hl
  go_enter Tryz.func54, Tryz.ntmps54
  go_wp2
  refine wp_scope_goto 0 (fun n a' w' => ∃ (j : Nat) (z : Int), n = l.length - j ∧ z = j ∧ j ≤ l.length ∧ (l.drop j).all p = r ∧ Below w.heap.size w w' ∧ ∃ u2 u3 u6 u7 u8 u9 u10 u11 u12 u13 u14 u15 u16 u17 u18, a' = { tmps := #[.slice a l.length c, .func (.func g) #[q] #[], u2, u3, .bool false, .int .i64 z, u6, u7, u8, u9, u10, u11, u12, u13, u14, u15, u16, u17, u18], defers := [] }) rfl rfl ?_ ?_
  · rintro n a' w' ⟨j, _, rfl, rfl, hj, hrun, hmv, u2, u3, u6, u7, u8, u9, u10, u11, u12, u13, u14, u15, u16, u17, u18, rfl⟩ K hK
    have HK := Lib.hid hK
    have HM := Lib.hid hmv
    have HRU := Lib.hid hrun
    clear hK hmv hrun
    by_cases hlt : j < l.length
    · obtain ⟨gb, o, cc, id, prio, sk, ge, fx, fy, tx, ty, a8, c8, l8, he, e, hlc, p0, p1, p2, p3, p4, p5, p6, p7, p8, hi8⟩ := (HL.out.kept HM.out).spot j hlt
      cases e
      have hx := HT.out w' l[j] (List.getElem_mem hlt) (by rw [he]; exact hi8) HM.out
      have hd := all_drop p l j hlt
      rw [he] at hx hd
      dsimp only [spv] at hx
      obtain ⟨b, hsb⟩ : ∃ b, p ⟨id, prio, sk, ge, fx, fy, tx, ty, a8, c8, l8⟩ = b := ⟨_, rfl⟩
      rw [hsb] at hx hd
      have HX := Lib.hid hx
      have HD := Lib.hid hd
      have j0 : (0 : Int) ≤ (j : Int) := by omega
      have j1 : (j : Int) < (l.length : Int) := by omega
      have j2 : ((j : Int) == (l.length : Int)) = false := beq_noI (by omega)
      clear hx hd hsb he hi8
      cases b with
      | true =>
        go_wp2_with (go_at_fn g; (with_reducible refine HX.out.mono ?_); rintro e w1 ⟨rfl, hm1⟩; have HM3 := Lib.hid (HM.out.trans (hm1.mono HM.out.size)); clear hm1)
        go_step3
        exact ⟨rfl, HK.out (l.length - (j + 1)) _ _ (by omega) ⟨j + 1, _, rfl, by omega, by omega, by have := HD.out; rw [Bool.true_and] at this; exact this.symm.trans HRU.out, HM3.out, _, _, _, _, _, _, _, _, _, _, _, _, _, _, _,  rfl⟩⟩
      | false =>
        have HF := Lib.hid (show false = r by rw [← HRU.out, HD.out, Bool.false_and])
        go_wp2_with (go_at_fn g; (with_reducible refine HX.out.mono ?_); rintro e w1 ⟨rfl, hm1⟩; have HM3 := Lib.hid (HM.out.trans (hm1.mono HM.out.size)); clear hm1)
        simp only [Exit.jump]
        go_ret
        exact ⟨ret_b HF.out, HM3.out⟩
    · have e : j = l.length := by omega
      subst e
      have hrr := HRU.out
      rw [List.drop_length] at hrr
      have HF := Lib.hid (show true = r from hrr)
      clear hrr hlt
      go_wp2
      simp only [Exit.jump]
      go_ret
      exact ⟨ret_b HF.out, HM.out⟩
  · intro K hpass
    go_wp2
    go_step3
    rename_i hback
    exact hback _ _ (hpass (l.length - 0) _ _ ⟨0, _, rfl, rfl, by omega, HR.out, Below.refl _ _, _, _, _, _, _, _, _, _, _, _, _, _, _, _, _,  rfl⟩)
end Go.Proofs.YthchkhgimnchcaaGreat
