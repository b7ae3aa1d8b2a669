/- Sums of 32 bits: plain mathematics. -/
import Derived.Test.YtmmaodcihpgdfaaRows
namespace Go.Proofs.Ytmmaodcihpgdfaa

/-- one shift of the register -/
def st (w : Nat) : Nat := if w % 2 = 1 then w / 2 ^^^ 3988292384 else w / 2
theorem xor_half (a b : Nat) : (a ^^^ b) / 2 = a / 2 ^^^ b / 2 := by
  apply Nat.eq_of_testBit_eq
  intro i
  simp only [Nat.testBit_xor, Nat.testBit_div_two]
theorem xor_odd (a b : Nat) : (a ^^^ b) % 2 = (a % 2 + b % 2) % 2 := by
  have h := Nat.testBit_xor a b 0
  simp only [Nat.testBit_zero] at h
  rcases Nat.mod_two_eq_zero_or_one a with h1 | h1 <;> rcases Nat.mod_two_eq_zero_or_one b with h2 | h2 <;> rcases Nat.mod_two_eq_zero_or_one (a ^^^ b) with h3 | h3 <;> simp [h1, h2, h3] at h ⊢
theorem xor_four (a b c d : Nat) : (a ^^^ c) ^^^ (b ^^^ d) = (a ^^^ b) ^^^ (c ^^^ d) := by
  rw [Nat.xor_assoc, Nat.xor_assoc, ← Nat.xor_assoc c, Nat.xor_comm c b, Nat.xor_assoc]
theorem st_xor (a b : Nat) : st (a ^^^ b) = st a ^^^ st b := by
  unfold st
  rw [xor_half, xor_odd]
  rcases Nat.mod_two_eq_zero_or_one a with h1 | h1 <;> rcases Nat.mod_two_eq_zero_or_one b with h2 | h2 <;> rw [h1, h2]
  · rfl
  · simp only [Nat.zero_add, Nat.reduceMod, if_true, if_neg (show ¬ (0 = 1) by decide)]
    rw [Nat.xor_assoc]
  · simp only [Nat.add_zero, Nat.reduceMod, if_true, if_neg (show ¬ (0 = 1) by decide)]
    rw [Nat.xor_assoc, Nat.xor_assoc, Nat.xor_comm (b / 2)]
  · simp only [Nat.reduceAdd, Nat.reduceMod, if_true, if_neg (show ¬ (0 = 1) by decide)]
    rw [xor_four, Nat.xor_self, Nat.xor_zero]
theorem st_lt {w : Nat} (h : w < 2 ^ 32) : st w < 2 ^ 32 := by
  unfold st
  split
  · exact Nat.xor_lt_two_pow (by omega) (by decide)
  · omega
theorem st_zero {w : Nat} (h : w < 2 ^ 32) : st w = 0 ↔ w = 0 := by
  constructor
  · intro h0
    unfold st at h0
    split at h0
    · exfalso
      have h1 : (w / 2 ^^^ 3988292384).testBit 31 = false := by rw [h0]; simp
      rw [Nat.testBit_xor, Nat.testBit_lt_two_pow (show w / 2 < 2 ^ 31 by omega)] at h1
      exact absurd h1 (by decide)
    · omega
  · intro e
    subst e
    rfl
theorem st_even (m : Nat) : st (2 * m) = m := by
  unfold st
  rw [if_neg (by omega)]
  omega
def sti : Nat → Nat → Nat
  | 0, w => w
  | k + 1, w => sti k (st w)
theorem sti_add (a b w : Nat) : sti (a + b) w = sti b (sti a w) := by
  induction a generalizing w with
  | zero => simp [sti]
  | succ a ih => rw [show a + 1 + b = (a + b) + 1 by omega]; simp only [sti]; exact ih _
theorem sti_xor (k : Nat) : ∀ a b, sti k (a ^^^ b) = sti k a ^^^ sti k b := by
  induction k with
  | zero => intro a b; rfl
  | succ k ih => intro a b; simp only [sti]; rw [st_xor, ih]
theorem sti_shift (k : Nat) : ∀ m, sti k (2 ^ k * m) = m := by
  induction k with
  | zero => intro m; simp [sti]
  | succ k ih =>
    intro m
    simp only [sti]
    rw [Nat.pow_succ, Nat.mul_comm (2 ^ k) 2, Nat.mul_assoc, st_even, ih]
theorem sti_lt (k : Nat) : ∀ w, w < 2 ^ 32 → sti k w < 2 ^ 32 := by
  induction k with
  | zero => intro w h; exact h
  | succ k ih => intro w h; exact ih _ (st_lt h)
theorem sti_zero (k : Nat) : ∀ w, w < 2 ^ 32 → (sti k w = 0 ↔ w = 0) := by
  induction k with
  | zero => intro w _; exact Iff.rfl
  | succ k ih => intro w h; simp only [sti]; rw [ih _ (st_lt h), st_zero h]

/-- the register behind bytes -/
def reg (w : Nat) (l : List Nat) : Nat := l.foldl (fun w b => sti 8 (w ^^^ b)) w
/-- bytes as one number -/
def nums : List Nat → Nat
  | [] => 0
  | b :: l => b ^^^ 2 ^ 8 * nums l
theorem reg_is (l : List Nat) : ∀ w, reg w l = sti (8 * l.length) (w ^^^ nums l) := by
  induction l with
  | nil => intro w; simp [reg, nums, sti]
  | cons b l ih =>
    intro w
    have e : reg w (b :: l) = reg (sti 8 (w ^^^ b)) l := rfl
    have h8 : sti 8 (w ^^^ b ^^^ 2 ^ 8 * nums l) = sti 8 (w ^^^ b) ^^^ nums l := by rw [sti_xor, sti_shift]
    rw [e, ih, List.length_cons, show 8 * (l.length + 1) = 8 + 8 * l.length by omega, sti_add]
    show _ = sti (8 * l.length) (sti 8 (w ^^^ (b ^^^ 2 ^ 8 * nums l)))
    rw [← Nat.xor_assoc, h8]
theorem reg_append (w : Nat) (a b : List Nat) : reg w (a ++ b) = reg (reg w a) b := by unfold reg; rw [List.foldl_append]
theorem reg_lt (l : List Nat) : ∀ w, w < 2 ^ 32 → (∀ b ∈ l, b < 256) → reg w l < 2 ^ 32 := by
  induction l with
  | nil => intro w h _; exact h
  | cons b l ih =>
    intro w h hb
    exact ih _ (sti_lt 8 _ (Nat.xor_lt_two_pow h (by have := hb b (by simp); omega))) fun x hx => hb x (by simp [hx])
theorem mul_xor (k m n : Nat) : 2 ^ k * (m ^^^ n) = 2 ^ k * m ^^^ 2 ^ k * n := by
  apply Nat.eq_of_testBit_eq
  intro i
  simp only [Nat.testBit_xor, Nat.testBit_two_pow_mul]
  cases decide (i ≥ k) <;> simp
def xorL (a b : List Nat) : List Nat := List.zipWith (fun x y => x ^^^ y) a b
theorem nums_xor (a : List Nat) : ∀ b, a.length = b.length → nums (xorL a b) = nums a ^^^ nums b := by
  induction a with
  | nil => intro b h; cases b with
    | nil => rfl
    | cons y b => simp at h
  | cons x a ih =>
    intro b h
    cases b with
    | nil => simp at h
    | cons y b =>
      have e : xorL (x :: a) (y :: b) = (x ^^^ y) :: xorL a b := rfl
      rw [e]
      simp only [nums]
      rw [ih b (by simpa using h), mul_xor, xor_four]
theorem xorL_length (a b : List Nat) (h : a.length = b.length) : (xorL a b).length = a.length := by unfold xorL; simp [h]
theorem reg_xor (u v : Nat) (a b : List Nat) (h : a.length = b.length) : reg (u ^^^ v) (xorL a b) = reg u a ^^^ reg v b := by
  rw [reg_is, reg_is, reg_is, xorL_length a b h, nums_xor a b h, ← xor_four, sti_xor, h]

/-- each bit turned -/
def tn9 (w : Nat) : Nat := 4294967295 - w
theorem tn9_xor {w : Nat} (h : w < 2 ^ 32) : tn9 w = w ^^^ 4294967295 := by
  unfold tn9
  apply Nat.eq_of_testBit_eq
  intro i
  rw [show 4294967295 - w = 2 ^ 32 - (w + 1) by omega, Nat.testBit_two_pow_sub_succ h, Nat.testBit_xor, show (4294967295 : Nat) = 2 ^ 32 - 1 by decide, Nat.testBit_two_pow_sub_one]
  by_cases hi : i < 32
  · simp [hi]
  · rw [Nat.testBit_lt_two_pow (Nat.lt_of_lt_of_le h (Nat.pow_le_pow_right (by decide) (by omega)))]
    simp [hi]
theorem tn9_trn {w : Nat} (h : w < 2 ^ 32) : tn9 (tn9 w) = w := by unfold tn9; omega
def mor (s : Nat) (l : List Nat) : Nat := tn9 (reg (tn9 s) l)
def sm (l : List Nat) : Nat := mor 0 l
theorem tn9_lt (w : Nat) : tn9 w < 2 ^ 32 := by unfold tn9; omega
theorem mor_more (a b : List Nat) (ha : ∀ x ∈ a, x < 256) : mor (sm a) b = sm (a ++ b) := by
  unfold sm mor
  rw [reg_append, tn9_trn (reg_lt a _ (tn9_lt 0) ha)]
theorem sm_three (a b c : List Nat) (h1 : a.length = b.length) (h2 : a.length = c.length) (ha : ∀ x ∈ a, x < 256) (hb : ∀ x ∈ b, x < 256) (hc : ∀ x ∈ c, x < 256) (hx : ∀ x ∈ xorL a (xorL b c), x < 256) : sm (xorL a (xorL b c)) = sm a ^^^ sm b ^^^ sm c := by
  unfold sm mor
  have t0 : tn9 0 = 4294967295 := rfl
  have e : reg (tn9 0) (xorL a (xorL b c)) = reg (tn9 0) a ^^^ (reg (tn9 0) b ^^^ reg (tn9 0) c) := by
    rw [← reg_xor _ _ b c (by omega), ← reg_xor _ _ a _ (by rw [xorL_length b c (by omega)]; exact h1), Nat.xor_self, Nat.xor_zero]
  have hA := reg_lt a (tn9 0) (tn9_lt 0) ha
  have hB := reg_lt b (tn9 0) (tn9_lt 0) hb
  have hC := reg_lt c (tn9 0) (tn9_lt 0) hc
  rw [tn9_xor (reg_lt _ _ (tn9_lt 0) hx), e, tn9_xor hA, tn9_xor hB, tn9_xor hC]
  generalize reg (tn9 0) a = A
  generalize reg (tn9 0) b = B
  generalize reg (tn9 0) c = C
  apply Nat.eq_of_testBit_eq
  intro i
  simp only [Nat.testBit_xor]
  generalize A.testBit i = x
  generalize B.testBit i = y
  generalize C.testBit i = z
  generalize Nat.testBit 4294967295 i = t
  cases x <;> cases y <;> cases z <;> cases t <;> rfl

/-- bytes, laid over a number -/
def flx (Q : Nat) : List Nat → List Nat
  | [] => []
  | b :: l => (b ^^^ Q % 256) :: flx (Q / 256) l
theorem flx_length (l : List Nat) : ∀ Q, (flx Q l).length = l.length := by
  induction l with
  | nil => intro Q; rfl
  | cons b l ih => intro Q; simp [flx, ih]
theorem flx_at (l : List Nat) : ∀ Q j (h : j < l.length), (flx Q l)[j]? = some (l[j] ^^^ Q / 256 ^ j % 256) := by
  induction l with
  | nil => intro Q j h; simp at h
  | cons b l ih =>
    intro Q j h
    cases j with
    | zero => simp [flx]
    | succ j =>
      have := ih (Q / 256) j (by simpa using h)
      simp only [flx, List.getElem?_cons_succ, this, List.getElem_cons_succ]
      rw [Nat.div_div_eq_div_mul, Nat.pow_succ, Nat.mul_comm 256]
theorem flx_byte (l : List Nat) : ∀ Q, (∀ b ∈ l, b < 256) → ∀ b ∈ flx Q l, b < 256 := by
  induction l with
  | nil => intro Q _ b hb; simp [flx] at hb
  | cons x l ih =>
    intro Q h b hb
    rcases List.mem_cons.1 hb with rfl | hb
    · exact Nat.xor_lt_two_pow (n := 8) (h x (by simp)) (Nat.mod_lt _ (by decide))
    · exact ih _ (fun y hy => h y (by simp [hy])) b hb
theorem flx_twice (l : List Nat) : ∀ Q, flx Q (flx Q l) = l := by
  induction l with
  | nil => intro Q; rfl
  | cons x l ih => intro Q; simp only [flx, ih]; rw [Nat.xor_assoc, Nat.xor_self, Nat.xor_zero]
theorem low_xor {r : Nat} (h : r < 256) (m : Nat) : r + 2 ^ 8 * m = r ^^^ 2 ^ 8 * m := by
  apply Nat.eq_of_testBit_eq
  intro i
  rw [Nat.add_comm, Nat.testBit_two_pow_mul_add _ h, Nat.testBit_xor, Nat.testBit_two_pow_mul]
  by_cases hi : i < 8
  · rw [if_pos hi, decide_eq_false (show ¬ i ≥ 8 by omega)]
    simp
  · rw [if_neg hi, decide_eq_true (show i ≥ 8 by omega), Nat.testBit_lt_two_pow (show r < 2 ^ i from Nat.lt_of_lt_of_le h (Nat.pow_le_pow_right (n := 2) (by decide) (show 8 ≤ i by omega)))]
    simp
theorem nums_flx (l : List Nat) : ∀ Q, nums (flx Q l) = nums l ^^^ Q % 256 ^ l.length := by
  induction l with
  | nil => intro Q; simp [flx, nums, Nat.mod_one]
  | cons b l ih =>
    intro Q
    simp only [flx, nums]
    have hp : (256 : Nat) ^ (l.length + 1) = 256 * 256 ^ l.length := by rw [Nat.pow_add_one, Nat.mul_comm]
    rw [ih, mul_xor, xor_four, List.length_cons, hp, Nat.mod_mul, show (256 : Nat) * (Q / 256 % 256 ^ l.length) = 2 ^ 8 * (Q / 256 % 256 ^ l.length) from rfl, low_xor (Nat.mod_lt _ (by decide))]
theorem flx_zero (l : List Nat) : ∀ Q, Q % 256 ^ l.length = 0 → flx Q l = l := by
  induction l with
  | nil => intro Q _; rfl
  | cons b l ih =>
    intro Q h
    rw [List.length_cons, Nat.pow_succ, Nat.mul_comm (256 ^ l.length), Nat.mod_mul] at h
    have h1 : Q % 256 = 0 := by omega
    have h2 : Q / 256 % 256 ^ l.length = 0 := by omega
    simp only [flx]
    rw [h1, ih _ h2, Nat.xor_zero]
theorem xor_left {a b : Nat} (h : a ^^^ b = a) : b = 0 := by
  have : a ^^^ (a ^^^ b) = a ^^^ a := by rw [h]
  rwa [← Nat.xor_assoc, Nat.xor_self, Nat.zero_xor] at this
theorem flx_same (l : List Nat) (Q : Nat) : flx Q l = l ↔ Q % 256 ^ l.length = 0 := by
  constructor
  · intro h
    have := nums_flx l Q
    rw [h] at this
    exact xor_left this.symm
  · exact flx_zero l Q
theorem tells (l : List Nat) (at_ by_ : Nat) (h : at_ < 8 * l.length) (hby : by_ < 2 ^ 32) (hl : ∀ b ∈ l, b < 256) : sm (flx (by_ * 2 ^ at_) l) = sm l ↔ flx (by_ * 2 ^ at_) l = l := by
  rw [flx_same]
  have hp : (256 : Nat) ^ l.length = 2 ^ at_ * 2 ^ (8 * l.length - at_) := by
    rw [← Nat.pow_add, show at_ + (8 * l.length - at_) = 8 * l.length by omega, Nat.pow_mul]
  have hq : by_ * 2 ^ at_ % 256 ^ l.length = 2 ^ at_ * (by_ % 2 ^ (8 * l.length - at_)) := by
    rw [hp, Nat.mul_comm by_, Nat.mul_mod_mul_left]
  have hD : by_ % 2 ^ (8 * l.length - at_) < 2 ^ 32 := Nat.lt_of_le_of_lt (Nat.mod_le _ _) hby
  have hr : reg (tn9 0) (flx (by_ * 2 ^ at_) l) = reg (tn9 0) l ^^^ sti (8 * l.length - at_) (by_ % 2 ^ (8 * l.length - at_)) := by
    have hs : sti (8 * l.length) (2 ^ at_ * (by_ % 2 ^ (8 * l.length - at_))) = sti (8 * l.length - at_) (by_ % 2 ^ (8 * l.length - at_)) := by
      have := sti_add at_ (8 * l.length - at_) (2 ^ at_ * (by_ % 2 ^ (8 * l.length - at_)))
      rw [show at_ + (8 * l.length - at_) = 8 * l.length by omega, sti_shift] at this
      exact this
    rw [reg_is, reg_is, flx_length, nums_flx, ← Nat.xor_assoc, sti_xor, hq, hs]
  have hA := reg_lt l (tn9 0) (tn9_lt 0) hl
  have hB := reg_lt (flx (by_ * 2 ^ at_) l) (tn9 0) (tn9_lt 0) (flx_byte l _ hl)
  have hz := sti_zero (8 * l.length - at_) _ hD
  rw [hq]
  constructor
  · intro h
    unfold sm mor at h
    have h2 : reg (tn9 0) (flx (by_ * 2 ^ at_) l) = reg (tn9 0) l := by
      have := congrArg tn9 h
      rwa [tn9_trn hA, tn9_trn hB] at this
    rw [hr] at h2
    rw [hz.1 (xor_left h2), Nat.mul_zero]
  · intro h
    have h0 : by_ % 2 ^ (8 * l.length - at_) = 0 := by
      rcases Nat.mul_eq_zero.1 h with h | h
      · exact absurd h (Nat.ne_of_gt (Nat.two_pow_pos _))
      · exact h
    unfold sm mor
    rw [hr, hz.2 h0, Nat.xor_zero]
end Go.Proofs.Ytmmaodcihpgdfaa
