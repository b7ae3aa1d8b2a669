/- Numbers as bytes: plain mathematics. -/
import Derived.Test.YtmmaodcihpgdfaaRows
namespace Go.Proofs.Ytmmaodcihpgdfaa

/-! ### The greatest one first -/
def bigs : Nat → Nat → List Nat
  | 0, _ => []
  | k + 1, w => (w / 256 ^ k % 256) :: bigs k w
theorem bigs_length (k w : Nat) : (bigs k w).length = k := by
  induction k with
  | zero => rfl
  | succ k ih => simp [bigs, ih]
theorem bigs_byte (k w : Nat) : ∀ b ∈ bigs k w, b < 256 := by
  induction k with
  | zero => intro b hb; simp [bigs] at hb
  | succ k ih =>
    intro b hb
    rcases List.mem_cons.1 hb with rfl | hb
    · exact Nat.mod_lt _ (by decide)
    · exact ih b hb
def unbigA (a : Nat) (l : List Nat) : Nat := l.foldl (fun w b => w * 256 + b) a
def unbig (l : List Nat) : Nat := unbigA 0 l
theorem unbigA_is (l : List Nat) : ∀ a, unbigA a l = a * 256 ^ l.length + unbig l := by
  induction l with
  | nil => intro a; simp [unbig, unbigA]
  | cons b l ih =>
    intro a
    have e1 : unbigA a (b :: l) = unbigA (a * 256 + b) l := rfl
    have e2 : unbig (b :: l) = unbigA (0 * 256 + b) l := rfl
    rw [e1, e2, ih, ih (0 * 256 + b), List.length_cons, Nat.pow_succ]
    grind
theorem unbig_cons (b : Nat) (l : List Nat) : unbig (b :: l) = b * 256 ^ l.length + unbig l := by
  have e2 : unbig (b :: l) = unbigA (0 * 256 + b) l := rfl
  rw [e2, unbigA_is]
  simp
theorem unbig_bigs (k w : Nat) : unbig (bigs k w) = w % 256 ^ k := by
  induction k with
  | zero => simp [bigs, unbig, unbigA, Nat.mod_one]
  | succ k ih =>
    have e : bigs (k + 1) w = (w / 256 ^ k % 256) :: bigs k w := rfl
    rw [e, unbig_cons, bigs_length, ih, Nat.pow_succ, Nat.mod_mul, Nat.mul_comm]
    omega
theorem unbig_lt (l : List Nat) (h : ∀ b ∈ l, b < 256) : unbig l < 256 ^ l.length := by
  induction l with
  | nil => simp [unbig, unbigA]
  | cons b l ih =>
    have h1 := ih fun x hx => h x (by simp [hx])
    have h2 : b ≤ 255 := by have := h b (by simp); omega
    rw [unbig_cons, List.length_cons, Nat.pow_succ]
    have h3 : b * 256 ^ l.length ≤ 255 * 256 ^ l.length := Nat.mul_le_mul_right _ h2
    omega
theorem bigs_mod (k : Nat) : ∀ m w, k ≤ m → bigs k (w % 256 ^ m) = bigs k w := by
  induction k with
  | zero => intro m w _; rfl
  | succ k ih =>
    intro m w h
    unfold bigs
    rw [ih m w (by omega)]
    congr 1
    obtain ⟨d, rfl⟩ : ∃ d, m = k + 1 + d := ⟨m - (k + 1), by omega⟩
    rw [show k + 1 + d = k + (1 + d) by omega, Nat.pow_add, Nat.mod_mul_right_div_self, Nat.pow_add, Nat.pow_one, Nat.mod_mul_right_mod]
theorem bigs_unbig (l : List Nat) (h : ∀ b ∈ l, b < 256) : bigs l.length (unbig l) = l := by
  induction l with
  | nil => rfl
  | cons b l ih =>
    have h0 : b < 256 := h b (by simp)
    have h1 := ih fun x hx => h x (by simp [hx])
    have h2 := unbig_lt l fun x hx => h x (by simp [hx])
    rw [List.length_cons]
    unfold bigs
    have e1 : unbig (b :: l) / 256 ^ l.length = b := by
      rw [unbig_cons, Nat.add_comm, Nat.add_mul_div_right _ _ (Nat.pow_pos (by decide)), Nat.div_eq_of_lt h2]
      omega
    have e2 : bigs l.length (unbig (b :: l)) = bigs l.length (unbig l) := by
      rw [← bigs_mod l.length l.length (unbig (b :: l)) (Nat.le_refl _), unbig_cons, Nat.add_comm, Nat.add_mul_mod_self_right, Nat.mod_eq_of_lt h2]
    rw [e1, e2, h1, Nat.mod_eq_of_lt h0]
theorem bigs_same {k w x : Nat} (h : x = w % 256 ^ k) : bigs k x = bigs k w := by rw [h]; exact bigs_mod k k w (Nat.le_refl _)

/-! ### The short form -/
def varL (w : Nat) : List Nat := if w < 128 then [w] else (w % 128 + 128) :: varL (w / 128)
termination_by w
decreasing_by omega
theorem varL_lo {w : Nat} (h : w < 128) : varL w = [w] := by rw [varL, if_pos h]
theorem varL_hi {w : Nat} (h : ¬ w < 128) : varL w = (w % 128 + 128) :: varL (w / 128) := by rw [varL, if_neg h]
theorem varL_byte (w : Nat) : ∀ b ∈ varL w, b < 256 := by
  induction w using Nat.strongRecOn with
  | ind w ih =>
    by_cases h : w < 128
    · rw [varL_lo h]; intro b hb; simp at hb; omega
    · rw [varL_hi h]
      intro b hb
      rcases List.mem_cons.1 hb with rfl | hb
      · omega
      · exact ih (w / 128) (by omega) b hb
theorem varL_mono (w : Nat) : ∀ v, w ≤ v → (varL w).length ≤ (varL v).length := by
  induction w using Nat.strongRecOn with
  | ind w ih =>
    intro v hv
    by_cases h : w < 128
    · rw [varL_lo h]
      by_cases h2 : v < 128
      · rw [varL_lo h2]; exact Nat.le_refl _
      · rw [varL_hi h2]; simp
    · rw [varL_hi h, varL_hi (show ¬ v < 128 by omega)]
      have := ih (w / 128) (by omega) (v / 128) (by omega)
      simp only [List.length_cons]
      omega
theorem varL_len (n : Nat) : ∀ w, w < 128 ^ (n + 1) → (varL w).length ≤ n + 1 := by
  induction n with
  | zero => intro w h; rw [varL_lo (by simpa using h)]; simp
  | succ n ih =>
    intro w h
    by_cases h2 : w < 128
    · rw [varL_lo h2]; simp
    · rw [varL_hi h2, List.length_cons]
      have := ih (w / 128) (by rw [Nat.div_lt_iff_lt_mul (by decide)]; rw [Nat.pow_succ] at h; exact h)
      omega
/-- what is read: the number, what is behind it, what is wrong (1: too short, 2: no form) -/
def unv (i a : Nat) : List Nat → Nat × List Nat × Nat
  | [] => (0, [], 1)
  | b :: l => if (i = 9 ∧ 1 < b) ∨ (0 < i ∧ b = 0) then (0, [], 2) else if b < 128 then (a + 128 ^ i * (b % 128), l, 0) else unv (i + 1) (a + 128 ^ i * (b % 128)) l
theorem pow9 : (128 : Nat) ^ 9 * 2 = 2 ^ 64 := by decide
theorem unv_var (r : List Nat) (w : Nat) : ∀ i a, (i = 0 ∨ 0 < w) → 128 ^ i * w < 2 ^ 64 → unv i a (varL w ++ r) = (a + 128 ^ i * w, r, 0) := by
  induction w using Nat.strongRecOn with
  | ind w ih =>
    intro i a h0 hb
    have hi9 : i = 9 → w < 2 := by
      intro e
      rw [e, ← pow9] at hb
      exact Nat.lt_of_mul_lt_mul_left hb
    by_cases h : w < 128
    · rw [varL_lo h]
      show unv i a (w :: r) = _
      unfold unv
      rw [if_neg (by omega), if_pos h, Nat.mod_eq_of_lt h]
    · rw [varL_hi h]
      show unv i a ((w % 128 + 128) :: (varL (w / 128) ++ r)) = _
      unfold unv
      rw [if_neg (by omega), if_neg (by omega)]
      have hm : 128 ^ (i + 1) * (w / 128) ≤ 128 ^ i * w := by
        rw [Nat.pow_succ, Nat.mul_assoc]
        exact Nat.mul_le_mul_left _ (by omega)
      rw [ih (w / 128) (by omega) (i + 1) _ (by omega) (by omega)]
      have e : a + 128 ^ i * ((w % 128 + 128) % 128) + 128 ^ (i + 1) * (w / 128) = a + 128 ^ i * w := by
        rw [Nat.pow_succ, Nat.mul_assoc, Nat.add_assoc, ← Nat.mul_add]
        congr 2
        omega
      rw [e]
theorem unv_back (z : Nat) (r : List Nat) (l : List Nat) : ∀ i a, (∀ b ∈ l, b < 256) → unv i a l = (z, r, 0) → ∃ w, z = a + 128 ^ i * w ∧ l = varL w ++ r ∧ (0 < i → 0 < w) := by
  induction l with
  | nil => intro i a _ h; simp [unv] at h
  | cons b l ih =>
    intro i a hby h
    have hb := hby b (by simp)
    unfold unv at h
    split at h
    · simp at h
    · rename_i hn
      split at h
      · rename_i h128
        simp only [Prod.mk.injEq, and_true] at h
        obtain ⟨rfl, rfl⟩ := h
        refine ⟨b, by rw [Nat.mod_eq_of_lt h128], by rw [varL_lo h128]; rfl, fun h0 => by omega⟩
      · rename_i h128
        obtain ⟨w, hz, hl, hw⟩ := ih (i + 1) _ (fun x hx => hby x (by simp [hx])) h
        have hw0 := hw (by omega)
        refine ⟨b % 128 + 128 * w, ?_, ?_, fun _ => by omega⟩
        · rw [hz, Nat.pow_succ, Nat.mul_assoc, Nat.add_assoc, ← Nat.mul_add]
        · rw [varL_hi (by omega)]
          show b :: l = ((b % 128 + 128 * w) % 128 + 128) :: (varL ((b % 128 + 128 * w) / 128) ++ r)
          rw [show (b % 128 + 128 * w) % 128 + 128 = b by omega, show (b % 128 + 128 * w) / 128 = w by omega, hl]
/-- nothing grows too great on the way -/
theorem unv_room {i a b : Nat} (hi : i ≤ 9) (ha : a < 128 ^ i) (hb : b < 256) (h : ¬ ((i = 9 ∧ 1 < b) ∨ (0 < i ∧ b = 0))) : a + 128 ^ i * (b % 128) < 2 ^ 64 ∧ a + 128 ^ i * (b % 128) < 128 ^ (i + 1) := by
  have h1 : a + 128 ^ i * (b % 128) < 128 ^ i * (b % 128 + 1) := by rw [Nat.mul_add]; omega
  constructor
  · refine Nat.lt_of_lt_of_le h1 ?_
    by_cases h9 : i = 9
    · subst h9
      rw [← pow9]
      exact Nat.mul_le_mul_left _ (by omega)
    · have h2 : 128 ^ i ≤ 128 ^ 8 := Nat.pow_le_pow_right (by decide) (by omega)
      calc 128 ^ i * (b % 128 + 1) ≤ 128 ^ 8 * 128 := Nat.mul_le_mul h2 (by omega)
        _ ≤ 2 ^ 64 := by decide
  · refine Nat.lt_of_lt_of_le h1 ?_
    rw [Nat.pow_succ]
    exact Nat.mul_le_mul_left _ (by omega)

/-! ### The sign last -/
def zig (n : Int) : Int := if 0 ≤ n then 2 * n else 2 * -(n + 1) + 1
def unzig (w : Int) : Int := if w % 2 = 0 then w / 2 else -(w / 2) - 1
theorem unzig_zig (n : Int) : unzig (zig n) = n := by unfold unzig zig; split <;> split <;> omega
theorem zig_unzig {w : Int} (h : 0 ≤ w) : zig (unzig w) = w := by unfold unzig zig; split <;> split <;> omega
end Go.Proofs.Ytmmaodcihpgdfaa
