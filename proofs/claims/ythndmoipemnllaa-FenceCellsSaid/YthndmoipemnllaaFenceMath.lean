/- Fences: plain mathematics. -/
import Derived.Test.YthndmoipemnllaaRows
namespace Go.Proofs.Ythndmoipemnllaa

/-! ### Sums -/
def sumN (f : Nat → Int) : Nat → Int
  | 0 => 0
  | k + 1 => sumN f k + f k
theorem sumN_congr {f g : Nat → Int} (n : Nat) (h : ∀ i, i < n → f i = g i) : sumN f n = sumN g n := by
  induction n with
  | zero => rfl
  | succ n ih => rw [sumN, sumN, ih (fun i hi => h i (by omega)), h n (by omega)]
theorem sumN_add (f g : Nat → Int) (n : Nat) : sumN (fun i => f i + g i) n = sumN f n + sumN g n := by
  induction n with
  | zero => rfl
  | succ n ih => simp only [sumN, ih]; omega
theorem sumN_sub (f g : Nat → Int) (n : Nat) : sumN (fun i => f i - g i) n = sumN f n - sumN g n := by
  induction n with
  | zero => rfl
  | succ n ih => simp only [sumN, ih]; omega
theorem sumN_neg (f : Nat → Int) (n : Nat) : sumN (fun i => -f i) n = -sumN f n := by
  induction n with
  | zero => rfl
  | succ n ih => simp only [sumN, ih]; omega
theorem sumN_mul (c : Int) (f : Nat → Int) (n : Nat) : sumN (fun i => c * f i) n = c * sumN f n := by
  induction n with
  | zero => simp [sumN]
  | succ n ih => simp only [sumN, ih, Int.mul_add]
theorem sumN_mulr (c : Int) (f : Nat → Int) (n : Nat) : sumN (fun i => f i * c) n = sumN f n * c := by
  induction n with
  | zero => simp [sumN]
  | succ n ih => simp only [sumN, ih, Int.add_mul]
theorem sumN_zero (n : Nat) : sumN (fun _ => 0) n = 0 := by
  induction n with
  | zero => rfl
  | succ n ih => simp only [sumN, ih]; omega
theorem sumN_swap (f : Nat → Nat → Int) (n m : Nat) : sumN (fun i => sumN (fun j => f i j) m) n = sumN (fun j => sumN (fun i => f i j) n) m := by
  induction n with
  | zero => simp only [sumN]; exact (sumN_zero m).symm
  | succ n ih => simp only [sumN, ih, sumN_add]
theorem sumN_shift (f : Nat → Int) (n : Nat) : sumN f (n + 1) = f 0 + sumN (fun i => f (i + 1)) n := by
  induction n with
  | zero => simp [sumN]
  | succ n ih =>
    have e : sumN f (n + 1 + 1) = sumN f (n + 1) + f (n + 1) := rfl
    rw [e, ih]
    simp only [sumN]
    omega
theorem sumN_rev (f : Nat → Int) (n : Nat) : sumN (fun i => f (n - 1 - i)) n = sumN f n := by
  induction n with
  | zero => rfl
  | succ n ih =>
    rw [sumN_shift]
    have e : sumN f (n + 1) = sumN f n + f n := rfl
    rw [e, ← ih]
    have e2 : sumN (fun i => f (n + 1 - 1 - (i + 1))) n = sumN (fun i => f (n - 1 - i)) n := sumN_congr n fun i hi => by rw [show n + 1 - 1 - (i + 1) = n - 1 - i by omega]
    rw [e2, show n + 1 - 1 - 0 = n by omega]
    omega
/-- how many of these are below p -/
theorem count_below (lo p : Int) (m : Nat) (h1 : lo ≤ p) (h2 : p ≤ lo + m) : sumN (fun j => if lo + (j : Int) < p then 1 else 0) m = p - lo := by
  obtain ⟨d, rfl⟩ : ∃ d : Nat, p = lo + d := ⟨(p - lo).toNat, by omega⟩
  have hd : d ≤ m := by omega
  clear h1 h2
  have key : ∀ m, sumN (fun j => if lo + (j : Int) < lo + (d : Int) then 1 else 0) m = ((min m d : Nat) : Int) := by
    intro m
    induction m with
    | zero => simp [sumN]
    | succ m ih =>
      simp only [sumN, ih]
      split <;> omega
  rw [key]
  omega

/-! ### Rings -/
def pat (l : List (Int × Int)) (i : Nat) : Int × Int := l.getD i (0, 0)
def nxt (l : List (Int × Int)) (i : Nat) : Int × Int := pat l ((i + 1) % l.length)
/-- round the ring nothing is left -/
theorem ring_sum (l : List (Int × Int)) (g : Int × Int → Int) : sumN (fun i => g (nxt l i)) l.length = sumN (fun i => g (pat l i)) l.length := by
  cases h : l.length with
  | zero => rfl
  | succ n =>
    rw [sumN_shift (fun i => g (pat l i)) n]
    have e : sumN (fun i => g (nxt l i)) (n + 1) = sumN (fun i => g (nxt l i)) n + g (nxt l n) := rfl
    rw [e]
    have e1 : sumN (fun i => g (nxt l i)) n = sumN (fun i => g (pat l (i + 1))) n := sumN_congr n fun i hi => by
      show g (pat l ((i + 1) % l.length)) = _
      rw [h, Nat.mod_eq_of_lt (by omega)]
    have e2 : nxt l n = pat l 0 := by
      show pat l ((n + 1) % l.length) = _
      rw [h, Nat.mod_self]
    rw [e1, e2]
    omega
theorem ring_diff (l : List (Int × Int)) (g : Int × Int → Int) : sumN (fun i => g (nxt l i) - g (pat l i)) l.length = 0 := by
  rw [sumN_sub, ring_sum]
  omega

def lev (a b : Int × Int) : Bool := decide (a.2 = b.2) && decide (a.1 ≠ b.1)
def stp (a b : Int × Int) : Bool := decide (a.1 = b.1) && decide (a.2 ≠ b.2)
def crs (a b : Int × Int) : Int := a.1 * b.2 - a.2 * b.1
def hgt (y : Int) (a : Int × Int) : Int := if y < a.2 then 1 else 0
/-- what an edge adds to a cell -/
def edg (p a b : Int × Int) : Int := if stp a b = true ∧ p.1 < a.1 ∧ min a.2 b.2 ≤ p.2 ∧ p.2 < max a.2 b.2 then (if a.2 < b.2 then 1 else -1) else 0
def Edge (a b : Int × Int) : Prop := lev a b = true ∨ stp a b = true
theorem edg_is {a b : Int × Int} (h : Edge a b) (p : Int × Int) : edg p a b = (if p.1 < a.1 then 1 else 0) * (hgt p.2 b - hgt p.2 a) := by
  obtain ⟨a1, a2⟩ := a
  obtain ⟨b1, b2⟩ := b
  obtain ⟨x, y⟩ := p
  unfold Edge lev stp at h
  simp only [Bool.and_eq_true, decide_eq_true_eq] at h
  unfold edg hgt stp
  simp only [Bool.and_eq_true, decide_eq_true_eq]
  by_cases h1 : x < a1
  · rw [if_pos h1, Int.one_mul]
    rcases h with ⟨h2, h3⟩ | ⟨h2, h3⟩
    · rw [if_neg (by omega), h2]
      omega
    · split
      · split <;> split <;> split <;> omega
      · split <;> split <;> omega
  · rw [if_neg h1, Int.zero_mul, if_neg (by omega)]
theorem crs_is {a b : Int × Int} (h : Edge a b) : crs a b = 2 * (a.1 * (b.2 - a.2)) - (b.1 * b.2 - a.1 * a.2) := by
  obtain ⟨a1, a2⟩ := a
  obtain ⟨b1, b2⟩ := b
  unfold Edge lev stp at h
  simp only [Bool.and_eq_true, decide_eq_true_eq] at h
  unfold crs
  simp only
  rcases h with ⟨h2, _⟩ | ⟨h2, _⟩
  · subst h2
    rw [Int.sub_self, Int.mul_zero, Int.mul_zero, Int.mul_comm a2 b1]
    omega
  · subst h2
    rw [Int.mul_sub, Int.mul_comm a2 a1]
    omega
/-- a ring of edges -/
def Ring4 (l : List (Int × Int)) : Prop := ∀ i, i < l.length → Edge (pat l i) (nxt l i)
def area2 (l : List (Int × Int)) : Int := sumN (fun i => crs (pat l i) (nxt l i)) l.length
def cell (l : List (Int × Int)) (p : Int × Int) : Int := sumN (fun i => edg p (pat l i) (nxt l i)) l.length
def sweep (l : List (Int × Int)) : Int := sumN (fun i => (pat l i).1 * ((nxt l i).2 - (pat l i).2)) l.length
theorem area_sweep {l : List (Int × Int)} (h : Ring4 l) : area2 l = 2 * sweep l := by
  unfold area2 sweep
  rw [sumN_congr l.length fun i hi => crs_is (h i hi), sumN_sub, sumN_mul]
  have := ring_diff l fun a => a.1 * a.2
  rw [this]
  omega
theorem cell_is {l : List (Int × Int)} (h : Ring4 l) (p : Int × Int) : cell l p = sumN (fun i => (if p.1 < (pat l i).1 then 1 else 0) * (hgt p.2 (nxt l i) - hgt p.2 (pat l i))) l.length :=
  sumN_congr l.length fun i hi => edg_is (h i hi) p
/-- within what a list of points lies -/
def Within (l : List (Int × Int)) (a b : Int × Int) : Prop := ∀ i, i < l.length → a.1 ≤ (pat l i).1 ∧ (pat l i).1 ≤ b.1 ∧ a.2 ≤ (pat l i).2 ∧ (pat l i).2 ≤ b.2
theorem Within.nxt {l : List (Int × Int)} {a b : Int × Int} (h : Within l a b) (i : Nat) (hi : i < l.length) : a.1 ≤ (nxt l i).1 ∧ (nxt l i).1 ≤ b.1 ∧ a.2 ≤ (nxt l i).2 ∧ (nxt l i).2 ≤ b.2 :=
  h _ (Nat.mod_lt _ (by omega))
/-- no cell beside the box -/
theorem cell_out {l : List (Int × Int)} (h : Ring4 l) {a b p : Int × Int} (hw : Within l a b) (ho : p.1 < a.1 ∨ p.2 < a.2 ∨ b.1 ≤ p.1 ∨ b.2 ≤ p.2) : cell l p = 0 := by
  rw [cell_is h]
  by_cases h1 : p.1 < a.1
  · rw [sumN_congr (g := fun i => hgt p.2 (nxt l i) - hgt p.2 (pat l i)) l.length fun i hi => by rw [if_pos (by have := (hw i hi).1; omega), Int.one_mul]]
    exact ring_diff l (hgt p.2)
  · rw [sumN_congr (g := fun _ => 0) l.length fun i hi => ?_, sumN_zero]
    obtain ⟨e1, e2, e3, e4⟩ := hw i hi
    obtain ⟨f1, f2, f3, f4⟩ := hw.nxt i hi
    rcases ho with h2 | h2 | h2 | h2
    · exact absurd h2 h1
    · rw [show hgt p.2 (nxt l i) = 1 from if_pos (by omega), show hgt p.2 (pat l i) = 1 from if_pos (by omega)]
      omega
    · rw [if_neg (by omega), Int.zero_mul]
    · rw [show hgt p.2 (nxt l i) = 0 from if_neg (by omega), show hgt p.2 (pat l i) = 0 from if_neg (by omega)]
      omega
/-- all cells of the box, together -/
theorem cells_all {l : List (Int × Int)} (h : Ring4 l) {a b : Int × Int} (hw : Within l a b) (m n : Nat) (hm : b.1 = a.1 - 1 + (m : Int) - 1) (hn : b.2 = a.2 - 1 + (n : Int) - 1) :
    sumN (fun x => sumN (fun y => cell l (a.1 - 1 + x, a.2 - 1 + y)) n) m = sweep l := by
  have e1 : ∀ x y : Nat, cell l (a.1 - 1 + x, a.2 - 1 + y) = sumN (fun i => (if a.1 - 1 + (x : Int) < (pat l i).1 then 1 else 0) * (hgt (a.2 - 1 + y) (nxt l i) - hgt (a.2 - 1 + y) (pat l i))) l.length := fun x y => cell_is h _
  have e2 : ∀ x : Nat, sumN (fun y => cell l (a.1 - 1 + x, a.2 - 1 + y)) n = sumN (fun i => (if a.1 - 1 + (x : Int) < (pat l i).1 then 1 else 0) * ((nxt l i).2 - (pat l i).2)) l.length := by
    intro x
    rw [sumN_congr n fun y _ => e1 x y, sumN_swap]
    refine sumN_congr l.length fun i hi => ?_
    obtain ⟨f1, f2, f3, f4⟩ := hw i hi
    obtain ⟨g1, g2, g3, g4⟩ := hw.nxt i hi
    rw [sumN_mul, sumN_sub]
    have c1 := count_below (a.2 - 1) (nxt l i).2 n (by omega) (by omega)
    have c2 := count_below (a.2 - 1) (pat l i).2 n (by omega) (by omega)
    unfold hgt
    rw [c1, c2]
    congr 1
    omega
  rw [sumN_congr m fun x _ => e2 x, sumN_swap]
  have e3 : sumN (fun i => sumN (fun x : Nat => (if a.1 - 1 + (x : Int) < (pat l i).1 then 1 else 0) * ((nxt l i).2 - (pat l i).2)) m) l.length = sumN (fun i => (pat l i).1 * ((nxt l i).2 - (pat l i).2) - (a.1 - 1) * ((nxt l i).2 - (pat l i).2)) l.length := by
    refine sumN_congr l.length fun i hi => ?_
    obtain ⟨f1, f2, f3, f4⟩ := hw i hi
    rw [sumN_mulr, count_below (a.1 - 1) (pat l i).1 m (by omega) (by omega), Int.sub_mul]
  rw [e3, sumN_sub, sumN_mul]
  have := ring_diff l fun a => a.2
  rw [this, Int.mul_zero]
  unfold sweep
  omega
end Go.Proofs.Ythndmoipemnllaa
