/- Sums and products that stop at a greatest number: plain mathematics. -/
namespace Go.Proofs.Ytdoanlemoegikaa

def isum : List Int → Int
  | [] => 0
  | a :: l => max a 0 + isum l
def iprod : List Int → Int
  | [] => 1
  | a :: l => max a 0 * iprod l
def sadd (m : Int) (l : List Int) : Int := min m (isum l)
def smul (m : Int) (l : List Int) : Int := min m (iprod l)
def addTo (m s n : Int) : Int := if m - s < n then m else s + n
def mulTo (m p n : Int) : Int := if 0 < n ∧ m / n < p then m else p * n
def iover (a b : Int) : Int := if 0 < max a 0 % max b 1 then max a 0 / max b 1 + 1 else max a 0 / max b 1
def iless (a b : Int) : Int := max (max a 0 - max b 0) 0
def iclip (n a b : Int) : Int := if n < a then a else min n b

theorem isum_nonneg (l : List Int) : 0 ≤ isum l := by
  induction l with
  | nil => simp [isum]
  | cons a l ih => simp only [isum]; omega
theorem iprod_nonneg (l : List Int) : 0 ≤ iprod l := by
  induction l with
  | nil => simp [iprod]
  | cons a l ih => simp only [iprod]; exact Int.mul_nonneg (by omega) ih
theorem isum_snoc (l : List Int) (a : Int) : isum (l ++ [a]) = isum l + max a 0 := by
  induction l with
  | nil => simp [isum]
  | cons b l ih => simp only [List.cons_append, isum, ih]; omega
theorem iprod_snoc (l : List Int) (a : Int) : iprod (l ++ [a]) = iprod l * max a 0 := by
  induction l with
  | nil => simp [iprod]
  | cons b l ih => simp only [List.cons_append, iprod, ih, Int.mul_assoc]

theorem min_mul_min {m p z : Int} (hm : 0 ≤ m) (hp : 0 ≤ p) (hz : 0 ≤ z) : min m (min m p * z) = min m (p * z) := by
  by_cases h : p ≤ m
  · rw [show min m p = p by omega]
  · rw [show min m p = m by omega]
    by_cases h0 : z = 0
    · subst h0; simp
    · have h1 : m * 1 ≤ m * z := Int.mul_le_mul_of_nonneg_left (by omega) hm
      have h2 : p * 1 ≤ p * z := Int.mul_le_mul_of_nonneg_left (by omega) hp
      omega

theorem sadd_nil {m : Int} (hm : 0 ≤ m) : sadd m [] = 0 := by simp only [sadd, isum]; omega
theorem smul_nil (m : Int) : smul m [] = min 1 m := by simp only [smul, iprod]; omega
theorem sadd_bd {m : Int} (hm : 0 ≤ m) (l : List Int) : 0 ≤ sadd m l ∧ sadd m l ≤ m := by
  have := isum_nonneg l
  unfold sadd; omega
theorem smul_bd {m : Int} (hm : 0 ≤ m) (l : List Int) : 0 ≤ smul m l ∧ smul m l ≤ m := by
  have := iprod_nonneg l
  unfold smul; omega
theorem sadd_snoc {m : Int} (_hm : 0 ≤ m) (l : List Int) (a : Int) : sadd m (l ++ [a]) = addTo m (sadd m l) (max a 0) := by
  have h := isum_nonneg l
  unfold sadd addTo
  rw [isum_snoc]
  split <;> omega
theorem mulTo_min {m p n : Int} (hm : 0 ≤ m) (_hp : 0 ≤ p) (_hpm : p ≤ m) (hn : 0 ≤ n) : mulTo m p n = min m (p * n) := by
  unfold mulTo
  by_cases h0 : n = 0
  · subst h0; simp; omega
  · have hn' : 0 < n := by omega
    by_cases h : m / n < p
    · rw [if_pos ⟨hn', h⟩]
      have := (Int.ediv_lt_iff_lt_mul hn').1 h
      omega
    · rw [if_neg (fun c => h c.2)]
      have := (Int.le_ediv_iff_mul_le hn').1 (by omega : p ≤ m / n)
      omega
theorem smul_snoc {m : Int} (hm : 0 ≤ m) (l : List Int) (a : Int) : smul m (l ++ [a]) = mulTo m (smul m l) (max a 0) := by
  have h := iprod_nonneg l
  have hb := smul_bd hm l
  rw [mulTo_min hm hb.1 hb.2 (by omega)]
  unfold smul
  rw [iprod_snoc, min_mul_min hm h (by omega)]

theorem sadd_turn (m a b c : Int) : sadd m [c, b, a] = sadd m [a, b, c] := by simp only [sadd, isum]; omega
theorem sadd_left {m : Int} (_hm : 0 ≤ m) (a b c : Int) : sadd m [sadd m [a, b], c] = sadd m [a, b, c] := by simp only [sadd, isum]; omega
theorem sadd_right {m : Int} (_hm : 0 ≤ m) (a b c : Int) : sadd m [a, sadd m [b, c]] = sadd m [a, b, c] := by simp only [sadd, isum]; omega

theorem iprod3 (a b c : Int) : iprod [a, b, c] = max a 0 * (max b 0 * max c 0) := by simp [iprod]
theorem iprod2 (a b : Int) : iprod [a, b] = max a 0 * max b 0 := by simp [iprod]
theorem smul_turn (m a b c : Int) : smul m [c, a, b] = smul m [a, b, c] := by
  unfold smul
  rw [iprod3, iprod3, ← Int.mul_assoc, ← Int.mul_assoc, Int.mul_comm (max c 0), Int.mul_assoc, Int.mul_comm (max c 0), ← Int.mul_assoc]
theorem smul_left {m : Int} (hm : 0 ≤ m) (a b c : Int) : smul m [smul m [a, b], c] = smul m [a, b, c] := by
  have hb := smul_bd hm [a, b]
  have hp : 0 ≤ max a 0 * max b 0 := Int.mul_nonneg (by omega) (by omega)
  show min m (iprod [smul m [a, b], c]) = min m (iprod [a, b, c])
  rw [iprod2, iprod3, show max (smul m [a, b]) 0 = smul m [a, b] by omega, ← Int.mul_assoc]
  show min m (min m (iprod [a, b]) * max c 0) = _
  rw [iprod2, min_mul_min hm hp (by omega)]
theorem smul_right {m : Int} (hm : 0 ≤ m) (a b c : Int) : smul m [a, smul m [b, c]] = smul m [a, b, c] := by
  have h1 : ∀ x y, smul m [x, y] = smul m [y, x] := by intro x y; unfold smul; rw [iprod2, iprod2, Int.mul_comm]
  rw [h1 a, smul_left hm, ← smul_turn, ← smul_turn]
theorem smul_sum {m : Int} (hm : 0 ≤ m) (a b c : Int) : smul m [a, sadd m [b, c]] = sadd m [smul m [a, b], smul m [a, c]] := by
  have h1 : smul m [a, sadd m [b, c]] = min m (min m (max b 0 + max c 0) * max a 0) := by
    have e : isum [b, c] = max b 0 + max c 0 := by simp only [isum]; omega
    unfold smul
    rw [iprod2, Int.mul_comm]
    congr 2
    unfold sadd
    rw [e]; omega
  have hp : 0 ≤ max b 0 * max a 0 := Int.mul_nonneg (by omega) (by omega)
  have hq : 0 ≤ max c 0 * max a 0 := Int.mul_nonneg (by omega) (by omega)
  have e1 : smul m [a, b] = min m (max b 0 * max a 0) := by unfold smul; rw [iprod2, Int.mul_comm]
  have e2 : smul m [a, c] = min m (max c 0 * max a 0) := by unfold smul; rw [iprod2, Int.mul_comm]
  rw [h1, min_mul_min hm (by omega) (by omega), Int.add_mul, e1, e2]
  simp only [sadd, isum]
  omega
theorem sadd_grows {m a b c : Int} (_hm : 0 ≤ m) (h : a ≤ b) : sadd m [a, c] ≤ sadd m [b, c] := by simp only [sadd, isum]; omega
theorem smul_grows {m a b c : Int} (_hm : 0 ≤ m) (h : a ≤ b) : smul m [a, c] ≤ smul m [b, c] := by
  unfold smul
  rw [iprod2, iprod2]
  have := Int.mul_le_mul_of_nonneg_right (show max a 0 ≤ max b 0 by omega) (show 0 ≤ max c 0 by omega)
  omega
theorem iless_grows {a b c : Int} (h : a ≤ b) : iless a c ≤ iless b c := by unfold iless; omega

theorem iover_bd (a b : Int) : 0 ≤ iover a b ∧ iover a b ≤ max a 0 := by
  unfold iover
  have hx : 0 ≤ max a 0 := by omega
  have hy : 0 < max b 1 := by omega
  generalize max a 0 = x at hx ⊢
  generalize max b 1 = y at hy ⊢
  have h1 := Int.ediv_nonneg hx (Int.le_of_lt hy)
  have h2 := Int.mul_ediv_add_emod x y
  have h3 := Int.emod_nonneg x (show y ≠ 0 by omega)
  have h4 : (x / y) * 1 ≤ y * (x / y) := by rw [Int.mul_comm y]; exact Int.mul_le_mul_of_nonneg_left (by omega) h1
  split <;> omega
theorem iover_enough {a b : Int} (ha : a ≤ 9223372036854775807) : max a 0 ≤ smul 9223372036854775807 [iover a b, max b 1] := by
  have hb := iover_bd a b
  unfold smul
  rw [iprod2]
  unfold iover at hb ⊢
  have hx : 0 ≤ max a 0 := by omega
  have hy : 0 < max b 1 := by omega
  have ha' : max a 0 ≤ 9223372036854775807 := by omega
  rw [show max (max b 1) 0 = max b 1 by omega]
  generalize max a 0 = x at *
  generalize max b 1 = y at *
  have h2 := Int.mul_ediv_add_emod x y
  have h3 := Int.emod_nonneg x (show y ≠ 0 by omega)
  have h4 := Int.emod_lt_of_pos x hy
  have h5 : y * (x / y) = (x / y) * y := Int.mul_comm _ _
  split at hb
  · rename_i h
    rw [if_pos h, show max (x / y + 1) 0 = x / y + 1 by omega, Int.add_mul]
    omega
  · rename_i h
    rw [if_neg h, show max (x / y) 0 = x / y by omega]
    omega
theorem iover_least {a b : Int} (h : 0 < iover a b) : 0 < a ∧ iover a b - 1 ≤ (max a 0 - 1) / max b 1 := by
  have hb := iover_bd a b
  refine ⟨by omega, ?_⟩
  unfold iover at h hb ⊢
  have hy : 0 < max b 1 := by omega
  generalize max a 0 = x at *
  generalize max b 1 = y at *
  have h2 := Int.mul_ediv_add_emod x y
  have h3 := Int.emod_nonneg x (show y ≠ 0 by omega)
  have h5 : y * (x / y) = (x / y) * y := Int.mul_comm _ _
  rw [Int.le_ediv_iff_mul_le hy]
  split
  · rename_i h
    rw [Int.sub_mul, Int.add_mul]; omega
  · rename_i h
    rw [Int.sub_mul]; omega
theorem iless_back {a b : Int} (ha : a ≤ 9223372036854775807) : sadd 9223372036854775807 [iless a b, min (max a 0) (max b 0)] = max a 0 := by
  simp only [sadd, isum, iless]; omega

end Go.Proofs.Ytdoanlemoegikaa
