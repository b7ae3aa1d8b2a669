/- Stage 12: sets of skills as numbers; their lists, signs and texts: plain mathematics. -/
import Derived.Test.YtlgemfgikdaelaaRows
namespace Go.Proofs.Ytlgemfgikdaelaa

/-- the skills below k -/
def lsS (w k : Nat) : List Nat := (List.range k).filter fun n => w.testBit n
theorem lsS_succ (w k : Nat) : lsS w (k + 1) = lsS w k ++ (if w.testBit k then [k] else []) := by
  unfold lsS
  rw [List.range_succ, List.filter_append]
  congr 1
  by_cases h : w.testBit k = true
  · simp [h]
  · simp [h]
theorem lsS_len (w k : Nat) : (lsS w k).length ≤ k := by
  have := List.length_filter_le (fun n => w.testBit n) (List.range k)
  rwa [List.length_range] at this
theorem mem_lsS (w k n : Nat) : n ∈ lsS w k ↔ n < k ∧ w.testBit n = true := by simp [lsS]
theorem lsS_pre (w k : Nat) : ∀ j, lsS w k <+: lsS w (k + j)
  | 0 => List.prefix_refl _
  | j + 1 => by
    rw [← Nat.add_assoc, lsS_succ]
    exact (lsS_pre w k j).trans (List.prefix_append _ _)

/-- the number of those of which P tells -/
def ofS (P : Nat → Bool) : Nat → Nat
  | 0 => 0
  | k + 1 => ofS P k + if P k then 2 ^ k else 0
theorem ofS_lt (P : Nat → Bool) : ∀ k, ofS P k < 2 ^ k
  | 0 => by simp [ofS]
  | k + 1 => by
    have := ofS_lt P k
    have e : 2 ^ (k + 1) = 2 ^ k + 2 ^ k := by rw [Nat.pow_succ]; omega
    unfold ofS
    split <;> omega
theorem ofS_congr {P Q : Nat → Bool} : ∀ k, (∀ n, n < k → P n = Q n) → ofS P k = ofS Q k
  | 0, _ => rfl
  | k + 1, h => by
    unfold ofS
    rw [ofS_congr k fun n hn => h n (by omega), h k (by omega)]
theorem ofS_bits (w : Nat) : ∀ k, ofS (fun n => w.testBit n) k = w % 2 ^ k
  | 0 => by simp [ofS, Nat.mod_one]
  | k + 1 => by
    unfold ofS
    rw [ofS_bits w k, Nat.pow_succ, Nat.mod_mul, Nat.testBit_eq_decide_div_mod_eq]
    rcases Nat.mod_two_eq_zero_or_one (w / 2 ^ k) with h | h <;> simp [h]
theorem ofS_list (w : Nat) (hw : w < 2 ^ 64) : ofS (fun n => decide (n ∈ lsS w 64)) 64 = w := by
  rw [ofS_congr (Q := fun n => w.testBit n) 64 (fun n hn => by
    by_cases h : w.testBit n = true
    · rw [h, decide_eq_true ((mem_lsS w 64 n).2 ⟨hn, h⟩)]
    · rw [decide_eq_false (fun hm => h ((mem_lsS w 64 n).1 hm).2)]
      simpa using h), ofS_bits]
  exact Nat.mod_eq_of_lt hw
theorem lsS_inj {a b : Nat} (ha : a < 2 ^ 64) (hb : b < 2 ^ 64) (h : lsS a 64 = lsS b 64) : a = b := by
  rw [← ofS_list a ha, ← ofS_list b hb, h]

/-- has a all that b has, below k? -/
def hasK (a b : Nat) : Nat → Bool
  | 0 => true
  | k + 1 => hasK a b k && (!b.testBit k || a.testBit k)
theorem hasK_iff (a b : Nat) : ∀ k, hasK a b k = true ↔ ∀ n, n < k → b.testBit n = true → a.testBit n = true
  | 0 => by simp [hasK]
  | k + 1 => by
    unfold hasK
    rw [Bool.and_eq_true, hasK_iff a b k]
    constructor
    · rintro ⟨h1, h2⟩ n hn hb
      rcases Nat.lt_or_ge n k with h | h
      · exact h1 n h hb
      · have : n = k := by omega
        subst this
        simpa [hb] using h2
    · intro h
      refine ⟨fun n hn => h n (by omega), ?_⟩
      cases hb : b.testBit k with
      | false => rfl
      | true => simp [h k (by omega) hb]
theorem hasK_self (a : Nat) : hasK a a 64 = true := (hasK_iff a a 64).2 fun _ _ h => h
theorem hasK_and (a b : Nat) : hasK a (a &&& b) 64 = true := (hasK_iff a (a &&& b) 64).2 fun n _ h => by
  rw [Nat.testBit_and, Bool.and_eq_true] at h
  exact h.1
theorem hasK_or (a b : Nat) : hasK (a ||| b) b 64 = true := (hasK_iff (a ||| b) b 64).2 fun n _ h => by
  rw [Nat.testBit_or, h, Bool.or_true]
theorem hasK_trans {a b c : Nat} (h1 : hasK a b 64 = true) (h2 : hasK b c 64 = true) : hasK a c 64 = true :=
  (hasK_iff a c 64).2 fun n hn h => (hasK_iff a b 64).1 h1 n hn ((hasK_iff b c 64).1 h2 n hn h)
theorem hasK_anti {a b : Nat} (ha : a < 2 ^ 64) (hb : b < 2 ^ 64) (h1 : hasK a b 64 = true) : hasK b a 64 = decide (a = b) := by
  by_cases h : a = b
  · subst h
    rw [hasK_self, decide_eq_true rfl]
  · rw [decide_eq_false h]
    cases h2 : hasK b a 64 with
    | false => rfl
    | true =>
      refine absurd (lsS_inj ha hb ?_) h
      unfold lsS
      refine List.filter_congr fun n hn => ?_
      have hn := List.mem_range.1 hn
      have e1 := (hasK_iff a b 64).1 h1 n hn
      have e2 := (hasK_iff b a 64).1 h2 n hn
      cases h3 : a.testBit n with
      | true => exact (e2 h3).symm
      | false =>
        cases h4 : b.testBit n with
        | true => rw [e1 h4] at h3; cases h3
        | false => rfl
theorem count_le {a b : Nat} (h : hasK a b 64 = true) : (lsS b 64).length ≤ (lsS a 64).length := by
  have key : ∀ k, k ≤ 64 → (lsS b k).length ≤ (lsS a k).length := by
    intro k
    induction k with
    | zero => intro _; simp [lsS]
    | succ k ih =>
      intro hk
      have h1 := ih (by omega)
      have h2 := (hasK_iff a b 64).1 h k (by omega)
      rw [lsS_succ, lsS_succ, List.length_append, List.length_append]
      cases h3 : b.testBit k with
      | true => simp [h2 h3]; omega
      | false => cases a.testBit k <;> simp <;> omega
  exact key 64 (Nat.le_refl _)
theorem count_sum (a b : Nat) : ∀ k, (lsS (a &&& b) k).length + (lsS (a ||| b) k).length = (lsS a k).length + (lsS b k).length
  | 0 => by simp [lsS]
  | k + 1 => by
    have h := count_sum a b k
    rw [lsS_succ, lsS_succ, lsS_succ, lsS_succ, List.length_append, List.length_append, List.length_append, List.length_append, Nat.testBit_and, Nat.testBit_or]
    cases a.testBit k <;> cases b.testBit k <;> simp <;> omega

/-! ### Signs and texts -/
def sgL : List UInt8 := [97, 98, 99, 100, 101, 102, 103, 104, 105, 106, 107, 108, 109, 110, 111, 112, 113, 114, 115, 116, 117, 118, 119, 120, 121, 122, 65, 66, 67, 68, 69, 70, 71, 72, 73, 74, 75, 76, 77, 78, 79, 80, 81, 82, 83, 84, 85, 86, 87, 88, 89, 90, 48, 49, 50, 51, 52, 53, 54, 55, 56, 57, 43, 47]
def sg (n : Nat) : UInt8 := sgL.getD n 0
theorem sg_inj : ∀ m, m < 64 → ∀ n, n < 64 → sg m = sg n → m = n := by decide +kernel
theorem sg_no : ∀ m, m < 64 → sg m ≠ 45 := by decide +kernel
def txtK (w k : Nat) : List UInt8 := (lsS w k).map sg
theorem txtK_succ (w k : Nat) : txtK w (k + 1) = txtK w k ++ (if w.testBit k then [sg k] else []) := by
  unfold txtK
  rw [lsS_succ, List.map_append]
  congr 1
  by_cases h : w.testBit k = true
  · simp [h]
  · simp [h]
theorem txtK_len (w k : Nat) : (txtK w k).length ≤ k := by
  unfold txtK
  rw [List.length_map]
  exact lsS_len w k
def txtS (w : Nat) : List UInt8 := if txtK w 64 = [] then [45] else txtK w 64
/-- what has been read of a text behind k signs -/
def parK (s : List UInt8) : Nat → List Nat
  | 0 => []
  | k + 1 => if s[(parK s k).length]? = some (sg k) then parK s k ++ [k] else parK s k
theorem parK_len (s : List UInt8) : ∀ k, (parK s k).length ≤ k
  | 0 => by simp [parK]
  | k + 1 => by
    have := parK_len s k
    unfold parK
    split
    · rw [List.length_append]; simp; omega
    · omega
theorem parK_mem (s : List UInt8) : ∀ k, ∀ n ∈ parK s k, n < k
  | 0, n, h => by simp [parK] at h
  | k + 1, n, h => by
    unfold parK at h
    split at h
    · rw [List.mem_append] at h
      rcases h with h | h
      · have := parK_mem s k n h; omega
      · simp at h; omega
    · have := parK_mem s k n h; omega
theorem parK_fits (s : List UInt8) : ∀ k, (parK s k).length ≤ s.length
  | 0 => by simp [parK]
  | k + 1 => by
    have h := parK_fits s k
    unfold parK
    split
    · rename_i h1
      have := (List.getElem?_eq_some_iff.1 h1).1
      rw [List.length_append]
      simp
      omega
    · exact h
def parS (s : List UInt8) : Nat × Bool := if s = [45] then (0, true) else if (parK s 64).length < s.length ∨ s = [] then (0, false) else (ofS (fun n => decide (n ∈ parK s 64)) 64, true)
theorem parK_txt (w : Nat) : ∀ k, k ≤ 64 → parK (txtK w 64) k = lsS w k
  | 0, _ => by simp [parK, lsS]
  | k + 1, hk => by
    have ih := parK_txt w k (by omega)
    obtain ⟨r, hr⟩ := lsS_pre w (k + 1) (64 - (k + 1))
    rw [show k + 1 + (64 - (k + 1)) = 64 by omega] at hr
    unfold parK
    rw [ih, lsS_succ]
    by_cases hb : w.testBit k = true
    · rw [if_pos hb]
      rw [lsS_succ, if_pos hb] at hr
      rw [if_pos]
      unfold txtK
      rw [← hr]
      simp
    · rw [if_neg hb, List.append_nil]
      rw [if_neg]
      intro h
      unfold txtK at h
      rw [List.getElem?_map] at h
      obtain ⟨m, hm, e⟩ := Option.map_eq_some_iff.1 h
      have h1 := (mem_lsS w 64 m).1 (List.mem_of_getElem? hm)
      have := sg_inj m h1.1 k (by omega) e
      subst this
      exact hb h1.2
theorem par_txt (w : Nat) (hw : w < 2 ^ 64) : parS (txtS w) = (w, true) := by
  unfold parS txtS
  by_cases h0 : txtK w 64 = []
  · rw [if_pos h0, if_pos rfl]
    have hl : lsS w 64 = [] := by simpa [txtK] using h0
    have := ofS_list w hw
    rw [hl] at this
    have e : ofS (fun n => decide (n ∈ ([] : List Nat))) 64 = 0 := by decide +kernel
    rw [e] at this
    rw [← this]
  · rw [if_neg h0, parK_txt w 64 (Nat.le_refl _)]
    have h1 : txtK w 64 ≠ [45] := fun h => by
      have : (45 : UInt8) ∈ txtK w 64 := by rw [h]; exact List.mem_singleton_self _
      unfold txtK at this
      obtain ⟨m, hm, e⟩ := List.mem_map.1 this
      exact sg_no m ((mem_lsS w 64 m).1 hm).1 e
    rw [if_neg h1, if_neg]
    · rw [ofS_list w hw]
    · rintro (h | h)
      · unfold txtK at h
        rw [List.length_map] at h
        omega
      · exact h0 h
theorem txt_inj {a b : Nat} (ha : a < 2 ^ 64) (hb : b < 2 ^ 64) (h : txtS a = txtS b) : a = b := by
  have h1 := par_txt a ha
  rw [h, par_txt b hb] at h1
  exact (Prod.mk.inj h1).1.symm
theorem txtS_len (w : Nat) : (txtS w).length ≤ 64 := by
  unfold txtS
  split
  · simp
  · exact txtK_len w 64
theorem parS_lt (s : List UInt8) : (parS s).1 < 2 ^ 64 := by
  unfold parS
  split
  · decide
  · split
    · decide
    · exact ofS_lt _ 64
end Go.Proofs.Ytlgemfgikdaelaa
