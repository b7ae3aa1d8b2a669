/- What num.take reads: the text of a number, in base 10 or 16. -/
import Derived.Test.YtibeljppjaenbaaDigs
import Derived.Lib.Bytealg
namespace Go.Proofs.Ytibeljppjaenbaa

/-- A number's text, as a list. -/
def ltxt (b m : Nat) : List UInt8 := (dgs b 20 m).map sgn

/-- A byte's digit; 99 for none. -/
def dv (c : UInt8) : Nat := if 48 ≤ c.toNat ∧ c.toNat ≤ 57 then c.toNat - 48 else if 97 ≤ c.toNat ∧ c.toNat ≤ 102 then c.toNat - 87 else 99

theorem dv_sgn : ∀ d, d < 16 → dv (sgn d) = d := by decide +kernel

theorem sgn_dv_aux : ∀ n, n < 256 → dv (UInt8.ofNat n) < 16 → sgn (dv (UInt8.ofNat n)) = UInt8.ofNat n := by decide +kernel

theorem sgn_dv (c : UInt8) (h : dv c < 16) : sgn (dv c) = c := by
  have e : UInt8.ofNat c.toNat = c := by simp
  have := sgn_dv_aux c.toNat (UInt8.toNat_lt c)
  rw [e] at this
  exact this h

/-- The digit that is read at a byte: its place among the signs, or -1. -/
def dgAt (b : Nat) (c : UInt8) : Int := if dv c < b then (dv c : Int) else -1

theorem index_aux : ∀ n, n < 256 → Lib.indexByte (List.take 10 [48, 49, 50, 51, 52, 53, 54, 55, 56, 57, 97, 98, 99, 100, 101, 102]) (UInt8.ofNat n) = dgAt 10 (UInt8.ofNat n) ∧
    Lib.indexByte (List.take 16 [48, 49, 50, 51, 52, 53, 54, 55, 56, 57, 97, 98, 99, 100, 101, 102]) (UInt8.ofNat n) = dgAt 16 (UInt8.ofNat n) := by decide +kernel

theorem index_sigs (b : Nat) (hb : b = 10 ∨ b = 16) (c : UInt8) : Lib.indexByte (List.take b [48, 49, 50, 51, 52, 53, 54, 55, 56, 57, 97, 98, 99, 100, 101, 102]) c = dgAt b c := by
  have e : UInt8.ofNat c.toNat = c := by simp
  have := index_aux c.toNat (UInt8.toNat_lt c)
  rw [e] at this
  rcases hb with rfl | rfl
  · exact this.1
  · exact this.2

/-- The number that a text's digits are. -/
def vals (b : Nat) (l : List UInt8) : Nat := num b (l.map dv)

theorem vals_snoc (b : Nat) (l : List UInt8) (c : UInt8) : vals b (l ++ [c]) = vals b l * b + dv c := by simp [vals, num_snoc]

theorem vals_append_le (b : Nat) (hb : 1 ≤ b) (l l' : List UInt8) : vals b l ≤ vals b (l ++ l') := by
  induction l' generalizing l with
  | nil => simp
  | cons c l' ih =>
    have h1 := ih (l ++ [c])
    rw [vals_snoc] at h1
    rw [List.append_assoc] at h1
    have h2 : vals b l ≤ vals b l * b := Nat.le_mul_of_pos_right _ hb
    exact Nat.le_trans (by omega) h1

theorem vals_take_le (b : Nat) (hb : 1 ≤ b) (l : List UInt8) (k : Nat) : vals b (l.take k) ≤ vals b l := by
  have := vals_append_le b hb (l.take k) (l.drop k)
  rwa [List.take_append_drop] at this

theorem vals_ltxt (b m : Nat) (hb : b = 10 ∨ b = 16) (hm : m < b ^ 20) : vals b (ltxt b m) = m := by
  have hb2 : 2 ≤ b := by rcases hb with rfl | rfl <;> omega
  have e : (ltxt b m).map dv = dgs b 20 m := by
    unfold ltxt
    rw [List.map_map]
    have : ∀ l : List Nat, (∀ d ∈ l, d < b) → l.map (dv ∘ sgn) = l := by
      intro l hl
      induction l with
      | nil => rfl
      | cons d l ih =>
        have hd := hl d (by simp)
        simp only [List.map_cons, Function.comp]
        rw [dv_sgn d (by rcases hb with rfl | rfl <;> omega), ih fun x hx => hl x (by simp [hx])]
    exact this _ (dgs_lt b hb2 20 m)
  rw [vals, e, num_dgs b hb2 20 m hm]

theorem dv_ltxt (b m : Nat) (hb : b = 10 ∨ b = 16) : ∀ c ∈ ltxt b m, dv c < b := by
  intro c hc
  have hb2 : 2 ≤ b := by rcases hb with rfl | rfl <;> omega
  simp only [ltxt, List.mem_map] at hc
  obtain ⟨d, hd, rfl⟩ := hc
  have := dgs_lt b hb2 20 m d hd
  rw [dv_sgn d (by rcases hb with rfl | rfl <;> omega)]
  exact this

theorem ltxt_ne (b m : Nat) : ltxt b m ≠ [] := by
  intro h
  have h1 : 0 < (dgs b 20 m).length := dgs_pos b 19 m
  have h2 : (dgs b 20 m).length = 0 := by
    have := congrArg List.length h
    simpa [ltxt] using this
  omega

/-- No nought stands ahead but where it is all. -/
theorem dgs_head (b : Nat) (hb : 2 ≤ b) : ∀ (k m : Nat), m < b ^ k → (dgs b k m).head? = some 0 → m = 0 := by
  intro k
  induction k with
  | zero => intro m _ h; simp [dgs] at h
  | succ k ih =>
    intro m hm h
    rw [dgs] at h
    split at h
    · rename_i h0
      simp at h
      have := Nat.div_add_mod m b
      rw [h0, h] at this
      simpa using this.symm
    · rename_i h0
      have hlt : m / b < b ^ k := by rw [Nat.div_lt_iff_lt_mul (by omega)]; rw [Nat.pow_succ] at hm; exact hm
      cases hd : dgs b k (m / b) with
      | nil =>
        have hk : 0 < k := by
          rcases Nat.eq_zero_or_pos k with e | e
          · subst e; rw [Nat.pow_zero] at hlt; exact absurd (Nat.lt_one_iff.1 hlt) h0
          · exact e
        obtain ⟨i, rfl⟩ : ∃ i, k = i + 1 := ⟨k - 1, by omega⟩
        have := dgs_pos b i (m / b)
        rw [hd] at this
        simp at this
      | cons x r =>
        rw [hd] at h
        simp at h
        subst h
        exact absurd (ih _ hlt (by rw [hd]; rfl)) h0

theorem sgn_zero_aux : ∀ d, d < 16 → sgn d = 48 → d = 0 := by decide +kernel

theorem ltxt_zero (b m : Nat) (hb : b = 10 ∨ b = 16) (hm : m < b ^ 20) (h : (ltxt b m).head? = some 48) : (ltxt b m).length = 1 := by
  have hb2 : 2 ≤ b := by rcases hb with rfl | rfl <;> omega
  have h' : (dgs b 20 m).head? = some 0 := by
    cases hd : dgs b 20 m with
    | nil => rw [ltxt, hd] at h; simp at h
    | cons x r =>
      rw [ltxt, hd] at h
      simp at h
      have := dgs_lt b hb2 20 m x (by rw [hd]; simp)
      simp [sgn_zero_aux x (by rcases hb with rfl | rfl <;> omega) h]
  have h0 := dgs_head b hb2 20 m hm h'
  subst h0
  simp [ltxt, dgs]

/-- Digits without a nought ahead are their number's text. -/
theorem dgs_of_digits (b : Nat) (hb : 2 ≤ b) : ∀ (n : Nat) (l : List Nat), l.length = n → l ≠ [] → (∀ d ∈ l, d < b) → (l.head? = some 0 → l.length = 1) → ∀ k, num b l < b ^ k → 0 < k → dgs b k (num b l) = l := by
  intro n
  induction n with
  | zero => intro l hn hne; exact absurd (List.length_eq_zero_iff.1 hn) hne
  | succ n ih =>
    intro l hn hne hlt hz k hk hk0
    obtain ⟨l', d, rfl⟩ : ∃ l' d, l = l' ++ [d] := ⟨l.dropLast, l.getLast hne, (List.dropLast_concat_getLast hne).symm⟩
    have hd : d < b := hlt d (by simp)
    rw [num_snoc] at hk ⊢
    have e1 : (num b l' * b + d) / b = num b l' := by
      rw [Nat.mul_comm, Nat.mul_add_div (by omega), Nat.div_eq_of_lt hd]; simp
    have e2 : (num b l' * b + d) % b = d := by
      rw [Nat.mul_comm, Nat.mul_add_mod, Nat.mod_eq_of_lt hd]
    obtain ⟨j, rfl⟩ : ∃ j, k = j + 1 := ⟨k - 1, by omega⟩
    rw [dgs, e1, e2]
    by_cases hl : l' = []
    · subst hl; simp [num]
    · have hnl : num b l' ≠ 0 := by
        intro h0
        have hj := ih l' (by simpa using hn) hl (fun x hx => hlt x (by simp [hx])) (by
          intro hh
          have := hz (by cases l' with
            | nil => exact absurd rfl hl
            | cons x r => simpa using hh)
          simp at this
          exact absurd this hl) 1 (by rw [h0]; simp; omega) (by omega)
        rw [h0] at hj
        have hl1 : l' = [0] := by rw [← hj]; simp [dgs]
        have := hz (by rw [hl1]; rfl)
        simp [hl1] at this
      rw [if_neg hnl]
      have hjlt : num b l' < b ^ j := by
        rw [Nat.pow_succ] at hk
        exact Nat.lt_of_mul_lt_mul_right (Nat.lt_of_le_of_lt (Nat.le_add_right _ d) hk)
      have hj0 : 0 < j := by
        rcases Nat.eq_zero_or_pos j with e | e
        · subst e; simp at hjlt; exact absurd hjlt hnl
        · exact e
      rw [ih l' (by simpa using hn) hl (fun x hx => hlt x (by simp [hx])) (by
          intro hh
          have := hz (by cases l' with
            | nil => exact absurd rfl hl
            | cons x r => simpa using hh)
          simp at this
          exact absurd this hl) j hjlt hj0]

/-- A text that is digits of the base, without a nought ahead, is its number's text. -/
theorem ltxt_of (b : Nat) (hb : b = 10 ∨ b = 16) (l : List UInt8) (hne : l ≠ []) (hlt : ∀ c ∈ l, dv c < b) (hz : l.head? = some 48 → l.length = 1) (hv : vals b l < b ^ 20) : ltxt b (vals b l) = l := by
  have hb2 : 2 ≤ b := by rcases hb with rfl | rfl <;> omega
  have hb16 : b ≤ 16 := by rcases hb with rfl | rfl <;> omega
  have h := dgs_of_digits b hb2 _ (l.map dv) rfl (by simpa using hne) (by
    intro d hd
    simp only [List.mem_map] at hd
    obtain ⟨c, hc, rfl⟩ := hd
    exact hlt c hc) (by
    intro hh
    have : l.head? = some 48 := by
      cases l with
      | nil => exact absurd rfl hne
      | cons c r =>
        simp at hh
        have := sgn_dv c (by omega)
        rw [hh] at this
        rw [← this]; rfl
    simpa using hz this) 20 hv (by omega)
  unfold ltxt vals
  rw [h, List.map_map]
  have : ∀ l : List UInt8, (∀ c ∈ l, dv c < b) → l.map (sgn ∘ dv) = l := by
    intro l hl
    induction l with
    | nil => rfl
    | cons c l ih =>
      have hd := hl c (by simp)
      simp only [List.map_cons, Function.comp]
      rw [sgn_dv c (by omega), ih fun x hx => hl x (by simp [hx])]
  exact this l hlt

/-- What is read: the number whose text it is, or that there is none. -/
def TakeIs (b most : Nat) (l : List UInt8) (v : Nat) (ok : Bool) : Prop := (ok = true → v ≤ most ∧ l = ltxt b v) ∧ (ok = false → v = 0 ∧ ∀ m, m ≤ most → l ≠ ltxt b m)

theorem take_none {b most : Nat} {l : List UInt8} (h : l = []) : TakeIs b most l 0 false := ⟨by simp, fun _ => ⟨rfl, fun m _ e => ltxt_ne b m (by rw [← e, h])⟩⟩
theorem take_nought {b most : Nat} {l : List UInt8} (hb : b = 10 ∨ b = 16) (hm : most < b ^ 20) (h : l.head? = some 48) (h1 : 1 < l.length) : TakeIs b most l 0 false :=
  ⟨by simp, fun _ => ⟨rfl, fun m hmm e => by have := ltxt_zero b m hb (by omega) (by rw [← e, h]); rw [← e] at this; omega⟩⟩
theorem take_bad {b most : Nat} {l : List UInt8} (hb : b = 10 ∨ b = 16) (i : Nat) (hi : i < l.length) (h : ¬ dv l[i] < b) : TakeIs b most l 0 false :=
  ⟨by simp, fun _ => ⟨rfl, fun m _ e => by subst e; exact h (dv_ltxt b m hb _ (List.getElem_mem hi))⟩⟩
theorem take_over {b most : Nat} {l : List UInt8} (hb : b = 10 ∨ b = 16) (hm : most < b ^ 20) (i v : Nat) (hi : i < l.length) (hv : v = vals b (l.take i)) (h : (most - dv l[i]) / b < v) (hd : dv l[i] ≤ most) : TakeIs b most l 0 false :=
  ⟨by simp, fun _ => ⟨rfl, fun m hmm e => by
    have hb1 : 1 ≤ b := by rcases hb with rfl | rfl <;> omega
    have h1 := vals_take_le b hb1 l (i + 1)
    rw [List.take_succ_eq_append_getElem hi, vals_snoc, ← hv] at h1
    rw [Nat.div_lt_iff_lt_mul (by omega)] at h
    have h2 := vals_ltxt b m hb (by omega)
    rw [← e] at h2
    omega⟩⟩
theorem take_next {b most : Nat} {l : List UInt8} (hb : b = 10 ∨ b = 16) (i v : Nat) (hi : i < l.length) (hv : v = vals b (l.take i)) (h : ¬ (most - dv l[i]) / b < v) (hd : dv l[i] ≤ most) : v * b + dv l[i] ≤ most ∧ v * b + dv l[i] = vals b (l.take (i + 1)) := by
  have hb1 : 1 ≤ b := by rcases hb with rfl | rfl <;> omega
  rw [Nat.div_lt_iff_lt_mul (by omega)] at h
  refine ⟨by omega, ?_⟩
  rw [List.take_succ_eq_append_getElem hi, vals_snoc, ← hv]
theorem take_done {b most : Nat} {l : List UInt8} (hb : b = 10 ∨ b = 16) (hm : most < b ^ 20) (v : Nat) (hv : v = vals b l) (hvm : v ≤ most) (hne : l ≠ []) (hz : l.head? = some 48 → l.length = 1) (hlt : ∀ c ∈ l, dv c < b) : TakeIs b most l v true :=
  ⟨fun _ => ⟨hvm, by rw [hv]; exact (ltxt_of b hb l hne hlt hz (by omega)).symm⟩, by simp⟩

theorem takeIs_le {b most : Nat} {l : List UInt8} {v : Nat} {ok : Bool} (h : TakeIs b most l v ok) : v ≤ most := by
  cases ok with
  | true => exact (h.1 rfl).1
  | false => rw [(h.2 rfl).1]; exact Nat.zero_le _

/-- What is read is one. -/
theorem takeIs_one {b most : Nat} {l : List UInt8} {v v' : Nat} {ok ok' : Bool} (h : TakeIs b most l v ok) (h' : TakeIs b most l v' ok') (hb : b = 10 ∨ b = 16) (hm : most < b ^ 20) : v = v' ∧ ok = ok' := by
  cases ok with
  | true =>
    obtain ⟨h1, h2⟩ := h.1 rfl
    cases ok' with
    | true =>
      obtain ⟨h3, h4⟩ := h'.1 rfl
      rw [h2] at h4
      refine ⟨?_, rfl⟩
      rw [← vals_ltxt b v hb (by omega), ← vals_ltxt b v' hb (by omega), h4]
    | false => exact absurd h2 ((h'.2 rfl).2 v h1)
  | false =>
    cases ok' with
    | true => obtain ⟨h3, h4⟩ := h'.1 rfl; exact absurd h4 ((h.2 rfl).2 v' h3)
    | false => exact ⟨by rw [(h.2 rfl).1, (h'.2 rfl).1], rfl⟩

end Go.Proofs.Ytibeljppjaenbaa
