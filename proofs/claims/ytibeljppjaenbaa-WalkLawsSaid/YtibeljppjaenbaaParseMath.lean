/- The texts of numbers with a sign, and what is read as one. -/
import Derived.Test.YtibeljppjaenbaaTakeMath
import Derived.Lib.Strings
import Derived.IntWalk
namespace Go.Proofs.Ytibeljppjaenbaa

/-- A number's text: with - ahead below nought. -/
def pl (n : Int) : List UInt8 := if n < 0 then 45 :: ltxt 10 n.natAbs else ltxt 10 n.natAbs

theorem pl_neg (m : Nat) (h : 0 < m) : pl (-(m : Int)) = 45 :: ltxt 10 m := by
  unfold pl
  rw [if_pos (by omega)]
  congr 2
  omega
theorem pl_pos (m : Nat) : pl (m : Int) = ltxt 10 m := by
  unfold pl
  rw [if_neg (by omega)]
  congr 1

theorem pow_lt_10 (m : Nat) (hm : m < 18446744073709551616) : m < 10 ^ 20 := Nat.lt_trans hm (by decide)
theorem pow_lt_16 (m : Nat) (hm : m < 18446744073709551616) : m < 16 ^ 20 := Nat.lt_trans hm (by decide)

def Is64 (n : Int) : Prop := -9223372036854775808 ≤ n ∧ n ≤ 9223372036854775807

def ParseIs (l : List UInt8) (v : Int) (ok : Bool) : Prop := (ok = true → Is64 v ∧ l = pl v) ∧ (ok = false → v = 0 ∧ ∀ n, Is64 n → l ≠ pl n)

theorem dv_minus : dv 45 = 99 := rfl

theorem ltxt_no_minus (m : Nat) (r : List UInt8) : ltxt 10 m ≠ 45 :: r := by
  intro h
  have := dv_ltxt 10 m (.inl rfl) 45 (by rw [h]; simp)
  rw [dv_minus] at this
  omega

theorem pl_cases (n : Int) : (∃ m : Nat, 0 < m ∧ n = -m ∧ pl n = 45 :: ltxt 10 m) ∨ (∃ m : Nat, n = m ∧ pl n = ltxt 10 m) := by
  by_cases h : n < 0
  · obtain ⟨m, rfl⟩ : ∃ m : Nat, n = -m := ⟨n.natAbs, by omega⟩
    exact .inl ⟨m, by omega, rfl, pl_neg m (by omega)⟩
  · obtain ⟨m, rfl⟩ : ∃ m : Nat, n = m := ⟨n.natAbs, by omega⟩
    exact .inr ⟨m, rfl, pl_pos m⟩

/-- Without - ahead. -/
theorem parse_plain {l : List UInt8} {v : Nat} {ok : Bool} (hl : ∀ r, l ≠ 45 :: r) (h : TakeIs 10 9223372036854775807 l v ok) : ParseIs l v ok := by
  refine ⟨fun hok => ?_, fun hok => ?_⟩
  · obtain ⟨h1, h2⟩ := h.1 hok
    exact ⟨⟨by omega, by omega⟩, by rw [pl_pos]; exact h2⟩
  · obtain ⟨h1, h2⟩ := h.2 hok
    refine ⟨by rw [h1]; rfl, fun n hn e => ?_⟩
    rcases pl_cases n with ⟨m, _, _, e2⟩ | ⟨m, e1, e2⟩
    · exact hl _ (e.trans e2)
    · exact h2 m (by have := hn.2; omega) (e.trans e2)

/-- The same, read up to one more. -/
theorem parse_plain_more {l : List UInt8} {v : Nat} {ok : Bool} (hl : ∀ r, l ≠ 45 :: r) (h : TakeIs 10 9223372036854775808 l v ok) (hv : v ≠ 9223372036854775808) : ParseIs l v ok := by
  refine parse_plain hl ⟨fun hok => ?_, fun hok => ?_⟩
  · obtain ⟨h1, h2⟩ := h.1 hok
    exact ⟨by omega, h2⟩
  · obtain ⟨h1, h2⟩ := h.2 hok
    exact ⟨h1, fun m hm => h2 m (by omega)⟩
theorem parse_plain_most {l : List UInt8} (hl : ∀ r, l ≠ 45 :: r) (h : TakeIs 10 9223372036854775808 l 9223372036854775808 true) : ParseIs l 0 false := by
  refine ⟨by simp, fun _ => ⟨rfl, fun n hn e => ?_⟩⟩
  rcases pl_cases n with ⟨m, _, _, e2⟩ | ⟨m, e1, e2⟩
  · exact hl _ (e.trans e2)
  · have h2 := (h.1 rfl).2
    rw [e, e2] at h2
    have h3 := congrArg (vals 10) h2
    have h4 := hn.2
    rw [vals_ltxt 10 m (.inl rfl) (pow_lt_10 m (by omega)), vals_ltxt 10 _ (.inl rfl) (by decide)] at h3
    omega

/-- With - ahead. -/
theorem parse_minus {r : List UInt8} {v : Nat} {ok : Bool} (h : TakeIs 10 9223372036854775808 r v ok) (hv : v ≠ 0) : ParseIs (45 :: r) (-(v : Int)) ok := by
  cases ok with
  | true =>
    obtain ⟨h1, h2⟩ := h.1 rfl
    exact ⟨fun _ => ⟨⟨by omega, by omega⟩, by rw [pl_neg v (by omega), h2]⟩, by simp⟩
  | false => exact absurd (h.2 rfl).1 hv
theorem parse_minus_none {r : List UInt8} {v : Nat} {ok : Bool} (h : TakeIs 10 9223372036854775808 r v ok) (hv : v = 0) : ParseIs (45 :: r) 0 false := by
  refine ⟨by simp, fun _ => ⟨rfl, fun n hn e => ?_⟩⟩
  rcases pl_cases n with ⟨m, hm0, e1, e2⟩ | ⟨m, e1, e2⟩
  · rw [e2] at e
    have e3 : r = ltxt 10 m := (List.cons.inj e).2
    have h4 := hn.1
    cases ok with
    | true =>
      have h2 := (h.1 rfl).2
      rw [e3, hv] at h2
      have h3 := congrArg (vals 10) h2
      rw [vals_ltxt 10 m (.inl rfl) (pow_lt_10 m (by omega)), vals_ltxt 10 _ (.inl rfl) (by decide)] at h3
      omega
    | false => exact (h.2 rfl).2 m (by omega) e3
  · rw [e2] at e
    exact ltxt_no_minus m r e.symm

/-- Numbers that differ have unlike texts. -/
theorem pl_inj {n m : Int} (hn : Is64 n) (hm : Is64 m) (h : pl n = pl m) : n = m := by
  have h1 := hn.1
  have h2 := hn.2
  have h3 := hm.1
  have h4 := hm.2
  rcases pl_cases n with ⟨a, ha, e1, e2⟩ | ⟨a, e1, e2⟩ <;> rcases pl_cases m with ⟨b, hb, e3, e4⟩ | ⟨b, e3, e4⟩
  · rw [e2, e4] at h
    have h' := congrArg (vals 10) (List.cons.inj h).2
    rw [vals_ltxt 10 a (.inl rfl) (pow_lt_10 a (by omega)), vals_ltxt 10 b (.inl rfl) (pow_lt_10 b (by omega))] at h'
    omega
  · rw [e2, e4] at h
    exact absurd h.symm (ltxt_no_minus _ _)
  · rw [e2, e4] at h
    exact absurd h (ltxt_no_minus _ _)
  · rw [e2, e4] at h
    have h' := congrArg (vals 10) h
    rw [vals_ltxt 10 a (.inl rfl) (pow_lt_10 a (by omega)), vals_ltxt 10 b (.inl rfl) (pow_lt_10 b (by omega))] at h'
    omega

/-- What is read is one. -/
theorem parseIs_one {l : List UInt8} {v v' : Int} {ok ok' : Bool} (h : ParseIs l v ok) (h' : ParseIs l v' ok') : v = v' ∧ ok = ok' := by
  cases ok with
  | true =>
    obtain ⟨h1, h2⟩ := h.1 rfl
    cases ok' with
    | true =>
      obtain ⟨h3, h4⟩ := h'.1 rfl
      exact ⟨pl_inj h1 h3 (h2.symm.trans h4), rfl⟩
    | false => exact absurd h2 ((h'.2 rfl).2 v h1)
  | false =>
    cases ok' with
    | true => obtain ⟨h3, h4⟩ := h'.1 rfl; exact absurd h4 ((h.2 rfl).2 v' h3)
    | false => exact ⟨by rw [(h.2 rfl).1, (h'.2 rfl).1], rfl⟩

theorem ltxt_len (b m : Nat) : (ltxt b m).length ≤ 20 := by
  unfold ltxt
  rw [List.length_map]
  exact dgs_length b 20 m
theorem ltxt_len19 (m : Nat) (hm : m ≤ 9223372036854775808) : (ltxt 10 m).length ≤ 19 := by
  have h := dgs_fuel 10 (by omega) 19 m (Nat.lt_of_le_of_lt hm (by decide)) (by omega) 1
  unfold ltxt
  rw [List.length_map, show (20 : Nat) = 19 + 1 from rfl, h]
  exact dgs_length 10 19 m
theorem ltxt_len16 (m : Nat) (hm : m ≤ 18446744073709551615) : (ltxt 16 m).length ≤ 16 := by
  have h := dgs_fuel 16 (by omega) 16 m (Nat.lt_of_le_of_lt hm (by decide)) (by omega) 4
  unfold ltxt
  rw [List.length_map, show (20 : Nat) = 16 + 4 from rfl, h]
  exact dgs_length 16 16 m
theorem pl_len (n : Int) : (pl n).length ≤ 21 := by
  unfold pl
  have := ltxt_len 10 n.natAbs
  split <;> simp <;> omega

end Go.Proofs.Ytibeljppjaenbaa
