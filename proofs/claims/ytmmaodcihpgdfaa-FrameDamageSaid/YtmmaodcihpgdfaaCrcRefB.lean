/- The walks of the document's answers for layer 9: bits turned. -/
import Derived.Test.YtmmaodcihpgdfaaCrcRefA
import Derived.LoopNIn
namespace Go.Proofs.Ytmmaodcihpgdfaa
open Go.RowKit

/-! ### Mathematics -/
/-- what is laid over the bytes -/
def flq (at_ : Int) (b : Nat) : Nat := if 0 ≤ at_ then b * 2 ^ at_.toNat else b / 2 ^ (-at_).toNat
theorem flq_out {at_ : Int} {b n : Nat} (hb : b < 2 ^ 32) (h : (n : Int) < at_ ∨ at_ < (n : Int) - 31) : flq at_ b / 2 ^ n % 2 = 0 := by
  unfold flq
  by_cases h0 : 0 ≤ at_
  · rw [if_pos h0]
    obtain ⟨A, rfl⟩ : ∃ A : Nat, at_ = A := ⟨at_.toNat, by omega⟩
    rw [Int.toNat_natCast]
    rcases h with h | h
    · obtain ⟨d, rfl⟩ : ∃ d, A = n + (d + 1) := ⟨A - n - 1, by omega⟩
      rw [Nat.pow_add, Nat.mul_left_comm, Nat.mul_div_cancel_left _ (Nat.pow_pos (by decide)), Nat.pow_succ, ← Nat.mul_assoc, Nat.mul_mod_left]
    · obtain ⟨d, rfl⟩ : ∃ d, n = A + (32 + d) := ⟨n - A - 32, by omega⟩
      rw [Nat.pow_add, ← Nat.div_div_eq_div_mul, Nat.mul_div_cancel _ (Nat.pow_pos (by decide)), Nat.div_eq_of_lt (Nat.lt_of_lt_of_le hb (Nat.pow_le_pow_right (by decide) (by omega)))]
  · rw [if_neg h0]
    obtain ⟨A, hA⟩ : ∃ A : Nat, -at_ = A := ⟨(-at_).toNat, by omega⟩
    rw [hA, Int.toNat_natCast, Nat.div_div_eq_div_mul, ← Nat.pow_add]
    rw [Nat.div_eq_of_lt (Nat.lt_of_lt_of_le hb (Nat.pow_le_pow_right (by decide) (by omega)))]
theorem flq_in {at_ : Int} {b n d : Nat} (h : (n : Int) - at_ = d) : flq at_ b / 2 ^ n = b / 2 ^ d := by
  unfold flq
  by_cases h0 : 0 ≤ at_
  · rw [if_pos h0]
    obtain ⟨A, rfl⟩ : ∃ A : Nat, at_ = A := ⟨at_.toNat, by omega⟩
    have e : n = A + d := by omega
    rw [Int.toNat_natCast, e, Nat.pow_add, ← Nat.div_div_eq_div_mul, Nat.mul_div_cancel _ (Nat.pow_pos (by decide))]
  · rw [if_neg h0]
    obtain ⟨A, hA⟩ : ∃ A : Nat, -at_ = A := ⟨(-at_).toNat, by omega⟩
    have e : d = A + n := by omega
    rw [hA, Int.toNat_natCast, Nat.div_div_eq_div_mul, ← Nat.pow_add, e]
theorem tog8 : ∀ c, c < 256 → ∀ r, r < 8 → c ^^^ 2 ^ r = if c / 2 ^ r % 2 = 1 then c - 2 ^ r else c + 2 ^ r := by decide +kernel
theorem pw8 : ∀ r, r < 8 → 2 ^ r ≤ 128 := by decide
theorem add_low {p r : Nat} (hr : r < 8) (hp : p < 2 ^ r) : p + 2 ^ r = p ^^^ 2 ^ r := by
  have := pw8 r hr
  rw [tog8 p (by omega) r hr, Nat.div_eq_of_lt hp, if_neg (by decide)]
/-- one more bit -/
theorem flx_next (l : List Nat) (P n : Nat) (hP : P < 2 ^ n) (hn : n / 8 < l.length) : flx (P + 2 ^ n) l = (flx P l).set (n / 8) (((flx P l)[n / 8]'(by rw [flx_length]; exact hn)) ^^^ 2 ^ (n % 8)) := by
  apply List.ext_getElem?
  intro j
  have hlen := flx_length l P
  rw [List.getElem?_set]
  by_cases hj : j < l.length
  · have h256 : ∀ k : Nat, (256 : Nat) ^ k = 2 ^ (8 * k) := fun k => by rw [Nat.pow_mul]
    rw [flx_at l _ j hj]
    by_cases e : n / 8 = j
    · subst e
      rw [if_pos rfl, if_pos (by rw [hlen]; exact hj)]
      have hc : (flx P l)[n / 8]'(by rw [hlen]; exact hj) = l[n / 8] ^^^ P / 256 ^ (n / 8) % 256 := by
        have := flx_at l P (n / 8) hj
        rw [List.getElem?_eq_getElem (by rw [hlen]; exact hj)] at this
        exact Option.some.inj this
      rw [hc, Nat.xor_assoc]
      congr 2
      have hr : n % 8 < 8 := Nat.mod_lt _ (by decide)
      have e2 : 2 ^ n = 256 ^ (n / 8) * 2 ^ (n % 8) := by rw [h256, ← Nat.pow_add]; congr 1; omega
      have hp : P / 256 ^ (n / 8) < 2 ^ (n % 8) := by
        rw [Nat.div_lt_iff_lt_mul (Nat.pow_pos (by decide)), Nat.mul_comm, ← e2]
        exact hP
      have h3 := pw8 _ hr
      have hlt2 : P / 256 ^ (n / 8) + 2 ^ (n % 8) < 256 := by omega
      have g1 : (P + 2 ^ n) / 256 ^ (n / 8) % 256 = P / 256 ^ (n / 8) + 2 ^ (n % 8) := by
        rw [e2, Nat.add_mul_div_left _ _ (Nat.pow_pos (by decide))]
        exact Nat.mod_eq_of_lt hlt2
      have g2 : P / 256 ^ (n / 8) % 256 = P / 256 ^ (n / 8) := Nat.mod_eq_of_lt (by omega)
      rw [g1, g2, add_low hr hp]
    · rw [if_neg e, flx_at l P j hj]
      congr 2
      rcases Nat.lt_or_ge j (n / 8) with h | h
      · have e2 : 2 ^ n = 256 ^ j * (256 * 2 ^ (n - 8 * j - 8)) := by
          rw [h256, show (256 : Nat) = 2 ^ 8 by decide, ← Nat.pow_add, ← Nat.pow_add]
          congr 1
          omega
        rw [e2, Nat.add_mul_div_left _ _ (Nat.pow_pos (by decide)), Nat.add_mul_mod_self_left]
      · have h4 : 2 ^ (n + 1) ≤ 256 ^ j := by rw [h256]; exact Nat.pow_le_pow_right (by decide) (by omega)
        have h5 : 2 ^ (n + 1) = 2 ^ n * 2 := Nat.pow_succ _ _
        rw [Nat.div_eq_of_lt (show P + 2 ^ n < 256 ^ j by omega), Nat.div_eq_of_lt (show P < 256 ^ j by omega)]
  · rw [List.getElem?_eq_none (by rw [flx_length]; omega)]
    rw [if_neg (by omega), List.getElem?_eq_none (by rw [flx_length]; omega)]
theorem mod_next (Q n : Nat) : Q % 2 ^ (n + 1) = Q % 2 ^ n + 2 ^ n * (Q / 2 ^ n % 2) := Nat.mod_pow_succ

def bn9 (l : List Nat) : List UInt8 := l.map UInt8.ofNat
theorem bn9_nb9 (l : List UInt8) : bn9 (nb9 l) = l := by
  unfold bn9 nb9
  rw [List.map_map]
  conv => rhs; rw [← List.map_id l]
  refine List.map_congr_left fun a _ => ?_
  simp
theorem nb9_bn9 {l : List Nat} (h : ∀ b ∈ l, b < 256) : nb9 (bn9 l) = l := by
  unfold bn9 nb9
  rw [List.map_map]
  conv => rhs; rw [← List.map_id l]
  refine List.map_congr_left fun a ha => ?_
  have := h a ha
  show (UInt8.ofNat a).toNat = a
  rw [UInt8.toNat_ofNat']
  omega
/-- the bytes with bits turned -/
def flips (at_ : Int) (b : Nat) (l : List UInt8) : List UInt8 := bn9 (flx (flq at_ b) (nb9 l))

/-- a byte of one's own, written -/
theorem OwnB.put {w : World} {B g n cap : Nat} {L : List UInt8} (h : OwnB w B (.slice (some ⟨g, 0, none⟩) n cap) L) (i : Nat) (_ : i < L.length) (b : UInt8) :
    OwnB (w.setCell ⟨g, i, none⟩ (.int .u8 (b.toNat : Int))) B (.slice (some ⟨g, 0, none⟩) n cap) (L.set i b) := by
  have hfl : ∀ (L : List UInt8) (i : Nat) (b : UInt8), flats csB (L.set i b) = (flats csB L).set i (.int .u8 (b.toNat : Int)) := by
    intro L
    induction L with
    | nil => intro i b; rfl
    | cons x L ih =>
      intro i b
      cases i with
      | zero => rfl
      | succ i =>
        show flats csB (x :: L.set i b) = (flats csB (x :: L)).set (i + 1) _
        have e1 : flats csB (x :: L.set i b) = csB x ++ flats csB (L.set i b) := rfl
        have e2 : flats csB (x :: L) = csB x ++ flats csB L := rfl
        rw [e1, e2, ih]
        rfl
  unfold OwnB OwnR at *
  rw [List.length_set, hfl]
  refine ⟨by rw [List.length_set]; exact h.1, ?_⟩
  rcases h.2 with ⟨h0, _⟩ | ⟨g', cap', cur, e, hg, hh, hnc, hcp, hcs, htake⟩
  · cases h0
  · cases e
    refine .inr ⟨g, cap, cur.setIfInBounds i (.int .u8 (b.toNat : Int)), rfl, hg, ?_, hnc, hcp, by simpa using hcs, ?_⟩
    · unfold World.setCell
      simp only [Array.getElem?_modify, if_pos, hh, Option.map_some]
      rfl
    · rw [Array.toList_setIfInBounds, List.take_set, htake]
end Go.Proofs.Ytmmaodcihpgdfaa
