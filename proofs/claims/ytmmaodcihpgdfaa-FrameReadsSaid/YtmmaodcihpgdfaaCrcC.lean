/- Stage 9's program: bits turned. -/
import Derived.Test.YtmmaodcihpgdfaaCrcB
import Derived.Laws.MakeOwn
import Derived.BigQuiet
namespace Go.Proofs.Ytmmaodcihpgdfaa
open Go.RowKit Go.Deep Go.Joins Go.ChangeShapes Go.WideShapes

/-! ### Mathematics -/
theorem i64_and7 (n : Int) : bits .and .i64 n 7 = n % 8 := by
  have h7 : (BitVec.ofInt 64 7).toNat = 2 ^ 3 - 1 := by decide
  have key : (BitVec.ofInt 64 n &&& BitVec.ofInt 64 7).toNat = (n % ((2 ^ 64 : Nat) : Int)).toNat % 2 ^ 3 := by
    rw [BitVec.toNat_and, BitVec.toNat_ofInt, h7, Nat.and_two_pow_sub_one_eq_mod]
  show IntKind.i64.wrap ((BitVec.ofInt 64 n &&& BitVec.ofInt 64 7).toNat : Nat) = n % 8
  rw [key, IntKind.wrap_i64]
  omega
theorem two8 (n : Nat) : (256 : Nat) ^ n = 2 ^ (8 * n) := by rw [Nat.pow_mul]
/-- byte n of what is laid over the bytes -/
theorem flq_byte {at_ F : Int} {b i n r : Nat} (hat : at_ = 8 * F + r) (hn : (n : Int) = F + i) : flq at_ b / 256 ^ n = b * 2 ^ r / 2 ^ (8 * i) := by
  unfold flq
  rw [two8]
  by_cases h0 : 0 ≤ at_
  · rw [if_pos h0]
    obtain ⟨A, hA⟩ : ∃ A : Nat, at_ = A := ⟨at_.toNat, by omega⟩
    rw [hA, Int.toNat_natCast]
    have e : A + 8 * i = 8 * n + r := by omega
    rw [← Nat.mul_div_mul_right (b * 2 ^ A) (2 ^ (8 * n)) (Nat.pow_pos (n := 8 * i) (show 0 < 2 by decide)), Nat.mul_assoc, ← Nat.pow_add, e, Nat.pow_add, Nat.mul_left_comm, Nat.mul_div_mul_left _ _ (Nat.pow_pos (by decide))]
  · rw [if_neg h0]
    obtain ⟨A, hA⟩ : ∃ A : Nat, -at_ = A := ⟨(-at_).toNat, by omega⟩
    have e : 8 * i = A + 8 * n + r := by omega
    rw [hA, Int.toNat_natCast, Nat.div_div_eq_div_mul, ← Nat.pow_add, e, Nat.pow_add 2 (A + 8 * n) r, Nat.mul_div_mul_right _ _ (Nat.pow_pos (by decide))]
theorem flq_before {at_ F : Int} {b n r : Nat} (hat : at_ = 8 * F + r) (hn : (n : Int) < F) : flq at_ b / 256 ^ n % 256 = 0 := by
  unfold flq
  rw [if_pos (by omega), two8]
  obtain ⟨d, hd⟩ : ∃ d, at_.toNat = 8 * n + 8 + d := ⟨at_.toNat - (8 * n + 8), by omega⟩
  rw [hd, Nat.add_assoc, Nat.pow_add, Nat.mul_left_comm, Nat.mul_div_cancel_left _ (Nat.pow_pos (by decide)), Nat.pow_add, Nat.mul_left_comm]
  exact Nat.mul_mod_right _ _
theorem flq_behind {at_ F : Int} {b n r : Nat} (hat : at_ = 8 * F + r) (hr : r < 8) (hb : b < 4294967296) (hn : F + 5 ≤ (n : Int)) : flq at_ b / 256 ^ n = 0 := by
  obtain ⟨i, hi⟩ : ∃ i : Nat, (n : Int) = F + i := ⟨((n : Int) - F).toNat, by omega⟩
  rw [flq_byte hat hi]
  have h1 : b * 2 ^ r < 2 ^ 32 * 2 ^ 8 := by
    have h3 : 2 ^ r ≤ 2 ^ 7 := Nat.pow_le_pow_right (by decide) (by omega)
    have h4 : b * 2 ^ r ≤ b * 2 ^ 7 := Nat.mul_le_mul_left _ h3
    omega
  have h2 : (2 : Nat) ^ 40 ≤ 2 ^ (8 * i) := Nat.pow_le_pow_right (by decide) (by omega)
  exact Nat.div_eq_of_lt (by omega)

/-- the bytes of which those ahead of place p are laid over -/
def Laid9 (Q : Nat) (N : List Nat) (p : Int) (L : List Nat) : Prop := L.length = N.length ∧ ∀ j : Nat, ∀ x, N[j]? = some x → L[j]? = some (x ^^^ if (j : Int) < p then Q / 256 ^ j % 256 else 0)
theorem Laid9.start {Q : Nat} {N : List Nat} {p : Int} (h : ∀ j : Nat, (j : Int) < p → Q / 256 ^ j % 256 = 0) : Laid9 Q N p N := by
  refine ⟨rfl, fun j x hx => ?_⟩
  by_cases hj : (j : Int) < p
  · rw [if_pos hj, h j hj, Nat.xor_zero, hx]
  · rw [if_neg hj, Nat.xor_zero, hx]
theorem Laid9.skip {Q : Nat} {N L : List Nat} {p : Int} (h : Laid9 Q N p L) (hp : p < 0 ∨ (N.length : Int) ≤ p) : Laid9 Q N (p + 1) L := by
  refine ⟨h.1, fun j x hx => ?_⟩
  have hj : j < N.length := (List.getElem?_eq_some_iff.1 hx).1
  rw [h.2 j x hx]
  by_cases h1 : (j : Int) < p
  · rw [if_pos h1, if_pos (by omega)]
  · rw [if_neg h1, if_neg (by omega)]
theorem Laid9.put {Q n : Nat} {N L : List Nat} (h : Laid9 Q N n L) (hL : n < L.length) : Laid9 Q N ((n : Int) + 1) (L.set n (L[n] ^^^ Q / 256 ^ n % 256)) := by
  refine ⟨by rw [List.length_set]; exact h.1, fun j x hx => ?_⟩
  have hj : j < N.length := (List.getElem?_eq_some_iff.1 hx).1
  have hl := h.1
  rw [List.getElem?_set]
  by_cases e : n = j
  · subst e
    have h2 := h.2 n x hx
    rw [if_neg (by omega), Nat.xor_zero, List.getElem?_eq_getElem hL] at h2
    rw [if_pos rfl, if_pos hL, if_pos (by omega), Option.some.inj h2]
  · rw [if_neg e, h.2 j x hx]
    by_cases h1 : (j : Int) < n
    · rw [if_pos h1, if_pos (by omega)]
    · rw [if_neg h1, if_neg (by omega)]
theorem Laid9.byte {Q : Nat} {N L : List Nat} {p : Int} (h : Laid9 Q N p L) (hN : ∀ b ∈ N, b < 256) : ∀ b ∈ L, b < 256 := by
  intro b hb
  obtain ⟨j, hj, rfl⟩ := List.getElem_of_mem hb
  have hl := h.1
  have h2 := h.2 j N[j] (List.getElem?_eq_getElem (by omega))
  rw [List.getElem?_eq_getElem hj] at h2
  rw [Option.some.inj h2]
  refine Nat.xor_lt_two_pow (n := 8) (hN _ (List.getElem_mem _)) ?_
  split
  · exact Nat.mod_lt _ (by decide)
  · decide
theorem Laid9.all {Q : Nat} {N L : List Nat} {p : Int} (h : Laid9 Q N p L) (hp : ∀ j : Nat, p ≤ (j : Int) → Q / 256 ^ j % 256 = 0) : L = flx Q N := by
  apply List.ext_getElem?
  intro j
  by_cases hj : j < N.length
  · rw [h.2 j N[j] (List.getElem?_eq_getElem hj), flx_at N Q j hj]
    by_cases h1 : (j : Int) < p
    · rw [if_pos h1]
    · rw [if_neg h1, hp j (by omega)]
  · rw [List.getElem?_eq_none (by rw [h.1]; omega), List.getElem?_eq_none (by rw [flx_length]; omega)]

/-! ### Bytes copied into new memory -/
theorem flats_one (l : List UInt8) : ∀ v ∈ flats csB l, v.oneCell' = true := by
  intro v hv
  unfold flats at hv
  obtain ⟨b, _, hv⟩ := List.mem_flatMap.1 hv
  exact csB_one b v hv
theorem copied {w w' : World} {a : Option Addr} {c g : Nat} {l : List UInt8} (h : BytesAt w (.slice a l.length c) l) (hb : Below w.heap.size w w') :
    0 < (flats csB l).length → some ⟨g, 0, none⟩ = some (⟨g, 0, none⟩ : Addr) ∧ ∃ ad, a = some ad ∧ ∀ j v, (flats csB l)[j]? = some v → w'.cell? (ad.add j) = some v := by
  intro h0
  rw [flats_length csB_len, Nat.mul_one] at h0
  obtain ⟨g', o, c', e, _⟩ := BytesAt.at h 0 h0
  cases e
  refine ⟨rfl, _, rfl, fun j v hv => ?_⟩
  obtain ⟨q, i, x, e1, e2, e3⟩ := flats_inv csB_len l j v hv
  have hq := (List.getElem?_eq_some_iff.1 e2).1
  obtain ⟨g', o, c', e, _, _, p0⟩ := BytesAt.at (h.kept hb) q hq
  cases e
  have hi : i = 0 := by
    have := (List.getElem?_eq_some_iff.1 e3).1
    rw [csB_len] at this
    omega
  subst hi
  simp [csB] at e3
  subst e3
  rw [add_plain]
  rw [List.getElem?_eq_getElem hq] at e2
  cases e2
  rw [← p0]
  congr 2
  omega
theorem own_copy {w : World} {g : Nat} {X : List Value} {l : List UInt8} (hX : X.length = l.length) (h : w.heap[g]? = some (.cells (splice X 0 (flats csB l)).toArray 5 (0, 0))) (hl : l.length ≤ maxLen) :
    OwnB w g (.slice (some ⟨g, 0, none⟩) l.length l.length) l := by
  have hf : (flats csB l).length = l.length := by rw [flats_length csB_len, Nat.mul_one]
  have e : splice X 0 (flats csB l) = flats csB l := by
    unfold splice
    rw [List.take_zero, List.nil_append, List.drop_of_length_le (by omega), List.append_nil]
  rw [e] at h
  exact ⟨by rw [Nat.mul_one]; exact hf, .inr ⟨g, l.length, (flats csB l).toArray, rfl, Nat.le_refl _, h, Nat.le_refl _, hl, by simp [hf], by rw [Nat.mul_one]; exact List.take_of_length_le (by simp [hf])⟩⟩

theorem cSum9_any (va : Value) (l : List UInt8) (w : World) (ha : BytesAt w va l) (hl : l.length ≤ 1000000) :
    Calls Try.prog 28 #[va] w fun e w' => e = .returned (.int .u32 ((sm (nb9 l) : Nat) : Int)) ∧ Below w.heap.size w w' := by
  have h : ∀ w, BytesAt w va l → Calls Try.prog 27 #[.int .u32 0, va] w fun e w' => e = .returned (.int .u32 ((sm (nb9 l) : Nat) : Int)) ∧ Below w.heap.size w w' := fun w ha => cMore9_any 0 va l w ha hl (by decide)
  have H := Lib.hid (h w ha)
  clear ha h
  go_enter Try.func28, Try.ntmps28
  go_wp2_with (go_at_call 27; (with_reducible refine H.out.mono ?_); rintro e w1 ⟨rfl, hb⟩)
  go_ret
  exact ⟨rfl, hb⟩

end Go.Proofs.Ytmmaodcihpgdfaa
