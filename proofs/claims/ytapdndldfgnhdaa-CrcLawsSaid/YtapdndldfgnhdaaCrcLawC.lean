/- The law CrcLaws: its mathematics and its walk. -/
import Derived.Test.YtapdndldfgnhdaaCrcLawT
import Derived.Laws.BitsAllLaws
namespace Go.Proofs.Ytapdndldfgnhdaa
open Go.RowKit

/-- three rows of bytes laid over one another -/
def mixB (a b c : List UInt8) : List UInt8 := bn9 (xorL (nb9 a) (xorL (nb9 b) (nb9 c)))
theorem xorL_byte (a : List Nat) : ∀ b, (∀ x ∈ a, x < 256) → (∀ x ∈ b, x < 256) → ∀ x ∈ xorL a b, x < 256 := by
  induction a with
  | nil => intro b _ _ x h; cases h
  | cons y a ih =>
    intro b ha hb x h
    cases b with
    | nil => cases h
    | cons z b =>
      have e : xorL (y :: a) (z :: b) = (y ^^^ z) :: xorL a b := rfl
      rw [e] at h
      rcases List.mem_cons.1 h with rfl | h
      · exact Nat.xor_lt_two_pow (n := 8) (ha y (by simp)) (hb z (by simp))
      · exact ih b (fun x hx => ha x (by simp [hx])) (fun x hx => hb x (by simp [hx])) x h
theorem mixB_nb (a b c : List UInt8) : nb9 (mixB a b c) = xorL (nb9 a) (xorL (nb9 b) (nb9 c)) := nb9_bn9 (xorL_byte _ _ (nb9_byte a) (xorL_byte _ _ (nb9_byte b) (nb9_byte c)))
theorem mixB_len (a b c : List UInt8) (hb : b.length = a.length) (hc : c.length = a.length) : (mixB a b c).length = a.length := by
  have h := congrArg List.length (mixB_nb a b c)
  rw [nb9_len, xorL_length _ _ (by rw [xorL_length _ _ (by rw [nb9_len, nb9_len]; omega), nb9_len, nb9_len]; omega), nb9_len] at h
  exact h
theorem mixB_at (a b c : List UInt8) (j : Nat) (h : j < (mixB a b c).length) (ha : j < a.length) (hb : j < b.length) (hc : j < c.length) : (mixB a b c)[j].toNat = a[j].toNat ^^^ (b[j].toNat ^^^ c[j].toNat) := by
  have h1 : (nb9 (mixB a b c))[j]? = some (mixB a b c)[j].toNat := by unfold nb9; rw [List.getElem?_map, List.getElem?_eq_getElem h]; rfl
  rw [mixB_nb] at h1
  unfold xorL nb9 at h1
  rw [List.getElem?_zipWith, List.getElem?_zipWith, List.getElem?_map, List.getElem?_map, List.getElem?_map, List.getElem?_eq_getElem ha, List.getElem?_eq_getElem hb, List.getElem?_eq_getElem hc] at h1
  simp at h1
  exact h1.symm
theorem sm_mix (a b c : List UInt8) (hb : b.length = a.length) (hc : c.length = a.length) : sm (nb9 (mixB a b c)) = sm (nb9 a) ^^^ sm (nb9 b) ^^^ sm (nb9 c) := by
  rw [mixB_nb]
  exact sm_three _ _ _ (by rw [nb9_len, nb9_len, hb]) (by rw [nb9_len, nb9_len, hc]) (nb9_byte a) (nb9_byte b) (nb9_byte c) (xorL_byte _ _ (nb9_byte a) (xorL_byte _ _ (nb9_byte b) (nb9_byte c)))
theorem lay_len {α : Type} (X L : List α) (k : Nat) (hk : k ≤ L.length) (hX : X.length = L.length) : (X.take k ++ L.drop k).length = L.length := by
  rw [List.length_append, List.length_take, List.length_drop]
  omega
theorem lay_next {α : Type} (X L : List α) (k : Nat) (hk : k < L.length) (hX : X.length = L.length) : (X.take k ++ L.drop k).set k (X[k]'(by omega)) = X.take (k + 1) ++ L.drop (k + 1) := by
  rw [List.set_append_right _ _ (by rw [List.length_take]; omega), List.length_take, Nat.min_eq_left (by omega), Nat.sub_self, List.drop_eq_getElem_cons hk, List.set_cons_zero, List.take_succ_eq_append_getElem (by omega), List.append_assoc]
  rfl
theorem lay_at {α : Type} (X L : List α) (k : Nat) (hk : k < L.length) (hX : X.length = L.length) (h : k < (X.take k ++ L.drop k).length) : (X.take k ++ L.drop k)[k] = L[k] := by
  rw [List.getElem_append_right (by rw [List.length_take]; omega)]
  simp [List.length_take, Nat.min_eq_left (show k ≤ X.length by omega)]
theorem sm_lt (l : List Nat) : sm l < 4294967296 := tn9_lt _
theorem nb9_append (a b : List UInt8) : nb9 (a ++ b) = nb9 a ++ nb9 b := List.map_append
theorem more_rest (l : List UInt8) (k : Nat) : mor (sm (nb9 (l.take k))) (nb9 (l.drop k)) = sm (nb9 l) := by
  rw [mor_more _ _ (nb9_byte _), ← nb9_append, List.take_append_drop]
theorem RowsAt.empty {α : Type} (w : World) (K : Nat) (cs : α → List Value) (a : Option Addr) (c : Nat) : RowsAt w K cs (.slice a 0 c) [] := ⟨a, c, rfl, Nat.zero_le _, fun h => absurd h (by simp)⟩
/-- the rest of a list from k on, as a slice -/
theorem RowsAt.rest9 {α : Type} {w : World} {K : Nat} {cs : α → List Value} {a : Option Addr} {n cap : Nat} {l : List α} (h : RowsAt w K cs (.slice a n cap) l) (k : Nat) (hk : k ≤ l.length) (b : Option Addr)
    (hb : ∀ g o, a = some ⟨g, o, none⟩ → k < l.length → b = some ⟨g, o + k * K, none⟩) : RowsAt w K cs (.slice b (n - k) (cap - k)) (l.drop k) := by
  obtain ⟨a', c', e, hc, hx⟩ := h
  cases e
  refine ⟨b, cap - k, by rw [List.length_drop], by rw [List.length_drop]; omega, fun h0 => ?_⟩
  rw [List.length_drop] at h0
  obtain ⟨g, o, e, hg, hxa⟩ := hx (by omega)
  refine ⟨g, o + k * K, hb g o e (by omega), hg, fun j x hj i u hu => ?_⟩
  have := hxa (k + j) x (by rw [List.getElem?_drop] at hj; exact hj) i u hu
  rw [← this]
  congr 2
  rw [Nat.add_mul]
  omega
end Go.Proofs.Ytapdndldfgnhdaa
