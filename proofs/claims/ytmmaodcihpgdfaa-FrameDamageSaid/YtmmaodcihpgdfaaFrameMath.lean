/- Mathematics of a record's damage. -/
import Derived.Test.YtmmaodcihpgdfaaFrameLawT
namespace Go.Proofs.Ytmmaodcihpgdfaa
open Go.RowKit

theorem read_parts (S p l : List UInt8) (hS : S.length = 4) (h : p.length ≤ 65536) :
    readF (hdF p.length ++ (S ++ (p ++ l))) = if sbF p = unbig (nb S) then (p, l, 0) else ([], [], 5) := by
  generalize hx : hdF p.length ++ (S ++ (p ++ l)) = x
  have e1 : x.take 4 = hdF p.length := by rw [← hx, List.take_append_of_le_length (by rw [hdF_len]; exact Nat.le_refl _), List.take_of_length_le (by rw [hdF_len]; exact Nat.le_refl _)]
  have e2 : x.drop 4 = S ++ (p ++ l) := by rw [← hx, List.drop_append_of_le_length (by rw [hdF_len]; exact Nat.le_refl _), List.drop_of_length_le (by rw [hdF_len]; exact Nat.le_refl _)]; rfl
  have e3 : x.drop 8 = p ++ l := by
    rw [show (8 : Nat) = 4 + 4 from rfl, ← List.drop_drop, e2, List.drop_append_of_le_length (by omega), List.drop_of_length_le (by omega)]; rfl
  have e4 : lenF x = p.length := by unfold lenF; rw [e1]; exact hdF_un _ (by omega)
  have e5 : sumF x = unbig (nb S) := by unfold sumF; rw [e2, List.take_append_of_le_length (by omega), List.take_of_length_le (by omega)]
  have e6 : payF x = p := by unfold payF; rw [e3, e4, List.take_append_of_le_length (Nat.le_refl _), List.take_of_length_le (Nat.le_refl _)]
  have e7 : okF x = sbF p := by unfold okF; rw [e1, e6]; rfl
  have e8 : x.drop (8 + p.length) = l := by rw [← List.drop_drop, e3, List.drop_append_of_le_length (Nat.le_refl _), List.drop_of_length_le (Nat.le_refl _)]; rfl
  have e9 : x.length = 8 + p.length + l.length := by rw [← hx]; simp only [List.length_append, hdF_len]; omega
  unfold readF
  rw [e4, e5, e6, e7, e8, e9, if_neg (by omega), if_neg (by omega), if_neg (by omega)]
theorem unbig_inj (A B : List Nat) (hA : ∀ b ∈ A, b < 256) (hB : ∀ b ∈ B, b < 256) (hl : A.length = B.length) (h : unbig A = unbig B) : A = B := by
  rw [← bigs_unbig A hA, ← bigs_unbig B hB, hl, h]
theorem flx_one (l : List Nat) : ∀ j b, b < 256 → (h : j < l.length) → flx (b * 2 ^ (8 * j)) l = l.set j (l[j] ^^^ b) := by
  induction l with
  | nil => intro j b _ h; simp at h
  | cons x l ih =>
    intro j b hb h
    cases j with
    | zero =>
      simp only [flx, Nat.mul_zero, Nat.pow_zero, Nat.mul_one, List.set_cons_zero, List.getElem_cons_zero]
      rw [Nat.mod_eq_of_lt hb, Nat.div_eq_of_lt hb, flx_zero l 0 (Nat.zero_mod _)]
    | succ j =>
      have e : b * 2 ^ (8 * (j + 1)) = 256 * (b * 2 ^ (8 * j)) := by
        rw [show 8 * (j + 1) = 8 * j + 8 by omega, Nat.pow_add]
        generalize 2 ^ (8 * j) = z
        rw [show (2 : Nat) ^ 8 = 256 by decide, Nat.mul_comm 256, Nat.mul_assoc]
      simp only [flx, List.set_cons_succ, List.getElem_cons_succ]
      rw [e, Nat.mul_mod_right, Nat.xor_zero, Nat.mul_div_cancel_left _ (by decide), ih j b hb (by simpa using h)]
theorem xor_self0 {a b : Nat} (h : a ^^^ b = a) : b = 0 := xor_left h
/-- one byte another one -/
theorem sum_one (l : List UInt8) (j : Nat) (h : j < l.length) (b : Nat) (hb : b < 256) (h0 : b ≠ 0) : sm (nb9 (l.set j (UInt8.ofNat (l[j].toNat ^^^ b)))) ≠ sm (nb9 l) := by
  have hx : l[j].toNat ^^^ b < 256 := Nat.xor_lt_two_pow (n := 8) l[j].toNat_lt hb
  have e : nb9 (l.set j (UInt8.ofNat (l[j].toNat ^^^ b))) = flx (b * 2 ^ (8 * j)) (nb9 l) := by
    rw [flx_one (nb9 l) j b hb (by rw [nb9_len]; exact h)]
    unfold nb9
    rw [List.map_set, List.getElem_map, UInt8.toNat_ofNat', Nat.mod_eq_of_lt hx]
  rw [e]
  intro hs
  rw [tells (nb9 l) (8 * j) b (by rw [nb9_len]; omega) (by omega) (nb9_byte l), flx_one (nb9 l) j b hb (by rw [nb9_len]; exact h)] at hs
  have h2 := congrArg (fun z => z[j]?) hs
  rw [List.getElem?_set_self (by rw [nb9_len]; exact h), List.getElem?_eq_getElem (by rw [nb9_len]; exact h)] at h2
  exact h0 (xor_left (Option.some.inj h2))
theorem damage (p l : List UInt8) (i b : Nat) (hp : p.length ≤ 65536) (h4 : 4 ≤ i) (hi : i < 8 + p.length) (hb : b < 256) (h0 : b ≠ 0) (hx : i < (recF p ++ l).length) :
    readF ((recF p ++ l).set i (UInt8.ofNat ((recF p ++ l)[i].toNat ^^^ b))) = ([], [], 5) := by
  have hc := recF_cut p l
  generalize hS : hdF (sbF p) = S at hc
  have hSl : S.length = 4 := by rw [← hS, hdF_len]
  have hSu : unbig (nb S) = sbF p := by rw [← hS]; exact hdF_un _ (sbF_lt p)
  have hD : (hdF p.length).length = 4 := hdF_len _
  by_cases h8 : i < 8
  · obtain ⟨r, rfl⟩ : ∃ r, i = 4 + r := ⟨i - 4, by omega⟩
    have hg : (recF p ++ l)[4 + r] = S[r]'(by omega) := by
      simp only [hc]
      rw [List.getElem_append_right (by omega), List.getElem_append_left (by omega)]
      congr 1
      omega
    have hs : (recF p ++ l).set (4 + r) (UInt8.ofNat (S[r].toNat ^^^ b)) = hdF p.length ++ (S.set r (UInt8.ofNat (S[r].toNat ^^^ b)) ++ (p ++ l)) := by
      rw [hc, List.set_append_right _ _ (by omega), List.set_append_left _ _ (by omega)]
      congr 3
      omega
    rw [hg, hs, read_parts _ p l (by rw [List.length_set]; exact hSl) hp, if_neg]
    intro e
    rw [← hSu] at e
    have e2 := unbig_inj _ _ (nb_byte S) (nb_byte _) (by rw [nb_len, nb_len, List.length_set]) e
    have e3 := congrArg (fun z => z[r]?) e2
    have hlt : S[r].toNat ^^^ b < 256 := Nat.xor_lt_two_pow (n := 8) S[r].toNat_lt hb
    unfold nb at e3
    simp only [List.getElem?_map] at e3
    rw [List.getElem?_set_self (by omega), List.getElem?_eq_getElem (by omega)] at e3
    simp only [Option.map_some, Option.some.injEq] at e3
    rw [UInt8.toNat_ofNat', Nat.mod_eq_of_lt hlt] at e3
    exact h0 (xor_left e3.symm)
  · obtain ⟨r, rfl⟩ : ∃ r, i = 8 + r := ⟨i - 8, by omega⟩
    have hr : r < p.length := by omega
    have hg : (recF p ++ l)[8 + r] = p[r] := by
      simp only [hc]
      rw [List.getElem_append_right (by omega), List.getElem_append_right (by omega), List.getElem_append_left (by omega)]
      congr 1
      omega
    have hs : (recF p ++ l).set (8 + r) (UInt8.ofNat (p[r].toNat ^^^ b)) = hdF (p.set r (UInt8.ofNat (p[r].toNat ^^^ b))).length ++ (S ++ (p.set r (UInt8.ofNat (p[r].toNat ^^^ b)) ++ l)) := by
      rw [hc, List.set_append_right _ _ (by omega), List.set_append_right _ _ (by omega), List.set_append_left _ _ (by omega), List.length_set]
      congr 4
      omega
    rw [hg, hs, read_parts S _ l hSl (by rw [List.length_set]; exact hp), if_neg]
    rw [hSu]
    unfold sbF
    rw [List.length_set]
    have hlt : 4 + r < (hdF p.length ++ p).length := by rw [List.length_append, hD]; omega
    have hgg : (hdF p.length ++ p)[4 + r] = p[r] := by
      rw [List.getElem_append_right (by omega)]
      congr 1
      omega
    have := sum_one (hdF p.length ++ p) (4 + r) hlt b hb h0
    rw [hgg, List.set_append_right _ _ (by omega), show 4 + r - (hdF p.length).length = r by omega] at this
    exact this
end Go.Proofs.Ytmmaodcihpgdfaa
