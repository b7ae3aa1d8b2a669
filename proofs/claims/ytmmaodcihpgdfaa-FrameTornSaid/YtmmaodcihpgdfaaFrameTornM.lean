/- Mathematics of records that are cut off. -/
import Derived.Test.YtmmaodcihpgdfaaFrameMath
namespace Go.Proofs.Ytmmaodcihpgdfaa
open Go.RowKit

def catF (L : List (List UInt8)) : List UInt8 := L.flatMap recF
theorem catF_cons (p : List UInt8) (L : List (List UInt8)) : catF (p :: L) = recF p ++ catF L := by unfold catF; rw [List.flatMap_cons]
theorem catF_append (L M : List (List UInt8)) : catF (L ++ M) = catF L ++ catF M := List.flatMap_append
theorem catF_one (p : List UInt8) : catF [p] = recF p := by rw [catF_cons]; exact List.append_nil _
theorem catF_next (L : List (List UInt8)) (k : Nat) (h : k < L.length) : catF (L.take (k + 1)) = catF (L.take k) ++ recF L[k] := by
  rw [List.take_succ_eq_append_getElem h, catF_append, catF_one]
theorem catF_bd (L : List (List UInt8)) (h : ∀ p ∈ L, p.length ≤ 60) : (catF L).length ≤ 68 * L.length := by
  induction L with
  | nil => exact Nat.zero_le _
  | cons p L ih =>
    rw [catF_cons, List.length_append, recF_len, List.length_cons]
    have := ih fun x hx => h x (by simp [hx])
    have := h p (by simp)
    omega
theorem all_cat (L : List (List UInt8)) (r : List UInt8) (h : ∀ p ∈ L, p.length ≤ 60) : allF (catF L ++ r) = (L ++ (allF r).1, (catF L).length + (allF r).2) := by
  induction L with
  | nil => show allF r = _; simp [catF]
  | cons p L ih =>
    rw [catF_cons, List.append_assoc, all_rec p _ (by have := h p (by simp); omega), ih fun x hx => h x (by simp [hx])]
    simp only [List.cons_append, List.length_append, recF_len, Nat.add_assoc]
theorem torn_read (p l : List UInt8) (t : Nat) (hp : p.length ≤ 65536) (h : t < 8 + p.length) : readF ((recF p ++ l).take t) = ([], [], 4) := by
  by_cases h8 : t < 8
  · exact readF_short _ (by rw [List.length_take]; omega)
  · have hl : ((recF p ++ l).take t).length = t := by rw [List.length_take, List.length_append, recF_len]; omega
    have e4 : lenF ((recF p ++ l).take t) = p.length := by
      unfold lenF
      rw [List.take_take, Nat.min_eq_left (by omega), recF_cut, List.take_append_of_le_length (by rw [hdF_len]; exact Nat.le_refl _), List.take_of_length_le (by rw [hdF_len]; exact Nat.le_refl _)]
      exact hdF_un _ (by omega)
    unfold readF
    rw [hl, e4, if_neg h8, if_neg (by omega), if_pos (by omega)]
/-- how many are there as a whole -/
def wholeF (L : List (List UInt8)) (t : Nat) : Nat → Nat
  | 0 => 0
  | k + 1 => if (catF (L.take (k + 1))).length ≤ t then k + 1 else wholeF L t k
theorem wholeF_le (L : List (List UInt8)) (t k : Nat) : wholeF L t k ≤ k := by
  induction k with
  | zero => exact Nat.le_refl _
  | succ k ih => unfold wholeF; split <;> omega
theorem wholeF_fits (L : List (List UInt8)) (t k : Nat) : (catF (L.take (wholeF L t k))).length ≤ t := by
  induction k with
  | zero => simp [wholeF, catF]
  | succ k ih =>
    unfold wholeF
    split
    · assumption
    · exact ih
theorem wholeF_out (L : List (List UInt8)) (t k : Nat) : ∀ j, wholeF L t k < j → j ≤ k → t < (catF (L.take j)).length := by
  induction k with
  | zero => intro j h1 h2; omega
  | succ k ih =>
    intro j h1 h2
    unfold wholeF at h1
    split at h1
    · omega
    · rename_i hn
      by_cases hj : j = k + 1
      · subst hj; omega
      · exact ih j h1 (by omega)
theorem torn_all (L : List (List UInt8)) (t : Nat) (h : ∀ p ∈ L, p.length ≤ 60) :
    allF ((catF L).take t) = (L.take (wholeF L t L.length), (catF (L.take (wholeF L t L.length))).length) := by
  have h1 := wholeF_le L t L.length
  have h2 := wholeF_fits L t L.length
  have h3 := wholeF_out L t L.length
  generalize wholeF L t L.length = k at *
  have hsp : catF L = catF (L.take k) ++ catF (L.drop k) := by rw [← catF_append, List.take_append_drop]
  rw [hsp, List.take_append, List.take_of_length_le h2, all_cat _ _ fun p hp => h p (List.mem_of_mem_take hp)]
  have hr : allF ((catF (L.drop k)).take (t - (catF (L.take k)).length)) = ([], 0) := by
    by_cases hk : k = L.length
    · rw [List.drop_of_length_le (by omega)]
      show allF (([] : List UInt8).take _) = _
      rw [List.take_nil, allF_nil]
    · have hlt : k < L.length := by omega
      have h4 := h3 (k + 1) (by omega) (by omega)
      rw [catF_next L k hlt, List.length_append, recF_len] at h4
      rw [List.drop_eq_getElem_cons hlt, catF_cons]
      exact allF_end _ (by rw [torn_read _ _ _ (by have := h L[k] (List.getElem_mem hlt); omega) (by omega)]; decide)
  rw [hr]
  simp
theorem torn_again (L : List (List UInt8)) (k : Nat) : (catF L).take (catF (L.take k)).length = catF (L.take k) := by
  have hsp : catF L = catF (L.take k) ++ catF (L.drop k) := by rw [← catF_append, List.take_append_drop]
  rw [hsp]
  exact List.take_left ..
end Go.Proofs.Ytmmaodcihpgdfaa
