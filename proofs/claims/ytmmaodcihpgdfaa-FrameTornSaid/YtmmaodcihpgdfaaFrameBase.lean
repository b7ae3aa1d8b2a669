/- What the laws of layer 10 lean on. -/
import Derived.Test.YtmmaodcihpgdfaaFrameB
import Derived.Test.YtmmaodcihpgdfaaPackRefA
import Derived.Deep.RegionHeld3
import Derived.Deep.DeepCutAuto
namespace Go.Proofs.Ytmmaodcihpgdfaa
open Go.RowKit

theorem hdF_un (n : Nat) (h : n < 4294967296) : unbig (nb (hdF n)) = n := by
  unfold hdF
  rw [nb_bn (bigs_byte 4 n), unbig_bigs]
  exact Nat.mod_eq_of_lt (by simpa using h)
theorem recF_cut (p l : List UInt8) : recF p ++ l = hdF p.length ++ (hdF (sbF p) ++ (p ++ l)) := by
  unfold recF
  simp only [List.append_assoc]
theorem recF_len (p : List UInt8) : (recF p).length = 8 + p.length := by
  unfold recF
  rw [List.length_append, List.length_append, hdF_len, hdF_len]
theorem read_rec (p l : List UInt8) (h : p.length ≤ 65536) : readF (recF p ++ l) = (p, l, 0) := by
  have e1 : (recF p ++ l).take 4 = hdF p.length := by rw [recF_cut, List.take_append_of_le_length (by rw [hdF_len]; exact Nat.le_refl _), List.take_of_length_le (by rw [hdF_len]; exact Nat.le_refl _)]
  have e2 : (recF p ++ l).drop 4 = hdF (sbF p) ++ (p ++ l) := by rw [recF_cut, List.drop_append_of_le_length (by rw [hdF_len]; exact Nat.le_refl _), List.drop_of_length_le (by rw [hdF_len]; exact Nat.le_refl _)]; rfl
  have e3 : (recF p ++ l).drop 8 = p ++ l := by
    rw [show (8 : Nat) = 4 + 4 from rfl, ← List.drop_drop, e2, List.drop_append_of_le_length (by rw [hdF_len]; exact Nat.le_refl _), List.drop_of_length_le (by rw [hdF_len]; exact Nat.le_refl _)]; rfl
  have e4 : lenF (recF p ++ l) = p.length := by unfold lenF; rw [e1]; exact hdF_un _ (by omega)
  have e5 : sumF (recF p ++ l) = sbF p := by
    unfold sumF
    rw [e2, List.take_append_of_le_length (by rw [hdF_len]; exact Nat.le_refl _), List.take_of_length_le (by rw [hdF_len]; exact Nat.le_refl _)]
    exact hdF_un _ (sbF_lt p)
  have e6 : payF (recF p ++ l) = p := by unfold payF; rw [e3, e4, List.take_append_of_le_length (Nat.le_refl _), List.take_of_length_le (Nat.le_refl _)]
  have e7 : okF (recF p ++ l) = sbF p := by unfold okF; rw [e1, e6]; rfl
  have e8 : (recF p ++ l).drop (8 + p.length) = l := by rw [← List.drop_drop, e3, List.drop_append_of_le_length (Nat.le_refl _), List.drop_of_length_le (Nat.le_refl _)]; rfl
  have e9 : (recF p ++ l).length = 8 + p.length + l.length := by rw [List.length_append, recF_len]
  unfold readF
  rw [e4, e5, e6, e7, e8, e9, if_neg (by omega), if_neg (by omega), if_neg (by omega), if_pos rfl]
theorem readF_short (l : List UInt8) (h : l.length < 8) : readF l = ([], [], 4) := by unfold readF; rw [if_pos h]
theorem all_rec (p l : List UInt8) (h : p.length ≤ 65536) : allF (recF p ++ l) = (p :: (allF l).1, 8 + p.length + (allF l).2) := by
  have e := read_rec p l h
  rw [allF_next _ (by rw [e]), e]
theorem allF_nil : allF [] = ([], 0) := allF_end [] (by rw [readF_short [] (by decide)]; decide)
end Go.Proofs.Ytmmaodcihpgdfaa
