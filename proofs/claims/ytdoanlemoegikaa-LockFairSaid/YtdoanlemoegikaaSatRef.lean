/- The walks of the document's answers for layer 2. -/
import Derived.Test.YtdoanlemoegikaaSatB
import Derived.Deep.QuietTactic
import Derived.BigQuiet
import Derived.Test.YtdoanlemoegikaaRegion
namespace Go.Proofs.Ytdoanlemoegikaa
open Go.RowKit

theorem sadd_stop {m : Int} (_hm : 0 ≤ m) (l : List Int) (j : Nat) (x : Int) (h : l.take (j + 1) = l.take j ++ [x]) (hx : m - sadd m (l.take j) < max x 0) : sadd m l = m := by
  have e := List.take_append_drop (j + 1) l
  have h1 : ∀ a b : List Int, isum (a ++ b) = isum a + isum b := by
    intro a b
    induction a with
    | nil => simp [isum]
    | cons y a ih => simp only [List.cons_append, isum, ih]; omega
  have h2 : isum l = isum (l.take j) + max x 0 + isum (l.drop (j + 1)) := by
    rw [← isum_snoc, ← h, ← h1, e]
  have h3 := isum_nonneg (l.drop (j + 1))
  have h4 := isum_nonneg (l.take j)
  unfold sadd at hx ⊢
  omega

theorem iprod_append (a b : List Int) : iprod (a ++ b) = iprod a * iprod b := by
  induction a with
  | nil => simp [iprod]
  | cons y a ih => simp only [List.cons_append, iprod, ih, Int.mul_assoc]
theorem iprod_pos (l : List Int) (h : ∀ x ∈ l, 0 < x) : 1 ≤ iprod l := by
  induction l with
  | nil => simp [iprod]
  | cons y l ih =>
    have h1 := ih fun x hx => h x (by simp [hx])
    have h2 := h y (by simp)
    simp only [iprod]
    have := Int.mul_le_mul_of_nonneg_left h1 (show 0 ≤ max y 0 by omega)
    omega
theorem iprod_zero {l : List Int} {x : Int} (hx : x ∈ l) (h : x ≤ 0) : iprod l = 0 := by
  induction l with
  | nil => simp at hx
  | cons y l ih =>
    simp only [iprod]
    rcases List.mem_cons.1 hx with rfl | hx
    · rw [show max x 0 = 0 by omega]; simp
    · rw [ih hx]; simp

theorem smul_stop {m s x : Int} (l : List Int) (j : Nat) (hall : ∀ x ∈ l, 0 < x) (h : l.take (j + 1) = l.take j ++ [x]) (hs : iprod (l.take j) = s) (hs0 : 1 ≤ s) (hx0 : 0 < x) (hx : m / s < x) : smul m l = m := by
  have e := List.take_append_drop (j + 1) l
  have h2 : iprod l = s * x * iprod (l.drop (j + 1)) := by
    rw [← e, iprod_append, h, iprod_snoc, hs, show max x 0 = x by omega]
    simp [← h]
  have h3 := iprod_pos (l.drop (j + 1)) fun x hx => hall x (List.mem_of_mem_drop hx)
  have h4 : m < x * s := (Int.ediv_lt_iff_lt_mul (by omega)).1 hx
  have h5 : s * x = x * s := Int.mul_comm _ _
  have h6 : 0 ≤ s * x := Int.mul_nonneg (by omega) (by omega)
  have h7 := Int.mul_le_mul_of_nonneg_left h3 h6
  unfold smul
  omega

end Go.Proofs.Ytdoanlemoegikaa
