/- The walks of the document's answers for layer 2. -/
import Derived.Test.YtoepodjpempcdaaSatB
import Derived.Deep.QuietTactic
import Derived.BigQuiet
import Derived.Test.YtoepodjpempcdaaRegion
namespace Go.Proofs.Ytoepodjpempcdaa
open Go.RowKit

theorem refSatClip_c (n a b : Int) (w : World) : Calls Try.prog 34 #[.int .i64 n, .int .i64 a, .int .i64 b] w fun e w' => e = .returned (.int .i64 (iclip n a b)) ∧ w = w' := by
  by_cases h : n < a
  · go_enter Try.func34, Try.ntmps34
    go_wp2
    go_ret
    exact ⟨ret_int (by rw [iclip, if_pos h]), rfl⟩
  · by_cases h1 : b < n
    all_goals
      go_enter Try.func34, Try.ntmps34
      go_wp2
      go_ret
      exact ⟨ret_int (by rw [iclip, if_neg (by omega)]; omega), rfl⟩

theorem refSatOver_c (a b : Int) (w : World) (ha : a ≤ 9223372036854775807) (hb : b ≤ 9223372036854775807) : Calls Try.prog 28 #[.int .i64 a, .int .i64 b] w fun e w' => e = .returned (.int .i64 (iover a b)) ∧ w = w' := by
  have hbd := iover_bd a b
  have HU : iover a b = if 0 < max a 0 % max b 1 then max a 0 / max b 1 + 1 else max a 0 / max b 1 := rfl
  obtain ⟨x, hx⟩ : ∃ x, max a 0 = x := ⟨_, rfl⟩
  obtain ⟨y, hy⟩ : ∃ y, max b 1 = y := ⟨_, rfl⟩
  have hx0 : 0 ≤ x := by omega
  have hy0 : 1 ≤ y := by omega
  have hx1 : x ≤ 9223372036854775807 := by omega
  have hy1 : y ≤ 9223372036854775807 := by omega
  have hq := Int.ediv_nonneg hx0 (show 0 ≤ y by omega)
  have hr := Int.emod_nonneg x (show y ≠ 0 by omega)
  rw [hx, hy] at HU
  rw [HU] at hbd
  have HX := Lib.hid HU
  clear HU
  by_cases h : 0 < x % y
  · rw [if_pos h] at hbd
    obtain ⟨hb1, hb2⟩ := hbd
    have hne : (x % y == 0) = false := by simp; omega
    go_enter Try.func28, Try.ntmps28
    go_wp2
    go_ret
    exact ⟨ret_int (by rw [HX.out, if_pos h]), rfl⟩
  · rw [if_neg h] at hbd
    obtain ⟨hb1, hb2⟩ := hbd
    have h0 : x % y = 0 := by omega
    go_enter Try.func28, Try.ntmps28
    go_wp2
    go_ret
    exact ⟨ret_int (by rw [HX.out, if_neg (by omega)]), rfl⟩

theorem sadd_stop {m : Int} (_hm : 0 ≤ m) (l : List Int) (j : Nat) (x : Int) (h : l.take (j + 1) = l.take j ++ [x]) (hx : m - sadd m (l.take j) < max x 0) : sadd m l = m := by
  have e := List.take_append_drop (j + 1) l
  have h1 : ∀ a b : List Int, isum (a ++ b) = isum a + isum b := by
    intro a b
    induction a with
    | nil => simp [isum]
    | cons y a ih => simp only [List.cons_append, isum, ih]; omega
  have h2 : isum l = isum (l.take j) + max x 0 + isum (l.drop (j + 1)) := by
    rw [← isum_snoc, ← h, ← h1, e]
  have h3 := isum_nonneg (l.drop (j + 1))
  have h4 := isum_nonneg (l.take j)
  unfold sadd at hx ⊢
  omega

theorem iprod_append (a b : List Int) : iprod (a ++ b) = iprod a * iprod b := by
  induction a with
  | nil => simp [iprod]
  | cons y a ih => simp only [List.cons_append, iprod, ih, Int.mul_assoc]
theorem iprod_pos (l : List Int) (h : ∀ x ∈ l, 0 < x) : 1 ≤ iprod l := by
  induction l with
  | nil => simp [iprod]
  | cons y l ih =>
    have h1 := ih fun x hx => h x (by simp [hx])
    have h2 := h y (by simp)
    simp only [iprod]
    have := Int.mul_le_mul_of_nonneg_left h1 (show 0 ≤ max y 0 by omega)
    omega
theorem iprod_zero {l : List Int} {x : Int} (hx : x ∈ l) (h : x ≤ 0) : iprod l = 0 := by
  induction l with
  | nil => simp at hx
  | cons y l ih =>
    simp only [iprod]
    rcases List.mem_cons.1 hx with rfl | hx
    · rw [show max x 0 = 0 by omega]; simp
    · rw [ih hx]; simp

theorem smul_stop {m s x : Int} (l : List Int) (j : Nat) (hall : ∀ x ∈ l, 0 < x) (h : l.take (j + 1) = l.take j ++ [x]) (hs : iprod (l.take j) = s) (hs0 : 1 ≤ s) (hx0 : 0 < x) (hx : m / s < x) : smul m l = m := by
  have e := List.take_append_drop (j + 1) l
  have h2 : iprod l = s * x * iprod (l.drop (j + 1)) := by
    rw [← e, iprod_append, h, iprod_snoc, hs, show max x 0 = x by omega]
    simp [← h]
  have h3 := iprod_pos (l.drop (j + 1)) fun x hx => hall x (List.mem_of_mem_drop hx)
  have h4 : m < x * s := (Int.ediv_lt_iff_lt_mul (by omega)).1 hx
  have h5 : s * x = x * s := Int.mul_comm _ _
  have h6 : 0 ≤ s * x := Int.mul_nonneg (by omega) (by omega)
  have h7 := Int.mul_le_mul_of_nonneg_left h3 h6
  unfold smul
  omega

end Go.Proofs.Ytoepodjpempcdaa
