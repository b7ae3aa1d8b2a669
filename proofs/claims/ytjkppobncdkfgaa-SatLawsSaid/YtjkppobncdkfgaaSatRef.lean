/- The walks of the document's answers for layer 2. -/
import Derived.Test.YtjkppobncdkfgaaSatB
import Derived.Deep.QuietTactic
import Derived.BigQuiet
namespace Go.Proofs.Ytjkppobncdkfgaa
open Go.RowKit

theorem refClip_any (n a b : Int) (w : World) : Calls Try.prog 8 #[.int .i64 n, .int .i64 a, .int .i64 b] w fun e w' => e = .returned (.int .i64 (iclip n a b)) ∧ w = w' := by
  by_cases h : n < a
  · go_enter Try.func8, Try.ntmps8
    go_wp2
    go_ret
    exact ⟨ret_int (by rw [iclip, if_pos h]), rfl⟩
  · by_cases h1 : b < n
    all_goals
      go_enter Try.func8, Try.ntmps8
      go_wp2
      go_ret
      exact ⟨ret_int (by rw [iclip, if_neg (by omega)]; omega), rfl⟩

theorem refLess_any (a b : Int) (w : World) (ha : -9223372036854775808 ≤ a ∧ a ≤ 9223372036854775807) (hb : -9223372036854775808 ≤ b ∧ b ≤ 9223372036854775807) : Calls Try.prog 10 #[.int .i64 a, .int .i64 b] w fun e w' => e = .returned (.int .i64 (iless a b)) ∧ w = w' := by
  have h1 : -9223372036854775808 ≤ max a 0 - max b 0 := by omega
  have h2 : max a 0 - max b 0 ≤ 9223372036854775807 := by omega
  by_cases h : max a 0 < max b 0
  all_goals
    go_enter Try.func10, Try.ntmps10
    go_wp2
    go_ret
    exact ⟨ret_int (by unfold iless; omega), rfl⟩

theorem refOver_any (a b : Int) (w : World) (ha : a ≤ 9223372036854775807) (hb : b ≤ 9223372036854775807) : Calls Try.prog 12 #[.int .i64 a, .int .i64 b] w fun e w' => e = .returned (.int .i64 (iover a b)) ∧ w = w' := by
  have hbd := iover_bd a b
  have HU : iover a b = if 0 < max a 0 % max b 1 then max a 0 / max b 1 + 1 else max a 0 / max b 1 := rfl
  obtain ⟨x, hx⟩ : ∃ x, max a 0 = x := ⟨_, rfl⟩
  obtain ⟨y, hy⟩ : ∃ y, max b 1 = y := ⟨_, rfl⟩
  have hx0 : 0 ≤ x := by omega
  have hy0 : 1 ≤ y := by omega
  have hx1 : x ≤ 9223372036854775807 := by omega
  have hy1 : y ≤ 9223372036854775807 := by omega
  have hq := Int.ediv_nonneg hx0 (show 0 ≤ y by omega)
  have hr := Int.emod_nonneg x (show y ≠ 0 by omega)
  rw [hx, hy] at HU
  rw [HU] at hbd
  have HX := Lib.hid HU
  clear HU
  by_cases h : 0 < x % y
  · rw [if_pos h] at hbd
    obtain ⟨hb1, hb2⟩ := hbd
    have hne : (x % y == 0) = false := by simp; omega
    go_enter Try.func12, Try.ntmps12
    go_wp2
    go_ret
    exact ⟨ret_int (by rw [HX.out, if_pos h]), rfl⟩
  · rw [if_neg h] at hbd
    obtain ⟨hb1, hb2⟩ := hbd
    have h0 : x % y = 0 := by omega
    go_enter Try.func12, Try.ntmps12
    go_wp2
    go_ret
    exact ⟨ret_int (by rw [HX.out, if_neg (by omega)]), rfl⟩

theorem sadd_stop {m : Int} (_hm : 0 ≤ m) (l : List Int) (j : Nat) (x : Int) (h : l.take (j + 1) = l.take j ++ [x]) (hx : m - sadd m (l.take j) < max x 0) : sadd m l = m := by
  have e := List.take_append_drop (j + 1) l
  have h1 : ∀ a b : List Int, isum (a ++ b) = isum a + isum b := by
    intro a b
    induction a with
    | nil => simp [isum]
    | cons y a ih => simp only [List.cons_append, isum, ih]; omega
  have h2 : isum l = isum (l.take j) + max x 0 + isum (l.drop (j + 1)) := by
    rw [← isum_snoc, ← h, ← h1, e]
  have h3 := isum_nonneg (l.drop (j + 1))
  have h4 := isum_nonneg (l.take j)
  unfold sadd at hx ⊢
  omega

set_option maxHeartbeats 400000 in
theorem refAdd_any (m : Int) (v : Value) (l : List Int) (w : World) (hm : m ≤ 9223372036854775807) (hl : IntsAt w v l) (hlen : l.length ≤ 9223372036854775807) (hr : InI64 l) :
    Calls Try.prog 15 #[.int .i64 m, v] w fun e w' => e = .returned (.int .i64 (sadd (max m 0) l)) ∧ w = w' := by
  obtain ⟨a, cap, rfl, hcap, hcells⟩ := hl
  have HR := Lib.hid hr
  have HC := Lib.hid hcells
  clear hr hcells
  obtain ⟨M, hM⟩ : ∃ M, max m 0 = M := ⟨_, rfl⟩
  have hM0 : 0 ≤ M := by omega
  have hM1 : M ≤ 9223372036854775807 := by omega
  rw [hM]
  go_enter Try.func15, Try.ntmps15
  go_wp2
  go_loop [5, 7] (fun s i => ∃ k : Nat, k ≤ l.length ∧ i = .int .i64 k ∧ s = .int .i64 (sadd M (l.take k))) (fun _ i => l.length - (intOf i).toNat)
  case atStart => exact ⟨0, Nat.zero_le _, rfl, by rw [List.take_zero, sadd_nil hM0]⟩
  case round =>
    obtain ⟨k, hk, rfl, rfl⟩ := hrel
    obtain ⟨s, hs⟩ : ∃ s, sadd M (l.take k) = s := ⟨_, rfl⟩
    have hb := sadd_bd hM0 (l.take k)
    rw [hs] at hb
    obtain ⟨hb1, hb2⟩ := hb
    by_cases hlt : k < l.length
    · obtain ⟨g, o, rfl, hg, hcells⟩ := HC.out (by omega)
      obtain ⟨x, hxe⟩ : ∃ x, l[k]'hlt = x := ⟨_, rfl⟩
      have hx := HR.out x (by rw [← hxe]; exact List.getElem_mem hlt)
      obtain ⟨hx1, hx2⟩ := hx
      have hcell : w.cell? ⟨g, o + k, none⟩ = some (.int .i64 x) := hcells k x (by rw [← hxe]; exact List.getElem?_eq_getElem hlt)
      have htk : l.take (k + 1) = l.take k ++ [x] := by rw [List.take_succ_eq_append_getElem hlt, hxe]
      have hsn : sadd M (l.take (k + 1)) = addTo M s (max x 0) := by rw [htk, sadd_snoc hM0, hs]
      by_cases hgo : M - s < max x 0
      · have HT := Lib.hid (sadd_stop hM0 l k x htk (by rw [hs]; exact hgo))
        clear htk hsn hxe hcells
        go_wp2
        go_ret
        exact ⟨ret_int HT.out.symm, rfl⟩
      · have HT := Lib.hid (hsn.trans (by rw [addTo, if_neg hgo]) : sadd M (l.take (k + 1)) = s + max x 0)
        clear htk hsn hxe hcells
        go_wp2
        go_round
        case rel => exact ⟨k + 1, by omega, by go_num, by rw [HT.out]⟩
        case measure => simp [intOf]; omega
    · have e : k = l.length := by omega
      subst e
      rw [List.take_length] at hs
      have HS := Lib.hid hs
      clear hs
      go_wp2
      go_ret
      exact ⟨ret_int (by first | rfl | exact HS.out.symm), rfl⟩

theorem iprod_append (a b : List Int) : iprod (a ++ b) = iprod a * iprod b := by
  induction a with
  | nil => simp [iprod]
  | cons y a ih => simp only [List.cons_append, iprod, ih, Int.mul_assoc]
theorem iprod_pos (l : List Int) (h : ∀ x ∈ l, 0 < x) : 1 ≤ iprod l := by
  induction l with
  | nil => simp [iprod]
  | cons y l ih =>
    have h1 := ih fun x hx => h x (by simp [hx])
    have h2 := h y (by simp)
    simp only [iprod]
    have := Int.mul_le_mul_of_nonneg_left h1 (show 0 ≤ max y 0 by omega)
    omega
theorem iprod_zero {l : List Int} {x : Int} (hx : x ∈ l) (h : x ≤ 0) : iprod l = 0 := by
  induction l with
  | nil => simp at hx
  | cons y l ih =>
    simp only [iprod]
    rcases List.mem_cons.1 hx with rfl | hx
    · rw [show max x 0 = 0 by omega]; simp
    · rw [ih hx]; simp

theorem smul_stop {m s x : Int} (l : List Int) (j : Nat) (hall : ∀ x ∈ l, 0 < x) (h : l.take (j + 1) = l.take j ++ [x]) (hs : iprod (l.take j) = s) (hs0 : 1 ≤ s) (hx0 : 0 < x) (hx : m / s < x) : smul m l = m := by
  have e := List.take_append_drop (j + 1) l
  have h2 : iprod l = s * x * iprod (l.drop (j + 1)) := by
    rw [← e, iprod_append, h, iprod_snoc, hs, show max x 0 = x by omega]
    simp [← h]
  have h3 := iprod_pos (l.drop (j + 1)) fun x hx => hall x (List.mem_of_mem_drop hx)
  have h4 : m < x * s := (Int.ediv_lt_iff_lt_mul (by omega)).1 hx
  have h5 : s * x = x * s := Int.mul_comm _ _
  have h6 : 0 ≤ s * x := Int.mul_nonneg (by omega) (by omega)
  have h7 := Int.mul_le_mul_of_nonneg_left h3 h6
  unfold smul
  omega

theorem below_drewN {B : Nat} {a w : World} (h : Below B a w) (n : Nat) : Below B a (w.drewN n) := by
  induction n with
  | zero => exact h
  | succ n ih => exact ih.drew

set_option maxHeartbeats 800000 in
theorem refMul_any (m : Int) (v : Value) (l : List Int) (w : World) (hm : m ≤ 9223372036854775807) (hl : IntsAt w v l) (hlen : l.length ≤ 9223372036854775807) (hr : InI64 l) :
    Calls Try.prog 17 #[.int .i64 m, v] w fun e w' => e = .returned (.int .i64 (smul (max m 0) l)) ∧ Below w.heap.size w w' := by
  have hl0 := Lib.hid hl
  obtain ⟨a, cap, rfl, hcap, hcells⟩ := hl
  have HR := Lib.hid hr
  have HC := Lib.hid hcells
  clear hr hcells
  obtain ⟨M, hM⟩ : ∃ M, max m 0 = M := ⟨_, rfl⟩
  have hM0 : 0 ≤ M := by omega
  have hM1 : M ≤ 9223372036854775807 := by omega
  rw [hM]
  go_enter Try.func17, Try.ntmps17
  go_wp2
  go_loop [6] (fun i => ∃ k : Nat, k ≤ l.length ∧ i = .int .i64 k ∧ ∀ x ∈ l.take k, 0 < x) (fun i => l.length - (intOf i).toNat)
  case atStart => exact ⟨0, Nat.zero_le _, rfl, by simp⟩
  case round =>
    obtain ⟨k, hk, rfl, hall⟩ := hrel
    have HALL := Lib.hid hall
    clear hall
    by_cases hlt : k < l.length
    · obtain ⟨g, o, rfl, hg, hcells⟩ := HC.out (by omega)
      obtain ⟨x, hxe⟩ : ∃ x, l[k]'hlt = x := ⟨_, rfl⟩
      have hmem : x ∈ l := by rw [← hxe]; exact List.getElem_mem hlt
      have hcell : w.cell? ⟨g, o + k, none⟩ = some (.int .i64 x) := hcells k x (by rw [← hxe]; exact List.getElem?_eq_getElem hlt)
      have htk : l.take (k + 1) = l.take k ++ [x] := by rw [List.take_succ_eq_append_getElem hlt, hxe]
      have HT := Lib.hid htk
      clear htk hxe hcells
      by_cases hx : x ≤ 0
      · have HZ := Lib.hid (iprod_zero hmem hx)
        clear hmem
        go_wp2
        go_ret
        exact ⟨ret_int (by unfold smul; rw [HZ.out]; omega), Below.refl _ _⟩
      · clear hmem
        go_wp2
        go_round
        case rel =>
          refine ⟨k + 1, by omega, by go_num, ?_⟩
          rw [HT.out]
          intro y hy
          rcases List.mem_append.1 hy with hy | hy
          · exact HALL.out y hy
          · rw [List.mem_singleton.1 hy]; omega
        case measure => simp [intOf]; omega
    · have e : k = l.length := by omega
      subst e
      have hall := HALL.out
      rw [List.take_length] at hall
      have HALL := Lib.hid hall
      clear hall
      by_cases h0 : M = 0
      · subst h0
        have hp := iprod_nonneg l
        have hz : smul 0 l = 0 := by unfold smul; omega
        have HZ := Lib.hid hz
        clear hz
        go_wp2
        go_ret
        exact ⟨ret_int HZ.out.symm, Below.refl _ _⟩
      · have hM2 : 0 < M := by omega
        have hne : (M == 0) = false := by simpa using h0
        clear h0
        go_wp2
        go_loopw [7, 8] (fun s i wr => ∃ (k : Nat) (z : Int), k ≤ l.length ∧ i = .int .i64 k ∧ s = .int .i64 z ∧ iprod (l.take k) = z ∧ 1 ≤ z ∧ z ≤ M ∧ Below w.heap.size w wr) (fun _ i _ => l.length - (intOf i).toNat)
        case atStart => exact ⟨0, 1, Nat.zero_le _, rfl, rfl, rfl, by omega, by omega, Below.refl _ _⟩
        case round =>
          obtain ⟨k, z, hk, rfl, rfl, hz, hz1, hz2, hbel⟩ := hrel
          have HZ := Lib.hid hz
          clear hz
          by_cases hlt : k < l.length
          · obtain ⟨g, o, rfl, hg, hcells⟩ := HC.out (by omega)
            obtain ⟨x, hxe⟩ : ∃ x, l[k]'hlt = x := ⟨_, rfl⟩
            have hmem : x ∈ l := by rw [← hxe]; exact List.getElem_mem hlt
            have hx0 := HALL.out x hmem
            have hx1 := (HR.out x hmem).2
            have hcell0 : w.cell? ⟨g, o + k, none⟩ = some (.int .i64 x) := hcells k x (by rw [← hxe]; exact List.getElem?_eq_getElem hlt)
            have hcell : wr.cell? ⟨g, o + k, none⟩ = some (.int .i64 x) := (hbel.cell (p := ⟨g, o + k, none⟩) hg).trans hcell0
            have htk : l.take (k + 1) = l.take k ++ [x] := by rw [List.take_succ_eq_append_getElem hlt, hxe]
            have hq := Int.ediv_nonneg hM0 (show 0 ≤ z by omega)
            have hzi : 0 ≤ (k : Int) := by omega
            by_cases hgo : M / z < x
            · have HS := Lib.hid (smul_stop l k HALL.out htk HZ.out hz1 hx0 hgo)
              clear htk hxe hcells hmem hcell0
              go_wp2
              go_quiet (fail)
              go_wp2
              go_ret
              exact ⟨ret_int HS.out.symm, below_drewN hbel _⟩
            · have hzx : x * z ≤ M := (Int.le_ediv_iff_mul_le (by omega)).1 (by omega)
              have hzx1 : z * x ≤ M := by rw [Int.mul_comm]; exact hzx
              have hzx0 : 1 ≤ z * x := by
                have := Int.mul_le_mul_of_nonneg_left (show 1 ≤ x by omega) (show 0 ≤ z by omega)
                omega
              have hzx2 : z * x ≤ 9223372036854775807 := by omega
              have hzx3 : -9223372036854775808 ≤ z * x := by omega
              have HN : iprod (l.take (k + 1)) = z * x := by rw [htk, iprod_snoc, HZ.out, show max x 0 = x by omega]
              have HN := Lib.hid HN
              clear htk hxe hcells hmem hcell0 hzx
              go_wp2
              go_quiet (fail)
              go_wp2
              go_roundw
              case rel => exact ⟨k + 1, z * x, by omega, by go_num, rfl, HN.out, hzx0, hzx1, below_drewN hbel _⟩
              case measure => simp [intOf]; omega
          · have e : k = l.length := by omega
            subst e
            have hz := HZ.out
            rw [List.take_length] at hz
            have hz3 : smul M l = z := by unfold smul; omega
            have HS := Lib.hid hz3
            clear hz hz3
            go_wp2
            go_ret
            exact ⟨ret_int HS.out.symm, hbel⟩
end Go.Proofs.Ytjkppobncdkfgaa
