/- The walks of package sat. -/
import Derived.Test.YtkhnkhkpjgemkaaRows
import Derived.Test.YtkhnkhkpjgemkaaBun3
import Derived.Test.YtkhnkhkpjgemkaaSatMath
import Derived.WalkKit
import Derived.WalkSpells
import Derived.WalkLawsBesides
import Derived.Lib.Hide
import Derived.Lib.MinMax
import Derived.Below
namespace Go.Proofs.Ytkhnkhkpjgemkaa
open Go.RowKit

theorem ret_int {k : IntKind} {a b : Int} (h : a = b) : Ending.returned (.int k a) = .returned (.int k b) := by rw [h]

theorem satNatural_c (n : Int) (w : World) : Calls Try.prog 51 #[.int .i64 n] w fun e w' => e = .returned (.int .i64 (max n 0)) ∧ w = w' := by
  go_enter Try.func51, Try.ntmps51
  go_wp2
  go_ret
  exact ⟨rfl, rfl⟩

theorem add1_any (m s n : Int) (B : Nat) (w : World) (hc : w.cell? ⟨B, 0, none⟩ = some (.int .i64 m)) (hs : 0 ≤ s) (hsm : s ≤ m) (hm : m ≤ 9223372036854775807) (hn : 0 ≤ n) (hn' : n ≤ 9223372036854775807) :
    Calls Try.prog 53 #[.int .i64 s, .int .i64 n, .pointer (some ⟨B, 0, none⟩)] w fun e w' => e = .returned (.int .i64 (addTo m s n)) ∧ w = w' := by
  by_cases h : m - s < n
  · go_enter Try.func53, Try.ntmps53
    go_wp2
    go_ret
    exact ⟨ret_int (by rw [addTo, if_pos h]), rfl⟩
  · go_enter Try.func53, Try.ntmps53
    go_wp2
    go_ret
    exact ⟨ret_int (by rw [addTo, if_neg (by omega)]), rfl⟩

theorem mul1_any (m s n : Int) (B : Nat) (w : World) (hc : w.cell? ⟨B, 0, none⟩ = some (.int .i64 m)) (hs : 0 ≤ s) (hsm : s ≤ m) (hm : m ≤ 9223372036854775807) (hn : 0 ≤ n) (hn' : n ≤ 9223372036854775807) :
    Calls Try.prog 54 #[.int .i64 s, .int .i64 n, .pointer (some ⟨B, 0, none⟩)] w fun e w' => e = .returned (.int .i64 (mulTo m s n)) ∧ w = w' := by
  by_cases h0 : 0 < n
  · by_cases h : m / n < s
    · go_enter Try.func54, Try.ntmps54
      go_wp2
      go_ret
      exact ⟨ret_int (by rw [mulTo, if_pos ⟨h0, h⟩]), rfl⟩
    · have hb : s * n ≤ m := (Int.le_ediv_iff_mul_le h0).1 (by omega)
      have hb0 : 0 ≤ s * n := Int.mul_nonneg hs hn
      go_enter Try.func54, Try.ntmps54
      go_wp2
      go_ret
      exact ⟨ret_int (by rw [mulTo, if_neg (by omega)]), rfl⟩
  · have e : n = 0 := by omega
    subst e
    go_enter Try.func54, Try.ntmps54
    go_wp2
    go_ret
    exact ⟨ret_int (by rw [mulTo, if_neg (by omega)]; simp), rfl⟩

set_option maxHeartbeats 400000 in
theorem together_add (m : Int) (B : Nat) (v : Value) (l : List Int) (w : World) (hc : w.cell? ⟨B, 0, none⟩ = some (.int .i64 m)) (hm0 : 0 ≤ m) (hm : m ≤ 9223372036854775807) (hl : IntsAt w v l) (hlen : l.length ≤ 9223372036854775807) (hr : ∀ x ∈ l, -9223372036854775808 ≤ x ∧ x ≤ 9223372036854775807) :
    Calls Try.prog 52 #[.int .i64 0, v, .func (.func 53) #[] #[.pointer (some ⟨B, 0, none⟩)]] w fun e w' => e = .returned (.int .i64 (sadd m l)) ∧ w = w' := by
  obtain ⟨a, cap, rfl, hcap, hcells⟩ := hl
  have HR := Lib.hid hr
  have HC := Lib.hid hcells
  clear hr hcells
  go_enter Try.func52, Try.ntmps52
  go_wp2
  refine wp_scope_goto 0 (fun n a' w' => ∃ (j : Nat) (c s : Int), n = l.length - j ∧ c = j ∧ j ≤ l.length ∧ s = sadd m (l.take j) ∧ w' = w ∧ ∃ u3 u4 u5 u8 u9 u10 u11 u12 u13 u14 u15 u16 u17 u18 u19 u20 u21 u22, a' = { tmps := #[.int .i64 s, .slice a l.length cap, .func (.func 53) #[] #[.pointer (some ⟨B, 0, none⟩)], u3, u4, u5, .int .i64 0, .int .i64 c, u8, u9, u10, u11, u12, u13, u14, u15, u16, u17, u18, u19, u20, u21, u22], defers := [] }) rfl rfl ?_ ?_
  · rintro n a' w' ⟨j, _, s, rfl, rfl, hj, hs, rfl, u3, u4, u5, u8, u9, u10, u11, u12, u13, u14, u15, u16, u17, u18, u19, u20, u21, u22, rfl⟩ K hK
    have hb := sadd_bd hm0 (l.take j)
    rw [← hs] at hb
    obtain ⟨hb1, hb2⟩ := hb
    by_cases hlt : j < l.length
    · obtain ⟨g, o, rfl, hg, hcells⟩ := HC.out (by omega)
      obtain ⟨x, hxe⟩ : ∃ x, l[j]'hlt = x := ⟨_, rfl⟩
      have hx := HR.out x (by rw [← hxe]; exact List.getElem_mem hlt)
      obtain ⟨hx1, hx2⟩ := hx
      have hcell : w'.cell? ⟨g, o + j, none⟩ = some (.int .i64 x) := hcells j x (by rw [← hxe]; exact List.getElem?_eq_getElem hlt)
      have htk : sadd m (l.take (j + 1)) = addTo m s (max x 0) := by rw [List.take_succ_eq_append_getElem hlt, hxe, sadd_snoc hm0, hs]
      have HT := Lib.hid htk
      clear htk hxe hcells hs
      go_wp2_with (first
        | (go_at_call 51; refine (satNatural_c _ _).mono ?_; rintro e w1 ⟨rfl, rfl⟩)
        | (go_at_call 53; refine (add1_any m _ _ B _ (by assumption) (by omega) (by omega) (by omega) (by omega) (by omega)).mono ?_; rintro e w1 ⟨rfl, rfl⟩))
      go_step3
      refine ⟨rfl, hK (l.length - (j + 1)) _ _ (by omega) ⟨j + 1, _, _, rfl, by omega, by omega, HT.out.symm, rfl, _, _, _, _, _, _, _, _, _, _, _, _, _, _, _, _, _, _,  rfl⟩⟩
    · have e : j = l.length := by omega
      subst e
      rw [List.take_length] at hs
      have HS := Lib.hid hs
      clear hs
      go_wp2
      simp only [Exit.jump]
      go_ret
      exact ⟨ret_int HS.out, rfl⟩
  · intro K hpass
    go_wp2
    go_step3
    rename_i hback
    refine hback _ _ (hpass (l.length - 0) _ _ ⟨0, _, _, rfl, rfl, by omega, ?_, rfl, _, _, _, _, _, _, _, _, _, _, _, _, _, _, _, _, _, _,  rfl⟩)
    rw [List.take_zero, sadd_nil hm0]

set_option maxHeartbeats 400000 in
theorem together_mul (m s0 : Int) (B : Nat) (v : Value) (l : List Int) (w : World) (hs0 : s0 = smul m []) (hc : w.cell? ⟨B, 0, none⟩ = some (.int .i64 m)) (hm0 : 0 ≤ m) (hm : m ≤ 9223372036854775807) (hl : IntsAt w v l) (hlen : l.length ≤ 9223372036854775807) (hr : ∀ x ∈ l, -9223372036854775808 ≤ x ∧ x ≤ 9223372036854775807) :
    Calls Try.prog 52 #[.int .i64 s0, v, .func (.func 54) #[] #[.pointer (some ⟨B, 0, none⟩)]] w fun e w' => e = .returned (.int .i64 (smul m l)) ∧ w = w' := by
  obtain ⟨a, cap, rfl, hcap, hcells⟩ := hl
  have HR := Lib.hid hr
  have HC := Lib.hid hcells
  have HS0 := Lib.hid hs0
  clear hr hcells hs0
  go_enter Try.func52, Try.ntmps52
  go_wp2
  refine wp_scope_goto 0 (fun n a' w' => ∃ (j : Nat) (c s : Int), n = l.length - j ∧ c = j ∧ j ≤ l.length ∧ s = smul m (l.take j) ∧ w' = w ∧ ∃ u3 u4 u5 u8 u9 u10 u11 u12 u13 u14 u15 u16 u17 u18 u19 u20 u21 u22, a' = { tmps := #[.int .i64 s, .slice a l.length cap, .func (.func 54) #[] #[.pointer (some ⟨B, 0, none⟩)], u3, u4, u5, .int .i64 0, .int .i64 c, u8, u9, u10, u11, u12, u13, u14, u15, u16, u17, u18, u19, u20, u21, u22], defers := [] }) rfl rfl ?_ ?_
  · rintro n a' w' ⟨j, _, s, rfl, rfl, hj, hs, rfl, u3, u4, u5, u8, u9, u10, u11, u12, u13, u14, u15, u16, u17, u18, u19, u20, u21, u22, rfl⟩ K hK
    have hb := smul_bd hm0 (l.take j)
    rw [← hs] at hb
    obtain ⟨hb1, hb2⟩ := hb
    by_cases hlt : j < l.length
    · obtain ⟨g, o, rfl, hg, hcells⟩ := HC.out (by omega)
      obtain ⟨x, hxe⟩ : ∃ x, l[j]'hlt = x := ⟨_, rfl⟩
      have hx := HR.out x (by rw [← hxe]; exact List.getElem_mem hlt)
      obtain ⟨hx1, hx2⟩ := hx
      have hcell : w'.cell? ⟨g, o + j, none⟩ = some (.int .i64 x) := hcells j x (by rw [← hxe]; exact List.getElem?_eq_getElem hlt)
      have htk : smul m (l.take (j + 1)) = mulTo m s (max x 0) := by rw [List.take_succ_eq_append_getElem hlt, hxe, smul_snoc hm0, hs]
      have HT := Lib.hid htk
      clear htk hxe hcells hs
      go_wp2_with (first
        | (go_at_call 51; refine (satNatural_c _ _).mono ?_; rintro e w1 ⟨rfl, rfl⟩)
        | (go_at_call 54; refine (mul1_any m _ _ B _ (by assumption) (by omega) (by omega) (by omega) (by omega) (by omega)).mono ?_; rintro e w1 ⟨rfl, rfl⟩))
      go_step3
      refine ⟨rfl, hK (l.length - (j + 1)) _ _ (by omega) ⟨j + 1, _, _, rfl, by omega, by omega, HT.out.symm, rfl, _, _, _, _, _, _, _, _, _, _, _, _, _, _, _, _, _, _,  rfl⟩⟩
    · have e : j = l.length := by omega
      subst e
      rw [List.take_length] at hs
      have HS := Lib.hid hs
      clear hs
      go_wp2
      simp only [Exit.jump]
      go_ret
      exact ⟨ret_int HS.out, rfl⟩
  · intro K hpass
    go_wp2
    go_step3
    rename_i hback
    refine hback _ _ (hpass (l.length - 0) _ _ ⟨0, _, _, rfl, rfl, by omega, ?_, rfl, _, _, _, _, _, _, _, _, _, _, _, _, _, _, _, _, _, _,  rfl⟩)
    rw [List.take_zero]; exact HS0.out
end Go.Proofs.Ytkhnkhkpjgemkaa
