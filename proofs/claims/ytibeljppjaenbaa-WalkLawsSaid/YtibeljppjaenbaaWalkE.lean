/- The walks of package walk: a text read. -/
import Derived.Test.YtibeljppjaenbaaLabels2
import Derived.Test.YtibeljppjaenbaaWalkRefP
import Derived.Test.YtibeljppjaenbaaShelf
namespace Go.Proofs.Ytibeljppjaenbaa
open Go.RowKit

theorem frame_ex {A : Act} {F : (Nat → Value) → Act} (h : A = F (fun i => A.tmps.getD i undef)) : ∃ f, A = F f := ⟨_, h⟩
theorem kd_index : ∀ c : Fin 256, Lib.indexByte [70, 66, 76, 82] (((c.val : Nat) : Int).toNat.toUInt8) + 1 = kd c.val := by decide +kernel
theorem index_any (c : Nat) (hc : c < 256) (w : World) :
    Calls Try.prog 27 #[.string ⟨#[70, 66, 76, 82]⟩, .int .u8 (c : Int)] w fun e w' => e = .returned (.int .i64 (kd c - 1)) ∧ w' = w := by
  have h := Try.strings_IndexByte ⟨#[70, 66, 76, 82]⟩ (c : Int) w
  have e := kd_index ⟨c, hc⟩
  rw [show Lib.indexByte (⟨#[70, 66, 76, 82]⟩ : ByteArray).data.toList ((c : Int).toNat.toUInt8) = kd c - 1 from by rw [show (⟨#[70, 66, 76, 82]⟩ : ByteArray).data.toList = [70, 66, 76, 82] from rfl]; simp only at e; omega] at h
  exact h

set_option maxHeartbeats 4000000 in
set_option maxRecDepth 100000 in
theorem wParse_any (s : ByteArray) (w : World) (hs : s.size ≤ 1000000) (R : List (Int × Int) × Int × Nat) (hR : wrun none s.data.toList 0 [] = R) :
    Calls Try.prog 9 #[.string s] w fun e w' => ∃ v, e = .returned (.tuple #[v, .int .i64 R.2.1, .int .i64 (R.2.2 : Int)]) ∧ PairsAt w' v R.1 ∧ Below w.heap.size w w' := by
  obtain ⟨i0, hi, hz0, hz1, hz2⟩ := info_parts info_move
  have HR0 := Lib.hid hR
  clear hR
  go_enter Try.func9, Try.ntmps9
  go_wp2
  refine wp_scope_gotos 0 1
    (fun n a' w' => ∃ (k : Nat) (out : List (Int × Int)) (L : Value) (x : Int), x = k ∧ n = 2 * (s.size - k) ∧ k ≤ s.size ∧ OwnP w' w.heap.size 48 L out ∧ out.length ≤ k ∧ Below w.heap.size w w' ∧ wrun none (s.data.toList.drop k) k out = R ∧ ∃ f : Nat → Value, a' = { tmps := #[.string s, f 1, .slice none 0 0, .int .i64 0, .int .i64 0, L, .int .i64 x, f 7, f 8, f 9, f 10, f 11, f 12, f 13, f 14, f 15, f 16, f 17, f 18, f 19, f 20, f 21, f 22, f 23, f 24, f 25, f 26, f 27, f 28, f 29, f 30, f 31, f 32, f 33, f 34, f 35, f 36, f 37, f 38, f 39, f 40, f 41, f 42, f 43, f 44, f 45, f 46, f 47, f 48, f 49, f 50, f 51, f 52, f 53, f 54, f 55, f 56, f 57, f 58, f 59, f 60, f 61, f 62, f 63, f 64, f 65, f 66, f 67, f 68, f 69, f 70, f 71], defers := [] })
    (fun n a' w' => ∃ (p j m : Nat) (q : Int) (out : List (Int × Int)) (L : Value) (x y z : Int), x = p ∧ y = m ∧ z = j ∧ n = 2 * (s.size - p) + 1 ∧ p ≤ s.size ∧ j ≤ 3 ∧ m < 10 ^ j ∧ OwnP w' w.heap.size 48 L out ∧ out.length < p ∧ Below w.heap.size w w' ∧ wrun (some (q, j, m)) (s.data.toList.drop p) p out = R ∧ ∃ f : Nat → Value, a' = { tmps := #[.string s, f 1, .slice none 0 0, .int .i64 0, .int .i64 0, L, .int .i64 x, .int .i64 q, .int .i64 y, .int .i64 z, f 10, f 11, f 12, f 13, f 14, f 15, f 16, f 17, f 18, f 19, f 20, f 21, f 22, f 23, f 24, f 25, f 26, f 27, f 28, f 29, f 30, f 31, f 32, f 33, f 34, f 35, f 36, f 37, f 38, f 39, f 40, f 41, f 42, f 43, f 44, f 45, f 46, f 47, f 48, f 49, f 50, f 51, f 52, f 53, f 54, f 55, f 56, f 57, f 58, f 59, f 60, f 61, f 62, f 63, f 64, f 65, f 66, f 67, f 68, f 69, f 70, f 71], defers := [] })
    rfl rfl rfl rfl ?_ ?_ ?_
  · clear HR0
    rintro n a' w' ⟨k, out, L, x, rfl, rfl, hk, hown, hol, hB, hres, f, rfl⟩ K0 K1 hK
    by_cases hlt : k < s.size
    · rw [drop_cons' s k hlt] at hres
      obtain ⟨c, hc⟩ : ∃ c, (s[k]'hlt).toNat = c := ⟨_, rfl⟩
      have hc256 : c < 256 := by rw [← hc]; exact UInt8.toNat_lt _
      unfold wrun at hres
      rw [hc] at hres
      have hix := index_any c hc256
      obtain ⟨q, hq⟩ : ∃ q, kd c = q := ⟨_, rfl⟩
      have hq4 : 0 ≤ q ∧ q ≤ 4 := by
        rw [← hq]
        unfold kd
        repeat (first | (split; · decide) | decide)
      rw [hq] at hres hix
      have HI := Lib.hid hix
      clear hix
      by_cases hq0 : q = 0
      · subst hq0
        rw [if_pos rfl] at hres
        have HRS := Lib.hid hres
        clear hres hK
        go_wp2_with (go_at_call 27; refine (HI.out _).mono ?_; rintro e w1 ⟨rfl, rfl⟩)
        simp only [Exit.jumps]
        refine bodyPost_ret (v := .tuple #[.slice none 0 0, .int .i64 3, .int .i64 (k : Int)]) (by simp [results, Try.results9, go_sem]) rfl ⟨.slice none 0 0, ?_, ?_, hB⟩
        · rw [← HRS.out]
        · rw [← HRS.out]; exact PairsAt.nil _
      · rw [if_neg hq0] at hres
        have HRS := Lib.hid hres
        have hq1 : ¬ q - 1 + 1 < 1 := by omega
        have hqq : q - 1 + 1 = q := by omega
        clear hres
        go_wp2_with (go_at_call 27; refine (HI.out _).mono ?_; rintro e w1 ⟨rfl, rfl⟩)
        go_step3
        rename_i hback
        exact hback _ _ (hK (2 * (s.size - (k + 1)) + 1) _ _ (by omega) ⟨k + 1, 0, 0, q, out, L, _, _, _, by go_num, rfl, rfl, rfl, by omega, by decide, by decide, hown, by omega, hB, HRS.out, frame_ex rfl⟩)
    · have hks : k = s.size := by omega
      subst hks
      rw [List.drop_eq_nil_of_le (by rw [← Lib.size_eq]; omega)] at hres
      unfold wrun at hres
      have HRS := Lib.hid hres
      have HOWN := Lib.hid hown
      clear hres hown hK
      go_wp2
      simp only [Exit.jumps]
      refine bodyPost_ret (v := .tuple #[L, .int .i64 0, .int .i64 0]) (by simp [results, Try.results9, go_sem]) rfl ⟨L, ?_, ?_, hB⟩
      · rw [← HRS.out]; rfl
      · rw [← HRS.out]; exact HOWN.out.pairs
  · clear HR0
    rintro n a' w' ⟨p, j, m, q, out, L, x, y, z, rfl, rfl, rfl, rfl, hp, hj3, hm, hown, hol, hB, hres, f, rfl⟩ K0 K1 hK0 hK1
    have hm3 : m < 1000 := Nat.lt_of_lt_of_le hm (Nat.pow_le_pow_right (by omega) hj3)
    have hm0 : 0 ≤ (m : Int) := by omega
    by_cases hdig : ∃ h : p < s.size, 48 ≤ (s[p]'h).toNat ∧ (s[p]'h).toNat ≤ 57
    · obtain ⟨hp', hd1, hd2⟩ := hdig
      rw [drop_cons' s p hp'] at hres
      obtain ⟨c', hc'⟩ : ∃ c, (s[p]'hp').toNat = c := ⟨_, rfl⟩
      rw [hc'] at hd1 hd2
      unfold wrun at hres
      rw [hc', if_pos ⟨hd1, hd2⟩] at hres
      by_cases h3 : j = 3
      · subst h3
        rw [if_neg (by omega), if_pos rfl] at hres
        have HRS := Lib.hid hres
        clear hres hK0 hK1 hm
        go_wp2
        simp only [Exit.jumps]
        refine bodyPost_ret (v := .tuple #[.slice none 0 0, .int .i64 2, .int .i64 (p : Int)]) (by simp [results, Try.results9, go_sem]) rfl ⟨.slice none 0 0, ?_, ?_, hB⟩
        · rw [← HRS.out]
        · rw [← HRS.out]; exact PairsAt.nil _
      · have hj3' : ((j : Int) == 3) = false := beq_no' (by omega)
        by_cases h0 : j = 0 ∧ c' = 48
        · rw [if_pos h0] at hres
          have HRS := Lib.hid hres
          obtain ⟨rfl, rfl⟩ := h0
          clear hres hK0 hK1 hm
          go_wp2
          simp only [Exit.jumps]
          refine bodyPost_ret (v := .tuple #[.slice none 0 0, .int .i64 3, .int .i64 (p : Int)]) (by simp [results, Try.results9, go_sem]) rfl ⟨.slice none 0 0, ?_, ?_, hB⟩
          · rw [← HRS.out]
          · rw [← HRS.out]; exact PairsAt.nil _
        · rw [if_neg h0, if_neg h3] at hres
          have hj48 : ((j : Int) == 0) = false ∨ (j = 0 ∧ ((c' : Int) == 48) = false) := by
            by_cases e : j = 0
            · exact .inr ⟨e, beq_no' (by omega)⟩
            · exact .inl (beq_no' (by omega))
          obtain ⟨d, hd⟩ : ∃ d, c' = 48 + d := ⟨c' - 48, by omega⟩
          have hd9 : d ≤ 9 := by omega
          have hsub : (c' : Int) - 48 = (d : Int) := by omega
          have hmn : 10 * m + (c' - 48) < 10 ^ (j + 1) := by rw [Nat.pow_succ]; omega
          have hdd : c' - 48 = d := by omega
          rw [hdd] at hres hmn
          have HRS := Lib.hid hres
          have HMN := Lib.hid hmn
          clear hres h0 hd hdd hmn hK0 hm
          rcases hj48 with hj0 | ⟨rfl, hc0⟩
          · go_wp2
            go_step3
            exact .inr ⟨rfl, hK1 (2 * (s.size - (p + 1)) + 1) _ _ (by omega) ⟨p + 1, j + 1, 10 * m + d, q, out, L, _, _, _, by go_num, by go_num, by go_num, rfl, by omega, by omega, HMN.out, hown, by omega, hB, HRS.out, frame_ex rfl⟩⟩
          · go_wp2
            go_step3
            exact .inr ⟨rfl, hK1 (2 * (s.size - (p + 1)) + 1) _ _ (by omega) ⟨p + 1, 0 + 1, 10 * m + d, q, out, L, _, _, _, by go_num, by go_num, by go_num, rfl, by omega, by omega, HMN.out, hown, by omega, hB, HRS.out, frame_ex rfl⟩⟩
    · have hex : p = s.size ∨ ∃ h : p < s.size, (¬ (48 : Int) ≤ ((s[p]'h).toNat : Int)) ∨ ((48 : Int) ≤ ((s[p]'h).toNat : Int) ∧ ¬ ((s[p]'h).toNat : Int) ≤ 57) := by
        by_cases h : p < s.size
        · refine .inr ⟨h, ?_⟩
          by_cases h1 : 48 ≤ (s[p]'h).toNat
          · by_cases h2 : (s[p]'h).toNat ≤ 57
            · exact absurd ⟨h, h1, h2⟩ hdig
            · exact .inr ⟨by omega, by omega⟩
          · exact .inl (by omega)
        · exact .inl (by omega)
      have hend : wrun none (s.data.toList.drop p) p (out ++ [(q, max 1 (m : Int))]) = R := by
        rw [← hres, Int.max_comm]
        refine (wrun_end ?_).symm
        intro c t e h
        by_cases hlt' : p < s.size
        · rw [drop_cons' s p hlt'] at e
          cases e
          exact hdig ⟨hlt', h⟩
        · rw [List.drop_eq_nil_of_le (by rw [← Lib.size_eq]; omega)] at e
          cases e
      obtain ⟨g, hg⟩ : ∃ g, max 1 (m : Int) = g := ⟨_, rfl⟩
      rw [hg] at hend
      have HE := Lib.hid hend
      have HOWN := Lib.hid hown
      clear hend hres hdig hK1 hown hm
      have FIN : ∀ A : Obj, ∀ v' w1, w1.ownsRow w.heap.size 48 2 v' (out.length + 1) (flat out ++ [.int .i64 q, .int .i64 g]) → (w'.alloc A).grownBy w1 L.ownBlock →
          OwnP w1 w.heap.size 48 v' (out ++ [(q, g)]) ∧ Below w.heap.size w w1 := by
        intro A v' w1 h1 h2
        have hB2 := hB.alloc hB.size A
        refine ⟨?_, HOWN.out.below hB2 hB2.size h2⟩
        unfold OwnP
        rw [List.length_append, flat_append]
        exact h1
      have FIN := Lib.hid FIN
      have hsz := hB.size
      have hown' := fun A => HOWN.out.alloc A
      have HOWN' := Lib.hid hown'
      clear hown' HOWN hB
      rcases hex with rfl | ⟨hp', hn | ⟨hn1, hn2⟩⟩
      all_goals
        go_wp2_with (at_builtin; refine wpList_append_own _ rfl _ _ 22 rfl w.heap.size 48 i0 (.agg #[.int .i64 0, .int .i64 0]) 2 16 Try.underlying22 hi hz0 hz1 hz2 rfl (by decide) _ _ _ rfl (HOWN'.out _) ⟨w'.heap.size, 0, none⟩ 1 1 [.int .i64 q, .int .i64 g] rfl rfl ?_ (by intro u hu; simp at hu; rcases hu with rfl | rfl <;> rfl) (by unfold maxLen; omega) (by omega) (by simp; omega) ?_)
        intro v' w1 hown1 hgrow1 _
        have hF := FIN.out _ v' w1 hown1 hgrow1
        clear hown1 hgrow1
        have HF := Lib.hid hF
        clear hF
        go_wp2
        go_step3
        exact .inl ⟨rfl, hK0 (2 * (s.size - _)) _ _ (by omega) ⟨_, out ++ [(q, g)], v', _, rfl, rfl, by omega, HF.out.1, by rw [List.length_append]; simp only [List.length_cons, List.length_nil]; omega, HF.out.2, HE.out, frame_ex rfl⟩⟩
  · intro K0 K1 hpass
    go_wp2
    go_step3
    rename_i hback
    refine hback _ _ (hpass _ _ _ ⟨0, [], _, _, rfl, rfl, Nat.zero_le _, OwnP.nil _ _ _, Nat.le_refl _, Below.refl _ _, HR0.out, frame_ex rfl⟩)
end Go.Proofs.Ytibeljppjaenbaa
