/- The walks of the document's answers for layer 5: the walk that a text is. -/
import Derived.Test.YtibeljppjaenbaaWalkRefT
namespace Go.Proofs.Ytibeljppjaenbaa
open Go.RowKit

/-- a letter's kind, or 0 -/
def kd (c : Nat) : Int := if c = 70 then 1 else if c = 66 then 2 else if c = 76 then 3 else if c = 82 then 4 else 0

set_option maxHeartbeats 1000000 in
theorem refKind_any (c : Nat) (w : World) (hc : c < 256) : Calls Try.prog 28 #[.int .u8 (c : Int)] w fun e w' => e = .returned (.int .i64 (kd c)) ∧ w = w' := by
  have hk : kd c = if c = 70 then 1 else if c = 66 then 2 else if c = 76 then 3 else if c = 82 then 4 else 0 := rfl
  generalize kd c = R at *
  have g0 : ((⟨#[70, 66, 76, 82]⟩ : ByteArray)[0]'(by decide)).toNat = 70 := rfl
  have g1 : ((⟨#[70, 66, 76, 82]⟩ : ByteArray)[1]'(by decide)).toNat = 66 := rfl
  have g2 : ((⟨#[70, 66, 76, 82]⟩ : ByteArray)[2]'(by decide)).toNat = 76 := rfl
  have g3 : ((⟨#[70, 66, 76, 82]⟩ : ByteArray)[3]'(by decide)).toNat = 82 := rfl
  go_enter Try.func28, Try.ntmps28
  go_wp2
  go_loop [3] (fun i => ∃ k : Nat, 1 ≤ k ∧ k ≤ 5 ∧ i = .int .i64 k ∧ (1 < k → c ≠ 70) ∧ (2 < k → c ≠ 66) ∧ (3 < k → c ≠ 76) ∧ (4 < k → c ≠ 82)) (fun i => 5 - (intOf i).toNat)
  case atStart => exact ⟨1, by omega, by omega, rfl, by omega, by omega, by omega, by omega⟩
  case round =>
    obtain ⟨k, h1, h5, rfl, n1, n2, n3, n4⟩ := hrel
    have : k = 1 ∨ k = 2 ∨ k = 3 ∨ k = 4 ∨ k = 5 := by omega
    rcases this with rfl | rfl | rfl | rfl | rfl
    · by_cases e : c = 70
      · subst e
        rw [if_pos rfl] at hk
        have HK := Lib.hid hk
        clear hk n1 n2 n3 n4
        go_wp2
        go_ret
        exact ⟨ret_i HK.out.symm, rfl⟩
      · have b1 : ((70 : Int) == (c : Int)) = false := by simp; omega
        have b2 : ((c : Int) == (70 : Int)) = false := by simp; omega
        have HK := Lib.hid hk
        clear hk
        go_wp2
        go_round
        case rel => exact ⟨2, by omega, by omega, rfl, fun _ => e, by omega, by omega, by omega⟩
        case measure => simp [intOf]
    · by_cases e : c = 66
      · subst e
        rw [if_neg (n1 (by omega)), if_pos rfl] at hk
        have HK := Lib.hid hk
        clear hk n1 n2 n3 n4
        go_wp2
        go_ret
        exact ⟨ret_i HK.out.symm, rfl⟩
      · have b1 : ((66 : Int) == (c : Int)) = false := by simp; omega
        have b2 : ((c : Int) == (66 : Int)) = false := by simp; omega
        have HK := Lib.hid hk
        clear hk
        go_wp2
        go_round
        case rel => exact ⟨3, by omega, by omega, rfl, fun _ => n1 (by omega), fun _ => e, by omega, by omega⟩
        case measure => simp [intOf]
    · by_cases e : c = 76
      · subst e
        rw [if_neg (n1 (by omega)), if_neg (n2 (by omega)), if_pos rfl] at hk
        have HK := Lib.hid hk
        clear hk n1 n2 n3 n4
        go_wp2
        go_ret
        exact ⟨ret_i HK.out.symm, rfl⟩
      · have b1 : ((76 : Int) == (c : Int)) = false := by simp; omega
        have b2 : ((c : Int) == (76 : Int)) = false := by simp; omega
        have HK := Lib.hid hk
        clear hk
        go_wp2
        go_round
        case rel => exact ⟨4, by omega, by omega, rfl, fun _ => n1 (by omega), fun _ => n2 (by omega), fun _ => e, by omega⟩
        case measure => simp [intOf]
    · by_cases e : c = 82
      · subst e
        rw [if_neg (n1 (by omega)), if_neg (n2 (by omega)), if_neg (n3 (by omega)), if_pos rfl] at hk
        have HK := Lib.hid hk
        clear hk n1 n2 n3 n4
        go_wp2
        go_ret
        exact ⟨ret_i HK.out.symm, rfl⟩
      · have b1 : ((82 : Int) == (c : Int)) = false := by simp; omega
        have b2 : ((c : Int) == (82 : Int)) = false := by simp; omega
        have HK := Lib.hid hk
        clear hk
        go_wp2
        go_round
        case rel => exact ⟨5, by omega, by omega, rfl, fun _ => n1 (by omega), fun _ => n2 (by omega), fun _ => n3 (by omega), fun _ => e⟩
        case measure => simp [intOf]
    · rw [if_neg (n1 (by omega)), if_neg (n2 (by omega)), if_neg (n3 (by omega)), if_neg (n4 (by omega))] at hk
      have HK := Lib.hid hk
      clear hk n1 n2 n3 n4
      go_wp2
      go_ret
      exact ⟨ret_i HK.out.symm, rfl⟩

/-- the reading of a text, round for round: out so far; behind a letter: its kind, how many digits stand, their number -/
def wrun : Option (Int × Nat × Nat) → List UInt8 → Nat → List (Int × Int) → List (Int × Int) × Int × Nat
  | none, [], _, out => (out, 0, 0)
  | none, c :: t, p, out => if kd c.toNat = 0 then ([], 3, p) else wrun (some (kd c.toNat, 0, 0)) t (p + 1) out
  | some (k, _, n), [], _, out => (out ++ [(k, max (n : Int) 1)], 0, 0)
  | some (k, j, n), c :: t, p, out =>
    if 48 ≤ c.toNat ∧ c.toNat ≤ 57 then
      if j = 0 ∧ c.toNat = 48 then ([], 3, p)
      else if j = 3 then ([], 2, p)
      else wrun (some (k, j + 1, 10 * n + (c.toNat - 48))) t (p + 1) out
    else if kd c.toNat = 0 then ([], 3, p)
    else wrun (some (kd c.toNat, 0, 0)) t (p + 1) (out ++ [(k, max (n : Int) 1)])
theorem wrun_end {k : Int} {j n : Nat} {s : List UInt8} {p : Nat} {out : List (Int × Int)} (h : ∀ c t, s = c :: t → ¬ (48 ≤ c.toNat ∧ c.toNat ≤ 57)) : wrun (some (k, j, n)) s p out = wrun none s p (out ++ [(k, max (n : Int) 1)]) := by
  cases s with
  | nil => simp [wrun]
  | cons c t => simp only [wrun]; rw [if_neg (h c t rfl)]

theorem drop_cons' (s : ByteArray) (k : Nat) (h : k < s.size) : s.data.toList.drop k = (s[k]'h) :: s.data.toList.drop (k + 1) := by
  have hl : k < s.data.toList.length := by rw [← Lib.size_eq]; exact h
  rw [List.drop_eq_getElem_cons hl, ba_get s k h]

set_option maxHeartbeats 4000000 in
set_option maxRecDepth 100000 in
theorem refParseW_any (s : ByteArray) (w : World) (hs : s.size ≤ 1000000) (R : List (Int × Int) × Int × Nat) (hR : wrun none s.data.toList 0 [] = R) :
    Calls Try.prog 10 #[.string s] w fun e w' => ∃ v, e = .returned (.tuple #[v, .int .i64 R.2.1, .int .i64 (R.2.2 : Int)]) ∧ PairsAt w' v R.1 ∧ Below w.heap.size w w' := by
  obtain ⟨i0, hi, hz0, hz1, hz2⟩ := info_parts info_move
  have HR0 := Lib.hid hR
  clear hR
  go_enter Try.func10, Try.ntmps10
  go_wp2
  go_loopw [5, 6, 7, 8, 9] (fun v i _ _ _ wr => ∃ (k : Nat) (out : List (Int × Int)), k ≤ s.size ∧ i = .int .i64 k ∧ OwnP wr w.heap.size 48 v out ∧ out.length ≤ k ∧ Below w.heap.size w wr ∧ wrun none (s.data.toList.drop k) k out = R) (fun _ i _ _ _ _ => s.size - (intOf i).toNat)
  case atStart => exact ⟨0, [], Nat.zero_le _, rfl, OwnP.nil _ _ _, Nat.le_refl _, Below.refl _ _, HR0.out⟩
  case round =>
    clear HR0
    obtain ⟨k, out, hk, rfl, hown, hol, hB, hres⟩ := hrel
    by_cases hlt : k < s.size
    · rw [drop_cons' s k hlt] at hres
      obtain ⟨c, hc⟩ : ∃ c, (s[k]'hlt).toNat = c := ⟨_, rfl⟩
      have hc256 : c < 256 := by rw [← hc]; exact UInt8.toNat_lt _
      unfold wrun at hres
      rw [hc] at hres
      have hkc := fun w => refKind_any c w hc256
      obtain ⟨q, hq⟩ : ∃ q, kd c = q := ⟨_, rfl⟩
      rw [hq] at hkc hres
      have HK := Lib.hid hkc
      have HOWN := Lib.hid hown
      clear hkc hq hown
      by_cases hq0 : q = 0
      · subst hq0
        rw [if_pos rfl] at hres
        have HRS := Lib.hid hres
        clear hres
        go_wp2_with (go_at_call 28; refine (HK.out _).mono ?_; rintro e w1 ⟨rfl, rfl⟩)
        refine bodyPost_ret (v := .tuple #[.slice none 0 0, .int .i64 3, .int .i64 (k : Int)]) (by simp [results, Try.results10, go_sem]) rfl ⟨.slice none 0 0, ?_, ?_, hB⟩
        · rw [← HRS.out]
        · rw [← HRS.out]; exact PairsAt.nil _
      · rw [if_neg hq0] at hres
        have HRS := Lib.hid hres
        clear hres
        go_wp2_with (go_at_call 28; refine (HK.out _).mono ?_; rintro e w1 ⟨rfl, rfl⟩)
        go_loop [6, 8, 9] (fun i n d => ∃ (p j m : Nat), p ≤ s.size ∧ i = .int .i64 p ∧ n = .int .i64 m ∧ d = .int .i64 j ∧ j ≤ 3 ∧ m < 10 ^ j ∧ k + 1 + j = p ∧ wrun (some (q, j, m)) (s.data.toList.drop p) p out = R) (fun i _ _ => s.size - (intOf i).toNat)
        case atStart => exact ⟨k + 1, 0, 0, by omega, by go_num, rfl, rfl, by omega, by decide, rfl, HRS.out⟩
        case round =>
          obtain ⟨p, j, m, hp, rfl, rfl, rfl, hj3, hm, hpj, hres⟩ := hrel
          have hm3 : m < 1000 := Nat.lt_of_lt_of_le hm (Nat.pow_le_pow_right (by omega) hj3)
          by_cases hdig : ∃ h : p < s.size, 48 ≤ (s[p]'h).toNat ∧ (s[p]'h).toNat ≤ 57
          · obtain ⟨hp', hd1, hd2⟩ := hdig
            rw [drop_cons' s p hp'] at hres
            obtain ⟨c', hc'⟩ : ∃ c, (s[p]'hp').toNat = c := ⟨_, rfl⟩
            rw [hc'] at hd1 hd2
            unfold wrun at hres
            rw [hc', if_pos ⟨hd1, hd2⟩] at hres
            by_cases h0 : j = 0 ∧ c' = 48
            · rw [if_pos h0] at hres
              have HRS := Lib.hid hres
              obtain ⟨rfl, rfl⟩ := h0
              clear hres
              go_wp2
              refine bodyPost_ret (v := .tuple #[.slice none 0 0, .int .i64 3, .int .i64 (p : Int)]) (by simp [results, Try.results10, go_sem]) rfl ⟨.slice none 0 0, ?_, ?_, hB⟩
              · rw [← HRS.out]
              · rw [← HRS.out]; exact PairsAt.nil _
            · rw [if_neg h0] at hres
              have hj48 : ((j : Int) == 0) = false ∨ (j = 0 ∧ ((c' : Int) == 48) = false) := by
                by_cases e : j = 0
                · exact .inr ⟨e, beq_no' (by omega)⟩
                · exact .inl (beq_no' (by omega))
              by_cases h3 : j = 3
              · rw [if_pos h3] at hres
                have HRS := Lib.hid hres
                subst h3
                clear hres hj48 h0
                go_wp2
                refine bodyPost_ret (v := .tuple #[.slice none 0 0, .int .i64 2, .int .i64 (p : Int)]) (by simp [results, Try.results10, go_sem]) rfl ⟨.slice none 0 0, ?_, ?_, hB⟩
                · rw [← HRS.out]
                · rw [← HRS.out]; exact PairsAt.nil _
              · rw [if_neg h3] at hres
                have hj3' : ((j : Int) == 3) = false := beq_no' (by omega)
                obtain ⟨d, hd⟩ : ∃ d, c' = 48 + d := ⟨c' - 48, by omega⟩
                have hd9 : d ≤ 9 := by omega
                have hsub : (c' : Int) - 48 = (d : Int) := by omega
                have hmn : 10 * m + (c' - 48) < 10 ^ (j + 1) := by rw [Nat.pow_succ]; omega
                have hdd : c' - 48 = d := by omega
                rw [hdd] at hres hmn
                have HRS := Lib.hid hres
                have HMN := Lib.hid hmn
                clear hres h0 hd hdd hmn
                rcases hj48 with hj0 | ⟨rfl, hc0⟩
                · go_wp2
                  go_round
                  case rel => exact ⟨_, _, _, _, _, _, ⟨p + 1, by omega, rfl, j + 1, 10 * m + d, rfl, rfl, by omega, HMN.out, by omega, HRS.out⟩, rfl, rfl, rfl, by go_num, by go_num, by go_num⟩
                  case measure => simp [intOf]; omega
                · go_wp2
                  go_round
                  case rel => exact ⟨_, _, _, _, _, _, ⟨p + 1, by omega, rfl, 0 + 1, 10 * m + d, rfl, rfl, by omega, HMN.out, by omega, HRS.out⟩, rfl, rfl, rfl, by go_num, by go_num, by go_num⟩
                  case measure => simp [intOf]; omega
          · have hex : p = s.size ∨ ∃ h : p < s.size, (¬ (48 : Int) ≤ ((s[p]'h).toNat : Int)) ∨ ((48 : Int) ≤ ((s[p]'h).toNat : Int) ∧ ¬ ((s[p]'h).toNat : Int) ≤ 57) := by
              by_cases h : p < s.size
              · refine .inr ⟨h, ?_⟩
                by_cases h1 : 48 ≤ (s[p]'h).toNat
                · by_cases h2 : (s[p]'h).toNat ≤ 57
                  · exact absurd ⟨h, h1, h2⟩ hdig
                  · exact .inr ⟨by omega, by omega⟩
                · exact .inl (by omega)
              · exact .inl (by omega)
            have hend : wrun none (s.data.toList.drop p) p (out ++ [(q, max (m : Int) 1)]) = R := by
              rw [← hres]
              refine (wrun_end ?_).symm
              intro c t e h
              by_cases hlt' : p < s.size
              · rw [drop_cons' s p hlt'] at e
                cases e
                exact hdig ⟨hlt', h⟩
              · rw [List.drop_eq_nil_of_le (by rw [← Lib.size_eq]; omega)] at e
                cases e
            obtain ⟨g, hg⟩ : ∃ g, max (m : Int) 1 = g := ⟨_, rfl⟩
            rw [hg] at hend
            have HE := Lib.hid hend
            clear hend hres hdig
            have FIN : ∀ A : Obj, ∀ v' w1, w1.ownsRow w.heap.size 48 2 v' (out.length + 1) (flat out ++ [.int .i64 q, .int .i64 g]) → (wr.alloc A).grownBy w1 u5.ownBlock →
                OwnP w1 w.heap.size 48 v' (out ++ [(q, g)]) ∧ Below w.heap.size w w1 := by
              intro A v' w1 h1 h2
              have hB2 := hB.alloc hB.size A
              refine ⟨?_, HOWN.out.below hB2 hB2.size h2⟩
              unfold OwnP
              rw [List.length_append, flat_append]
              exact h1
            have FIN := Lib.hid FIN
            have hsz := hB.size
            have hown' := fun A => HOWN.out.alloc A
            have HOWN' := Lib.hid hown'
            clear hown' HOWN hB
            rcases hex with rfl | ⟨hp', hn | ⟨hn1, hn2⟩⟩
            all_goals
              go_wp2_with (at_builtin; refine wpList_append_own _ rfl _ _ 22 rfl w.heap.size 48 i0 (.agg #[.int .i64 0, .int .i64 0]) 2 16 Try.underlying22 hi hz0 hz1 hz2 rfl (by decide) _ _ _ rfl (HOWN'.out _) ⟨wr.heap.size, 0, none⟩ 1 1 [.int .i64 q, .int .i64 g] rfl rfl ?_ (by intro u hu; simp at hu; rcases hu with rfl | rfl <;> rfl) (by unfold maxLen; omega) (by omega) (by simp; omega) ?_)
              intro v' w1 hown1 hgrow1 _
              have hF := FIN.out _ v' w1 hown1 hgrow1
              clear hown1 hgrow1
              have HF := Lib.hid hF
              clear hF
              go_wp2
              go_roundw
              case rel => exact ⟨_, out ++ [(q, g)], by omega, rfl, HF.out.1, by rw [List.length_append]; simp only [List.length_cons, List.length_nil]; omega, HF.out.2, HE.out⟩
              case measure => simp [intOf]; omega
    · rw [List.drop_eq_nil_of_le (by rw [← Lib.size_eq]; omega)] at hres
      unfold wrun at hres
      have HRS := Lib.hid hres
      have HOWN := Lib.hid hown
      clear hres hown
      go_wp2
      refine bodyPost_ret (v := .tuple #[u5, .int .i64 0, .int .i64 0]) (by simp [results, Try.results10, go_sem]) rfl ⟨u5, ?_, ?_, hB⟩
      · rw [← HRS.out]; rfl
      · rw [← HRS.out]; exact HOWN.out.pairs
end Go.Proofs.Ytibeljppjaenbaa
