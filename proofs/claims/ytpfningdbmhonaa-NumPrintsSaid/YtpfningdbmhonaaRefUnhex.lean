/- The walk of the document's Unhex. -/
import Derived.Test.YtpfningdbmhonaaRefNum
namespace Go.Proofs.Ytpfningdbmhonaa
open Go.RowKit

theorem take_long16 {l : List UInt8} (h : 16 < l.length) : TakeIs 16 18446744073709551615 l 0 false :=
  ⟨by simp, fun _ => ⟨rfl, fun m hm e => by have := ltxt_len16 m hm; rw [← e] at this; omega⟩⟩

theorem num_lt (b : Nat) : ∀ (n : Nat) (l : List Nat), l.length = n → (∀ d ∈ l, d < b) → num b l < b ^ n := by
  intro n
  induction n with
  | zero => intro l hl _; rw [List.eq_nil_of_length_eq_zero hl]; simp [num]
  | succ n ih =>
    intro l hl h
    have hne : l ≠ [] := by intro e; rw [e] at hl; simp at hl
    obtain ⟨l', d, rfl⟩ : ∃ l' d, l = l' ++ [d] := ⟨l.dropLast, l.getLast hne, (List.dropLast_concat_getLast hne).symm⟩
    have h1 := ih l' (by simpa using hl) (fun x hx => h x (by simp [hx]))
    have h2 := h d (by simp)
    rw [num_snoc, Nat.pow_succ]
    have h3 : (num b l' + 1) * b ≤ b ^ n * b := Nat.mul_le_mul_right _ h1
    have h4 : (num b l' + 1) * b = num b l' * b + b := by rw [Nat.add_mul]; simp
    omega
theorem vals_lt (b : Nat) (l : List UInt8) (h : ∀ c ∈ l, dv c < b) : vals b l < b ^ l.length := by
  unfold vals
  refine num_lt b _ _ (by simp) ?_
  intro d hd
  simp only [List.mem_map] at hd
  obtain ⟨c, hc, rfl⟩ := hd
  exact h c hc

theorem unhexEnds_mk {s : ByteArray} {w w' : World} {v : Nat} {ok : Bool} {x : Int} (hx : x = v) (h : TakeIs 16 18446744073709551615 s.data.toList v ok) (hb : Below w.heap.size w w') : UnhexEnds s w (.returned (.tuple #[.int .u64 x, .bool ok])) w' :=
  ⟨v, ok, by rw [hx], h, hb⟩

set_option maxHeartbeats 400000 in
theorem refUnhex_empty (s : ByteArray) (w : World) (h0 : s.toList = []) :
    Calls Try.prog 13 #[.string s] w (UnhexEnds s w) := by
  have h0' : s.toList.isEmpty = true := by rw [h0]; rfl
  have HT : TakeIs 16 18446744073709551615 s.data.toList 0 false := take_none (by rw [← Lib.toList_data]; exact h0)
  go_enter Try.func13, Try.ntmps13
  go_wp2
  go_ret2
  exact unhexEnds_mk rfl HT (Below.refl _ _)

set_option maxHeartbeats 400000 in
theorem refUnhex_long (s : ByteArray) (w : World) (hs : s.size ≤ 9223372036854775807) (h0 : 16 < s.size) :
    Calls Try.prog 13 #[.string s] w (UnhexEnds s w) := by
  have hne : s.toList.isEmpty = false := ba_ne s (by omega)
  have HT := take_long16 (l := s.data.toList) (by rw [← Lib.size_eq]; exact h0)
  go_enter Try.func13, Try.ntmps13
  go_wp2
  go_ret2
  exact unhexEnds_mk rfl HT (Below.refl _ _)

set_option maxHeartbeats 400000 in
theorem refUnhex_nought (s : ByteArray) (w : World) (h1 : 1 < s.size) (h2 : s.size ≤ 16) (hz0 : ((s[0]'(by omega)).toNat : Int) = 48) :
    Calls Try.prog 13 #[.string s] w (UnhexEnds s w) := by
  have h0 : 0 < s.size := by omega
  have hne : s.toList.isEmpty = false := ba_ne s h0
  have h48 : (((s[0]'h0).toNat : Int) == 48) = true := by rw [hz0]; rfl
  have hhd := ba_head s h0
  rw [UInt8.toNat_inj.1 (show (s[0]'h0).toNat = (48 : UInt8).toNat by have : (48 : UInt8).toNat = 48 := rfl; omega)] at hhd
  have HT := take_nought (b := 16) (most := 18446744073709551615) (.inr rfl) (by decide) hhd (by rw [← Lib.size_eq]; exact h1)
  clear hhd hz0
  go_enter Try.func13, Try.ntmps13
  go_wp2
  go_ret2
  exact unhexEnds_mk rfl HT (Below.refl _ _)

set_option maxHeartbeats 1000000 in
theorem refUnhex_loop (s : ByteArray) (w : World) (hz : 0 < s.size) (hz2 : s.size ≤ 16) (hz0 : ((s[0]'hz).toNat : Int) = 48 → ¬ 1 < s.size) :
    Calls Try.prog 13 #[.string s] w (UnhexEnds s w) := by
  have hne : s.toList.isEmpty = false := ba_ne s (by omega)
  have hhd := ba_head s hz
  have hz1 : s.data.toList.head? = some 48 → s.data.toList.length = 1 := by
    rw [hhd, ← Lib.size_eq]
    intro h
    have hh := hz0 (by rw [Option.some.inj h]; rfl)
    omega
  have HZ := Lib.hid hz1
  have H48 := Lib.hid hz0
  clear hhd hz1 hz0
  go_enter Try.func13, Try.ntmps13
  go_wp2
  all_goals first | (exfalso; have hx : (16 : Int) < (s.size : Int) ∨ (1 : Int) < (s.size : Int) := by assumption
                     have hy := H48.out ‹_›
                     omega) | skip
  all_goals (
    go_loop [4, 5] (fun n i => ∃ (j v : Nat), j ≤ s.size ∧ i = .int .i64 j ∧ n = .int .u64 v ∧ v = vals 16 (s.data.toList.take j) ∧ (∀ c ∈ s.data.toList.take j, dv c < 16)) (fun _ i => s.size - (intOf i).toNat)
    case atStart => exact ⟨0, 0, Nat.zero_le _, rfl, rfl, rfl, by simp⟩
    case round =>
      obtain ⟨j, v, hj, rfl, rfl, hvv, hall⟩ := hrel
      have hvl := vals_lt 16 _ hall
      rw [← hvv, List.length_take, ← Lib.size_eq, Nat.min_eq_left hj] at hvl
      have HVV := Lib.hid hvv
      have HA := Lib.hid hall
      clear hvv hall
      by_cases hlt : j < s.size
      · have hv15 : v < 1152921504606846976 := Nat.lt_of_lt_of_le hvl (Nat.le_trans (Nat.pow_le_pow_right (by omega) (show j ≤ 15 by omega)) (by decide))
        clear hvl
        have hil : j < s.data.toList.length := by rw [← Lib.size_eq]; exact hlt
        have HIL := Lib.hid hil
        clear hil
        obtain ⟨c, hc⟩ : ∃ c, (s[j]'hlt).toNat = c := ⟨_, rfl⟩
        have hc256 : c < 256 := by rw [← hc]; exact UInt8.toNat_lt _
        have hdv : dv (s[j]'hlt) = if 48 ≤ c ∧ c ≤ 57 then c - 48 else if 97 ≤ c ∧ c ≤ 102 then c - 87 else 99 := by rw [← hc]; rfl
        have HD := Lib.hid hdv
        clear hdv
        have HN : dv (s.data.toList[j]'HIL.out) < 16 → v * 16 + dv (s.data.toList[j]'HIL.out) = vals 16 (s.data.toList.take (j + 1)) ∧ ∀ c ∈ s.data.toList.take (j + 1), dv c < 16 := by
          intro hd16
          rw [List.take_succ_eq_append_getElem HIL.out, vals_snoc, ← HVV.out]
          refine ⟨rfl, ?_⟩
          intro c hc
          rw [List.mem_append] at hc
          rcases hc with hc | hc
          · exact HA.out c hc
          · rw [List.mem_singleton.1 hc]; exact hd16
        have HN := Lib.hid HN
        have HG := Lib.hid (ba_get s j hlt)
        rcases (show (48 ≤ c ∧ c ≤ 57) ∨ (97 ≤ c ∧ c ≤ 102) ∨ (¬ (48 ≤ c ∧ c ≤ 57) ∧ ¬ (97 ≤ c ∧ c ≤ 102)) by omega) with h | h | h
        · have hde : dv (s.data.toList[j]'HIL.out) = c - 48 := by rw [← HG.out, HD.out, if_pos h]
          have HDE := Lib.hid hde
          obtain ⟨h1, h2⟩ := h
          clear hde
          go_wp2
          go_round
          case rel =>
            have hn := HN.out (by rw [HDE.out]; omega)
            rw [HDE.out] at hn
            exact ⟨j + 1, v * 16 + (c - 48), by omega, by go_num, by go_num, hn.1, hn.2⟩
          case measure => simp [intOf]; omega
        · have hde : dv (s.data.toList[j]'HIL.out) = c - 87 := by rw [← HG.out, HD.out, if_neg (by omega), if_pos h]
          have HDE := Lib.hid hde
          obtain ⟨h1, h2⟩ := h
          clear hde
          go_wp2
          go_round
          case rel =>
            have hn := HN.out (by rw [HDE.out]; omega)
            rw [HDE.out] at hn
            exact ⟨j + 1, v * 16 + (c - 87), by omega, by go_num, by go_num, hn.1, hn.2⟩
          case measure => simp [intOf]; omega
        · have hbad : ¬ dv (s.data.toList[j]'HIL.out) < 16 := by
            rw [← HG.out, HD.out, if_neg h.1, if_neg h.2]
            omega
          have HT := take_bad (b := 16) (most := 18446744073709551615) (.inr rfl) j HIL.out hbad
          clear hbad
          rcases (show c < 48 ∨ (57 < c ∧ c < 97) ∨ 102 < c by omega) with h' | ⟨h1, h2⟩ | h'
          all_goals
            clear h
            go_wp2
            go_ret2
            exact unhexEnds_mk rfl HT (Below.refl _ _)
      · have hje : j = s.data.toList.length := by rw [← Lib.size_eq]; omega
        have hvl' : v = vals 16 s.data.toList := by rw [HVV.out, hje, List.take_length]
        have hal : ∀ c ∈ s.data.toList, dv c < 16 := by
          have h := HA.out
          rw [hje, List.take_length] at h
          exact h
        have hv : v ≤ 18446744073709551615 := by
          have h1 : v < 16 ^ 16 := Nat.lt_of_lt_of_le hvl (Nat.pow_le_pow_right (by omega) (by omega))
          have h2 : (16 : Nat) ^ 16 = 18446744073709551616 := by decide
          omega
        have HT := take_done (b := 16) (most := 18446744073709551615) (.inr rfl) (by decide) v hvl' hv (by intro e; rw [Lib.size_eq, e] at hz; simp at hz) HZ.out hal
        clear hje hvl' hal hvl
        go_wp2
        go_ret2
        exact unhexEnds_mk rfl HT (Below.refl _ _))

theorem refUnhex_any (s : ByteArray) (w : World) (hs : s.size ≤ 9223372036854775807) :
    Calls Try.prog 13 #[.string s] w (UnhexEnds s w) := by
  by_cases h0 : 0 < s.size
  · by_cases h2 : s.size ≤ 16
    · by_cases hz0 : ((s[0]'h0).toNat : Int) = 48 ∧ 1 < s.size
      · exact refUnhex_nought s w hz0.2 h2 hz0.1
      · exact refUnhex_loop s w h0 h2 (fun h => fun h' => hz0 ⟨h, h'⟩)
    · exact refUnhex_long s w hs (by omega)
  · exact refUnhex_empty s w (by
      rw [Lib.toList_data]
      exact List.eq_nil_of_length_eq_zero (by rw [← Lib.size_eq]; omega))
end Go.Proofs.Ytpfningdbmhonaa
