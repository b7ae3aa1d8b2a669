/- The walks of the document's answers for layer 8: the number that bytes begin with. -/
import Derived.Test.YtmmaodcihpgdfaaPackRefB
namespace Go.Proofs.Ytmmaodcihpgdfaa
open Go.RowKit

/-- the rest of a list from k on, as a slice -/
theorem RowsAt.rest {α : Type} {w : World} {K : Nat} {cs : α → List Value} {a : Option Addr} {n cap : Nat} {l : List α} (h : RowsAt w K cs (.slice a n cap) l) (k : Nat) (hk : k ≤ l.length) (b : Option Addr)
    (hb : ∀ g o, a = some ⟨g, o, none⟩ → k < l.length → b = some ⟨g, o + k * K, none⟩) : RowsAt w K cs (.slice b (n - k) (cap - k)) (l.drop k) := by
  obtain ⟨a', c', e, hc, hx⟩ := h
  cases e
  refine ⟨b, cap - k, by rw [List.length_drop], by rw [List.length_drop]; omega, fun h0 => ?_⟩
  rw [List.length_drop] at h0
  obtain ⟨g, o, e, hg, hxa⟩ := hx (by omega)
  refine ⟨g, o + k * K, hb g o e (by omega), hg, fun j x hj i u hu => ?_⟩
  have := hxa (k + j) x (by rw [List.getElem?_drop] at hj; exact hj) i u hu
  rw [← this]
  congr 2
  rw [Nat.add_mul]
  omega
/-- what the first bytes are -/
theorem unbig_next (l : List UInt8) (i : Nat) (h : i < l.length) : unbig (nb (l.take (i + 1))) = unbig (nb (l.take i)) * 256 + l[i].toNat := by
  unfold nb unbig unbigA
  rw [List.take_succ_eq_append_getElem h, List.map_append, List.foldl_append]
  rfl
theorem unbig_bd (l : List UInt8) (i : Nat) : unbig (nb (l.take i)) < 256 ^ i := by
  have := unbig_lt (nb (l.take i)) (nb_byte _)
  refine Nat.lt_of_lt_of_le this (Nat.pow_le_pow_right (by decide) ?_)
  rw [nb_len, List.length_take]
  omega
/-- what is read of so many bytes: the number, what is behind it, what is wrong -/
def takeB (l : List UInt8) (k : Int) : Nat × List UInt8 × Nat :=
  if k < 0 ∨ 8 < k then (0, [], 1) else if (l.length : Int) < k then (0, [], 4) else (unbig (nb (l.take k.toNat)), l.drop k.toNat, 0)

set_option maxHeartbeats 2000000 in
set_option maxRecDepth 100000 in
theorem refTake_any (va : Value) (l : List UInt8) (k : Int) (w : World) (ha : BytesAt w va l) (hl : l.length ≤ 1000000) :
    Calls Try.prog 25 #[va, .int .i64 k] w fun e w' => ∃ v, e = .returned (.tuple #[.int .u64 ((takeB l k).1 : Int), v, .int .i64 ((takeB l k).2.2 : Int)]) ∧ BytesAt w' v (takeB l k).2.1 ∧ Below w.heap.size w w' := by
  obtain ⟨i0, hi, hz0, hz1, hz2⟩ := info_parts info_byte
  have HA := Lib.hid ha
  obtain ⟨a, c, rfl⟩ := RowsAt.form ha
  clear ha
  unfold takeB
  by_cases h1 : k < 0
  · rw [if_pos (.inl h1)]
    go_enter Try.func25, Try.ntmps25
    go_wp2
    refine bodyPost_ret (v := .tuple #[.int .u64 0, .slice none 0 0, .int .i64 1]) (by simp [results, Try.results25, go_sem]) rfl ⟨_, rfl, RowsAt.nil _ _ _, Below.refl _ _⟩
  · by_cases h2 : 8 < k
    · rw [if_pos (.inr h2)]
      go_enter Try.func25, Try.ntmps25
      go_wp2
      refine bodyPost_ret (v := .tuple #[.int .u64 0, .slice none 0 0, .int .i64 1]) (by simp [results, Try.results25, go_sem]) rfl ⟨_, rfl, RowsAt.nil _ _ _, Below.refl _ _⟩
    · rw [if_neg (by omega)]
      by_cases h3 : (l.length : Int) < k
      · rw [if_pos h3]
        go_enter Try.func25, Try.ntmps25
        go_wp2
        refine bodyPost_ret (v := .tuple #[.int .u64 0, .slice none 0 0, .int .i64 4]) (by simp [results, Try.results25, go_sem]) rfl ⟨_, rfl, RowsAt.nil _ _ _, Below.refl _ _⟩
      · rw [if_neg h3]
        obtain ⟨K, hK⟩ : ∃ K : Nat, k = K := ⟨k.toNat, by omega⟩
        subst hK
        rw [Int.toNat_natCast]
        have hnx := fun i hi => Lib.hid (unbig_next l i hi)
        have hbd := fun i => Lib.hid (unbig_bd l i)
        go_enter Try.func25, Try.ntmps25
        go_wp2
        go_loopw [7, 8] (fun x i wr => ∃ j : Nat, j ≤ K ∧ x = .int .u64 ((unbig (nb (l.take j)) : Nat) : Int) ∧ i = .int .i64 j ∧ w = wr) (fun _ i _ => K - (intOf i).toNat)
        case atStart => exact ⟨0, Nat.zero_le _, rfl, rfl, rfl⟩
        case round =>
          obtain ⟨j, hj, rfl, rfl, rfl⟩ := hrel
          by_cases hlt : j < K
          · obtain ⟨g, o, c', ev, hc, hg, p0⟩ := HA.out.at j (by omega)
            cases ev
            have hn := (hnx j (by omega)).out
            have hb := (hbd j).out
            have hb7 : 256 ^ j ≤ 256 ^ 7 := Nat.pow_le_pow_right (by decide) (by omega)
            have hy : unbig (nb (l.take j)) < 72057594037927936 := Nat.lt_of_lt_of_le hb (by simpa using hb7)
            have hu := l[j].toNat_lt
            generalize unbig (nb (l.take j)) = y at *
            generalize l[j].toNat = u at *
            have HN := Lib.hid hn
            have j0 : (0 : Int) ≤ (j : Int) := by omega
            have j1 : (j : Int) < (l.length : Int) := by omega
            have j2 : (j : Int) < (K : Int) := by omega
            have y1 : (y : Int) < 72057594037927936 := by omega
            have u1 : (u : Int) < 256 := by omega
            clear hn hb hb7 hy hu
            go_wp2
            go_roundw
            case rel => exact ⟨j + 1, by omega, by rw [HN.out]; go_num, by go_num, by trivial⟩
            case measure => simp [intOf] <;> omega
          · have hje : j = K := by omega
            rw [hje]
            clear hje hlt hj hnx hbd
            have hKl : K ≤ l.length := by omega
            have k1 : (K : Int) ≤ (l.length : Int) := by omega
            have ho := ownb_empty w
            have hB := (Below.refl w.heap.size w).alloc (Nat.le_refl _) (.cells #[] 5)
            have hA1 := HA.out.kept hB
            have hlc : l.length ≤ c := by obtain ⟨_, _, e, hc, _⟩ := HA.out; cases e; exact hc
            have hrest : ∀ b, (∀ g o, a = some ⟨g, o, none⟩ → K < l.length → b = some ⟨g, o + K * 1, none⟩) → BytesAt (w.alloc (.cells #[] 5)) (.slice b (l.length - K) (c - K)) (l.drop K) := fun b hb => RowsAt.rest hA1 K hKl b hb
            have hdl : (l.drop K).length ≤ 1000000 := by rw [List.length_drop]; omega
            by_cases hcK : c = K
            · have hP := hrest a (fun g o _ h => by omega)
              rw [show c - K = 0 by omega] at hP
              have HP := Lib.hid hP
              clear hrest hP hA1
              go_wp2_with (at_builtin; refine wpList_append_rows csB_len (by decide) csB_one rfl _ _ 22 rfl w.heap.size 5 i0 (.int .u8 0) 1 Try.underlying22 hi hz0 hz1 hz2 rfl _ _ rfl ho _ _ rfl HP.out (by unfold maxLen; simp only [List.length_nil]; omega) (by simp only [List.length_nil]; omega) hB.size ?_)
              intro v' w5 h1 h2
              have hB5 := OwnR.below ho hB hB.size h2
              replace h1 : OwnB w5 w.heap.size v' (l.drop K) := h1
              have HO5 := Lib.hid h1
              clear h1 h2 ho hB
              go_wp2
              exact bodyPost_ret (v := .tuple #[.int .u64 ((unbig (nb (l.take K)) : Nat) : Int), v', .int .i64 0]) (by simp [results, Try.results25, go_sem]) rfl ⟨_, rfl, HO5.out.bytes, hB5⟩
            · have hP := hrest (a.map (fun x => x.add K)) (fun g o e _ => by subst e; simp [Addr.add])
              have HP := Lib.hid hP
              clear hrest hP hA1
              go_wp2_with (at_builtin; refine wpList_append_rows csB_len (by decide) csB_one rfl _ _ 22 rfl w.heap.size 5 i0 (.int .u8 0) 1 Try.underlying22 hi hz0 hz1 hz2 rfl _ _ rfl ho _ _ rfl HP.out (by unfold maxLen; simp only [List.length_nil]; omega) (by simp only [List.length_nil]; omega) hB.size ?_)
              intro v' w5 h1 h2
              have hB5 := OwnR.below ho hB hB.size h2
              replace h1 : OwnB w5 w.heap.size v' (l.drop K) := h1
              have HO5 := Lib.hid h1
              clear h1 h2 ho hB
              go_wp2
              exact bodyPost_ret (v := .tuple #[.int .u64 ((unbig (nb (l.take K)) : Nat) : Int), v', .int .i64 0]) (by simp [results, Try.results25, go_sem]) rfl ⟨_, rfl, HO5.out.bytes, hB5⟩
end Go.Proofs.Ytmmaodcihpgdfaa
