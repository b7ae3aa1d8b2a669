/- Stage 11's program: Sync, Cut, Bytes. -/
import Derived.Test.YtgfcgabaacdjlaaTapeB
namespace Go.Proofs.Ytgfcgabaacdjlaa
open Go.RowKit

set_option maxHeartbeats 2000000 in
theorem tSync_any {F : Nat → Prop} {p : Nat} {H L : List UInt8} {vh vl : Value} (w : World) (h : TapeAt F w p H L vh vl) (hn : H.length + L.length ≤ 1000000000) :
    Calls Try.prog 15 #[ptr p] w fun e w' => e = .returned (.tuple #[]) ∧ ∃ vh' F', TapeAt F' w' p (H ++ L) [] vh' (.slice none 0 0) ∧ Mv F F' w w' := by
  have hl := Lib.hid (tLen_any w h hn)
  have hc : ∀ w1, Below w.heap.size w w1 → Calls Try.prog 13 #[ptr p, .int .i64 ((H.length : Int) + (L.length : Int))] w1 fun e w' => e = .returned (.tuple #[]) ∧ ∃ vh' F', TapeAt F' w' p (H ++ L) [] vh' (.slice none 0 0) ∧ Mv F F' w1 w' := fun w1 hb => by
    have := tCrash_any ((H.length : Int) + (L.length : Int)) w1 (h.kept hb) hn
    rwa [show (min (max ((H.length : Int) + (L.length : Int)) 0) (L.length : Int)).toNat = L.length by omega, List.take_length] at this
  have HC := Lib.hid hc
  clear h hc
  go_enter Try.func15, Try.ntmps15
  go_wp2_with (first
    | (go_at_call 11; (with_reducible refine hl.out.mono ?_); rintro e w1 ⟨rfl, hb⟩)
    | (go_at_call 13; (with_reducible refine (HC.out _ hb).mono ?_); rintro e w2 ⟨rfl, vh', F', ht, hmv⟩; have HT := Lib.hid ht; have HV := Lib.hid hmv; clear ht hmv))
  go_end0
  exact ⟨rfl, _, _, HT.out, (Mv.of_below hb).trans HV.out⟩
theorem tSync_nil (w : World) : Calls Try.prog 15 #[.pointer none] w fun e w' => e = .returned (.tuple #[]) ∧ Below w.heap.size w w' := by
  go_enter Try.func15, Try.ntmps15
  go_wp2_with (first
    | (go_at_call 11; (with_reducible refine (tLen_nil _).mono ?_); rintro e w1 ⟨rfl, hb⟩)
    | (go_at_call 13; (with_reducible refine (tCrash_nil _ _).mono ?_); rintro e w2 ⟨rfl, hb2⟩))
  go_end0
  exact ⟨rfl, hb.trans (hb2.mono hb.size)⟩

/-- what Cut answers, and what stays -/
def cutE (k : Nat) (n : Int) : Int := if n < 0 then 1 else if (k : Int) < n then 12 else 0
def cutN (k : Nat) (n : Int) : Nat := if n < 0 ∨ (k : Int) < n then 0 else n.toNat

set_option maxHeartbeats 2000000 in
theorem tCut_any {F : Nat → Prop} {p : Nat} {H L : List UInt8} {vh vl : Value} (n : Int) (w : World) (h : TapeAt F w p H L vh vl) (hH : H.length ≤ 1000000000) :
    Calls Try.prog 16 #[ptr p, .int .i64 n] w fun e w' => e = .returned (.int .i64 (cutE H.length n)) ∧ ∃ vh', TapeAt F w' p (H.drop (cutN H.length n)) L vh' vl ∧ Mv F F w w' := by
  unfold cutE cutN
  by_cases h0 : n < 0
  · rw [if_pos h0, if_pos (.inl h0)]
    have HT := Lib.hid h
    clear h
    go_enter Try.func16, Try.ntmps16
    go_wp2
    go_ret
    exact ⟨rfl, _, HT.out, Mv.refl _ _⟩
  rw [if_neg h0]
  have hs := Lib.hid (tSure_any w h)
  by_cases h1 : (H.length : Int) < n
  · rw [if_pos h1, if_pos (.inr h1)]
    have HT := Lib.hid h
    clear h
    go_enter Try.func16, Try.ntmps16
    go_wp2_with (go_at_call 12; (with_reducible refine hs.out.mono ?_); rintro e w1 ⟨rfl, hb⟩)
    go_ret
    exact ⟨rfl, _, HT.out.kept hb, Mv.of_below hb⟩
  rw [if_neg h1, if_neg (by omega)]
  obtain ⟨k, rfl⟩ : ∃ k : Nat, n = (k : Int) := ⟨n.toNat, by omega⟩
  rw [Int.toNat_natCast]
  have HT := Lib.hid h
  clear h
  by_cases h2 : k = 0
  · subst h2
    go_enter Try.func16, Try.ntmps16
    go_wp2_with (go_at_call 12; (with_reducible refine hs.out.mono ?_); rintro e w1 ⟨rfl, hb⟩)
    go_ret
    exact ⟨rfl, _, HT.out.kept hb, Mv.of_below hb⟩
  · have hl : ∀ w1, Below w.heap.size w w1 → Calls Try.prog 21 #[ptr p, .int .i64 (k : Int)] w1 fun e w' => e = .returned (.tuple #[]) ∧ ∃ vh', TapeAt F w' p (H.drop k) L vh' vl ∧ Mv F F w1 w' := fun w1 hb => tLose_any k w1 (HT.out.kept hb) (by omega) (by omega) hH
    have HL := Lib.hid hl
    clear hl
    have h3 : 0 < (k : Int) := by omega
    go_enter Try.func16, Try.ntmps16
    go_wp2_with (first
      | (go_at_call 12; (with_reducible refine hs.out.mono ?_); rintro e w1 ⟨rfl, hb⟩)
      | (go_at_call 21; (with_reducible refine (HL.out _ hb).mono ?_); rintro e w2 ⟨rfl, vh', ht, hmv⟩; have HR := Lib.hid ht; have HV := Lib.hid hmv; clear ht hmv))
    go_ret
    exact ⟨rfl, _, HR.out, (Mv.of_below hb).trans HV.out⟩
theorem tCut_nil (n : Int) (w : World) : Calls Try.prog 16 #[.pointer none, .int .i64 n] w fun e w' => e = .returned (.int .i64 (cutE 0 n)) ∧ Below w.heap.size w w' := by
  unfold cutE
  by_cases h0 : n < 0
  · rw [if_pos h0]
    go_enter Try.func16, Try.ntmps16
    go_wp2
    go_ret
    exact ⟨rfl, Below.refl _ _⟩
  rw [if_neg h0]
  by_cases h1 : (0 : Int) < n
  · rw [if_pos (by omega)]
    go_enter Try.func16, Try.ntmps16
    go_wp2_with (go_at_call 12; (with_reducible refine (tSure_nil _).mono ?_); rintro e w1 ⟨rfl, hb⟩)
    go_ret
    exact ⟨rfl, hb⟩
  · rw [if_neg (by omega)]
    obtain rfl : n = 0 := by omega
    go_enter Try.func16, Try.ntmps16
    go_wp2_with (go_at_call 12; (with_reducible refine (tSure_nil _).mono ?_); rintro e w1 ⟨rfl, hb⟩)
    go_ret
    exact ⟨rfl, hb⟩

set_option maxHeartbeats 2000000 in
theorem tBytes_any {F : Nat → Prop} {p : Nat} {H L : List UInt8} {vh vl : Value} (w : World) (h : TapeAt F w p H L vh vl) (hn : H.length + L.length ≤ 1000000000) :
    Calls Try.prog 10 #[ptr p] w fun e w' => ∃ v, e = .returned v ∧ OwnB w' w.heap.size v (H ++ L) ∧ Below w.heap.size w w' := by
  have c0 := h.blk.cell 0 rfl
  have c1 := h.blk.cell 1 rfl
  have HT := Lib.hid h
  have hcat : cat [H, L] = H ++ L := by simp [cat]
  have hc : ∀ w1 v, BssAt w1 v [H, L] → Calls Try.prog 18 #[v] w1 fun e w' => ∃ v, e = .returned v ∧ OwnB w' w1.heap.size v (H ++ L) ∧ Below w1.heap.size w1 w' := fun w1 v hb => by
    have := concat_any v [H, L] w1 hb (by simp) (by rw [hcat, List.length_append]; exact hn)
    rwa [hcat] at this
  have HC := Lib.hid hc
  obtain ⟨a, c, rfl⟩ := h.held.form
  obtain ⟨a2, c2, rfl⟩ := h.loose.form
  clear h hc hcat
  go_enter Try.func10, Try.ntmps10
  go_wp2
  refine wp_region_calmN 9 10 [(.cells #[.slice a H.length c, .slice a2 L.length c2] 27, fun b => .slice (some ⟨b, 0, none⟩) 2 2)] (by kernel_rfl) (by simp) (by simp) (by kernel_rfl) fun M => ?_
  simp only [List.take_succ_cons, List.take_zero, List.drop_succ_cons, List.drop_zero, List.length_cons, List.length_nil]
  have e0 := fun n : In M.w => n.cell (M.cell c0)
  have e1 := fun n : In M.w => n.cell (M.cell c1)
  repeat (go_big_quiet_step (fail))
  refine wpQuiet_nil ?_
  clear e0 e1 M
  refine ⟨rfl, fun n => by simp [go_sem], fun bp hbp _ w4 hw => ?_⟩
  have hb4 := hw.below
  have hH := hw.own bp _ (Gh.set_self _ _ _)
  have HB := Lib.hid (bss_two_at ((HT.out.held.rows csB_len).kept hb4) ((HT.out.loose.rows csB_len).kept hb4) hH)
  clear hw hH
  go_wp2_with (go_at_call 18; (with_reducible refine (HC.out _ _ HB.out).mono ?_); rintro e w5 ⟨v5, rfl, hp5, hb5⟩; have HP := Lib.hid hp5; clear hp5)
  go_ret
  exact ⟨_, rfl, HP.out.base hb4.size, hb4.trans (hb5.mono hb4.size)⟩
theorem tBytes_nil (w : World) : Calls Try.prog 10 #[.pointer none] w fun e w' => e = .returned (.slice none 0 0) ∧ Below w.heap.size w w' := by
  go_enter Try.func10, Try.ntmps10
  go_wp2
  go_ret
  exact ⟨rfl, Below.refl _ _⟩
end Go.Proofs.Ytgfcgabaacdjlaa
