/- The laws IdsetOps, IdsetLaws. -/
import Derived.Test.YtgkhjnfkpodddaaIdLaw
namespace Go.Proofs.Ytgkhjnfkpodddaa
open Go.RowKit

set_option maxHeartbeats 16000000 in
set_option maxRecDepth 100000 in
theorem idsetOps_any (C : IdProg) (va vb : Value) (a b : List Int) (n : Int) (w : World) (ha : IntsAt w va a) (hb : IntsAt w vb b) (ba : B64 a) (bb : B64 b) (bn : -9223372036854775808 ≤ n ∧ n ≤ 9223372036854775807) :
    Calls Try.prog 4 #[va, vb, .int .i64 n] w fun e w' => e = .returned (.bool true) ∧ Below w.heap.size w w' := by
  have HAL := Lib.hid fun w => iAlive_any C w
  have IA := Lib.hid fun w' (h : Below w.heap.size w w') => IntsAt.below ha h
  have IB := Lib.hid fun w' (h : Below w.heap.size w w') => IntsAt.below hb h
  obtain ⟨a0, c0, rfl⟩ := IntsAt.form ha
  obtain ⟨b0, d0, rfl⟩ := IntsAt.form hb
  by_cases h60 : a.length ≤ 60
  · have g1 : ¬ (60 : Int) < (a.length : Int) := by omega
    by_cases h61 : b.length ≤ 60
    · have g2 : ¬ (60 : Int) < (b.length : Int) := by omega
      have P0 := Lib.hid fun w' (h : Below w.heap.size w w') => C.above _ a n w' (IA.out w' h) (by omega) ba bn
      have P1 := Lib.hid fun w' (h : Below w.heap.size w w') => C.or _ _ a b w' (IA.out w' h) (IB.out w' h) (by omega) (by omega) ba bb
      have P2 := Lib.hid fun w' (h : Below w.heap.size w w') => C.and _ _ a b w' (IA.out w' h) (IB.out w' h) (by omega) (by omega) ba bb
      have P3 := Lib.hid fun w' (h : Below w.heap.size w w') => C.less _ _ a b w' (IA.out w' h) (IB.out w' h) (by omega) (by omega) ba bb
      have P4 := Lib.hid fun w' (h : Below w.heap.size w w') => C.within _ _ a b w' (IA.out w' h) (IB.out w' h) (by omega) (by omega) ba bb
      have R0 := Lib.hid fun w' (h : Below w.heap.size w w') => refAbove_any _ a n w' (IA.out w' h) (by omega)
      have R1 := Lib.hid fun w' (h : Below w.heap.size w w') => refOr_any _ _ a b w' (IA.out w' h) (IB.out w' h) (by omega) (by omega)
      have R2 := Lib.hid fun w' (h : Below w.heap.size w w') => refAnd_any _ _ a b w' (IA.out w' h) (IB.out w' h) (by omega) (by omega)
      have R3 := Lib.hid fun w' (h : Below w.heap.size w w') => refLess_any _ _ a b w' (IA.out w' h) (IB.out w' h) (by omega) (by omega)
      have hol := or_len a b
      have hal : (andL a b).length ≤ a.length := pick_len a b true
      have hll : (lessL a b).length ≤ a.length := pick_len a b false
      have hw : withinB a b = decide ((lessL a b).length = 0) := rfl
      obtain ⟨⟨x, t⟩, hx⟩ : ∃ r, abvL a n = r := ⟨_, rfl⟩
      rw [hx] at P0 R0
      simp only at P0 R0
      generalize orL a b = O at *
      generalize andL a b = D at *
      generalize lessL a b = L at *
      have CI1 := Lib.hid fun va vb w (ha : IntsAt w va O) (hb : IntsAt w vb O) => refInts_any va vb O O w ha hb (by omega) (by omega)
      have CI2 := Lib.hid fun va vb w (ha : IntsAt w va D) (hb : IntsAt w vb D) => refInts_any va vb D D w ha hb (by omega) (by omega)
      have CI3 := Lib.hid fun va vb w (ha : IntsAt w va L) (hb : IntsAt w vb L) => refInts_any va vb L L w ha hb (by omega) (by omega)
      simp only [decide_true] at CI1 CI2 CI3
      obtain ⟨z, hz⟩ : ∃ z, ((L.length : Int) == 0) = z := ⟨_, rfl⟩
      have hwz : withinB a b = z := by
        rw [hw, ← hz]
        by_cases h : L.length = 0
        · rw [decide_eq_true h, h]; rfl
        · rw [decide_eq_false h]; exact (beq_noI (by omega)).symm
      rw [hwz] at P4
      have BB := Lib.hid (Below.refl w.heap.size w)
      clear ha hb h60 h61 hol hal hll hw hwz hx
      go_enter Try.func4, Try.ntmps4
      go_wp2_with (first
        | (go_at_call 14; (with_reducible refine (P0.out _ BB.out).mono ?_); rintro e w' ⟨rfl, hb⟩; replace BB := Lib.hid (BB.out.trans (hb.mono BB.out.size)); clear hb)
        | (go_at_call 15; (with_reducible refine (R0.out _ BB.out).mono ?_); rintro e w' ⟨rfl, hb⟩; replace BB := Lib.hid (BB.out.trans (hb.mono BB.out.size)); clear hb)
        | (go_at_call 16; (with_reducible refine (P1.out _ BB.out).mono ?_); rintro e w' ⟨v, rfl, h, hb⟩; replace BB := Lib.hid (BB.out.trans (hb.mono BB.out.size)); obtain ⟨a_X1, c_X1, e⟩ := h.form; subst e; have X1 := Lib.hid h; clear h hb)
        | (go_at_call 17; (with_reducible refine (R1.out _ BB.out).mono ?_); rintro e w' ⟨v, rfl, h, hb⟩; replace BB := Lib.hid (BB.out.trans (hb.mono BB.out.size)); have h := OwnI.ints h; obtain ⟨a_X2, c_X2, e⟩ := h.form; subst e; have X2 := Lib.hid h; replace X1 := Lib.hid (X1.out.below hb); clear h hb)
        | (go_at_call 7; (with_reducible refine (CI1.out _ _ _ X1.out X2.out).mono ?_); rintro e w' ⟨rfl, hb⟩; replace BB := Lib.hid (BB.out.trans (hb.mono BB.out.size)); clear hb)
        | (go_at_call 18; (with_reducible refine (P2.out _ BB.out).mono ?_); rintro e w' ⟨v, rfl, h, hb⟩; replace BB := Lib.hid (BB.out.trans (hb.mono BB.out.size)); obtain ⟨a_X3, c_X3, e⟩ := h.form; subst e; have X3 := Lib.hid h; clear h hb)
        | (go_at_call 19; (with_reducible refine (R2.out _ BB.out).mono ?_); rintro e w' ⟨v, rfl, h, hb⟩; replace BB := Lib.hid (BB.out.trans (hb.mono BB.out.size)); have h := OwnI.ints h; obtain ⟨a_X4, c_X4, e⟩ := h.form; subst e; have X4 := Lib.hid h; replace X3 := Lib.hid (X3.out.below hb); clear h hb)
        | (go_at_call 7; (with_reducible refine (CI2.out _ _ _ X3.out X4.out).mono ?_); rintro e w' ⟨rfl, hb⟩; replace BB := Lib.hid (BB.out.trans (hb.mono BB.out.size)); clear hb)
        | (go_at_call 20; (with_reducible refine (P3.out _ BB.out).mono ?_); rintro e w' ⟨v, rfl, h, hb⟩; replace BB := Lib.hid (BB.out.trans (hb.mono BB.out.size)); obtain ⟨a_X5, c_X5, e⟩ := h.form; subst e; have X5 := Lib.hid h; clear h hb)
        | (go_at_call 21; (with_reducible refine (R3.out _ BB.out).mono ?_); rintro e w' ⟨v, rfl, h, hb⟩; replace BB := Lib.hid (BB.out.trans (hb.mono BB.out.size)); have h := OwnI.ints h; obtain ⟨a_X6, c_X6, e⟩ := h.form; subst e; have X6 := Lib.hid h; replace X5 := Lib.hid (X5.out.below hb); clear h hb)
        | (go_at_call 7; (with_reducible refine (CI3.out _ _ _ X5.out X6.out).mono ?_); rintro e w' ⟨rfl, hb⟩; replace BB := Lib.hid (BB.out.trans (hb.mono BB.out.size)); clear hb X5)
        | (go_at_call 22; (with_reducible refine (P4.out _ BB.out).mono ?_); rintro e w' ⟨rfl, hb⟩; replace BB := Lib.hid (BB.out.trans (hb.mono BB.out.size)); clear hb)
        | (go_at_call 21; (with_reducible refine (R3.out _ BB.out).mono ?_); rintro e w' ⟨v, rfl, h, hb⟩; replace BB := Lib.hid (BB.out.trans (hb.mono BB.out.size)); have h := OwnI.ints h; obtain ⟨a_9, c_9, e⟩ := h.form; subst e; clear h hb)
        | (go_at_call 6; (with_reducible refine (HAL.out _).mono ?_); rintro e w' ⟨rfl, hb⟩; replace BB := Lib.hid (BB.out.trans (hb.mono BB.out.size)); clear hb))
      go_ret
      exact ⟨by simp, BB.out⟩
    · have g2 : (60 : Int) < (b.length : Int) := by omega
      clear ha hb h60 h61
      go_enter Try.func4, Try.ntmps4
      go_wp2_with (go_at_call 6; (with_reducible refine (HAL.out _).mono ?_); rintro e w7 ⟨rfl, hb⟩)
      go_ret
      exact ⟨rfl, hb⟩
  · have g1 : (60 : Int) < (a.length : Int) := by omega
    clear ha hb h60
    go_enter Try.func4, Try.ntmps4
    go_wp2_with (go_at_call 6; (with_reducible refine (HAL.out _).mono ?_); rintro e w7 ⟨rfl, hb⟩)
    go_ret
    exact ⟨rfl, hb⟩
end Go.Proofs.Ytgkhjnfkpodddaa
