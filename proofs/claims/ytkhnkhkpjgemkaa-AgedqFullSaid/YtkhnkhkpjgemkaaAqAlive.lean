/- What must come at any rate of queues by aged priority. -/
import Derived.Test.YtkhnkhkpjgemkaaAqBase
namespace Go.Proofs.Ytkhnkhkpjgemkaa
open Go.RowKit

set_option maxHeartbeats 4000000 in
set_option maxRecDepth 100000 in
theorem aqAlive_any (C : AqProg) (W : World) : Calls Try.prog 4 #[] W fun e w' => e = .returned (.bool true) ∧ Below W.heap.size W w' := by
  have h0 : Calls Try.prog 5 #[.int .i64 1, .int .i64 20] W fun e w' => ∃ p, e = .returned p ∧ Side15 C W w' p ⟨1, 20, []⟩ (.slice none 0 0) [] [] := by
    have := Side15.start C 1 20 W
    rwa [show (⟨rt 1, tk 20, []⟩ : Aq) = ⟨1, 20, []⟩ by decide +kernel] at this
  have h1 : ∀ w1 p v all, Side15 C W w1 p ⟨1, 20, []⟩ v all [] → Calls Try.prog 6 #[p, .agg #[.int .i64 1, .int .i64 1, .int .i64 0, .int .i64 1]] w1 fun e w' => e = .returned (.int .i64 0) ∧ Side15 C W w' p ⟨1, 20, [⟨1, 1, 0, 1⟩]⟩ v all [] := fun w1 p v all h => h.step fun F hF => by
    have := C.put ⟨1, 1, 0, 1⟩ hF (by simp) (by unfold I64; simp)
    rwa [show putA ⟨1, 20, []⟩ ⟨1, 1, 0, 1⟩ = (⟨1, 20, [⟨1, 1, 0, 1⟩]⟩, 0) by decide +kernel] at this
  have h2 : ∀ w1 p v all, Side15 C W w1 p ⟨1, 20, [⟨1, 1, 0, 1⟩]⟩ v all [] → Calls Try.prog 6 #[p, .agg #[.int .i64 2, .int .i64 9, .int .i64 20, .int .i64 2]] w1 fun e w' => e = .returned (.int .i64 0) ∧ Side15 C W w' p ⟨1, 20, [⟨1, 1, 0, 1⟩, ⟨2, 9, 20, 2⟩]⟩ v all [] := fun w1 p v all h => h.step fun F hF => by
    have := C.put ⟨2, 9, 20, 2⟩ hF (by simp) (by unfold I64; simp)
    rwa [show putA ⟨1, 20, [⟨1, 1, 0, 1⟩]⟩ ⟨2, 9, 20, 2⟩ = (⟨1, 20, [⟨1, 1, 0, 1⟩, ⟨2, 9, 20, 2⟩]⟩, 0) by decide +kernel] at this
  have h3 : ∀ w1 p v all, Side15 C W w1 p ⟨1, 20, [⟨1, 1, 0, 1⟩, ⟨2, 9, 20, 2⟩]⟩ v all [] → Calls Try.prog 6 #[p, .agg #[.int .i64 3, .int .i64 0, .int .i64 21, .int .i64 0]] w1 fun e w' => e = .returned (.int .i64 12) ∧ Side15 C W w' p ⟨1, 20, [⟨1, 1, 0, 1⟩, ⟨2, 9, 20, 2⟩]⟩ v all [] := fun w1 p v all h => h.step fun F hF => by
    have := C.put ⟨3, 0, 21, 0⟩ hF (by simp) (by unfold I64; simp)
    rwa [show putA ⟨1, 20, [⟨1, 1, 0, 1⟩, ⟨2, 9, 20, 2⟩]⟩ ⟨3, 0, 21, 0⟩ = (⟨1, 20, [⟨1, 1, 0, 1⟩, ⟨2, 9, 20, 2⟩]⟩, 12) by decide +kernel] at this
  have h4 : ∀ w1 p v all, Side15 C W w1 p ⟨1, 20, [⟨1, 1, 0, 1⟩, ⟨2, 9, 20, 2⟩]⟩ v all [] → Calls Try.prog 9 #[p] w1 fun e w' => e = .returned (.tuple #[.int .i64 1, .bool true]) ∧ Side15 C W w' p ⟨1, 20, [⟨1, 1, 0, 1⟩, ⟨2, 9, 20, 2⟩]⟩ v all [] := fun w1 p v all h => h.step fun F hF => by
    have := C.first hF (by simp)
    rwa [show firstA ⟨1, 20, [⟨1, 1, 0, 1⟩, ⟨2, 9, 20, 2⟩]⟩ = (1, true) by decide +kernel] at this
  have h5 : ∀ w1 p v all, Side15 C W w1 p ⟨1, 20, [⟨1, 1, 0, 1⟩, ⟨2, 9, 20, 2⟩]⟩ v all [] → Calls Try.prog 8 #[p] w1 fun e w' => ∃ v', e = .returned v' ∧ Side15 C W w' p ⟨1, 20, [⟨1, 1, 0, 1⟩, ⟨2, 9, 20, 2⟩]⟩ v' [1, 2] [] := fun w1 p v all h => by
    have := h.list (by simp)
    rwa [show listA ⟨1, 20, [⟨1, 1, 0, 1⟩, ⟨2, 9, 20, 2⟩]⟩ = [1, 2] by decide +kernel] at this
  have h6 : ∀ w1 p v all, Side15 C W w1 p ⟨1, 20, [⟨1, 1, 0, 1⟩, ⟨2, 9, 20, 2⟩]⟩ v all [] → Calls Try.prog 14 #[p, .int .i64 1] w1 fun e w' => e = .returned (.bool true) ∧ Side15 C W w' p ⟨1, 20, [⟨2, 9, 20, 2⟩]⟩ v all [] := fun w1 p v all h => h.step fun F hF => by
    have := C.drop 1 hF (by simp) (by unfold I64; simp)
    rwa [show (findA (⟨1, 20, [⟨1, 1, 0, 1⟩, ⟨2, 9, 20, 2⟩]⟩ : Aq).l 1).2 = true by decide +kernel, show dropA ⟨1, 20, [⟨1, 1, 0, 1⟩, ⟨2, 9, 20, 2⟩]⟩ 1 = ⟨1, 20, [⟨2, 9, 20, 2⟩]⟩ by decide +kernel] at this
  have h7 : ∀ w1 p v all, Side15 C W w1 p ⟨1, 20, [⟨2, 9, 20, 2⟩]⟩ v all [] → Calls Try.prog 10 #[p] w1 fun e w' => e = .returned (.int .i64 1) ∧ Side15 C W w' p ⟨1, 20, [⟨2, 9, 20, 2⟩]⟩ v all [] := fun w1 p v all h => h.step fun F hF => C.len hF
  have hi : ∀ w va vb, IntsAt w va [1, 2] → IntsAt w vb [1, 2] → Calls Try.prog 15 #[va, vb] w fun e w' => e = .returned (.bool true) ∧ Below w.heap.size w w' := fun w va vb ha hb => by
    have := refInts_any va vb [1, 2] [1, 2] w ha hb (by simp) (by simp)
    rwa [decide_eq_true rfl] at this
  have hlit : ∀ w : World, IntsAt (w.alloc (.cells #[.int .i64 1, .int .i64 2] 3)) (.slice (some ⟨w.heap.size, 0, none⟩) 2 2) [1, 2] := fun w => IntsAt.lit w [1, 2] 3
  have H0 := Lib.hid h0
  have H1 := Lib.hid h1
  have H2 := Lib.hid h2
  have H3 := Lib.hid h3
  have H4 := Lib.hid h4
  have H5 := Lib.hid h5
  have H6 := Lib.hid h6
  have H7 := Lib.hid h7
  have HI := Lib.hid hi
  have HL := Lib.hid hlit
  clear h0 h1 h2 h3 h4 h5 h6 h7 hi hlit
  go_enter Try.func4, Try.ntmps4
  go_wp2_with (first
    | (go_at_call 5; (with_reducible refine H0.out.mono ?_); rintro e w0 ⟨p, rfl, hs⟩; have HS := Lib.hid hs; clear hs)
    | (go_at_call 6; (with_reducible refine (H1.out _ _ _ _ HS.out).mono ?_); rintro e w1 ⟨rfl, hs⟩; have HS1 := Lib.hid hs; clear hs)
    | (go_at_call 6; (with_reducible refine (H2.out _ _ _ _ HS1.out).mono ?_); rintro e w2 ⟨rfl, hs⟩; have HS2 := Lib.hid hs; clear hs)
    | (go_at_call 6; (with_reducible refine (H3.out _ _ _ _ HS2.out).mono ?_); rintro e w3 ⟨rfl, hs⟩; have HS3 := Lib.hid hs; clear hs)
    | (go_at_call 9; (with_reducible refine (H4.out _ _ _ _ HS3.out).mono ?_); rintro e w4 ⟨rfl, hs⟩; have HS4 := Lib.hid hs; clear hs)
    | (go_at_call 8; (with_reducible refine (H5.out _ _ _ _ HS4.out).mono ?_); rintro e w5 ⟨v5, rfl, hs⟩; have HS5 := Lib.hid hs; have HS6 := Lib.hid (hs.kept ((Below.refl _ _).alloc (Nat.le_refl _) (.cells #[.int .i64 1, .int .i64 2] 3))); clear hs)
    | (go_at_call 15; (with_reducible refine (HI.out _ _ _ HS6.out.ints (HL.out _)).mono ?_); rintro e w7 ⟨rfl, hb⟩; have HS7 := Lib.hid (HS6.out.kept hb); clear hb)
    | (go_at_call 14; (with_reducible refine (H6.out _ _ _ _ HS7.out).mono ?_); rintro e w8 ⟨rfl, hs⟩; have HS8 := Lib.hid hs; clear hs)
    | (go_at_call 10; (with_reducible refine (H7.out _ _ _ _ HS8.out).mono ?_); rintro e w9 ⟨rfl, hs⟩; have HS9 := Lib.hid hs; clear hs))
  go_ret
  exact ⟨rfl, HS9.out.below⟩
end Go.Proofs.Ytkhnkhkpjgemkaa
