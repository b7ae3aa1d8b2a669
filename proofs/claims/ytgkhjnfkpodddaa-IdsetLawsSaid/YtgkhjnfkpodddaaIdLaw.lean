/- The laws of layer 17 (sets of numbers), over the program's contracts as one structure. -/
import Derived.Test.YtgkhjnfkpodddaaIdRef
import Derived.Test.YtgkhjnfkpodddaaGraphRefB
import Derived.Deep.DeepCutAuto
namespace Go.Proofs.Ytgkhjnfkpodddaa
open Go.RowKit

/-- what the program's functions must keep -/
structure IdProg : Prop where
  of : ∀ (va : Value) (l : List Int) (w : World), IntsAt w va l → l.length ≤ 200 → B64 l → Calls Try.prog 8 #[va] w fun e w' => ∃ v, e = .returned v ∧ IntsAt w' v (setL l) ∧ Below w.heap.size w w'
  right : ∀ (va : Value) (l : List Int) (w : World), IntsAt w va l → l.length ≤ 200 → B64 l → Calls Try.prog 10 #[va] w fun e w' => e = .returned (.bool (rightB l)) ∧ Below w.heap.size w w'
  has : ∀ (va : Value) (l : List Int) (n : Int) (w : World), IntsAt w va l → l.length ≤ 200 → B64 l → (-9223372036854775808 ≤ n ∧ n ≤ 9223372036854775807) → Calls Try.prog 12 #[va, .int .i64 n] w fun e w' => e = .returned (.bool (inL l n)) ∧ Below w.heap.size w w'
  or : ∀ (va vb : Value) (a b : List Int) (w : World), IntsAt w va a → IntsAt w vb b → a.length ≤ 200 → b.length ≤ 200 → B64 a → B64 b → Calls Try.prog 16 #[va, vb] w fun e w' => ∃ v, e = .returned v ∧ IntsAt w' v (orL a b) ∧ Below w.heap.size w w'
  and : ∀ (va vb : Value) (a b : List Int) (w : World), IntsAt w va a → IntsAt w vb b → a.length ≤ 200 → b.length ≤ 200 → B64 a → B64 b → Calls Try.prog 18 #[va, vb] w fun e w' => ∃ v, e = .returned v ∧ IntsAt w' v (andL a b) ∧ Below w.heap.size w w'
  less : ∀ (va vb : Value) (a b : List Int) (w : World), IntsAt w va a → IntsAt w vb b → a.length ≤ 200 → b.length ≤ 200 → B64 a → B64 b → Calls Try.prog 20 #[va, vb] w fun e w' => ∃ v, e = .returned v ∧ IntsAt w' v (lessL a b) ∧ Below w.heap.size w w'
  within : ∀ (va vb : Value) (a b : List Int) (w : World), IntsAt w va a → IntsAt w vb b → a.length ≤ 200 → b.length ≤ 200 → B64 a → B64 b → Calls Try.prog 22 #[va, vb] w fun e w' => e = .returned (.bool (withinB a b)) ∧ Below w.heap.size w w'
  above : ∀ (va : Value) (l : List Int) (n : Int) (w : World), IntsAt w va l → l.length ≤ 200 → B64 l → (-9223372036854775808 ≤ n ∧ n ≤ 9223372036854775807) → Calls Try.prog 14 #[va, .int .i64 n] w fun e w' => e = .returned (.tuple #[.int .i64 (abvL l n).1, .bool (abvL l n).2]) ∧ Below w.heap.size w w'

set_option maxHeartbeats 4000000 in
set_option maxRecDepth 100000 in
theorem iAlive_any (C : IdProg) (w : World) : Calls Try.prog 6 #[] w fun e w' => e = .returned (.bool true) ∧ Below w.heap.size w w' := by
  have e1 : abvL [9, 4] 4 = (9, true) := by decide
  have e2 : orL [3, 1] [2, 3] = [1, 2, 3] := by decide
  have e3 : setL [5, 5, 1] = [1, 5] := by decide
  have e4 : rightB [1, 5] = true := by decide
  have e5 : rightB [5, 5] = false := by decide
  have c1 := fun va w h => C.above va [9, 4] 4 w h (by simp) (by simp [B64]) (by simp)
  have c2 := fun va vb w h1 h2 => C.or va vb [3, 1] [2, 3] w h1 h2 (by simp) (by simp) (by simp [B64]) (by simp [B64])
  have c3 := fun va w h => C.of va [5, 5, 1] w h (by simp) (by simp [B64])
  have c4 := fun va w h => C.right va [1, 5] w h (by simp) (by simp [B64])
  have c5 := fun va w h => C.right va [5, 5] w h (by simp) (by simp [B64])
  rw [e1] at c1
  rw [e2] at c2
  rw [e3] at c3
  rw [e4] at c4
  rw [e5] at c5
  have ci := fun va vb (l : List Int) w (ha : IntsAt w va l) (hb : IntsAt w vb l) (hl : l.length ≤ 1000) => refInts_any va vb l l w ha hb (by omega) (by omega)
  simp only [decide_true] at ci
  have lit3 : ∀ (w : World) (a b c : Int), IntsAt (w.alloc (.cells #[.int .i64 a, .int .i64 b, .int .i64 c] 3)) (.slice (some ⟨w.heap.size, 0, none⟩) 3 3) [a, b, c] := fun w a b c => IntsAt.lit w [a, b, c] 3
  have lit2 : ∀ (w : World) (a b : Int), IntsAt (w.alloc (.cells #[.int .i64 a, .int .i64 b] 3)) (.slice (some ⟨w.heap.size, 0, none⟩) 2 2) [a, b] := fun w a b => IntsAt.lit w [a, b] 3
  have lit22 : ∀ (w : World) (a b c d : Int), IntsAt ((w.alloc (.cells #[.int .i64 a, .int .i64 b] 3)).alloc (.cells #[.int .i64 c, .int .i64 d] 3)) (.slice (some ⟨w.heap.size, 0, none⟩) 2 2) [a, b] ∧ IntsAt ((w.alloc (.cells #[.int .i64 a, .int .i64 b] 3)).alloc (.cells #[.int .i64 c, .int .i64 d] 3)) (.slice (some ⟨w.heap.size + 1, 0, none⟩) 2 2) [c, d] := fun w a b c d => by
    refine ⟨IntsAt.below (lit2 w a b) ((Below.refl _ _).alloc (Nat.le_refl _) _), ?_⟩
    have := lit2 (w.alloc (.cells #[.int .i64 a, .int .i64 b] 3)) c d
    rwa [show (w.alloc (.cells #[.int .i64 a, .int .i64 b] 3)).heap.size = w.heap.size + 1 by simp] at this
  have C1 := Lib.hid c1
  have C2 := Lib.hid c2
  have C3 := Lib.hid c3
  have C4 := Lib.hid c4
  have C5 := Lib.hid c5
  have CI1 := Lib.hid fun va vb w ha hb => ci va vb [1, 2, 3] w ha hb (by simp)
  have CI2 := Lib.hid fun va vb w ha hb => ci va vb [1, 5] w ha hb (by simp)
  have L3 := Lib.hid lit3
  have L2 := Lib.hid lit2
  have L22 := Lib.hid lit22
  have BB := Lib.hid (Below.refl w.heap.size w)
  clear e1 e2 e3 e4 e5 c1 c2 c3 c4 c5 ci lit3 lit2 lit22
  go_enter Try.func6, Try.ntmps6
  go_wp2_with (first
    | (go_at_call 14; (with_reducible refine (C1.out _ _ (L2.out _ 9 4)).mono ?_); rintro e w1 ⟨rfl, hb⟩; replace BB := Lib.hid ((BB.out.alloc BB.out.size _).trans (hb.mono (Nat.le_trans BB.out.size (by simp)))); clear hb)
    | (go_at_call 16; (with_reducible refine (C2.out _ _ _ (L22.out _ 3 1 2 3).1 (L22.out _ 3 1 2 3).2).mono ?_); rintro e w2 ⟨v2, rfl, h, hb⟩; have X2 := Lib.hid h; replace BB := Lib.hid (((BB.out.alloc BB.out.size _).alloc (Nat.le_trans BB.out.size (by simp)) _).trans (hb.mono (Nat.le_trans BB.out.size (by simp; omega)))); obtain ⟨a2, c2, e⟩ := h.form; rw [show ([1, 2, 3] : List Int).length = 3 from rfl] at e; subst e; clear h hb)
    | (go_at_call 7; (with_reducible refine (CI1.out _ _ _ (X2.out.below ((Below.refl _ _).alloc (Nat.le_refl _) _)) (L3.out _ 1 2 3)).mono ?_); rintro e w3 ⟨rfl, hb⟩; replace BB := Lib.hid ((BB.out.alloc BB.out.size _).trans (hb.mono (Nat.le_trans BB.out.size (by simp)))); clear hb X2)
    | (go_at_call 8; (with_reducible refine (C3.out _ _ (L3.out _ 5 5 1)).mono ?_); rintro e w4 ⟨v4, rfl, h, hb⟩; have X4 := Lib.hid h; replace BB := Lib.hid ((BB.out.alloc BB.out.size _).trans (hb.mono (Nat.le_trans BB.out.size (by simp)))); obtain ⟨a4, c4, e⟩ := h.form; rw [show ([1, 5] : List Int).length = 2 from rfl] at e; subst e; clear h hb)
    | (go_at_call 7; (with_reducible refine (CI2.out _ _ _ (X4.out.below ((Below.refl _ _).alloc (Nat.le_refl _) _)) (L2.out _ 1 5)).mono ?_); rintro e w5 ⟨rfl, hb⟩; replace BB := Lib.hid ((BB.out.alloc BB.out.size _).trans (hb.mono (Nat.le_trans BB.out.size (by simp)))); clear hb X4)
    | (go_at_call 10; (with_reducible refine (C4.out _ _ (L2.out _ 1 5)).mono ?_); rintro e w6 ⟨rfl, hb⟩; replace BB := Lib.hid ((BB.out.alloc BB.out.size _).trans (hb.mono (Nat.le_trans BB.out.size (by simp)))); clear hb)
    | (go_at_call 10; (with_reducible refine (C5.out _ _ (L2.out _ 5 5)).mono ?_); rintro e w7 ⟨rfl, hb⟩; replace BB := Lib.hid ((BB.out.alloc BB.out.size _).trans (hb.mono (Nat.le_trans BB.out.size (by simp)))); clear hb))
  go_ret
  exact ⟨rfl, BB.out⟩

set_option maxHeartbeats 8000000 in
set_option maxRecDepth 100000 in
theorem idsetTells_any (C : IdProg) (va : Value) (l : List Int) (n : Int) (w : World) (ha : IntsAt w va l) (bl : B64 l) (bn : -9223372036854775808 ≤ n ∧ n ≤ 9223372036854775807) :
    Calls Try.prog 3 #[va, .int .i64 n] w fun e w' => e = .returned (.bool true) ∧ Below w.heap.size w w' := by
  have HAL := Lib.hid fun w => iAlive_any C w
  have IA := Lib.hid fun w' (h : Below w.heap.size w w') => IntsAt.below ha h
  obtain ⟨a0, c0, rfl⟩ := IntsAt.form ha
  by_cases h60 : l.length ≤ 60
  · have g1 : ¬ (60 : Int) < (l.length : Int) := by omega
    have P1 := Lib.hid fun w' (h : Below w.heap.size w w') => C.of _ l w' (IA.out w' h) (by omega) bl
    have P2 := Lib.hid fun w' (h : Below w.heap.size w w') => C.right _ l w' (IA.out w' h) (by omega) bl
    have P3 := Lib.hid fun w' (h : Below w.heap.size w w') => C.has _ l n w' (IA.out w' h) (by omega) bl bn
    have R1 := Lib.hid fun w' (h : Below w.heap.size w w') => refSet_any _ l w' (IA.out w' h) (by omega)
    have R2 := Lib.hid fun w' (h : Below w.heap.size w w') => refRight_any _ l w' (IA.out w' h) (by omega)
    have R3 := Lib.hid fun w' (h : Below w.heap.size w w') => refIn_any _ l n w' (IA.out w' h) (by omega)
    have hsl := setL_le l
    generalize setL l = S at *
    generalize rightB l = t1 at *
    generalize inL l n = t2 at *
    have CI := Lib.hid fun va vb w (ha : IntsAt w va S) (hb : IntsAt w vb S) => refInts_any va vb S S w ha hb (by omega) (by omega)
    simp only [decide_true] at CI
    have BB := Lib.hid (Below.refl w.heap.size w)
    clear ha h60 hsl
    go_enter Try.func3, Try.ntmps3
    go_wp2_with (first
      | (go_at_call 8; (with_reducible refine (P1.out _ BB.out).mono ?_); rintro e w' ⟨v, rfl, h, hb⟩; replace BB := Lib.hid (BB.out.trans (hb.mono BB.out.size)); obtain ⟨a_X1, c_X1, e⟩ := h.form; subst e; have X1 := Lib.hid h; clear h hb)
      | (go_at_call 9; (with_reducible refine (R1.out _ BB.out).mono ?_); rintro e w' ⟨v, rfl, h, hb⟩; replace BB := Lib.hid (BB.out.trans (hb.mono BB.out.size)); have h := OwnI.ints h; obtain ⟨a_X2, c_X2, e⟩ := h.form; subst e; have X2 := Lib.hid h; replace X1 := Lib.hid (X1.out.below hb); clear h hb)
      | (go_at_call 7; (with_reducible refine (CI.out _ _ _ X1.out X2.out).mono ?_); rintro e w' ⟨rfl, hb⟩; replace BB := Lib.hid (BB.out.trans (hb.mono BB.out.size)); clear hb)
      | (go_at_call 10; (with_reducible refine (P2.out _ BB.out).mono ?_); rintro e w' ⟨rfl, hb⟩; replace BB := Lib.hid (BB.out.trans (hb.mono BB.out.size)); clear hb)
      | (go_at_call 11; (with_reducible refine (R2.out _ BB.out).mono ?_); rintro e w' ⟨rfl, hb⟩; replace BB := Lib.hid (BB.out.trans (hb.mono BB.out.size)); clear hb)
      | (go_at_call 12; (with_reducible refine (P3.out _ BB.out).mono ?_); rintro e w' ⟨rfl, hb⟩; replace BB := Lib.hid (BB.out.trans (hb.mono BB.out.size)); clear hb)
      | (go_at_call 13; (with_reducible refine (R3.out _ BB.out).mono ?_); rintro e w' ⟨rfl, rfl⟩)
      | (go_at_call 6; (with_reducible refine (HAL.out _).mono ?_); rintro e w' ⟨rfl, hb⟩; replace BB := Lib.hid (BB.out.trans (hb.mono BB.out.size)); clear hb))
    go_ret
    exact ⟨rfl, BB.out⟩
  · have g1 : (60 : Int) < (l.length : Int) := by omega
    clear ha h60
    go_enter Try.func3, Try.ntmps3
    go_wp2_with (go_at_call 6; (with_reducible refine (HAL.out _).mono ?_); rintro e w7 ⟨rfl, hb⟩)
    go_ret
    exact ⟨rfl, hb⟩
end Go.Proofs.Ytgkhjnfkpodddaa
