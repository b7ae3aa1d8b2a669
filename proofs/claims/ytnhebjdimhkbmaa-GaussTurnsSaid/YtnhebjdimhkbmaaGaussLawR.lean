/- The walks of the laws GaussRing and GaussTurns. -/
import Derived.Test.YtnhebjdimhkbmaaGaussLaw
namespace Go.Proofs.Ytnhebjdimhkbmaa
open Go.RowKit

def padd (a b : Int) : Int := a + b
def psub (a b : Int) : Int := a - b
def pre (a1 a2 b1 b2 : Int) : Int := a1 * b1 - a2 * b2
def pim (a1 a2 b1 b2 : Int) : Int := a1 * b2 + a2 * b1
def pnm (a1 a2 : Int) : Int := a1 * a1 - a2 * -a2
def Sm (B n : Int) : Prop := -B ≤ n ∧ n ≤ B
theorem fx_sm {n : Int} (h : Sm 1048576 n) : fx n = n := by unfold fx; have := h.1; have := h.2; omega

theorem add_s (a1 a2 b1 b2 : Int) (w : World) (h1 : Sm 1048576 a1) (h2 : Sm 1048576 a2) (h3 : Sm 1048576 b1) (h4 : Sm 1048576 b2) : Calls Try.prog 10 #[.agg #[.int .i64 a1, .int .i64 a2], .agg #[.int .i64 b1, .int .i64 b2]] w fun e w' => e = .returned (.agg #[.int .i64 (padd a1 b1), .int .i64 (padd a2 b2)]) ∧ Below w.heap.size w w' := by
  have h := add_any a1 a2 b1 b2 w
  rw [fx_sm h1, fx_sm h2, fx_sm h3, fx_sm h4] at h
  exact h
theorem sub_s (a1 a2 b1 b2 : Int) (w : World) (h1 : Sm 1048576 a1) (h2 : Sm 1048576 a2) (h3 : Sm 1048576 b1) (h4 : Sm 1048576 b2) : Calls Try.prog 12 #[.agg #[.int .i64 a1, .int .i64 a2], .agg #[.int .i64 b1, .int .i64 b2]] w fun e w' => e = .returned (.agg #[.int .i64 (psub a1 b1), .int .i64 (psub a2 b2)]) ∧ Below w.heap.size w w' := by
  have h := sub_any a1 a2 b1 b2 w
  rw [fx_sm h1, fx_sm h2, fx_sm h3, fx_sm h4] at h
  exact h
theorem mul_s (a1 a2 b1 b2 : Int) (w : World) (h1 : Sm 1048576 a1) (h2 : Sm 1048576 a2) (h3 : Sm 1048576 b1) (h4 : Sm 1048576 b2) : Calls Try.prog 14 #[.agg #[.int .i64 a1, .int .i64 a2], .agg #[.int .i64 b1, .int .i64 b2]] w fun e w' => e = .returned (.agg #[.int .i64 (pre a1 a2 b1 b2), .int .i64 (pim a1 a2 b1 b2)]) ∧ Below w.heap.size w w' := by
  have h := mul_any a1 a2 b1 b2 w
  rw [fx_sm h1, fx_sm h2, fx_sm h3, fx_sm h4] at h
  exact h
theorem conj_s (a1 a2 : Int) (w : World) (h1 : Sm 1048576 a1) (h2 : Sm 1048576 a2) : Calls Try.prog 16 #[.agg #[.int .i64 a1, .int .i64 a2]] w fun e w' => e = .returned (.agg #[.int .i64 a1, .int .i64 (-a2)]) ∧ Below w.heap.size w w' := by
  have h := conj_any a1 a2 w
  rw [fx_sm h1, fx_sm h2] at h
  exact h
theorem norm_s (a1 a2 : Int) (w : World) (h1 : Sm 1048576 a1) (h2 : Sm 1048576 a2) : Calls Try.prog 21 #[.agg #[.int .i64 a1, .int .i64 a2]] w fun e w' => e = .returned (.int .i64 (pnm a1 a2)) ∧ Below w.heap.size w w' := by
  have h := norm_any a1 a2 w
  rw [fx_sm h1, fx_sm h2] at h
  exact h

theorem Sm.up {B C n : Int} (h : Sm B n) (hBC : B ≤ C) : Sm C n := by unfold Sm at *; omega
theorem Sm.mul {A B a b : Int} (ha : Sm A a) (hb : Sm B b) : Sm (A * B) (a * b) := by
  unfold Sm at *
  obtain ⟨h1, h2⟩ := ha
  obtain ⟨h3, h4⟩ := hb
  have e1 : 0 ≤ (A - a) * (B - b) := Int.mul_nonneg (by omega) (by omega)
  have e2 : 0 ≤ (A + a) * (B + b) := Int.mul_nonneg (by omega) (by omega)
  have e3 : 0 ≤ (A - a) * (B + b) := Int.mul_nonneg (by omega) (by omega)
  have e4 : 0 ≤ (A + a) * (B - b) := Int.mul_nonneg (by omega) (by omega)
  simp only [Int.add_mul, Int.sub_mul, Int.mul_add, Int.mul_sub] at e1 e2 e3 e4
  omega
theorem sm_padd {A B a b : Int} (ha : Sm A a) (hb : Sm B b) : Sm (A + B) (padd a b) := by unfold Sm padd at *; omega
theorem sm_pre {A B a1 a2 b1 b2 : Int} (h1 : Sm A a1) (h2 : Sm A a2) (h3 : Sm B b1) (h4 : Sm B b2) : Sm (2 * (A * B)) (pre a1 a2 b1 b2) := by
  have e1 := h1.mul h3
  have e2 := h2.mul h4
  unfold Sm pre at *
  omega
theorem sm_pim {A B a1 a2 b1 b2 : Int} (h1 : Sm A a1) (h2 : Sm A a2) (h3 : Sm B b1) (h4 : Sm B b2) : Sm (2 * (A * B)) (pim a1 a2 b1 b2) := by
  have e1 := h1.mul h4
  have e2 := h2.mul h3
  unfold Sm pim at *
  omega
theorem sm_neg {A a : Int} (h : Sm A a) : Sm A (-a) := by unfold Sm at *; omega
theorem sm_pnm {A a1 a2 : Int} (h1 : Sm A a1) (h2 : Sm A a2) : Sm (2 * (A * A)) (pnm a1 a2) := sm_pre h1 h2 h1 (sm_neg h2)
theorem pnm_nn (a b : Int) : 0 ≤ pnm a b := by
  have h1 := sq_nn a
  have h2 := sq_nn b
  unfold pnm
  rw [Int.mul_neg]
  omega

theorem pre_comm (a b c d : Int) : pre c d a b = pre a b c d := by unfold pre; rw [Int.mul_comm c, Int.mul_comm d]
theorem pim_comm (a b c d : Int) : pim c d a b = pim a b c d := by unfold pim; rw [Int.mul_comm c, Int.mul_comm d, Int.add_comm]
theorem pre_assoc (a b c d e f : Int) : pre (pre a b c d) (pim a b c d) e f = pre a b (pre c d e f) (pim c d e f) := by
  unfold pre pim
  simp only [Int.sub_mul, Int.add_mul, Int.mul_sub, Int.mul_add, Int.mul_assoc]
  omega
theorem pim_assoc (a b c d e f : Int) : pim (pre a b c d) (pim a b c d) e f = pim a b (pre c d e f) (pim c d e f) := by
  unfold pre pim
  simp only [Int.sub_mul, Int.add_mul, Int.mul_sub, Int.mul_add, Int.mul_assoc]
  omega
theorem pre_dist (a b c d e f : Int) : pre a b (padd c e) (padd d f) = padd (pre a b c d) (pre a b e f) := by
  unfold pre padd
  simp only [Int.mul_add]
  omega
theorem pim_dist (a b c d e f : Int) : pim a b (padd c e) (padd d f) = padd (pim a b c d) (pim a b e f) := by
  unfold pim padd
  simp only [Int.mul_add]
  omega
theorem pnm_mul (a b c d : Int) : pnm (pre a b c d) (pim a b c d) = pnm a b * pnm c d := by
  unfold pnm pre pim
  grind
theorem pre_conj (a b : Int) : pre a b a (-b) = pnm a b := rfl
theorem pim_conj (a b : Int) : pim a b a (-b) = 0 := by unfold pim; rw [Int.mul_neg, Int.mul_comm b]; omega
theorem psub_padd (a b : Int) : psub (padd a b) b = a := by unfold psub padd; omega

theorem smallB_sm {x y : Int} (h : smallB x y 500 = true) : Sm 500 x ∧ Sm 500 y := by
  unfold smallB at h
  have := of_decide_eq_true h
  unfold Sm
  omega

set_option maxHeartbeats 8000000 in
set_option maxRecDepth 100000 in
theorem gaussRing_any (p1 p2 q1 q2 r1 r2 : Int) (w : World) :
    Calls Try.prog 6 #[.agg #[.int .i64 p1, .int .i64 p2], .agg #[.int .i64 q1, .int .i64 q2], .agg #[.int .i64 r1, .int .i64 r2]] w fun e w' => e = .returned (.bool true) ∧ Below w.heap.size w w' := by
  have hB : Below w.heap.size w (((w.alloc (.cells #[.int .i64 p1, .int .i64 p2] 23)).alloc (.cells #[.int .i64 q1, .int .i64 q2] 23)).alloc (.cells #[.int .i64 r1, .int .i64 r2] 23)) := (((Below.refl _ _).alloc (Nat.le_refl _) _).alloc (by simp) _).alloc (by simp; omega) _
  have C0 := ((Cell2.new w (.int .i64 p1) (.int .i64 p2) 23).alloc (.cells #[.int .i64 q1, .int .i64 q2] 23)).alloc (.cells #[.int .i64 r1, .int .i64 r2] 23)
  have C1 := (Cell2.new (w.alloc (.cells #[.int .i64 p1, .int .i64 p2] 23)) (.int .i64 q1) (.int .i64 q2) 23).alloc (.cells #[.int .i64 r1, .int .i64 r2] 23)
  have C2 := Cell2.new ((w.alloc (.cells #[.int .i64 p1, .int .i64 p2] 23)).alloc (.cells #[.int .i64 q1, .int .i64 q2] 23)) (.int .i64 r1) (.int .i64 r2) 23
  simp only [World.size_alloc] at C0 C1 C2
  by_cases hs : smallB p1 p2 500 = true ∧ smallB q1 q2 500 = true ∧ smallB r1 r2 500 = true
  case neg =>
    have hs' : (smallB p1 p2 500 && smallB q1 q2 500 && smallB r1 r2 500) = false := by
      cases h1 : smallB p1 p2 500 <;> cases h2 : smallB q1 q2 500 <;> cases h3 : smallB r1 r2 500 <;> simp [h1, h2, h3] at hs ⊢
    generalize hb1 : smallB p1 p2 500 = b1 at hs'
    generalize hb2 : smallB q1 q2 500 = b2 at hs'
    generalize hb3 : smallB r1 r2 500 = b3 at hs'
    clear hs
    cases b1 <;> cases b2 <;> cases b3 <;> simp at hs'
    all_goals
      clear hs'
      go_enter Try.func6, Try.ntmps6
      go_wp2_with (first | (go_at_call 31; refine (refSmall_any _ _ _ _ (by omega) (by omega)).mono ?_; rintro e w8 ⟨rfl, hb⟩; replace hB := hB.trans (hb.mono hB.size); replace C0 := C0.kept hb; have u0 := C0.c0; have v0 := C0.c1; replace C1 := C1.kept hb; have u1 := C1.c0; have v1 := C1.c1; replace C2 := C2.kept hb; have u2 := C2.c0; have v2 := C2.c1; clear hb) | (go_at_call 18; refine (galive_any _).mono ?_; rintro e w9 ⟨rfl, hb⟩; replace hB := hB.trans (hb.mono hB.size); clear hb))
      go_ret
      exact ⟨rfl, hB⟩
  obtain ⟨hs1, hs2, hs3⟩ := hs
  obtain ⟨p1s, p2s⟩ := smallB_sm hs1
  obtain ⟨q1s, q2s⟩ := smallB_sm hs2
  obtain ⟨r1s, r2s⟩ := smallB_sm hs3
  have m1 : Sm 1048576 (pre p1 p2 q1 q2) := (sm_pre p1s p2s q1s q2s).up (by omega)
  have m2 : Sm 1048576 (pim p1 p2 q1 q2) := (sm_pim p1s p2s q1s q2s).up (by omega)
  have m3 : Sm 1048576 (pre q1 q2 r1 r2) := (sm_pre q1s q2s r1s r2s).up (by omega)
  have m4 : Sm 1048576 (pim q1 q2 r1 r2) := (sm_pim q1s q2s r1s r2s).up (by omega)
  have m5 : Sm 1048576 (pre p1 p2 r1 r2) := (sm_pre p1s p2s r1s r2s).up (by omega)
  have m6 : Sm 1048576 (pim p1 p2 r1 r2) := (sm_pim p1s p2s r1s r2s).up (by omega)
  have m7 : Sm 1048576 (padd p1 q1) := (sm_padd p1s q1s).up (by omega)
  have m8 : Sm 1048576 (padd p2 q2) := (sm_padd p2s q2s).up (by omega)
  have m9 : Sm 1048576 (padd q1 r1) := (sm_padd q1s r1s).up (by omega)
  have m10 : Sm 1048576 (padd q2 r2) := (sm_padd q2s r2s).up (by omega)
  have m11 : Sm 1048576 (-p2) := (sm_neg p2s).up (by omega)
  have n1 := pnm_nn p1 p2
  have n2 := pnm_nn q1 q2
  have n3 := Int.mul_nonneg n1 n2
  have n4 := (sm_pnm p1s p2s).2
  have n5 := (sm_pnm q1s q2s).2
  have n6 : pnm p1 p2 * pnm q1 q2 ≤ 250000000000 := Int.le_trans (Int.mul_le_mul n4 n5 n2 (by omega)) (by omega)
  replace p1s := p1s.up (show (500 : Int) ≤ 1048576 by omega)
  replace p2s := p2s.up (show (500 : Int) ≤ 1048576 by omega)
  replace q1s := q1s.up (show (500 : Int) ≤ 1048576 by omega)
  replace q2s := q2s.up (show (500 : Int) ≤ 1048576 by omega)
  replace r1s := r1s.up (show (500 : Int) ≤ 1048576 by omega)
  replace r2s := r2s.up (show (500 : Int) ≤ 1048576 by omega)
  have E1 : padd q1 p1 = padd p1 q1 := Int.add_comm _ _
  have E2 : padd q2 p2 = padd p2 q2 := Int.add_comm _ _
  have E3 := pre_comm p1 p2 q1 q2
  have E4 := pim_comm p1 p2 q1 q2
  have E5 : padd (padd p1 q1) r1 = padd p1 (padd q1 r1) := Int.add_assoc _ _ _
  have E6 : padd (padd p2 q2) r2 = padd p2 (padd q2 r2) := Int.add_assoc _ _ _
  have E7 := pre_assoc p1 p2 q1 q2 r1 r2
  have E8 := pim_assoc p1 p2 q1 q2 r1 r2
  have E9 := pre_dist p1 p2 q1 q2 r1 r2
  have E10 := pim_dist p1 p2 q1 q2 r1 r2
  have E11 := psub_padd p1 q1
  have E12 := psub_padd p2 q2
  have E13 := pnm_mul p1 p2 q1 q2
  have E14 := pre_conj p1 p2
  have E15 := pim_conj p1 p2
  go_enter Try.func6, Try.ntmps6
  go_wp2_with (first | (go_at_call 31; refine (refSmall_any _ _ _ _ (by omega) (by omega)).mono ?_; rintro e w8 ⟨rfl, hb⟩; replace hB := hB.trans (hb.mono hB.size); replace C0 := C0.kept hb; have u0 := C0.c0; have v0 := C0.c1; replace C1 := C1.kept hb; have u1 := C1.c0; have v1 := C1.c1; replace C2 := C2.kept hb; have u2 := C2.c0; have v2 := C2.c1; clear hb) | (go_at_call 18; refine (galive_any _).mono ?_; rintro e w9 ⟨rfl, hb⟩; replace hB := hB.trans (hb.mono hB.size); clear hb))
  refine wp_region_calm0 (by kernel_rfl) (by kernel_rfl) fun M => ?_
  have e0 := fun n : In M.w => n.cell (M.cell C0.c0)
  have f0 := fun n : In M.w => n.cell (M.cell C0.c1)
  have e1 := fun n : In M.w => n.cell (M.cell C1.c0)
  have f1 := fun n : In M.w => n.cell (M.cell C1.c1)
  have e2 := fun n : In M.w => n.cell (M.cell C2.c0)
  have f2 := fun n : In M.w => n.cell (M.cell C2.c1)
  repeat (go_big_quiet_step (first
    | (go_at_call 10; exact In.call (add_s _ _ _ _ _ (by assumption) (by assumption) (by assumption) (by assumption)))
    | (go_at_call 12; exact In.call (sub_s _ _ _ _ _ (by assumption) (by assumption) (by assumption) (by assumption)))
    | (go_at_call 14; exact In.call (mul_s _ _ _ _ _ (by assumption) (by assumption) (by assumption) (by assumption)))
    | (go_at_call 16; exact In.call (conj_s _ _ _ (by assumption) (by assumption)))
    | (go_at_call 21; exact In.call (norm_s _ _ _ (by assumption) (by assumption)))
    | (go_at_call 18; exact In.call (galive_any _))))
  refine wpQuiet_nil ?_
  intro w1 hb
  replace hB := hB.trans (hb.mono hB.size)
  replace C0 := C0.kept hb
  replace C1 := C1.kept hb
  replace C2 := C2.kept hb
  clear hb e0 f0 e1 f1 e2 f2 M
  go_wp2
  refine wp_region_calm0 (by kernel_rfl) (by kernel_rfl) fun M => ?_
  have e0 := fun n : In M.w => n.cell (M.cell C0.c0)
  have f0 := fun n : In M.w => n.cell (M.cell C0.c1)
  have e1 := fun n : In M.w => n.cell (M.cell C1.c0)
  have f1 := fun n : In M.w => n.cell (M.cell C1.c1)
  have e2 := fun n : In M.w => n.cell (M.cell C2.c0)
  have f2 := fun n : In M.w => n.cell (M.cell C2.c1)
  repeat (go_big_quiet_step (first
    | (go_at_call 10; exact In.call (add_s _ _ _ _ _ (by assumption) (by assumption) (by assumption) (by assumption)))
    | (go_at_call 12; exact In.call (sub_s _ _ _ _ _ (by assumption) (by assumption) (by assumption) (by assumption)))
    | (go_at_call 14; exact In.call (mul_s _ _ _ _ _ (by assumption) (by assumption) (by assumption) (by assumption)))
    | (go_at_call 16; exact In.call (conj_s _ _ _ (by assumption) (by assumption)))
    | (go_at_call 21; exact In.call (norm_s _ _ _ (by assumption) (by assumption)))
    | (go_at_call 18; exact In.call (galive_any _))))
  refine wpQuiet_nil ?_
  intro w2 hb
  replace hB := hB.trans (hb.mono hB.size)
  replace C0 := C0.kept hb
  replace C1 := C1.kept hb
  replace C2 := C2.kept hb
  clear hb e0 f0 e1 f1 e2 f2 M
  go_wp2
  refine wp_region_calm0 (by kernel_rfl) (by kernel_rfl) fun M => ?_
  have e0 := fun n : In M.w => n.cell (M.cell C0.c0)
  have f0 := fun n : In M.w => n.cell (M.cell C0.c1)
  have e1 := fun n : In M.w => n.cell (M.cell C1.c0)
  have f1 := fun n : In M.w => n.cell (M.cell C1.c1)
  have e2 := fun n : In M.w => n.cell (M.cell C2.c0)
  have f2 := fun n : In M.w => n.cell (M.cell C2.c1)
  repeat (go_big_quiet_step (first
    | (go_at_call 10; exact In.call (add_s _ _ _ _ _ (by assumption) (by assumption) (by assumption) (by assumption)))
    | (go_at_call 12; exact In.call (sub_s _ _ _ _ _ (by assumption) (by assumption) (by assumption) (by assumption)))
    | (go_at_call 14; exact In.call (mul_s _ _ _ _ _ (by assumption) (by assumption) (by assumption) (by assumption)))
    | (go_at_call 16; exact In.call (conj_s _ _ _ (by assumption) (by assumption)))
    | (go_at_call 21; exact In.call (norm_s _ _ _ (by assumption) (by assumption)))
    | (go_at_call 18; exact In.call (galive_any _))))
  refine wpQuiet_nil ?_
  intro w3 hb
  replace hB := hB.trans (hb.mono hB.size)
  replace C0 := C0.kept hb
  replace C1 := C1.kept hb
  replace C2 := C2.kept hb
  clear hb e0 f0 e1 f1 e2 f2 M
  go_wp2
  go_ret
  exact ⟨rfl, hB⟩
end Go.Proofs.Ytnhebjdimhkbmaa
