/- The walk of the law GaussTurns. -/
import Derived.Test.YtnhebjdimhkbmaaGaussLawR
namespace Go.Proofs.Ytnhebjdimhkbmaa
open Go.RowKit

def tx (n x y : Int) : Int := (rot (n % 4).toNat x y).1
def ty (n x y : Int) : Int := (rot (n % 4).toNat x y).2
def pst (x y : Int) : Int := sz x + sz y
def pbg (x y : Int) : Int := max (sz x) (sz y)
theorem turn_s (a1 a2 n : Int) (w : World) (h1 : Sm 1048576 a1) (h2 : Sm 1048576 a2) : Calls Try.prog 19 #[.agg #[.int .i64 a1, .int .i64 a2], .int .i64 n] w fun e w' => e = .returned (.agg #[.int .i64 (tx n a1 a2), .int .i64 (ty n a1 a2)]) ∧ Below w.heap.size w w' := by
  have h := turn_any a1 a2 n w
  rw [fx_sm h1, fx_sm h2] at h
  exact h
theorem steps_s (a1 a2 : Int) (w : World) : Calls Try.prog 23 #[.agg #[.int .i64 a1, .int .i64 a2]] w fun e w' => e = .returned (.int .i64 (pst a1 a2)) ∧ Below w.heap.size w w' := steps_any a1 a2 w
theorem big_s (a1 a2 : Int) (w : World) : Calls Try.prog 25 #[.agg #[.int .i64 a1, .int .i64 a2]] w fun e w' => e = .returned (.int .i64 (pbg a1 a2)) ∧ Below w.heap.size w w' := big_any a1 a2 w

theorem four (n : Int) : ∃ q : Nat, n % 4 = q ∧ (q = 0 ∨ q = 1 ∨ q = 2 ∨ q = 3) := by
  have h1 := Int.emod_nonneg n (show (4 : Int) ≠ 0 by omega)
  have h2 := Int.emod_lt_of_pos n (show (0 : Int) < 4 by omega)
  exact ⟨(n % 4).toNat, by omega, by omega⟩
theorem rot_cases (n x y : Int) : (n % 4 = 0 ∧ tx n x y = x ∧ ty n x y = y) ∨ (n % 4 = 1 ∧ tx n x y = -y ∧ ty n x y = x) ∨ (n % 4 = 2 ∧ tx n x y = -x ∧ ty n x y = -y) ∨ (n % 4 = 3 ∧ tx n x y = y ∧ ty n x y = -x) := by
  obtain ⟨q, h, hq⟩ := four n
  unfold tx ty
  rw [h]
  rcases hq with rfl | rfl | rfl | rfl <;> simp [rot]
theorem sm_tx {A n x y : Int} (hx : Sm A x) (hy : Sm A y) : Sm A (tx n x y) ∧ Sm A (ty n x y) := by
  unfold Sm at *
  rcases rot_cases n x y with ⟨_, h1, h2⟩ | ⟨_, h1, h2⟩ | ⟨_, h1, h2⟩ | ⟨_, h1, h2⟩ <;> rw [h1, h2] <;> omega
theorem t_add (n m x y : Int) : tx m (tx n x y) (ty n x y) = tx (n + m) x y ∧ ty m (tx n x y) (ty n x y) = ty (n + m) x y := by
  rcases rot_cases n x y with ⟨a1, h1, h2⟩ | ⟨a1, h1, h2⟩ | ⟨a1, h1, h2⟩ | ⟨a1, h1, h2⟩ <;>
  rcases rot_cases m (tx n x y) (ty n x y) with ⟨a2, h3, h4⟩ | ⟨a2, h3, h4⟩ | ⟨a2, h3, h4⟩ | ⟨a2, h3, h4⟩ <;>
  rcases rot_cases (n + m) x y with ⟨a3, h5, h6⟩ | ⟨a3, h5, h6⟩ | ⟨a3, h5, h6⟩ | ⟨a3, h5, h6⟩ <;>
  first | (exfalso; omega) | (rw [h3, h4, h5, h6, h1, h2]; constructor <;> omega)
theorem t_four (m x y : Int) : tx (4 * m) x y = x ∧ ty (4 * m) x y = y := by
  rcases rot_cases (4 * m) x y with ⟨_, h1, h2⟩ | ⟨a, _, _⟩ | ⟨a, _, _⟩ | ⟨a, _, _⟩
  · exact ⟨h1, h2⟩
  all_goals omega
theorem t_one (x y : Int) : tx 1 x y = -y ∧ ty 1 x y = x := by simp [tx, ty, rot]
theorem m_one (x y : Int) : pre x y 0 1 = -y ∧ pim x y 0 1 = x := by unfold pre pim; omega
theorem t_nm (n x y : Int) : pnm (tx n x y) (ty n x y) = pnm x y := by
  rcases rot_cases n x y with ⟨_, h1, h2⟩ | ⟨_, h1, h2⟩ | ⟨_, h1, h2⟩ | ⟨_, h1, h2⟩ <;> rw [h1, h2] <;> unfold pnm <;> grind
theorem sz_neg (x : Int) : sz (-x) = sz x := by unfold sz fx; omega
theorem t_st (n x y : Int) : pst (tx n x y) (ty n x y) = pst x y := by
  unfold pst
  rcases rot_cases n x y with ⟨_, h1, h2⟩ | ⟨_, h1, h2⟩ | ⟨_, h1, h2⟩ | ⟨_, h1, h2⟩ <;> rw [h1, h2] <;> simp only [sz_neg] <;> omega
theorem t_bg (n x y : Int) : pbg (tx n x y) (ty n x y) = pbg x y := by
  unfold pbg
  rcases rot_cases n x y with ⟨_, h1, h2⟩ | ⟨_, h1, h2⟩ | ⟨_, h1, h2⟩ | ⟨_, h1, h2⟩ <;> rw [h1, h2] <;> simp only [sz_neg] <;> omega
theorem sz_abs {x : Int} (h : Sm 500 x) : sz x = max x (-x) := by unfold sz; rw [fx_sm (h.up (by omega))]
theorem sizes {x y : Int} (hx : Sm 500 x) (hy : Sm 500 y) : 0 ≤ pst x y ∧ pst x y ≤ 1000 ∧ pnm x y ≤ pst x y * pst x y ∧ pst x y * pst x y ≤ 2 * pnm x y ∧ pbg x y ≤ pst x y ∧ pst x y ≤ 2 * pbg x y ∧ 0 ≤ pbg x y := by
  have ex := sz_abs hx
  have ey := sz_abs hy
  obtain ⟨a, ha⟩ : ∃ a, sz x = a := ⟨_, rfl⟩
  obtain ⟨b, hb⟩ : ∃ b, sz y = b := ⟨_, rfl⟩
  have e1 : pnm x y = a * a + b * b := by
    have h1 : x * x = a * a := by rcases Int.le_total 0 x with h | h <;> (have : a = x ∨ a = -x := by omega) <;> rcases this with h' | h' <;> rw [h'] <;> simp [Int.neg_mul, Int.mul_neg]
    have h2 : y * y = b * b := by rcases Int.le_total 0 y with h | h <;> (have : b = y ∨ b = -y := by omega) <;> rcases this with h' | h' <;> rw [h'] <;> simp [Int.neg_mul, Int.mul_neg]
    unfold pnm
    rw [Int.mul_neg, h1, h2]; omega
  unfold pst pbg
  rw [e1, ha, hb]
  unfold Sm at hx hy
  have ha0 : 0 ≤ a := by omega
  have hb0 : 0 ≤ b := by omega
  have h3 := Int.mul_nonneg ha0 hb0
  have h4 := sq_nn (a - b)
  have e3 : (a + b) * (a + b) = a * a + 2 * (a * b) + b * b := by grind
  have e4 : (a - b) * (a - b) = a * a - 2 * (a * b) + b * b := by grind
  refine ⟨by omega, by omega, by omega, by omega, by omega, by omega, by omega⟩
theorem st_add {x y u v : Int} (hx : Sm 500 x) (hy : Sm 500 y) (hu : Sm 500 u) (hv : Sm 500 v) : pst (padd x u) (padd y v) ≤ pst x y + pst u v := by
  have e1 := sz_abs hx
  have e2 := sz_abs hy
  have e3 := sz_abs hu
  have e4 := sz_abs hv
  unfold pst padd
  unfold Sm at *
  unfold sz fx
  omega

theorem in8_of_wf {n : Int} (h : (Lit.int .i8 n).wf = true) : -128 ≤ n ∧ n ≤ 127 := by
  simp [Lit.wf] at h
  exact h

set_option maxHeartbeats 8000000 in
set_option maxRecDepth 100000 in
theorem gaussTurns_any (p1 p2 q1 q2 n m : Int) (w : World) (hn : -128 ≤ n ∧ n ≤ 127) (hm : -128 ≤ m ∧ m ≤ 127) :
    Calls Try.prog 7 #[.agg #[.int .i64 p1, .int .i64 p2], .agg #[.int .i64 q1, .int .i64 q2], .int .i8 n, .int .i8 m] w fun e w' => e = .returned (.bool true) ∧ Below w.heap.size w w' := by
  obtain ⟨n1, n2⟩ := hn
  obtain ⟨m1, m2⟩ := hm
  have hB : Below w.heap.size w ((w.alloc (.cells #[.int .i64 p1, .int .i64 p2] 23)).alloc (.cells #[.int .i64 q1, .int .i64 q2] 23)) := ((Below.refl _ _).alloc (Nat.le_refl _) _).alloc (by simp) _
  have C0 := (Cell2.new w (.int .i64 p1) (.int .i64 p2) 23).alloc (.cells #[.int .i64 q1, .int .i64 q2] 23)
  have C1 := Cell2.new (w.alloc (.cells #[.int .i64 p1, .int .i64 p2] 23)) (.int .i64 q1) (.int .i64 q2) 23
  simp only [World.size_alloc] at C0 C1
  by_cases hs : smallB p1 p2 500 = true ∧ smallB q1 q2 500 = true
  case neg =>
    have hs' : (smallB p1 p2 500 && smallB q1 q2 500) = false := by
      cases h1 : smallB p1 p2 500 <;> cases h2 : smallB q1 q2 500 <;> simp [h1, h2] at hs ⊢
    generalize hb1 : smallB p1 p2 500 = b1 at hs'
    generalize hb2 : smallB q1 q2 500 = b2 at hs'
    clear hs
    cases b1 <;> cases b2 <;> simp at hs'
    all_goals
      go_enter Try.func7, Try.ntmps7
      go_wp2_with (first | (go_at_call 31; refine (refSmall_any _ _ _ _ (by omega) (by omega)).mono ?_; rintro e w8 ⟨rfl, hb⟩; replace hB := hB.trans (hb.mono hB.size); replace C0 := C0.kept hb; have u0 := C0.c0; have v0 := C0.c1; replace C1 := C1.kept hb; have u1 := C1.c0; have v1 := C1.c1; clear hb) | (go_at_call 18; refine (galive_any _).mono ?_; rintro e w9 ⟨rfl, hb⟩; replace hB := hB.trans (hb.mono hB.size); clear hb))
      go_ret
      exact ⟨rfl, hB⟩
  obtain ⟨hs1, hs2⟩ := hs
  obtain ⟨p1s, p2s⟩ := smallB_sm hs1
  obtain ⟨q1s, q2s⟩ := smallB_sm hs2
  obtain ⟨S0, S1, S2, S3, S4, S5, S6⟩ := sizes p1s p2s
  obtain ⟨T0, T1, _⟩ := sizes q1s q2s
  have SA := st_add p1s p2s q1s q2s
  have N0 := pnm_nn p1 p2
  have N1 := (sm_pnm p1s p2s).2
  have SB : 0 ≤ pst (padd p1 q1) (padd p2 q2) := by have := sz_bd (padd p1 q1); have := sz_bd (padd p2 q2); unfold pst; omega
  replace p1s := p1s.up (show (500 : Int) ≤ 1048576 by omega)
  replace p2s := p2s.up (show (500 : Int) ≤ 1048576 by omega)
  replace q1s := q1s.up (show (500 : Int) ≤ 1048576 by omega)
  replace q2s := q2s.up (show (500 : Int) ≤ 1048576 by omega)
  obtain ⟨k1, k2⟩ := sm_tx (n := n) p1s p2s
  obtain ⟨E1, E2⟩ := t_add n m p1 p2
  obtain ⟨E3, E4⟩ := t_four m p1 p2
  obtain ⟨E5, E6⟩ := t_one p1 p2
  obtain ⟨E7, E8⟩ := m_one p1 p2
  have E9 := t_nm n p1 p2
  have E10 := t_st n p1 p2
  have E11 := t_bg n p1 p2
  obtain ⟨S, hS⟩ : ∃ S, pst p1 p2 = S := ⟨_, rfl⟩
  obtain ⟨T, hT⟩ : ∃ T, pst q1 q2 = T := ⟨_, rfl⟩
  obtain ⟨N, hN⟩ : ∃ N, pnm p1 p2 = N := ⟨_, rfl⟩
  obtain ⟨Bg, hBg⟩ : ∃ Bg, pbg p1 p2 = Bg := ⟨_, rfl⟩
  rw [hS] at S0 S1 S2 S3 S4 S5 SA
  rw [hT] at T0 T1 SA
  rw [hN] at S2 S3 N0 N1
  rw [hBg] at S4 S5 S6
  obtain ⟨SS, hSS⟩ : ∃ SS, S * S = SS := ⟨_, rfl⟩
  rw [hSS] at S2 S3
  have S7 : SS ≤ 1000000 := by omega
  have S8 : 0 ≤ SS := by omega
  go_enter Try.func7, Try.ntmps7
  go_wp2_with (first | (go_at_call 31; refine (refSmall_any _ _ _ _ (by omega) (by omega)).mono ?_; rintro e w8 ⟨rfl, hb⟩; replace hB := hB.trans (hb.mono hB.size); replace C0 := C0.kept hb; have u0 := C0.c0; have v0 := C0.c1; replace C1 := C1.kept hb; have u1 := C1.c0; have v1 := C1.c1; clear hb) | (go_at_call 18; refine (galive_any _).mono ?_; rintro e w9 ⟨rfl, hb⟩; replace hB := hB.trans (hb.mono hB.size); clear hb) | (go_at_call 19; refine (turn_s _ _ _ _ (by assumption) (by assumption)).mono ?_; rintro e w7 ⟨rfl, hb⟩; replace hB := hB.trans (hb.mono hB.size); replace C0 := (C0.kept hb).alloc (.cells #[.int .i64 (tx n p1 p2), .int .i64 (ty n p1 p2)] 23); replace C1 := (C1.kept hb).alloc (.cells #[.int .i64 (tx n p1 p2), .int .i64 (ty n p1 p2)] 23); have C2 := Cell2.new w7 (.int .i64 (tx n p1 p2)) (.int .i64 (ty n p1 p2)) 23; replace hB := hB.alloc hB.size (.cells #[.int .i64 (tx n p1 p2), .int .i64 (ty n p1 p2)] 23); clear hb))
  refine wp_region_calm0 (by kernel_rfl) (by kernel_rfl) fun M => ?_
  have e0 := fun n : In M.w => n.cell (M.cell C0.c0)
  have f0 := fun n : In M.w => n.cell (M.cell C0.c1)
  have e1 := fun n : In M.w => n.cell (M.cell C1.c0)
  have f1 := fun n : In M.w => n.cell (M.cell C1.c1)
  have e2 := fun n : In M.w => n.cell (M.cell C2.c0)
  have f2 := fun n : In M.w => n.cell (M.cell C2.c1)
  repeat (go_big_quiet_step (first
    | (go_at_call 19; exact In.call (turn_s _ _ _ _ (by assumption) (by assumption)))
    | (go_at_call 14; exact In.call (mul_s _ _ _ _ _ (by assumption) (by assumption) (by first | assumption | (unfold Sm; omega)) (by first | assumption | (unfold Sm; omega))))
    | (go_at_call 21; exact In.call (norm_s _ _ _ (by assumption) (by assumption)))
    | (go_at_call 23; exact In.call (steps_s _ _ _))
    | (go_at_call 25; exact In.call (big_s _ _ _))))
  refine wpQuiet_nil ?_
  intro w1 hb
  replace hB := hB.trans (hb.mono hB.size)
  replace C0 := C0.kept hb
  replace C1 := C1.kept hb
  replace C2 := C2.kept hb
  have u0 := C0.c0
  have v0 := C0.c1
  have u1 := C1.c0
  have v1 := C1.c1
  clear hb e0 f0 e1 f1 e2 f2 M
  go_wp2
  refine wp_region_calm0 (by kernel_rfl) (by kernel_rfl) fun M => ?_
  have e0 := fun n : In M.w => n.cell (M.cell C0.c0)
  have f0 := fun n : In M.w => n.cell (M.cell C0.c1)
  have e1 := fun n : In M.w => n.cell (M.cell C1.c0)
  have f1 := fun n : In M.w => n.cell (M.cell C1.c1)
  have e2 := fun n : In M.w => n.cell (M.cell C2.c0)
  have f2 := fun n : In M.w => n.cell (M.cell C2.c1)
  repeat (go_big_quiet_step (first
    | (go_at_call 19; exact In.call (turn_s _ _ _ _ (by assumption) (by assumption)))
    | (go_at_call 14; exact In.call (mul_s _ _ _ _ _ (by assumption) (by assumption) (by first | assumption | (unfold Sm; omega)) (by first | assumption | (unfold Sm; omega))))
    | (go_at_call 21; exact In.call (norm_s _ _ _ (by assumption) (by assumption)))
    | (go_at_call 23; exact In.call (steps_s _ _ _))
    | (go_at_call 25; exact In.call (big_s _ _ _))))
  refine wpQuiet_nil ?_
  intro w2 hb
  replace hB := hB.trans (hb.mono hB.size)
  replace C0 := C0.kept hb
  replace C1 := C1.kept hb
  replace C2 := C2.kept hb
  have u0 := C0.c0
  have v0 := C0.c1
  have u1 := C1.c0
  have v1 := C1.c1
  clear hb e0 f0 e1 f1 e2 f2 M
  go_wp2
  refine wp_region_calm0 (by kernel_rfl) (by kernel_rfl) fun M => ?_
  have e0 := fun n : In M.w => n.cell (M.cell C0.c0)
  have f0 := fun n : In M.w => n.cell (M.cell C0.c1)
  have e1 := fun n : In M.w => n.cell (M.cell C1.c0)
  have f1 := fun n : In M.w => n.cell (M.cell C1.c1)
  have e2 := fun n : In M.w => n.cell (M.cell C2.c0)
  have f2 := fun n : In M.w => n.cell (M.cell C2.c1)
  repeat (go_big_quiet_step (first
    | (go_at_call 19; exact In.call (turn_s _ _ _ _ (by assumption) (by assumption)))
    | (go_at_call 14; exact In.call (mul_s _ _ _ _ _ (by assumption) (by assumption) (by first | assumption | (unfold Sm; omega)) (by first | assumption | (unfold Sm; omega))))
    | (go_at_call 21; exact In.call (norm_s _ _ _ (by assumption) (by assumption)))
    | (go_at_call 23; exact In.call (steps_s _ _ _))
    | (go_at_call 25; exact In.call (big_s _ _ _))))
  refine wpQuiet_nil ?_
  intro w3 hb
  replace hB := hB.trans (hb.mono hB.size)
  replace C0 := C0.kept hb
  replace C1 := C1.kept hb
  replace C2 := C2.kept hb
  have u0 := C0.c0
  have v0 := C0.c1
  have u1 := C1.c0
  have v1 := C1.c1
  clear hb e0 f0 e1 f1 e2 f2 M
  go_wp2_with (first | (go_at_call 10; refine (add_s _ _ _ _ _ (by assumption) (by assumption) (by assumption) (by assumption)).mono ?_; rintro e w5 ⟨rfl, hb⟩; replace hB := hB.trans (hb.mono hB.size); replace C0 := C0.kept hb; have u0 := C0.c0; have v0 := C0.c1; replace C1 := C1.kept hb; have u1 := C1.c0; have v1 := C1.c1; clear hb) | (go_at_call 23; refine (steps_s _ _ _).mono ?_; rintro e w6 ⟨rfl, hb⟩; replace hB := hB.trans (hb.mono hB.size); replace C0 := C0.kept hb; have u0 := C0.c0; have v0 := C0.c1; replace C1 := C1.kept hb; have u1 := C1.c0; have v1 := C1.c1; clear hb) | (go_at_call 21; refine (norm_s _ _ _ (by assumption) (by assumption)).mono ?_; rintro e w6 ⟨rfl, hb⟩; replace hB := hB.trans (hb.mono hB.size); replace C0 := C0.kept hb; have u0 := C0.c0; have v0 := C0.c1; replace C1 := C1.kept hb; have u1 := C1.c0; have v1 := C1.c1; clear hb) | (go_at_call 25; refine (big_s _ _ _).mono ?_; rintro e w6 ⟨rfl, hb⟩; replace hB := hB.trans (hb.mono hB.size); replace C0 := C0.kept hb; have u0 := C0.c0; have v0 := C0.c1; replace C1 := C1.kept hb; have u1 := C1.c0; have v1 := C1.c1; clear hb) | (go_at_call 18; refine (galive_any _).mono ?_; rintro e w9 ⟨rfl, hb⟩; replace hB := hB.trans (hb.mono hB.size); clear hb))
  go_ret
  exact ⟨rfl, hB⟩
end Go.Proofs.Ytnhebjdimhkbmaa
