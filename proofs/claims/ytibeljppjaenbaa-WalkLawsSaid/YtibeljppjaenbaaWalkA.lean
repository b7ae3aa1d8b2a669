/- The walks of package walk: its small functions. -/
import Derived.Test.YtibeljppjaenbaaWalkRefS
import Derived.Laws.BitsLemmas
namespace Go.Proofs.Ytibeljppjaenbaa
open Go.RowKit
attribute [local go_sem] store_complex

/-- how a number counts -/
def ct (n : Int) : Int := max 0 (min n 1048576)
theorem ct_bd (n : Int) : 0 ≤ ct n ∧ ct n ≤ 1048576 := by unfold ct; omega
theorem wcount_any (n : Int) (w : World) : Calls Try.prog 57 #[.int .i64 n] w fun e w' => e = .returned (.int .i64 (ct n)) ∧ w = w' := by
  go_enter Try.func57, Try.ntmps57
  go_wp2
  go_ret
  exact ⟨by unfold ct; rfl, rfl⟩
theorem wabs_any (n : Int) (w : World) (h : n.natAbs ≤ 1000000000000) : Calls Try.prog 60 #[.int .i64 n] w fun e w' => e = .returned (.int .i64 (max n (-n))) ∧ w = w' := by
  go_enter Try.func60, Try.ntmps60
  go_wp2
  go_ret
  exact ⟨rfl, rfl⟩
theorem and_three (n : Int) : bits .and .i64 n 3 = n % 4 := by
  have h : ((BitVec.ofInt 64 n) &&& (BitVec.ofInt 64 3)).toNat = (n % 4).toNat := by
    rw [BitVec.toNat_and, BitVec.toNat_ofInt, show (BitVec.ofInt 64 3).toNat = 2 ^ 2 - 1 from by decide, Nat.and_two_pow_sub_one_eq_mod]
    omega
  show IntKind.i64.wrap ((((BitVec.ofInt 64 n) &&& (BitVec.ofInt 64 3)).toNat : Nat) : Int) = _
  rw [h, IntKind.wrap_i64]
  omega
theorem wmod_any (n : Int) (w : World) : Calls Try.prog 62 #[.int .i64 n] w fun e w' => e = .returned (.int .i64 (n % 4)) ∧ w = w' := by
  go_enter Try.func62, Try.ntmps62
  go_wp2
  go_ret
  exact ⟨ret_i (and_three n), rfl⟩
theorem wfirst_any (w : World) : Calls Try.prog 36 #[] w fun e w' => e = .returned (.agg #[.complex .f64 0 0, .complex .f64 4607182418800017408 0]) ∧ Below w.heap.size w w' := by
  go_enter Try.func36, Try.ntmps36
  go_wp2
  refine bodyPost_ret (v := .agg #[.complex .f64 0 0, .complex .f64 4607182418800017408 0]) ?_ rfl ⟨rfl, (Below.refl _ _).alloc (Nat.le_refl _) _⟩
  simp [results, Try.results36, go_sem]
theorem wpoint_any (p q : Nat) (x y : Int) (hp : Fl p x) (hq : Fl q y) (hx : x.natAbs < 2 ^ 53) (hy : y.natAbs < 2 ^ 53) (w : World) :
    Calls Try.prog 35 #[.complex .f64 p q] w fun e w' => e = .returned (.agg #[.int .i64 x, .int .i64 y]) ∧ Below w.heap.size w w' := by
  have k1 : ∀ w, (convert 102 3 (.float .f64 p)).run Try.prog w = .ok (.int .i64 x) w := fun w => run_convert_float_int w _ _ _ _ _ _ (by rw [Try.underlying102]; rfl) Try.underlying3 (toInt_whole hp (i64_in' hx).1 (i64_in' hx).2)
  have k2 : ∀ w, (convert 102 3 (.float .f64 q)).run Try.prog w = .ok (.int .i64 y) w := fun w => run_convert_float_int w _ _ _ _ _ _ (by rw [Try.underlying102]; rfl) Try.underlying3 (toInt_whole hq (i64_in' hy).1 (i64_in' hy).2)
  go_enter Try.func35, Try.ntmps35
  go_wp2
  refine bodyPost_ret (v := .agg #[.int .i64 x, .int .i64 y]) ?_ rfl ⟨rfl, (Below.refl _ _).alloc (Nat.le_refl _) _⟩
  simp [results, Try.results35, go_sem]
theorem wquarters_any (w : World) : Calls Try.prog 42 #[] w fun e w' => e = .returned (.agg #[.complex .f64 4607182418800017408 0, .complex .f64 0 4607182418800017408, .complex .f64 13830554455654793216 0, .complex .f64 0 13830554455654793216]) ∧ Below w.heap.size w w' := by
  go_enter Try.func42, Try.ntmps42
  go_wp2
  refine bodyPost_ret (v := .agg #[.complex .f64 4607182418800017408 0, .complex .f64 0 4607182418800017408, .complex .f64 13830554455654793216 0, .complex .f64 0 13830554455654793216]) ?_ rfl ⟨rfl, (Below.refl _ _).alloc (Nat.le_refl _) _⟩
  simp [results, Try.results42, go_sem]

theorem cnt_ct (k n : Int) (h1 : 1 ≤ k) (h4 : k ≤ 4) : cnt (k, n) = ct n := by unfold cnt ct; rw [if_neg (by simp only; omega)]

set_option maxHeartbeats 1000000 in
theorem wdone_any (k n : Int) (w : World) : Calls Try.prog 41 #[.agg #[.int .i64 k, .int .i64 n]] w fun e w' => e = .returned (.agg #[.int .i64 (pln (k, n)).1, .int .i64 (pln (k, n)).2]) ∧ Below w.heap.size w w' := by
  have hp : pln (k, n) = if k = 1 then (cnt (k, n), 0) else if k = 2 then (-cnt (k, n), 0) else if k = 3 then (0, cnt (k, n) % 4) else if k = 4 then (0, 3 * cnt (k, n) % 4) else (0, 0) := rfl
  obtain ⟨⟨a, b⟩, hab⟩ : ∃ p, pln (k, n) = p := ⟨_, rfl⟩
  rw [hab] at hp ⊢
  obtain ⟨c0, c1⟩ := ct_bd n
  have hk := cnt_ct k n
  have hc := fun w => wcount_any n w
  generalize ct n = c at *
  have C0 := (Cell2.new w (.int .i64 k) (.int .i64 n) 48).alloc (.cells #[.int .i64 0, .int .i64 0] 73)
  have hB : ∀ o o', Below w.heap.size w ((w.alloc o).alloc o') := fun o o' => ((Below.refl _ _).alloc (Nat.le_refl _) _).alloc (by simp) _
  have u0 := C0.c0
  have u1 := C0.c1
  have hkind : k = 1 ∨ k = 2 ∨ k = 3 ∨ k = 4 ∨ (k ≠ 1 ∧ k ≠ 2 ∧ k ≠ 3 ∧ k ≠ 4) := by omega
  rcases hkind with rfl | rfl | rfl | rfl | ⟨n1, n2, n3, n4⟩
  · rw [if_pos rfl, hk (by decide) (by decide)] at hp
    cases hp
    clear hk hab
    have HC := Lib.hid hc
    clear hc C0
    go_enter Try.func41, Try.ntmps41
    go_wp2_with (go_at_call 57; refine (HC.out _).mono ?_; rintro e w1 ⟨rfl, rfl⟩)
    refine bodyPost_ret (v := .agg #[.int .i64 a, .int .i64 0]) ?_ rfl ⟨rfl, hB _ _⟩
    simp [results, Try.results41, go_sem]
  · rw [if_neg (by decide), if_pos rfl, hk (by decide) (by decide)] at hp
    cases hp
    clear hk hab
    have HC := Lib.hid hc
    clear hc C0
    go_enter Try.func41, Try.ntmps41
    go_wp2_with (go_at_call 57; refine (HC.out _).mono ?_; rintro e w1 ⟨rfl, rfl⟩)
    refine bodyPost_ret (v := .agg #[.int .i64 (-c), .int .i64 0]) ?_ rfl ⟨rfl, hB _ _⟩
    simp [results, Try.results41, go_sem]
  · rw [if_neg (by decide), if_neg (by decide), if_pos rfl, hk (by decide) (by decide)] at hp
    cases hp
    have hm := fun w => wmod_any c w
    clear hk hab
    have HC := Lib.hid hc
    have HM := Lib.hid hm
    clear hc hm C0
    go_enter Try.func41, Try.ntmps41
    go_wp2_with (first
      | (go_at_call 57; refine (HC.out _).mono ?_; rintro e w1 ⟨rfl, rfl⟩)
      | (go_at_call 62; refine (HM.out _).mono ?_; rintro e w1 ⟨rfl, rfl⟩))
    refine bodyPost_ret (v := .agg #[.int .i64 0, .int .i64 (c % 4)]) ?_ rfl ⟨rfl, hB _ _⟩
    simp [results, Try.results41, go_sem]
  · rw [if_neg (by decide), if_neg (by decide), if_neg (by decide), if_pos rfl, hk (by decide) (by decide)] at hp
    have e : (0, 3 * c % 4) = ((0 : Int), (-c) % 4) := by rw [show 3 * c % 4 = (-c) % 4 by omega]
    rw [e] at hp
    cases hp
    have hm := fun w => wmod_any (-c) w
    clear hk hab e
    have HC := Lib.hid hc
    have HM := Lib.hid hm
    clear hc hm C0
    go_enter Try.func41, Try.ntmps41
    go_wp2_with (first
      | (go_at_call 57; refine (HC.out _).mono ?_; rintro e w1 ⟨rfl, rfl⟩)
      | (go_at_call 62; refine (HM.out _).mono ?_; rintro e w1 ⟨rfl, rfl⟩))
    refine bodyPost_ret (v := .agg #[.int .i64 0, .int .i64 ((-c) % 4)]) ?_ rfl ⟨rfl, hB _ _⟩
    simp [results, Try.results41, go_sem]
  · rw [if_neg n1, if_neg n2, if_neg n3, if_neg n4] at hp
    cases hp
    clear hk hab
    have HC := Lib.hid hc
    have m1 := beq_no' n1
    have m2 := beq_no' n2
    have m3 := beq_no' n3
    have m4 := beq_no' n4
    clear hc C0
    go_enter Try.func41, Try.ntmps41
    go_wp2_with (go_at_call 57; refine (HC.out _).mono ?_; rintro e w1 ⟨rfl, rfl⟩)
    refine bodyPost_ret (v := .agg #[.int .i64 0, .int .i64 0]) ?_ rfl ⟨rfl, hB _ _⟩
    simp [results, Try.results41, go_sem]
end Go.Proofs.Ytibeljppjaenbaa
