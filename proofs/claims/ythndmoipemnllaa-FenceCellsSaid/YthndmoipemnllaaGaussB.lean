/- The walks of package gauss: sums, products, turns, sizes. -/
import Derived.Test.YthndmoipemnllaaGaussA
import Derived.Test.YthndmoipemnllaaLabels
namespace Go.Proofs.Ythndmoipemnllaa
open Go.RowKit

theorem i64_in' {n : Int} (h : n.natAbs < 2 ^ 53) : -9223372036854775808 ≤ n ∧ n ≤ 9223372036854775807 := by omega

theorem point_any (p q : Nat) (x y : Int) (hp : Fl p x) (hq : Fl q y) (hx : x.natAbs < 2 ^ 53) (hy : y.natAbs < 2 ^ 53) (w : World) :
    Calls Try.prog 49 #[.complex .f64 p q] w fun e w' => e = .returned (.agg #[.int .i64 x, .int .i64 y]) ∧ Below w.heap.size w w' := by
  have k1 : ∀ w, (convert 49 3 (.float .f64 p)).run Try.prog w = .ok (.int .i64 x) w := fun w => run_convert_float_int w _ _ _ _ _ _ (by rw [Try.underlying49]; rfl) Try.underlying3 (toInt_whole hp (i64_in' hx).1 (i64_in' hx).2)
  have k2 : ∀ w, (convert 49 3 (.float .f64 q)).run Try.prog w = .ok (.int .i64 y) w := fun w => run_convert_float_int w _ _ _ _ _ _ (by rw [Try.underlying49]; rfl) Try.underlying3 (toInt_whole hq (i64_in' hy).1 (i64_in' hy).2)
  go_enter Try.func49, Try.ntmps49
  go_wp2
  refine bodyPost_ret (v := .agg #[.int .i64 x, .int .i64 y]) ?_ rfl ⟨rfl, (Below.refl _ _).alloc (Nat.le_refl _) _⟩
  simp [results, Try.results49, go_sem]

theorem cSum_run (op : BinOp) (hop : op = .add ∨ op = .sub) (t : TypeId) {a b c d : Nat} (h1 : floatBits op .f64 a c = some (fbits op a c)) (h2 : floatBits op .f64 b d = some (fbits op b d)) (w : World) :
    (binOp op t (.complex .f64 a b) (.complex .f64 c d)).run Try.prog w = .ok (.complex .f64 (fbits op a c) (fbits op b d)) w :=
  run_complex_sum w op hop t .f64 a b c d _ _ (by unfold cSumBits; rw [h1, h2]; rfl)

def mulRe (a b c d : Nat) : Nat := fbits .sub (fbits .mul a c) (fbits .mul b d)
def mulIm (a b c d : Nat) : Nat := fbits .add (fbits .mul a d) (fbits .mul b c)
theorem cMul_run (t : TypeId) {a b c d : Nat} {x y u v : Int} (ha : Fl a x) (hb : Fl b y) (hc : Fl c u) (hd : Fl d v)
    (h1 : (x * u).natAbs < 2 ^ 52) (h2 : (y * v).natAbs < 2 ^ 52) (h3 : (x * v).natAbs < 2 ^ 52) (h4 : (y * u).natAbs < 2 ^ 52) :
    (∀ w, (binOp .mul t (.complex .f64 a b) (.complex .f64 c d)).run Try.prog w = .ok (.complex .f64 (mulRe a b c d) (mulIm a b c d)) w) ∧ Fl (mulRe a b c d) (x * u - y * v) ∧ Fl (mulIm a b c d) (x * v + y * u) := by
  obtain ⟨e1, f1⟩ := mul_whole ha hc (by omega)
  obtain ⟨e2, f2⟩ := mul_whole hb hd (by omega)
  obtain ⟨e3, f3⟩ := sub_whole f1 f2 (by omega)
  obtain ⟨e4, f4⟩ := mul_whole ha hd (by omega)
  obtain ⟨e5, f5⟩ := mul_whole hb hc (by omega)
  obtain ⟨e6, f6⟩ := add_whole f4 f5 (by omega)
  exact ⟨fun w => run_complex_mul w t a b c d _ _ (by unfold cMulBits; rw [e1, e2, e4, e5]; simp only [Option.bind_some]; rw [e3, e6]; rfl), f3, f6⟩

theorem mul_bd {a b : Int} {A B : Nat} (ha : a.natAbs ≤ A) (hb : b.natAbs ≤ B) : (a * b).natAbs ≤ A * B := by
  rw [Int.natAbs_mul]; exact Nat.mul_le_mul ha hb
theorem fx_abs (n : Int) : (fx n).natAbs ≤ 1048576 := by have := fx_bd n; omega
theorem fx_mul (n m : Int) : (fx n * fx m).natAbs < 2 ^ 52 := by have := mul_bd (fx_abs n) (fx_abs m); omega

/-- a float's word without its sign -/
def low63 (p : Nat) : Nat := p % 2 ^ 63
theorem low63_bits (p : Nat) (hp : p < 18446744073709551616) : bits .andNot .u64 (p : Int) 9223372036854775808 = ((low63 p : Nat) : Int) := by
  have h := u64_andNot_nat p 9223372036854775808 hp (by omega)
  have e : (18446744073709551615 - 9223372036854775808 : Nat) = 2 ^ 63 - 1 := rfl
  rw [e, Nat.and_two_pow_sub_one_eq_mod] at h
  exact h

theorem fl_lt (n : Int) : fl n < 18446744073709551616 := by
  have := floatOfInt_wf .f64 n
  simpa [fl, Lit.wf] using this
/-- a part without its sign -/
def sz (n : Int) : Int := max (fx n) (-fx n)
theorem sz_bd (n : Int) : 0 ≤ sz n ∧ sz n ≤ 1048576 := by have := fx_bd n; unfold sz; omega
theorem low_sz (n : Int) : Fl (low63 (fl (fx n))) (sz n) := abs_whole (fl_fx n)

theorem max_run (a b : Nat) (x y : Int) (ha : Fl a x) (hb : Fl b y) (ts : Array TypeId) (t : TypeId) (w : World) : (Builtin.max_ ts t #[.float .f64 a, .float .f64 b]).run Try.prog w = .ok (.float .f64 (fmax a b)) w := by
  simp only [Builtin.max_, List.foldlM, Builtin.max2, order_whole ha hb, fmax]
  rcases Int.lt_trichotomy x y with h | h | h
  · rw [show compare x y = .lt from Int.compare_eq_lt.2 h]; rfl
  · rw [show compare x y = .eq from Int.compare_eq_eq.2 h]; rfl
  · rw [show compare x y = .gt from Int.compare_eq_gt.2 h]; rfl

end Go.Proofs.Ythndmoipemnllaa
