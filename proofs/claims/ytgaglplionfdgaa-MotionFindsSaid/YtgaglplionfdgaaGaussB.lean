/- The walks of package gauss: sums, products, turns, sizes. -/
import Derived.Test.YtgaglplionfdgaaGaussA
import Derived.Test.YtgaglplionfdgaaLabels
namespace Go.Proofs.Ytgaglplionfdgaa
open Go.RowKit

theorem i64_in' {n : Int} (h : n.natAbs < 2 ^ 53) : -9223372036854775808 ≤ n ∧ n ≤ 9223372036854775807 := by omega

theorem point_any (p q : Nat) (x y : Int) (hp : Fl p x) (hq : Fl q y) (hx : x.natAbs < 2 ^ 53) (hy : y.natAbs < 2 ^ 53) (w : World) :
    Calls Try.prog 36 #[.complex .f64 p q] w fun e w' => e = .returned (.agg #[.int .i64 x, .int .i64 y]) ∧ Below w.heap.size w w' := by
  have k1 : ∀ w, (convert 55 3 (.float .f64 p)).run Try.prog w = .ok (.int .i64 x) w := fun w => run_convert_float_int w _ _ _ _ _ _ (by rw [Try.underlying55]; rfl) Try.underlying3 (toInt_whole hp (i64_in' hx).1 (i64_in' hx).2)
  have k2 : ∀ w, (convert 55 3 (.float .f64 q)).run Try.prog w = .ok (.int .i64 y) w := fun w => run_convert_float_int w _ _ _ _ _ _ (by rw [Try.underlying55]; rfl) Try.underlying3 (toInt_whole hq (i64_in' hy).1 (i64_in' hy).2)
  go_enter Try.func36, Try.ntmps36
  go_wp2
  refine bodyPost_ret (v := .agg #[.int .i64 x, .int .i64 y]) ?_ rfl ⟨rfl, (Below.refl _ _).alloc (Nat.le_refl _) _⟩
  simp [results, Try.results36, go_sem]

theorem mirrored_any (p q : Nat) (w : World) : Calls Try.prog 39 #[.complex .f64 p q] w fun e w' => e = .returned (.complex .f64 p (Op.negFloat .f64 q)) ∧ w = w' := by
  have hn : Op.unary .neg (.float .f64 q) = pure (.float .f64 (Op.negFloat .f64 q)) := rfl
  go_enter Try.func39, Try.ntmps39
  go_wp2
  go_ret
  exact ⟨rfl, rfl⟩

theorem cSum_run (op : BinOp) (hop : op = .add ∨ op = .sub) (t : TypeId) {a b c d : Nat} (h1 : floatBits op .f64 a c = some (fbits op a c)) (h2 : floatBits op .f64 b d = some (fbits op b d)) (w : World) :
    (binOp op t (.complex .f64 a b) (.complex .f64 c d)).run Try.prog w = .ok (.complex .f64 (fbits op a c) (fbits op b d)) w :=
  run_complex_sum w op hop t .f64 a b c d _ _ (by unfold cSumBits; rw [h1, h2]; rfl)

def mulRe (a b c d : Nat) : Nat := fbits .sub (fbits .mul a c) (fbits .mul b d)
def mulIm (a b c d : Nat) : Nat := fbits .add (fbits .mul a d) (fbits .mul b c)
theorem cMul_run (t : TypeId) {a b c d : Nat} {x y u v : Int} (ha : Fl a x) (hb : Fl b y) (hc : Fl c u) (hd : Fl d v)
    (h1 : (x * u).natAbs < 2 ^ 52) (h2 : (y * v).natAbs < 2 ^ 52) (h3 : (x * v).natAbs < 2 ^ 52) (h4 : (y * u).natAbs < 2 ^ 52) :
    (∀ w, (binOp .mul t (.complex .f64 a b) (.complex .f64 c d)).run Try.prog w = .ok (.complex .f64 (mulRe a b c d) (mulIm a b c d)) w) ∧ Fl (mulRe a b c d) (x * u - y * v) ∧ Fl (mulIm a b c d) (x * v + y * u) := by
  obtain ⟨e1, f1⟩ := mul_whole ha hc (by omega)
  obtain ⟨e2, f2⟩ := mul_whole hb hd (by omega)
  obtain ⟨e3, f3⟩ := sub_whole f1 f2 (by omega)
  obtain ⟨e4, f4⟩ := mul_whole ha hd (by omega)
  obtain ⟨e5, f5⟩ := mul_whole hb hc (by omega)
  obtain ⟨e6, f6⟩ := add_whole f4 f5 (by omega)
  exact ⟨fun w => run_complex_mul w t a b c d _ _ (by unfold cMulBits; rw [e1, e2, e4, e5]; simp only [Option.bind_some]; rw [e3, e6]; rfl), f3, f6⟩

theorem mul_bd {a b : Int} {A B : Nat} (ha : a.natAbs ≤ A) (hb : b.natAbs ≤ B) : (a * b).natAbs ≤ A * B := by
  rw [Int.natAbs_mul]; exact Nat.mul_le_mul ha hb
theorem fx_abs (n : Int) : (fx n).natAbs ≤ 1048576 := by have := fx_bd n; omega
theorem fx_mul (n m : Int) : (fx n * fx m).natAbs < 2 ^ 52 := by have := mul_bd (fx_abs n) (fx_abs m); omega

set_option maxHeartbeats 400000 in
theorem sub_any (a1 a2 b1 b2 : Int) (w : World) : Calls Try.prog 20 #[.agg #[.int .i64 a1, .int .i64 a2], .agg #[.int .i64 b1, .int .i64 b2]] w fun e w' => e = .returned (.agg #[.int .i64 (fx a1 - fx b1), .int .i64 (fx a2 - fx b2)]) ∧ Below w.heap.size w w' := by
  have hb1 : (fx a1 - fx b1).natAbs < 2 ^ 53 := by have := fx_bd a1; have := fx_bd b1; omega
  have hb2 : (fx a2 - fx b2).natAbs < 2 ^ 53 := by have := fx_bd a2; have := fx_bd b2; omega
  obtain ⟨e1, hre⟩ := sub_whole (fl_fx a1) (fl_fx b1) hb1
  obtain ⟨e2, him⟩ := sub_whole (fl_fx a2) (fl_fx b2) hb2
  have hrun := cSum_run .sub (by simp) 44 e1 e2
  clear e1 e2
  go_enter Try.func20, Try.ntmps20
  go_wp2
  refine wp_region_calmT 6 (by kernel_rfl) (by simp) (by kernel_rfl) fun M => ?_
  simp only [List.take_succ_cons, List.take_zero, List.drop_succ_cons, List.drop_zero]
  have hc0 : ∀ n : In M.w, n.w.cell? ⟨w.heap.size, 0, none⟩ = some (.int .i64 a1) := fun n => n.cell (M.cell (by go_simp))
  have hc1 : ∀ n : In M.w, n.w.cell? ⟨w.heap.size, 1, none⟩ = some (.int .i64 a2) := fun n => n.cell (M.cell (by go_simp))
  have hd0 : ∀ n : In M.w, n.w.cell? ⟨w.heap.size + 1, 0, none⟩ = some (.int .i64 b1) := fun n => n.cell (M.cell (by go_simp))
  have hd1 : ∀ n : In M.w, n.w.cell? ⟨w.heap.size + 1, 1, none⟩ = some (.int .i64 b2) := fun n => n.cell (M.cell (by go_simp))
  repeat (go_big_quiet_step (first
    | (go_at_call 37; exact In.call (number_any _ _ _))
    | (go_at_call 36; exact In.call (point_any _ _ _ _ hre him hb1 hb2 _))))
  refine wpQuiet_nil ?_
  intro w1 hb
  obtain ⟨g0, g1, z0, z1⟩ := (Cell2.new ((w.alloc (.cells #[.int .i64 a1, .int .i64 a2] 23)).alloc (.cells #[.int .i64 b1, .int .i64 b2] 23)) (.int .i64 0) (.int .i64 0) 23).kept hb
  have hB : Below w.heap.size w w1 := ((((Below.refl _ _).alloc (Nat.le_refl _) _).alloc (by simp) _).alloc (by simp; omega) _).trans (hb.mono (by simp; omega))
  clear hb hc0 hc1 hd0 hd1 hrun hre him hb1 hb2
  simp only [World.size_alloc] at g0 g1 z0 z1
  go_wp2
  refine bodyPost_ret (v := .agg #[.int .i64 (fx a1 - fx b1), .int .i64 (fx a2 - fx b2)]) ?_ rfl ⟨rfl, (hB.setCell (by simp; omega) _).setCell (by simp; omega) _⟩
  simp [results, Try.results20, go_sem, g0, g1, z0, z1]

theorem norm_any (x y : Int) (w : World) : Calls Try.prog 22 #[.agg #[.int .i64 x, .int .i64 y]] w fun e w' => e = .returned (.int .i64 (fx x * fx x - fx y * -fx y)) ∧ Below w.heap.size w w' := by
  have hy2 := fx_mul y y
  have e : (fx y * -fx y).natAbs = (fx y * fx y).natAbs := by rw [Int.mul_neg, Int.natAbs_neg]
  have e' : (fx x * -fx y).natAbs = (fx x * fx y).natAbs := by rw [Int.mul_neg, Int.natAbs_neg]
  obtain ⟨hrun, hre, _⟩ := cMul_run 44 (fl_fx x) (fl_fx y) (fl_fx x) (neg_whole (fl_fx y)) (fx_mul _ _) (by rw [e]; exact hy2) (by rw [e']; exact fx_mul _ _) (fx_mul _ _)
  have hb1 : (fx x * fx x - fx y * -fx y).natAbs < 2 ^ 53 := by have := fx_mul x x; omega
  have k1 : ∀ w, (convert 55 3 (.float .f64 (mulRe (fl (fx x)) (fl (fx y)) (fl (fx x)) (Op.negFloat .f64 (fl (fx y)))))).run Try.prog w = .ok (.int .i64 (fx x * fx x - fx y * -fx y)) w :=
    fun w => run_convert_float_int w _ _ _ _ _ _ (by rw [Try.underlying55]; rfl) Try.underlying3 (toInt_whole hre (i64_in' hb1).1 (i64_in' hb1).2)
  clear hre hb1 hy2 e e'
  have hB : Below w.heap.size w (w.alloc (.cells #[.int .i64 x, .int .i64 y] 23)) := (Below.refl _ _).alloc (Nat.le_refl _) _
  go_enter Try.func22, Try.ntmps22
  go_wp2_with (first
    | (go_at_call 37; refine (number_any _ _ _).mono ?_; rintro e w1 ⟨rfl, hb⟩; replace hB := hB.trans (hb.mono hB.size); clear hb)
    | (go_at_call 39; refine (mirrored_any _ _ _).mono ?_; rintro e w2 ⟨rfl, rfl⟩))
  go_ret
  exact ⟨rfl, hB⟩

/-- a float's word without its sign -/
def low63 (p : Nat) : Nat := p % 2 ^ 63
theorem bits_run (p : Nat) (w : World) : (callFunc 48 #[.float .f64 p]).run Try.prog w = .ok (.value (.int .u64 p)) w := by kernel_rfl
theorem frombits_run (p : Nat) (w : World) : (callFunc 47 #[.int .u64 (p : Int)]).run Try.prog w = .ok (.value (.float .f64 p)) w := by kernel_rfl
theorem low63_bits (p : Nat) (hp : p < 18446744073709551616) : bits .andNot .u64 (p : Int) 9223372036854775808 = ((low63 p : Nat) : Int) := by
  have h := u64_andNot_nat p 9223372036854775808 hp (by omega)
  have e : (18446744073709551615 - 9223372036854775808 : Nat) = 2 ^ 63 - 1 := rfl
  rw [e, Nat.and_two_pow_sub_one_eq_mod] at h
  exact h

theorem abs_any (p : Nat) (hp : p < 18446744073709551616) (w : World) : Calls Try.prog 44 #[.float .f64 p] w fun e w' => e = .returned (.float .f64 (low63 p)) ∧ w = w' := by
  have h1 := fun w => bits_run p w
  have h2 := fun w => frombits_run (low63 p) w
  have h3 := low63_bits p hp
  go_enter Try.func44, Try.ntmps44
  go_wp2
  go_ret
  exact ⟨rfl, rfl⟩

theorem signs_any (p q : Nat) (hp : p < 18446744073709551616) (hq : q < 18446744073709551616) (w : World) : Calls Try.prog 38 #[.complex .f64 p q] w fun e w' => e = .returned (.tuple #[.float .f64 (low63 p), .float .f64 (low63 q)]) ∧ w = w' := by
  go_enter Try.func38, Try.ntmps38
  go_wp2_with (go_at_call 44; refine (abs_any _ (by assumption) _).mono ?_; rintro e w1 ⟨rfl, rfl⟩)
  go_ret2
  exact ⟨rfl, rfl⟩

theorem fl_lt (n : Int) : fl n < 18446744073709551616 := by
  have := floatOfInt_wf .f64 n
  simpa [fl, Lit.wf] using this
/-- a part without its sign -/
def sz (n : Int) : Int := max (fx n) (-fx n)
theorem sz_bd (n : Int) : 0 ≤ sz n ∧ sz n ≤ 1048576 := by have := fx_bd n; unfold sz; omega
theorem low_sz (n : Int) : Fl (low63 (fl (fx n))) (sz n) := abs_whole (fl_fx n)

theorem steps_any (x y : Int) (w : World) : Calls Try.prog 21 #[.agg #[.int .i64 x, .int .i64 y]] w fun e w' => e = .returned (.int .i64 (sz x + sz y)) ∧ Below w.heap.size w w' := by
  have hx := sz_bd x
  have hy := sz_bd y
  obtain ⟨e1, hre⟩ := add_whole (low_sz x) (low_sz y) (by omega)
  have hrun : ∀ w, (binOp .add 55 (.float .f64 (low63 (fl (fx x)))) (.float .f64 (low63 (fl (fx y))))).run Try.prog w = .ok (.float .f64 (fbits .add (low63 (fl (fx x))) (low63 (fl (fx y))))) w := fun w => run_float_arith w .add _ .f64 _ _ _ e1
  have k1 : ∀ w, (convert 55 3 (.float .f64 (fbits .add (low63 (fl (fx x))) (low63 (fl (fx y)))))).run Try.prog w = .ok (.int .i64 (sz x + sz y)) w :=
    fun w => run_convert_float_int w _ _ _ _ _ _ (by rw [Try.underlying55]; rfl) Try.underlying3 (toInt_whole hre (by omega) (by omega))
  clear hre e1
  have l1 := fl_lt (fx x)
  have l2 := fl_lt (fx y)
  have hB : Below w.heap.size w (w.alloc (.cells #[.int .i64 x, .int .i64 y] 23)) := (Below.refl _ _).alloc (Nat.le_refl _) _
  go_enter Try.func21, Try.ntmps21
  go_wp2_with (first
    | (go_at_call 37; refine (number_any _ _ _).mono ?_; rintro e w1 ⟨rfl, hb⟩; replace hB := hB.trans (hb.mono hB.size); clear hb)
    | (go_at_call 38; refine (signs_any _ _ l1 l2 _).mono ?_; rintro e w2 ⟨rfl, rfl⟩))
  go_ret
  exact ⟨rfl, hB⟩

theorem max_run (a b : Nat) (x y : Int) (ha : Fl a x) (hb : Fl b y) (ts : Array TypeId) (t : TypeId) (w : World) : (Builtin.max_ ts t #[.float .f64 a, .float .f64 b]).run Try.prog w = .ok (.float .f64 (fmax a b)) w := by
  simp only [Builtin.max_, List.foldlM, Builtin.max2, order_whole ha hb, fmax]
  rcases Int.lt_trichotomy x y with h | h | h
  · rw [show compare x y = .lt from Int.compare_eq_lt.2 h]; rfl
  · rw [show compare x y = .eq from Int.compare_eq_eq.2 h]; rfl
  · rw [show compare x y = .gt from Int.compare_eq_gt.2 h]; rfl

end Go.Proofs.Ytgaglplionfdgaa
