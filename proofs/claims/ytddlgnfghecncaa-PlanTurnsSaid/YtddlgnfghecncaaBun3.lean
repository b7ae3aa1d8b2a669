/- Texts of this proof, joined: MotionA; GaussS; WalkRefB; WalkRefC; WalkRefR; Flat; WalkRefS; WalkMath. -/
import Derived.Test.YtddlgnfghecncaaBun2
import Derived.Laws.Entries
import Derived.Test.YtddlgnfghecncaaRows
/- The walks of package motion: numbers, points, turns. -/
namespace Go.Proofs.Ytddlgnfghecncaa
open Go.RowKit

theorem store_complex (P : Program) (w : World) (a : Addr) (m : Mode) (k : FloatKind) (x y : Nat) : (store a (.complex k x y) m).run P w = stored P w a (.complex k x y) m := run_store P w a _ m rfl
attribute [local go_sem] store_complex

/-- a block of three cells that may be written -/
structure Cell3 (w : World) (b : Nat) (u v x : Value) : Prop where
  c0 : w.cell? ⟨b, 0, none⟩ = some u
  c1 : w.cell? ⟨b, 1, none⟩ = some v
  c2 : w.cell? ⟨b, 2, none⟩ = some x
  z0 : w.frozen? ⟨b, 0, none⟩ = false
  z1 : w.frozen? ⟨b, 1, none⟩ = false
  z2 : w.frozen? ⟨b, 2, none⟩ = false
theorem Cell3.new (w : World) (u v x : Value) (t : TypeId) : Cell3 (w.alloc (.cells #[u, v, x] t)) w.heap.size u v x :=
  ⟨by go_simp, by go_simp, by go_simp, by go_simp, by go_simp, by go_simp⟩
theorem Cell3.below {w w1 : World} {b B : Nat} {u v x : Value} (h : Cell3 w b u v x) (hb : Below B w w1) (hB : b < B) : Cell3 w1 b u v x :=
  ⟨by rw [hb.cell hB]; exact h.c0, by rw [hb.cell hB]; exact h.c1, by rw [hb.cell hB]; exact h.c2, by rw [hb.frozen hB]; exact h.z0, by rw [hb.frozen hB]; exact h.z1, by rw [hb.frozen hB]; exact h.z2⟩
theorem Cell3.kept {w w1 : World} {b : Nat} {u v x : Value} (h : Cell3 w b u v x) (hb : Below w.heap.size w w1) : Cell3 w1 b u v x :=
  h.below hb (World.block_lt_of_cell? w _ h.c0)
theorem Cell3.alloc {w : World} {b : Nat} {u v x : Value} (h : Cell3 w b u v x) (o : Obj) : Cell3 (w.alloc o) b u v x :=
  h.kept ((Below.refl _ _).alloc (Nat.le_refl _) _)
theorem Cell3.of_heap {w : World} {b : Nat} {u v x : Value} {t : TypeId} (h : w.heap[b]? = some (.cells #[u, v, x] t)) : Cell3 w b u v x :=
  ⟨by simp [World.cell?, h], by simp [World.cell?, h], by simp [World.cell?, h], by simp [World.frozen?, h], by simp [World.frozen?, h], by simp [World.frozen?, h]⟩

theorem Cell3.away {w : World} {b : Nat} {u v x : Value} (h : Cell3 w b u v x) (a : Addr) (y : Value) (hne : a.block ≠ b) : Cell3 (w.setCell a y) b u v x :=
  ⟨(World.cell?_setCell_other w a _ y (by rintro rfl; exact hne rfl)).trans h.c0, (World.cell?_setCell_other w a _ y (by rintro rfl; exact hne rfl)).trans h.c1, (World.cell?_setCell_other w a _ y (by rintro rfl; exact hne rfl)).trans h.c2, by simp [h.z0], by simp [h.z1], by simp [h.z2]⟩
theorem Cell2.away {w : World} {b : Nat} {u v : Value} (h : Cell2 w b u v) (a : Addr) (y : Value) (hne : a.block ≠ b) : Cell2 (w.setCell a y) b u v :=
  ⟨(World.cell?_setCell_other w a _ y (by rintro rfl; exact hne rfl)).trans h.c0, (World.cell?_setCell_other w a _ y (by rintro rfl; exact hne rfl)).trans h.c1, by simp [h.z0], by simp [h.z1]⟩
theorem Cell3.set {w : World} {b : Nat} {u v x : Value} (h : Cell3 w b u v x) (u' v' x' : Value) : Cell3 (((w.setCell ⟨b, 0, none⟩ u').setCell ⟨b, 1, none⟩ v').setCell ⟨b, 2, none⟩ x') b u' v' x' := by
  obtain ⟨c0, c1, c2, z0, z1, z2⟩ := h
  exact ⟨by simp [go_sem, c0, c1, c2], by simp [go_sem, c0, c1, c2], by simp [go_sem, c0, c1, c2], by simp [z0], by simp [z1], by simp [z2]⟩
theorem Cell2.set {w : World} {b : Nat} {u v : Value} (h : Cell2 w b u v) (u' v' : Value) : Cell2 ((w.setCell ⟨b, 0, none⟩ u').setCell ⟨b, 1, none⟩ v') b u' v' := by
  obtain ⟨c0, c1, z0, z1⟩ := h
  exact ⟨by simp [go_sem, c0, c1], by simp [go_sem, c0, c1], by simp [z0], by simp [z1]⟩

/-! ### Turns -/
theorem rot_zero (q : Nat) : rot q 0 0 = (0, 0) := by
  induction q with
  | zero => rfl
  | succ q ih => unfold rot; rw [ih]; rfl
theorem rot_four (q : Nat) (x y : Int) : rot (q + 4) x y = rot q x y := by
  simp [rot]
theorem rot_mod (q : Nat) (x y : Int) : rot (q % 4) x y = rot q x y := by
  have : ∀ k, rot (q % 4 + 4 * k) x y = rot (q % 4) x y := by
    intro k
    induction k with
    | zero => rfl
    | succ k ih => rw [show q % 4 + 4 * (k + 1) = (q % 4 + 4 * k) + 4 by omega, rot_four, ih]
  have h := this (q / 4)
  rw [show q % 4 + 4 * (q / 4) = q by omega] at h
  exact h.symm
theorem rot_add (q r : Nat) (x y : Int) : rot q (rot r x y).1 (rot r x y).2 = rot (q + r) x y := by
  induction q with
  | zero => simp [rot]
  | succ q ih => rw [show q + 1 + r = (q + r) + 1 by omega]; unfold rot; rw [ih]
theorem rot_sum (q : Nat) (x y u v : Int) : rot q (x + u) (y + v) = ((rot q x y).1 + (rot q u v).1, (rot q x y).2 + (rot q u v).2) := by
  induction q with
  | zero => rfl
  | succ q ih => unfold rot; rw [ih]; simp; omega
theorem rot_neg (q : Nat) (x y : Int) : rot q (-x) (-y) = (-(rot q x y).1, -(rot q x y).2) := by
  induction q with
  | zero => rfl
  | succ q ih => unfold rot; rw [ih]
/-- a turn's number -/
def uq (q : Nat) : Int := (rot q 1 0).1
def vq (q : Nat) : Int := (rot q 1 0).2
theorem unit_mul (q : Nat) (x y : Int) : uq q * x - vq q * y = (rot q x y).1 ∧ uq q * y + vq q * x = (rot q x y).2 := by
  induction q with
  | zero => simp [uq, vq, rot]
  | succ q ih =>
    obtain ⟨h1, h2⟩ := ih
    have e1 : uq (q + 1) = -vq q := rfl
    have e2 : vq (q + 1) = uq q := rfl
    rw [e1, e2]
    have e3 : (rot (q + 1) x y).1 = -(rot q x y).2 := rfl
    have e4 : (rot (q + 1) x y).2 = (rot q x y).1 := rfl
    rw [e3, e4, ← h1, ← h2]
    simp only [Int.neg_mul]
    omega
theorem unit_abs (q : Nat) : (uq q).natAbs ≤ 1 ∧ (vq q).natAbs ≤ 1 := rot_abs q 1 0 1 (by decide) (by decide)
theorem unit_fx (q : Nat) : fx (uq q) = uq q ∧ fx (vq q) = vq q := by
  obtain ⟨h1, h2⟩ := unit_abs q
  unfold fx
  omega
theorem unit_le (q : Nat) {x : Int} {B : Nat} (h : x.natAbs ≤ B) : (uq q * x).natAbs ≤ B ∧ (vq q * x).natAbs ≤ B := by
  obtain ⟨h1, h2⟩ := unit_abs q
  have a := mul_bd h1 h
  have b := mul_bd h2 h
  omega
theorem unit_one {q : Nat} (h : q < 4) : (uq q = 1 ∧ vq q = 0) ↔ q = 0 := by
  have : q = 0 ∨ q = 1 ∨ q = 2 ∨ q = 3 := by omega
  rcases this with rfl | rfl | rfl | rfl <;> decide
theorem fl_small {n : Int} (h : n.natAbs ≤ 1048576) : Fl (fl n) n := ofInt_whole (by omega)

/-- a turn's words, times a whole number's -/
theorem tMul_run {a b c d : Nat} {x y : Int} {B : Nat} (q : Nat) (ha : Fl a (uq q)) (hb : Fl b (vq q)) (hc : Fl c x) (hd : Fl d y) (hx : x.natAbs ≤ B) (hy : y.natAbs ≤ B) (hB : B < 2 ^ 50) :
    (∀ w, (binOp .mul 57 (.complex .f64 a b) (.complex .f64 c d)).run Try.prog w = .ok (.complex .f64 (mulRe a b c d) (mulIm a b c d)) w) ∧ Fl (mulRe a b c d) (rot q x y).1 ∧ Fl (mulIm a b c d) (rot q x y).2 := by
  have h1 := unit_le q hx
  have h2 := unit_le q hy
  have h := cMul_run 57 ha hb hc hd (by omega) (by omega) (by omega) (by omega)
  rw [(unit_mul q x y).1, (unit_mul q x y).2] at h
  exact h
theorem ord_eq {a b : Nat} {x y : Int} (ha : Fl a x) (hb : Fl b y) : (FloatKind.f64.format.order a b == some .eq) = decide (x = y) := by
  rw [order_whole ha hb]
  rcases Int.lt_trichotomy x y with h | h | h
  · rw [show compare x y = .lt from Int.compare_eq_lt.2 h, decide_eq_false (by omega)]; rfl
  · rw [show compare x y = .eq from Int.compare_eq_eq.2 h, decide_eq_true h]; rfl
  · rw [show compare x y = .gt from Int.compare_eq_gt.2 h, decide_eq_false (by omega)]; rfl
theorem cSum_whole {op : BinOp} (t : TypeId) {a b c d : Nat} {x y u v : Int} (ha : Fl a x) (hb : Fl b y) (hc : Fl c u) (hd : Fl d v) (hop : op = .add) (h1 : (x + u).natAbs < 2 ^ 53) (h2 : (y + v).natAbs < 2 ^ 53) :
    (∀ w, (binOp op t (.complex .f64 a b) (.complex .f64 c d)).run Try.prog w = .ok (.complex .f64 (fbits op a c) (fbits op b d)) w) ∧ Fl (fbits op a c) (x + u) ∧ Fl (fbits op b d) (y + v) := by
  subst hop
  obtain ⟨e1, f1⟩ := add_whole ha hc h1
  obtain ⟨e2, f2⟩ := add_whole hb hd h2
  exact ⟨cSum_run .add (by simp) t e1 e2, f1, f2⟩
theorem cDif_whole (t : TypeId) {a b c d : Nat} {x y u v : Int} (ha : Fl a x) (hb : Fl b y) (hc : Fl c u) (hd : Fl d v) (h1 : (x - u).natAbs < 2 ^ 53) (h2 : (y - v).natAbs < 2 ^ 53) :
    (∀ w, (binOp .sub t (.complex .f64 a b) (.complex .f64 c d)).run Try.prog w = .ok (.complex .f64 (fbits .sub a c) (fbits .sub b d)) w) ∧ Fl (fbits .sub a c) (x - u) ∧ Fl (fbits .sub b d) (y - v) := by
  obtain ⟨e1, f1⟩ := sub_whole ha hc h1
  obtain ⟨e2, f2⟩ := sub_whole hb hd h2
  exact ⟨cSum_run .sub (by simp) t e1 e2, f1, f2⟩

/-! ### The walks -/
theorem mnumber_any (x y : Int) (w : World) : Calls Try.prog 48 #[.agg #[.int .i64 x, .int .i64 y]] w fun e w' => e = .returned (.complex .f64 (fl (fx x)) (fl (fx y))) ∧ Below w.heap.size w w' := by
  go_enter Try.func48, Try.ntmps48
  go_wp2_with (go_at_call 60; refine (fix_any _ _ _).mono ?_; rintro e w1 ⟨rfl, hb⟩; obtain ⟨g0, g1, z0, z1⟩ := (Cell2.new w (.int .i64 x) (.int .i64 y) 24).kept hb; replace hb := ((Below.refl w.heap.size w).alloc (Nat.le_refl _) _).trans (hb.mono (by simp)))
  go_ret
  exact ⟨rfl, (hb.setCell (Nat.le_refl _) _).setCell (Nat.le_refl _) _⟩

theorem mpoint_any (p q : Nat) (x y : Int) (hp : Fl p x) (hq : Fl q y) (hx : x.natAbs < 2 ^ 53) (hy : y.natAbs < 2 ^ 53) (w : World) :
    Calls Try.prog 47 #[.complex .f64 p q] w fun e w' => e = .returned (.agg #[.int .i64 x, .int .i64 y]) ∧ Below w.heap.size w w' := by
  have k1 : ∀ w, (convert 72 3 (.float .f64 p)).run Try.prog w = .ok (.int .i64 x) w := fun w => run_convert_float_int w _ _ _ _ _ _ (by rw [Try.underlying72]; rfl) Try.underlying3 (toInt_whole hp (i64_in' hx).1 (i64_in' hx).2)
  have k2 : ∀ w, (convert 72 3 (.float .f64 q)).run Try.prog w = .ok (.int .i64 y) w := fun w => run_convert_float_int w _ _ _ _ _ _ (by rw [Try.underlying72]; rfl) Try.underlying3 (toInt_whole hq (i64_in' hy).1 (i64_in' hy).2)
  go_enter Try.func47, Try.ntmps47
  go_wp2
  refine bodyPost_ret (v := .agg #[.int .i64 x, .int .i64 y]) ?_ rfl ⟨rfl, (Below.refl _ _).alloc (Nat.le_refl _) _⟩
  simp [results, Try.results47, go_sem]

/-- quarters left of a number of turns -/
def qr (n : Int) : Nat := (n % 4).toNat
theorem qr_lt (n : Int) : qr n < 4 := by unfold qr; omega

set_option maxHeartbeats 2000000 in
theorem reckon_any (n x y : Int) (w : World) : Calls Try.prog 46 #[.agg #[.int .i64 n, .int .i64 x, .int .i64 y]] w fun e w' => e = .returned (.agg #[.complex .f64 (fl (uq (qr n))) (fl (vq (qr n))), .complex .f64 (fl (fx x)) (fl (fx y))]) ∧ Below w.heap.size w w' := by
  have f0 : fx 0 = 0 := by decide
  have f1 : fx 1 = 1 := by decide
  have t1 := fun w => turn_any 1 0 n w
  simp only [f0, f1] at t1
  have t2 := fun w => mnumber_any (uq (qr n)) (vq (qr n)) w
  rw [(unit_fx (qr n)).1, (unit_fx (qr n)).2] at t2
  change ∀ w, Calls _ _ _ w fun e w' => e = .returned (.agg #[.int .i64 (uq (qr n)), .int .i64 (vq (qr n))]) ∧ Below w.heap.size w w' at t1
  generalize uq (qr n) = U at t1 t2 ⊢
  generalize vq (qr n) = V at t1 t2 ⊢
  have T1 := Lib.hid t1
  have T2 := Lib.hid t2
  clear f0 f1 t1 t2
  go_enter Try.func46, Try.ntmps46
  go_wp2
  refine wp_region_calmT 9 (by kernel_rfl) (by simp) (by kernel_rfl) fun M => ?_
  simp only [List.take_succ_cons, List.take_zero, List.drop_succ_cons, List.drop_zero]
  have hc0 : ∀ n' : In M.w, n'.w.cell? ⟨w.heap.size, 0, none⟩ = some (.int .i64 n) := fun n' => n'.cell (M.cell (by go_simp))
  have hc1 : ∀ n' : In M.w, n'.w.cell? ⟨w.heap.size, 1, none⟩ = some (.int .i64 x) := fun n' => n'.cell (M.cell (by go_simp))
  have hc2 : ∀ n' : In M.w, n'.w.cell? ⟨w.heap.size, 2, none⟩ = some (.int .i64 y) := fun n' => n'.cell (M.cell (by go_simp))
  repeat (go_big_quiet_step (first
    | (go_at_call 59; with_reducible exact In.call (T1.out _))
    | (go_at_call 48; with_reducible exact In.call (T2.out _))
    | (go_at_call 48; exact In.call (mnumber_any _ _ _))))
  refine wpQuiet_nil ?_
  intro w1 hb
  obtain ⟨g0, g1, z0, z1⟩ := (Cell2.new (w.alloc (.cells #[.int .i64 n, .int .i64 x, .int .i64 y] 41)) (.complex .f64 0 0) (.complex .f64 0 0) 69).kept hb
  have hB : Below w.heap.size w w1 := (((Below.refl _ _).alloc (Nat.le_refl _) _).alloc (by simp) _).trans (hb.mono (by simp; omega))
  clear hb hc0 hc1 hc2
  simp only [World.size_alloc] at g0 g1 z0 z1
  go_wp2
  refine bodyPost_ret (v := .agg #[.complex .f64 (fl U) (fl V), .complex .f64 (fl (fx x)) (fl (fx y))]) ?_ rfl ⟨rfl, (hB.setCell (by simp) _).setCell (by simp) _⟩
  simp [results, Try.results46, go_sem, g0, g1, z0, z1]
end Go.Proofs.Ytddlgnfghecncaa
/- The walks of the document's answers for layer 3: mirrors, turns, sizes. -/
namespace Go.Proofs.Ytddlgnfghecncaa
open Go.RowKit

theorem quarter_any (n : Int) (w : World) : Calls Try.prog 77 #[.int .i64 n] w fun e w' => e = .returned (.int .i64 (n % 4)) ∧ w = w' := by
  have h1 : n.tmod 4 = if 0 ≤ n ∨ 4 ∣ n then n % 4 else n % 4 - 4 := by
    rw [Int.tmod_eq_emod]
    split
    · simp
    · rfl
  by_cases h : 0 ≤ n ∨ 4 ∣ n
  · rw [if_pos h] at h1
    have h2 := Int.emod_nonneg n (show (4 : Int) ≠ 0 by omega)
    clear h
    go_enter Try.func77, Try.ntmps77
    go_wp2
    go_ret
    exact ⟨rfl, rfl⟩
  · rw [if_neg h] at h1
    have h2 := Int.emod_nonneg n (show (4 : Int) ≠ 0 by omega)
    have h3 := Int.emod_lt_of_pos n (show (0 : Int) < 4 by omega)
    have h4 : n % 4 ≠ 0 := fun e => h (.inr (Int.dvd_of_emod_eq_zero e))
    have h5 : 0 < n % 4 := by omega
    clear h h4
    go_enter Try.func77, Try.ntmps77
    go_wp2
    go_ret
    exact ⟨rfl, rfl⟩

set_option maxHeartbeats 400000 in
theorem refTurn_any (x y n : Int) (w : World) : Calls Try.prog 58 #[.agg #[.int .i64 x, .int .i64 y], .int .i64 n] w fun e w' =>
    e = .returned (.agg #[.int .i64 (rot (n % 4).toNat (fx x) (fx y)).1, .int .i64 (rot (n % 4).toNat (fx x) (fx y)).2]) ∧ Below w.heap.size w w' := by
  obtain ⟨X1, X2⟩ := fx_bd x
  obtain ⟨Y1, Y2⟩ := fx_bd y
  have hC := Cell2.new (w.alloc (.cells #[.int .i64 x, .int .i64 y] 24)) (.int .i64 0) (.int .i64 0) 24
  simp only [World.size_alloc] at hC
  have hB : Below w.heap.size w ((w.alloc (.cells #[.int .i64 x, .int .i64 y] 24)).alloc (.cells #[.int .i64 0, .int .i64 0] 24)) := ((Below.refl _ _).alloc (Nat.le_refl _) _).alloc (by simp) _
  have hq := quarter_any n
  have h1 := Int.emod_nonneg n (show (4 : Int) ≠ 0 by omega)
  have h2 := Int.emod_lt_of_pos n (show (0 : Int) < 4 by omega)
  obtain ⟨q, hqe⟩ : ∃ q : Nat, n % 4 = q := ⟨(n % 4).toNat, by omega⟩
  rw [hqe] at hq
  have hq4 : q = 0 ∨ q = 1 ∨ q = 2 ∨ q = 3 := by omega
  have hqn : (n % 4).toNat = q := by omega
  rw [hqn]
  clear hqn h1 h2 hqe
  rcases hq4 with rfl | rfl | rfl | rfl
  · go_enter Try.func58, Try.ntmps58
    go_wp2_with (first | (go_at_call 49; refine (refFix_any _ _ _).mono ?_; rintro e w1 ⟨rfl, hb⟩; replace hC := hC.kept hb; have hz := hb.size; replace hB := hB.trans (hb.mono hB.size); clear hb; simp at hz; have a0 := fun o => (hC.alloc o).c0; have a1 := fun o => (hC.alloc o).c1; have a2 := fun o => (hC.alloc o).z0; have a3 := fun o => (hC.alloc o).z1; clear hC; have hne : w.heap.size + 1 ≠ w1.heap.size := by omega) | (go_at_call 77; refine (hq _).mono ?_; rintro e w2 ⟨rfl, rfl⟩))
    refine bodyPost_ret (v := .agg #[.int .i64 (fx x), .int .i64 (fx y)]) ?_ rfl ⟨rfl, ((hB.alloc (by omega) _).setCell (by simp) _).setCell (by simp) _⟩
    simp [results, Try.results58, go_sem, a0, a1, a2, a3, hne]
  · go_enter Try.func58, Try.ntmps58
    go_wp2_with (first | (go_at_call 49; refine (refFix_any _ _ _).mono ?_; rintro e w1 ⟨rfl, hb⟩; replace hC := hC.kept hb; have hz := hb.size; replace hB := hB.trans (hb.mono hB.size); clear hb; simp at hz; have a0 := fun o => (hC.alloc o).c0; have a1 := fun o => (hC.alloc o).c1; have a2 := fun o => (hC.alloc o).z0; have a3 := fun o => (hC.alloc o).z1; clear hC; have hne : w.heap.size + 1 ≠ w1.heap.size := by omega) | (go_at_call 77; refine (hq _).mono ?_; rintro e w2 ⟨rfl, rfl⟩))
    refine bodyPost_ret (v := .agg #[.int .i64 (-fx y), .int .i64 (fx x)]) ?_ rfl ⟨rfl, ((hB.alloc (by omega) _).setCell (by simp) _).setCell (by simp) _⟩
    simp [results, Try.results58, go_sem, a0, a1, a2, a3, hne]
  · go_enter Try.func58, Try.ntmps58
    go_wp2_with (first | (go_at_call 49; refine (refFix_any _ _ _).mono ?_; rintro e w1 ⟨rfl, hb⟩; replace hC := hC.kept hb; have hz := hb.size; replace hB := hB.trans (hb.mono hB.size); clear hb; simp at hz; have a0 := fun o => (hC.alloc o).c0; have a1 := fun o => (hC.alloc o).c1; have a2 := fun o => (hC.alloc o).z0; have a3 := fun o => (hC.alloc o).z1; clear hC; have hne : w.heap.size + 1 ≠ w1.heap.size := by omega) | (go_at_call 77; refine (hq _).mono ?_; rintro e w2 ⟨rfl, rfl⟩))
    refine bodyPost_ret (v := .agg #[.int .i64 (-fx x), .int .i64 (-fx y)]) ?_ rfl ⟨rfl, ((hB.alloc (by omega) _).setCell (by simp) _).setCell (by simp) _⟩
    simp [results, Try.results58, go_sem, a0, a1, a2, a3, hne]
  · go_enter Try.func58, Try.ntmps58
    go_wp2_with (first | (go_at_call 49; refine (refFix_any _ _ _).mono ?_; rintro e w1 ⟨rfl, hb⟩; replace hC := hC.kept hb; have hz := hb.size; replace hB := hB.trans (hb.mono hB.size); clear hb; simp at hz; have a0 := fun o => (hC.alloc o).c0; have a1 := fun o => (hC.alloc o).c1; have a2 := fun o => (hC.alloc o).z0; have a3 := fun o => (hC.alloc o).z1; clear hC; have hne : w.heap.size + 1 ≠ w1.heap.size := by omega) | (go_at_call 77; refine (hq _).mono ?_; rintro e w2 ⟨rfl, rfl⟩))
    refine bodyPost_ret (v := .agg #[.int .i64 (- -fx y), .int .i64 (-fx x)]) ?_ rfl ⟨rfl, ((hB.alloc (by omega) _).setCell (by simp) _).setCell (by simp) _⟩
    simp [results, Try.results58, go_sem, a0, a1, a2, a3, hne]

theorem sq_nn (a : Int) : 0 ≤ a * a := by
  rcases Int.le_total 0 a with h | h
  · exact Int.mul_nonneg h h
  · exact Int.mul_nonneg_of_nonpos_of_nonpos h h
theorem size_any (n : Int) (hn : -9223372036854775807 ≤ n) (hn' : n ≤ 9223372036854775807) (w : World) : Calls Try.prog 50 #[.int .i64 n] w fun e w' => e = .returned (.int .i64 (max n (-n))) ∧ w = w' := by
  go_enter Try.func50, Try.ntmps50
  go_wp2
  go_ret
  exact ⟨rfl, rfl⟩

theorem refSteps_any (x y : Int) (w : World) : Calls Try.prog 28 #[.agg #[.int .i64 x, .int .i64 y]] w fun e w' => e = .returned (.int .i64 (sz x + sz y)) ∧ Below w.heap.size w w' := by
  obtain ⟨X1, X2⟩ := fx_bd x
  obtain ⟨Y1, Y2⟩ := fx_bd y
  have S1 : max (fx x) (-fx x) = sz x := rfl
  have S2 : max (fx y) (-fx y) = sz y := rfl
  obtain ⟨U1, U2⟩ := sz_bd x
  obtain ⟨V1, V2⟩ := sz_bd y
  have hB : Below w.heap.size w (w.alloc (.cells #[.int .i64 x, .int .i64 y] 24)) := (Below.refl _ _).alloc (Nat.le_refl _) _
  go_enter Try.func28, Try.ntmps28
  go_wp2_with (go_at_call 49; refine (refFix_any _ _ _).mono ?_; rintro e w1 ⟨rfl, hb⟩; replace hB := hB.trans (hb.mono hB.size); clear hb; have hB1 := hB.alloc hB.size (.cells #[.int .i64 (fx x), .int .i64 (fx y)] 24))
  refine wp_region_calm0 (by kernel_rfl) (by kernel_rfl) fun M => ?_
  have hc0 : ∀ n : In M.w, n.w.cell? ⟨w1.heap.size, 0, none⟩ = some (.int .i64 (fx x)) := fun n => n.cell (M.cell (by go_simp))
  have hc1 : ∀ n : In M.w, n.w.cell? ⟨w1.heap.size, 1, none⟩ = some (.int .i64 (fx y)) := fun n => n.cell (M.cell (by go_simp))
  repeat (go_big_quiet_step ((go_at_call 50; exact In.call_same (size_any _ (by omega) (by omega) _))))
  refine wpQuiet_nil ?_
  intro w2 hb
  replace hB := hB1.trans (hb.mono hB1.size)
  clear hb hc0 hc1 M
  go_wp2
  go_ret
  exact ⟨rfl, hB⟩

def smallB (x y m : Int) : Bool := decide (-m ≤ x ∧ x ≤ m ∧ -m ≤ y ∧ y ≤ m)
theorem refSmall_any (x y m : Int) (w : World) (hm : 0 ≤ m) (hm' : m ≤ 9223372036854775807) : Calls Try.prog 26 #[.agg #[.int .i64 x, .int .i64 y], .int .i64 m] w fun e w' => e = .returned (.bool (smallB x y m)) ∧ Below w.heap.size w w' := by
  by_cases h1 : -m ≤ x
  · by_cases h2 : x ≤ m
    · by_cases h3 : -m ≤ y
      · by_cases h4 : y ≤ m
        all_goals
          go_enter Try.func26, Try.ntmps26
          go_wp2
          go_ret
          exact ⟨ret_b (by simp [smallB, *] <;> omega), (Below.refl _ _).alloc (Nat.le_refl _) _⟩
      · go_enter Try.func26, Try.ntmps26
        go_wp2
        go_ret
        exact ⟨ret_b (by simp [smallB, *] <;> omega), (Below.refl _ _).alloc (Nat.le_refl _) _⟩
    · go_enter Try.func26, Try.ntmps26
      go_wp2
      go_ret
      exact ⟨ret_b (by simp [smallB, *] <;> omega), (Below.refl _ _).alloc (Nat.le_refl _) _⟩
  · go_enter Try.func26, Try.ntmps26
    go_wp2
    go_ret
    exact ⟨ret_b (by simp [smallB, *] <;> omega), (Below.refl _ _).alloc (Nat.le_refl _) _⟩
end Go.Proofs.Ytddlgnfghecncaa
/- The walks of the document's answers for layer 5: where a walk ends. -/
namespace Go.Proofs.Ytddlgnfghecncaa
open Go.RowKit

/-- where a walk ends: quarters, and the place -/
def estep (s : Int × Int × Int) (m : Int × Int) : Int × Int × Int :=
  if m.1 = 1 then (s.1, s.2.1 + cnt m * uq (s.1 % 4).toNat, s.2.2 + cnt m * vq (s.1 % 4).toNat)
  else if m.1 = 2 then (s.1, s.2.1 + -cnt m * uq (s.1 % 4).toNat, s.2.2 + -cnt m * vq (s.1 % 4).toNat)
  else if m.1 = 3 then ((s.1 + cnt m) % 4, s.2.1, s.2.2)
  else if m.1 = 4 then ((s.1 + 3 * cnt m) % 4, s.2.1, s.2.2)
  else s
def eend (l : List (Int × Int)) : Int × Int × Int := l.foldl estep (0, 0, 0)
theorem eend_succ (l : List (Int × Int)) (k : Nat) (h : k < l.length) : eend (l.take (k + 1)) = estep (eend (l.take k)) l[k] := by
  unfold eend
  rw [List.take_add_one, List.getElem?_eq_getElem h, List.foldl_append]
  rfl
theorem bd_add {x p : Int} {B : Nat} (h : x.natAbs ≤ B) (hp : p.natAbs ≤ 1048576) : (x + p).natAbs ≤ B + 1048576 := by omega
theorem bd_up {x : Int} {B : Nat} (h : x.natAbs ≤ B) : x.natAbs ≤ B + 1048576 := by omega
theorem mod4_bd (a : Int) : 0 ≤ a % 4 ∧ a % 4 ≤ 3 := by omega
theorem cnt_abs (m : Int × Int) : (cnt m).natAbs ≤ 1048576 ∧ (-cnt m).natAbs ≤ 1048576 := by have := cnt_bd m; omega
theorem unit_bd {c : Int} (q : Nat) (h : c.natAbs ≤ 1048576) : (c * uq q).natAbs ≤ 1048576 ∧ (c * vq q).natAbs ≤ 1048576 := ⟨mul_bd h (unit_abs q).1, mul_bd h (unit_abs q).2⟩
theorem estep_bd (s : Int × Int × Int) (m : Int × Int) (B : Nat) (h0 : 0 ≤ s.1 ∧ s.1 ≤ 3) (h1 : s.2.1.natAbs ≤ B) (h2 : s.2.2.natAbs ≤ B) :
    (0 ≤ (estep s m).1 ∧ (estep s m).1 ≤ 3) ∧ (estep s m).2.1.natAbs ≤ B + 1048576 ∧ (estep s m).2.2.natAbs ≤ B + 1048576 := by
  obtain ⟨hc, hd⟩ := cnt_abs m
  unfold estep
  split
  · exact ⟨h0, bd_add h1 (unit_bd _ hc).1, bd_add h2 (unit_bd _ hc).2⟩
  · split
    · exact ⟨h0, bd_add h1 (unit_bd _ hd).1, bd_add h2 (unit_bd _ hd).2⟩
    · split
      · exact ⟨mod4_bd _, bd_up h1, bd_up h2⟩
      · split
        · exact ⟨mod4_bd _, bd_up h1, bd_up h2⟩
        · exact ⟨h0, bd_up h1, bd_up h2⟩
theorem eend_bd (l : List (Int × Int)) (k : Nat) : (0 ≤ (eend (l.take k)).1 ∧ (eend (l.take k)).1 ≤ 3) ∧ (eend (l.take k)).2.1.natAbs ≤ k * 1048576 ∧ (eend (l.take k)).2.2.natAbs ≤ k * 1048576 := by
  induction k with
  | zero => simp [eend]
  | succ k ih =>
    by_cases h : k < l.length
    · rw [eend_succ l k h]
      have := estep_bd _ l[k] _ ih.1 ih.2.1 ih.2.2
      rw [Nat.add_mul, Nat.one_mul]
      exact this
    · rw [List.take_of_length_le (by omega)]
      rw [List.take_of_length_le (by omega)] at ih
      refine ⟨ih.1, Nat.le_trans ih.2.1 (Nat.mul_le_mul_right _ (by omega)), Nat.le_trans ih.2.2 (Nat.mul_le_mul_right _ (by omega))⟩

end Go.Proofs.Ytddlgnfghecncaa
/- The walks of the document's answers for layer 5: a walk the other way round. -/
namespace Go.Proofs.Ytddlgnfghecncaa
open Go.RowKit

/-- a move the other way round -/
def rev1 (m : Int × Int) : Int × Int := (if m.1 = 1 then 2 else if m.1 = 2 then 1 else if m.1 = 3 then 4 else if m.1 = 4 then 3 else m.1, m.2)
def revw (l : List (Int × Int)) : List (Int × Int) := l.reverse.map rev1
theorem revw_drop (l : List (Int × Int)) (k : Nat) (h : k < l.length) : revw (l.drop k) = revw (l.drop (k + 1)) ++ [rev1 l[k]] := by
  unfold revw
  rw [List.drop_eq_getElem_cons h, List.reverse_cons, List.map_append]
  rfl

end Go.Proofs.Ytddlgnfghecncaa
/- The walks of the document's answers for layer 5: each point that a walk comes to. -/
namespace Go.Proofs.Ytddlgnfghecncaa
open Go.RowKit

/-- a row of steps from a point on -/
def tline (x y dx dy : Int) : Nat → List (Int × Int)
  | 0 => []
  | n + 1 => tline x y dx dy n ++ [(x + ((n : Int) + 1) * dx, y + ((n : Int) + 1) * dy)]
theorem tline_length (x y dx dy : Int) (n : Nat) : (tline x y dx dy n).length = n := by
  induction n with
  | zero => rfl
  | succ n ih => simp [tline, ih]
/-- what a move adds to the points -/
def tadd (s : Int × Int × Int) (m : Int × Int) : List (Int × Int) :=
  if m.1 = 1 then tline s.2.1 s.2.2 (uq (s.1 % 4).toNat) (vq (s.1 % 4).toNat) (cnt m).toNat
  else if m.1 = 2 then tline s.2.1 s.2.2 (-uq (s.1 % 4).toNat) (-vq (s.1 % 4).toNat) (cnt m).toNat
  else []
/-- the points of a walk -/
def tpts : List (Int × Int) → (Int × Int × Int) → List (Int × Int)
  | [], _ => []
  | m :: l, s => tadd s m ++ tpts l (estep s m)
theorem tpts_append (a b : List (Int × Int)) (s : Int × Int × Int) : tpts (a ++ b) s = tpts a s ++ tpts b (a.foldl estep s) := by
  induction a generalizing s with
  | nil => rfl
  | cons m a ih => simp [tpts, ih]
theorem tpts_succ (l : List (Int × Int)) (k : Nat) (h : k < l.length) : tpts (l.take (k + 1)) (0, 0, 0) = tpts (l.take k) (0, 0, 0) ++ tadd (eend (l.take k)) l[k] := by
  rw [List.take_add_one, List.getElem?_eq_getElem h, tpts_append]
  simp [tpts, eend]
theorem tadd_length (s : Int × Int × Int) (m : Int × Int) : ((tadd s m).length : Int) = if m.1 = 1 ∨ m.1 = 2 then cnt m else 0 := by
  have := cnt_bd m
  unfold tadd
  split
  · rw [tline_length, if_pos (by omega)]; omega
  · split
    · rw [tline_length, if_pos (by omega)]; omega
    · rw [if_neg (by omega)]; rfl
theorem tpts_length (l : List (Int × Int)) (s : Int × Int × Int) : ((tpts l s).length : Int) = stps l := by
  induction l generalizing s with
  | nil => rfl
  | cons m l ih => simp only [tpts, List.length_append, stps, Int.natCast_add, ih, tadd_length]

theorem OwnP.kept {w w1 : World} {B : Nat} {e : TypeId} {v : Value} {l : List (Int × Int)} (h : OwnP w B e v l) (hb : Below w.heap.size w w1) : OwnP w1 B e v l := by
  refine ⟨h.1, ?_⟩
  rcases h.2 with h0 | ⟨g, cap, cur, rfl, hg, hh, rest⟩
  · exact .inl h0
  · exact .inr ⟨g, cap, cur, rfl, hg, (hb.block g (lt_of_block hh)).trans hh, rest⟩
theorem OwnP.away {w : World} {B : Nat} {e : TypeId} {v : Value} {l : List (Int × Int)} (h : OwnP w B e v l) (p : Addr) (u : Value) (hne : v.ownBlock ≠ some p.block) : OwnP (w.setCell p u) B e v l := by
  refine ⟨h.1, ?_⟩
  rcases h.2 with h0 | ⟨g, cap, cur, rfl, hg, hh, rest⟩
  · exact .inl h0
  · refine .inr ⟨g, cap, cur, rfl, hg, ?_, rest⟩
    have hgp : g ≠ p.block := fun e => hne (by simp [Value.ownBlock, e])
    rw [Below.heap_setCell w p u g (by intro e; exact hgp e)]
    exact hh
/-- a list of two or more lies in no block of two cells -/
theorem OwnP.other {w : World} {B : Nat} {e : TypeId} {v : Value} {l : List (Int × Int)} (h : OwnP w B e v l) (hl : 2 ≤ l.length) {b : Nat} {x y : Value} {t : TypeId} (hb : w.heap[b]? = some (.cells #[x, y] t)) : v.ownBlock ≠ some b := by
  rcases h.2 with ⟨rfl, h0⟩ | ⟨g, cap, cur, rfl, hg, hh, hnc, hcp, hcs, _⟩
  · simp [Value.ownBlock]
  · intro e
    simp [Value.ownBlock] at e
    subst e
    rw [hb] at hh
    simp only [Option.some.injEq, Obj.cells.injEq] at hh
    have h2 : cur.size = 2 := by rw [← hh.1]; rfl
    omega
theorem OwnP.keeps {w w1 : World} {B : Nat} {e : TypeId} {v : Value} {l : List (Int × Int)} (_h : OwnP w B e v l) {wq : World} (hg : wq.grownBy w1 v.ownBlock) {b : Nat} {o : Obj} (hb : wq.heap[b]? = some o) (hne : v.ownBlock ≠ some b) : w1.heap[b]? = some o := by
  have hlt : b < wq.heap.size := lt_of_block hb
  rw [hg.block b hlt (fun e => hne e.symm)]
  exact hb

theorem heap2_set {w : World} {b : Nat} {x y : Value} {t : TypeId} (h : w.heap[b]? = some (.cells #[x, y] t)) (x' y' : Value) : ((w.setCell ⟨b, 0, none⟩ x').setCell ⟨b, 1, none⟩ y').heap[b]? = some (.cells #[x', y'] t) := by
  unfold World.setCell
  simp only [Array.getElem?_modify, if_pos, h, Option.map_some]
  rfl
theorem own_one (w : World) (B : Nat) (hB : B ≤ w.heap.size) (e : TypeId) (x y : Int) : OwnP (w.alloc (.cells #[.int .i64 x, .int .i64 y] e)) B e (.slice (some ⟨w.heap.size, 0, none⟩) 1 1) [(x, y)] :=
  ⟨rfl, .inr ⟨w.heap.size, 1, #[.int .i64 x, .int .i64 y], rfl, hB, heap_alloc_new w _, Nat.le_refl _, by decide, rfl, rfl⟩⟩
theorem info_point : (Try.prog.info? 24).map (fun i => (i.zero, i.size, i.bytes)) = some (some (.agg #[.int .i64 0, .int .i64 0]), 2, 16) := by kernel_rfl

theorem lin_on (X u : Int) (j : Nat) : X + j * u + 1 * u = X + ((j + 1 : Nat) : Int) * u := by rw [Int.natCast_add, Int.add_mul]; omega
theorem lin_back (X u : Int) (j : Nat) : X + j * -u + -1 * u = X + ((j + 1 : Nat) : Int) * -u := by rw [Int.natCast_add, Int.add_mul]; omega
theorem lin_bd {X u : Int} {j : Nat} (hX : X.natAbs ≤ 300 * 1048576) (hj : j ≤ 1048576) (hu : u.natAbs ≤ 1) : (X + j * u).natAbs ≤ 1000000000000 := by
  have h : ((j : Int) * u).natAbs ≤ 1048576 * 1 := mul_bd (by omega) hu
  omega
theorem own_fin {wr wq w w1 : World} {B : Nat} {e t : TypeId} {v v' : Value} {l : List (Int × Int)} {x y : Int} {b : Nat} {X Y : Value} {A : Obj} (hown : OwnP wr B e v l) (hB : Below B w (wq.alloc A)) (hz : B ≤ (wq.alloc A).heap.size)
    (h1 : w1.ownsRow B e 2 v' (l.length + 1) (flat l ++ [.int .i64 x, .int .i64 y])) (h2 : (wq.alloc A).grownBy w1 v.ownBlock) (hb : wq.heap[b]? = some (.cells #[X, Y] t)) (hne : v.ownBlock ≠ some b) (hl : 1 ≤ l.length) :
    OwnP w1 B e v' (l ++ [(x, y)]) ∧ Below B w w1 ∧ w1.heap[b]? = some (.cells #[X, Y] t) ∧ v'.ownBlock ≠ some b := by
  have o : OwnP w1 B e v' (l ++ [(x, y)]) := by
    unfold OwnP
    rw [List.length_append, flat_append]
    exact h1
  have hh : w1.heap[b]? = some (.cells #[X, Y] t) := hown.keeps h2 ((((Below.refl _ wq).alloc (Nat.le_refl _) A).block b (lt_of_block hb)).trans hb) hne
  exact ⟨o, hown.below hB hz h2, hh, o.other (by rw [List.length_append]; simp; omega) hh⟩

theorem cells_new (w : World) (N : Nat) (hN : w.heap.size = N) (a b : Value) (t : TypeId) : ∀ (j : Nat) (u : Value), [a, b][j]? = some u → (w.alloc (.cells #[a, b] t)).cell? ((⟨N, 0, none⟩ : Addr).add j) = some u := by
  subst hN
  intro j u h
  match j, h with
  | 0, h => simp at h; subst h; simp [Addr.add]
  | 1, h => simp at h; subst h; simp [Addr.add]

/-- what Trace hands back -/
def trc (l : List (Int × Int)) : List (Int × Int) × Int := if 10000 < stps l then ([], 15) else ((0, 0) :: tpts l (0, 0, 0), 0)

end Go.Proofs.Ytddlgnfghecncaa
/- Lists of structs of any number of cells in memory: what is read, what a call gathers by itself, what comes in. -/
namespace Go.Proofs.Ytddlgnfghecncaa
open Go.RowKit Go.ChangeShapes Go.WideShapes Go.Joins Go.Deep

/-- A slice that reads as these things, of K cells each. -/
def RowsAt {α : Type} (w : World) (K : Nat) (cs : α → List Value) (v : Value) (l : List α) : Prop :=
  ∃ a cap, v = .slice a l.length cap ∧ l.length ≤ cap ∧ (0 < l.length → ∃ g o, a = some ⟨g, o, none⟩ ∧ g < w.heap.size ∧ ∀ j x, l[j]? = some x → ∀ i u, (cs x)[i]? = some u → w.cell? ⟨g, o + j * K + i, none⟩ = some u)
theorem RowsAt.nil {α : Type} (w : World) (K : Nat) (cs : α → List Value) : RowsAt w K cs (.slice none 0 0) [] := ⟨none, 0, rfl, Nat.le_refl _, fun h => absurd h (by simp)⟩
theorem RowsAt.form {α : Type} {w : World} {K : Nat} {cs : α → List Value} {v : Value} {l : List α} (h : RowsAt w K cs v l) : ∃ a c, v = .slice a l.length c := by
  obtain ⟨a, c, e, _⟩ := h
  exact ⟨a, c, e⟩
theorem RowsAt.below {α : Type} {w w' : World} {K : Nat} {cs : α → List Value} {v : Value} {l : List α} {B : Nat} (h : RowsAt w K cs v l) (hB : w.heap.size ≤ B) (hb : Below B w w') : RowsAt w' K cs v l := by
  obtain ⟨a, cap, e, hc, h⟩ := h
  refine ⟨a, cap, e, hc, fun h0 => ?_⟩
  obtain ⟨g, o, e1, hg, hx⟩ := h h0
  exact ⟨g, o, e1, Nat.lt_of_lt_of_le hg hb.size, fun j x hj i u hu => (hb.cell (p := ⟨g, o + j * K + i, none⟩) (Nat.lt_of_lt_of_le hg hB)).trans (hx j x hj i u hu)⟩
theorem RowsAt.kept {α : Type} {w w' : World} {K : Nat} {cs : α → List Value} {v : Value} {l : List α} (h : RowsAt w K cs v l) (hb : Below w.heap.size w w') : RowsAt w' K cs v l := h.below (Nat.le_refl _) hb
theorem RowsAt.spot {α : Type} {w : World} {K : Nat} {cs : α → List Value} {v : Value} {l : List α} (h : RowsAt w K cs v l) (k : Nat) (hk : k < l.length) :
    ∃ g o c, v = .slice (some ⟨g, o, none⟩) l.length c ∧ l.length ≤ c ∧ g < w.heap.size ∧ ∀ i u, (cs l[k])[i]? = some u → w.cell? ⟨g, o + k * K + i, none⟩ = some u := by
  obtain ⟨a, c, rfl, hc, hx⟩ := h
  obtain ⟨g, o, rfl, hg, hxa⟩ := hx (by omega)
  exact ⟨g, o, c, rfl, hc, hg, hxa k _ (List.getElem?_eq_getElem hk)⟩
/-- the front of a list -/
theorem RowsAt.front {α : Type} {w : World} {K : Nat} {cs : α → List Value} {a : Option Addr} {n cap : Nat} {l : List α} (h : RowsAt w K cs (.slice a n cap) l) (k : Nat) (hk : k ≤ l.length) : RowsAt w K cs (.slice a k cap) (l.take k) := by
  obtain ⟨a', c', e, hc, hx⟩ := h
  cases e
  refine ⟨a, cap, by rw [List.length_take, Nat.min_eq_left hk], by rw [List.length_take, Nat.min_eq_left hk]; omega, fun h0 => ?_⟩
  rw [List.length_take, Nat.min_eq_left hk] at h0
  obtain ⟨g, o, e, hg, hxa⟩ := hx (by omega)
  refine ⟨g, o, e, hg, fun j x hj => hxa j x ?_⟩
  rw [List.getElem?_take] at hj
  split at hj
  · exact hj
  · cases hj

/-- the cells of things -/
def flats {α : Type} (cs : α → List Value) (l : List α) : List Value := l.flatMap cs
theorem flats_append {α : Type} (cs : α → List Value) (a b : List α) : flats cs (a ++ b) = flats cs a ++ flats cs b := List.flatMap_append
theorem flats_length {α : Type} {cs : α → List Value} {K : Nat} (hK : ∀ x, (cs x).length = K) (l : List α) : (flats cs l).length = l.length * K := by
  induction l with
  | nil => simp [flats]
  | cons x l ih =>
    have e : flats cs (x :: l) = cs x ++ flats cs l := rfl
    rw [e, List.length_append, ih, hK, List.length_cons, Nat.add_mul]
    omega
theorem flats_at {α : Type} {cs : α → List Value} {K : Nat} (hK : ∀ x, (cs x).length = K) (l : List α) (j : Nat) (x : α) (h : l[j]? = some x) (i : Nat) (u : Value) (hu : (cs x)[i]? = some u) : (flats cs l)[j * K + i]? = some u := by
  induction l generalizing j with
  | nil => simp at h
  | cons y l ih =>
    have e : flats cs (y :: l) = cs y ++ flats cs l := rfl
    have hi : i < K := by rw [← hK x]; exact (List.getElem?_eq_some_iff.1 hu).1
    rw [e]
    cases j with
    | zero =>
      simp at h
      subst h
      rw [Nat.zero_mul, Nat.zero_add, List.getElem?_append_left (by rw [hK]; exact hi)]
      exact hu
    | succ j =>
      have h' := ih j (by simpa using h)
      rw [List.getElem?_append_right (by rw [hK, Nat.add_mul]; omega), hK]
      rw [show (j + 1) * K + i - K = j * K + i by rw [Nat.add_mul]; omega]
      exact h'
/-- a list that the call gathers by itself, in memory from B on -/
def OwnR {α : Type} (w : World) (B : Nat) (e : TypeId) (K : Nat) (cs : α → List Value) (v : Value) (l : List α) : Prop := w.ownsRow B e K v l.length (flats cs l)
theorem OwnR.nil {α : Type} (w : World) (B : Nat) (e : TypeId) (K : Nat) (cs : α → List Value) : OwnR w B e K cs (.slice none 0 0) [] := World.ownsRow_nil _ _ _ _
theorem OwnR.rows {α : Type} {w : World} {B : Nat} {e : TypeId} {K : Nat} {cs : α → List Value} {v : Value} {l : List α} (hK : ∀ x, (cs x).length = K) (h : OwnR w B e K cs v l) : RowsAt w K cs v l := by
  rcases h.2 with ⟨rfl, h0⟩ | ⟨g, cap, cur, rfl, hg, hh, hnc, hcp, hcs, htake⟩
  · rw [List.eq_nil_of_length_eq_zero h0]
    exact RowsAt.nil w K cs
  · refine ⟨_, cap, rfl, hnc, fun h0 => ⟨g, 0, rfl, lt_of_block hh, fun j x hj i u hu => ?_⟩⟩
    have h1 := flats_at hK l j x hj i u hu
    have hjl : j < l.length := (List.getElem?_eq_some_iff.1 hj).1
    have hi : i < K := by rw [← hK x]; exact (List.getElem?_eq_some_iff.1 hu).1
    have hlt : j * K + i < l.length * K := by
      have : (j + 1) * K ≤ l.length * K := Nat.mul_le_mul_right _ hjl
      rw [Nat.add_mul] at this
      omega
    rw [← htake, List.getElem?_take_of_lt hlt] at h1
    simp [World.cell?, hh]
    simpa using h1
theorem OwnR.below {α : Type} {w wq w1 : World} {B : Nat} {e : TypeId} {K : Nat} {cs : α → List Value} {v : Value} {l : List α} {wr : World} (hown : OwnR wr B e K cs v l) (hB : Below B w wq) (hz : B ≤ wq.heap.size) (hg : wq.grownBy w1 v.ownBlock) : Below B w w1 := by
  refine hB.grown hg hz fun k hk => ?_
  rcases hown.2 with ⟨rfl, _⟩ | ⟨g, cap, cur, rfl, hg, _⟩
  · simp [Value.ownBlock] at hk
  · simp [Value.ownBlock] at hk
    omega
theorem OwnR.alloc {α : Type} {w : World} {B : Nat} {e : TypeId} {K : Nat} {cs : α → List Value} {v : Value} {l : List α} (h : OwnR w B e K cs v l) (o : Obj) : OwnR (w.alloc o) B e K cs v l := World.ownsRow.alloc h o
theorem OwnR.kept {α : Type} {w w1 : World} {B : Nat} {e : TypeId} {K : Nat} {cs : α → List Value} {v : Value} {l : List α} (h : OwnR w B e K cs v l) (hb : Below w.heap.size w w1) : OwnR w1 B e K cs v l := by
  refine ⟨h.1, ?_⟩
  rcases h.2 with h0 | ⟨g, cap, cur, rfl, hg, hh, rest⟩
  · exact .inl h0
  · exact .inr ⟨g, cap, cur, rfl, hg, (hb.block g (lt_of_block hh)).trans hh, rest⟩
theorem OwnR.away {α : Type} {w : World} {B : Nat} {e : TypeId} {K : Nat} {cs : α → List Value} {v : Value} {l : List α} (h : OwnR w B e K cs v l) (p : Addr) (u : Value) (hne : v.ownBlock ≠ some p.block) : OwnR (w.setCell p u) B e K cs v l := by
  refine ⟨h.1, ?_⟩
  rcases h.2 with h0 | ⟨g, cap, cur, rfl, hg, hh, rest⟩
  · exact .inl h0
  · refine .inr ⟨g, cap, cur, rfl, hg, ?_, rest⟩
    have hgp : g ≠ p.block := fun e => hne (by simp [Value.ownBlock, e])
    rw [Below.heap_setCell w p u g (by intro e; exact hgp e)]
    exact hh
/-- behind an append of one -/
theorem OwnR.snoc {α : Type} {w : World} {B : Nat} {e : TypeId} {K : Nat} {cs : α → List Value} {v : Value} {l : List α} {x : α} {n : Nat} {L : List Value} (h : w.ownsRow B e K v n L) (hn : n = l.length + 1) (hL : L = flats cs l ++ cs x) : OwnR w B e K cs v (l ++ [x]) := by
  subst hn hL
  unfold OwnR
  rw [List.length_append, flats_append]
  have e : flats cs [x] = cs x := by simp [flats]
  rw [e]
  exact h

set_option maxRecDepth 100000 in
/-- a slice that comes in -/
theorem open_rows {α : Type} [Inhabited α] {H : Type} {enc : TypeId × Value → H} {w : World} {base : Nat} {v : Value} {d : DataW H} {p : List MemPlace} {t e : TypeId} {K : Nat} (cs : α → List Value) (good : α → Prop)
    (ht : Try.prog.underlying t = some (.slice e)) (ce : Try.prog.cellsOf e = K) (hK : 0 < K)
    (elem : ∀ n xs x, xs.length = K → DataW.trod enc Try.prog w 0 (fun _ => true) true n e xs = some x → ∃ y, xs = cs y ∧ good y)
    (hok : Value.okWide Try.prog w .any base t v) (h : DataW.Trod enc Try.prog w 0 (fun _ => true) true t v d p) :
    ∃ l, RowsAt w K cs v l ∧ l.length ≤ 9223372036854775807 ∧ ∀ x ∈ l, good x := by
  obtain ⟨a, len, cap, rfl⟩ := okWide_slice ht hok
  obtain ⟨fuel, hf⟩ := h
  rcases open_slice ht hf with ⟨hcs, _⟩ | ⟨x, ln, c, m, n, D, Pl, hcs, _, hl, hm, hmm, _, hx⟩
  · simp [Value.cells] at hcs
    obtain ⟨rfl, rfl, rfl⟩ := hcs
    exact ⟨[], RowsAt.nil _ _ _, by simp, by simp⟩
  · simp [Value.cells] at hcs
    obtain ⟨rfl, rfl, rfl⟩ := hcs
    have hmc : m = cap := by simpa using hmm
    subst hmc
    rw [ce] at hx
    have each : ∀ i, i < m → ∃ y : α, (∀ j u, (cs y)[j]? = some u → w.cell? ((x.add (i * K)).add j) = some u) ∧ good y ∧ (cs y).length = K := by
      intro i hi
      obtain ⟨xs, h1, h2⟩ := hx i hi
      obtain ⟨_, hlen, hcell⟩ := World.cells?_some h1
      obtain ⟨y, rfl, hg⟩ := elem n xs _ hlen h2
      refine ⟨y, fun j u hu => ?_, hg, hlen⟩
      have := hcell j (by rw [← hlen]; exact (List.getElem?_eq_some_iff.1 hu).1)
      rw [this, hu]
    obtain ⟨q, hq⟩ := choose_lt each
    have hll : ((List.range len).map q).length = len := by simp
    refine ⟨(List.range len).map q, ⟨some x, m, by rw [hll], by rw [hll]; exact hl, fun h0 => ?_⟩, ?_, fun y hy => ?_⟩
    · rw [hll] at h0
      obtain ⟨h1, _, h3⟩ := hq 0 (by omega)
      obtain ⟨u, hu⟩ : ∃ u, (cs (q 0))[0]? = some u := ⟨_, List.getElem?_eq_getElem (by omega)⟩
      have h4 := h1 0 u hu
      obtain ⟨b, off, spot⟩ := x
      have hspot : spot = none := by simpa [Addr.add] using World.cell?_spot h4
      subst hspot
      rw [add_plain, add_plain] at h4
      refine ⟨b, off, rfl, World.block_lt_of_cell? _ _ h4, fun j y hj i u hu => ?_⟩
      have hjl : j < len := by rw [← hll]; exact (List.getElem?_eq_some_iff.1 hj).1
      have hyq : q j = y := by simpa [hjl] using hj
      rw [← hyq] at hu
      have := (hq j (by omega)).1 i u hu
      rw [add_plain, add_plain] at this
      exact this
    · rw [hll]
      unfold maxLen at hm
      omega
    · rw [List.mem_map] at hy
      obtain ⟨i, hi, rfl⟩ := hy
      exact (hq i (by have := List.mem_range.1 hi; omega)).2.1
end Go.Proofs.Ytddlgnfghecncaa
/- The walks of the document's answers for layer 5: what a move does, and the move that does so. -/
namespace Go.Proofs.Ytddlgnfghecncaa
open Go.RowKit

/-- what a move does: steps on, and quarters to the left -/
def pln (m : Int × Int) : Int × Int := if m.1 = 1 then (cnt m, 0) else if m.1 = 2 then (-cnt m, 0) else if m.1 = 3 then (0, cnt m % 4) else if m.1 = 4 then (0, 3 * cnt m % 4) else (0, 0)

/-- the move that does so -/
def one1 (s q : Int) : List (Int × Int) := if 0 < s then [(1, s)] else if s < 0 then [(2, -s)] else if q = 3 then [(4, 1)] else if 0 < q then [(3, q)] else []
theorem own_lit (w : World) (e : TypeId) (x y : Int) : PairsAt (w.alloc (.cells #[.int .i64 x, .int .i64 y] e)) (.slice (some ⟨w.heap.size, 0, none⟩) 1 1) [(x, y)] := by
  have o : OwnP (w.alloc (.cells #[.int .i64 x, .int .i64 y] e)) w.heap.size e (.slice (some ⟨w.heap.size, 0, none⟩) 1 1) [(x, y)] :=
    ⟨rfl, .inr ⟨w.heap.size, 1, #[.int .i64 x, .int .i64 y], rfl, Nat.le_refl _, heap_alloc_new w _, Nat.le_refl _, by decide, rfl, rfl⟩⟩
  exact o.pairs

end Go.Proofs.Ytddlgnfghecncaa
/- What moves do, put together: one way to be short. Plain mathematics. -/
namespace Go.Proofs.Ytddlgnfghecncaa

/-- steps on, or quarters to the left -/
abbrev P2 := Int × Int
def sort2 (x : P2) : Bool := decide (x.1 ≠ 0)
def Gd (x : P2) : Prop := (x.2 = 0 ∨ x.1 = 0) ∧ 0 ≤ x.2 ∧ x.2 ≤ 3
def comb (x y : P2) : P2 := (x.1 + y.1, (x.2 + y.2) % 4)
theorem comb_gd {x y : P2} (hx : Gd x) (hy : Gd y) (h : sort2 x = sort2 y) : Gd (comb x y) := by
  obtain ⟨a, b⟩ := x
  obtain ⟨c, d⟩ := y
  unfold Gd comb sort2 at *
  simp only [decide_eq_decide] at *
  omega
theorem comb_sort {x y : P2} (hx : Gd x) (hy : Gd y) (h : sort2 x = sort2 y) (h0 : comb x y ≠ (0, 0)) : sort2 (comb x y) = sort2 x := by
  obtain ⟨a, b⟩ := x
  obtain ⟨c, d⟩ := y
  unfold Gd comb sort2 at *
  simp only [decide_eq_decide, ne_eq, Prod.mk.injEq] at *
  omega

/-- one of the first things to do: none of nothing -/
def mrg1 : List P2 → Option (List P2)
  | [] => none
  | [x] => if x = (0, 0) then some [] else none
  | x :: y :: l => if x = (0, 0) then some (y :: l) else if sort2 x = sort2 y ∧ y ≠ (0, 0) then some (comb x y :: l) else (mrg1 (y :: l)).map (x :: ·)

/-- what is put on what stands on top -/
def psh (s : List P2) (x : P2) : List P2 :=
  if x = (0, 0) then s else
  match s with
  | [] => [x]
  | t :: s' => if sort2 t = sort2 x then (if comb t x = (0, 0) then s' else comb t x :: s') else x :: t :: s'
def nfs (l : List P2) : List P2 := l.foldl psh []

/-- sorts in turn, nothing of nothing -/
def Alt : List P2 → Prop
  | [] => True
  | [x] => Gd x ∧ x ≠ (0, 0)
  | x :: y :: l => Gd x ∧ x ≠ (0, 0) ∧ sort2 x ≠ sort2 y ∧ Alt (y :: l)
theorem Alt.tail {x : P2} {l : List P2} (h : Alt (x :: l)) : Alt l := by
  cases l with
  | nil => trivial
  | cons y l => exact h.2.2.2
theorem Alt.head {x : P2} {l : List P2} (h : Alt (x :: l)) : Gd x ∧ x ≠ (0, 0) := by
  cases l with
  | nil => exact h
  | cons y l => exact ⟨h.1, h.2.1⟩
theorem Alt.swap {x c : P2} {l : List P2} (h : Alt (x :: l)) (hg : Gd c) (h0 : c ≠ (0, 0)) (hs : sort2 c = sort2 x) : Alt (c :: l) := by
  cases l with
  | nil => exact ⟨hg, h0⟩
  | cons y l => exact ⟨hg, h0, by rw [hs]; exact h.2.2.1, h.2.2.2⟩
theorem psh_alt {s : List P2} {x : P2} (hs : Alt s) (hx : Gd x) : Alt (psh s x) := by
  unfold psh
  by_cases h0 : x = (0, 0)
  · rw [if_pos h0]; exact hs
  · rw [if_neg h0]
    cases s with
    | nil => exact ⟨hx, h0⟩
    | cons t s' =>
      simp only
      by_cases h1 : sort2 t = sort2 x
      · rw [if_pos h1]
        by_cases h2 : comb t x = (0, 0)
        · rw [if_pos h2]; exact hs.tail
        · rw [if_neg h2]
          exact hs.swap (comb_gd hs.head.1 hx h1) h2 (comb_sort hs.head.1 hx h1 h2)
      · rw [if_neg h1]
        exact ⟨hx, h0, fun e => h1 e.symm, hs⟩
theorem comb_assoc (x y z : P2) : comb (comb x y) z = comb x (comb y z) := by
  unfold comb
  refine Prod.ext ?_ ?_
  · simp only; omega
  · simp only; omega
theorem comb_undo {t x y : P2} (hx : Gd y) (h : comb t x = (0, 0)) : comb t (comb x y) = y := by
  rw [← comb_assoc, h]
  obtain ⟨c, d⟩ := y
  unfold comb Gd at *
  refine Prod.ext ?_ ?_
  · simp only at *; omega
  · simp only at *; omega
theorem comb_back {t x y : P2} (ht : Gd t) (hy : Gd y) (h : comb t x = (0, 0)) (h' : comb x y = (0, 0)) : y = t := by
  have e := comb_undo hy h
  rw [h'] at e
  rw [← e]
  obtain ⟨c, d⟩ := t
  unfold comb Gd at *
  refine Prod.ext ?_ ?_
  · simp only at *; omega
  · simp only at *; omega

/-- two of one sort, one behind the other, are one -/
theorem psh_two {s : List P2} {x y : P2} (hs : Alt s) (hx : Gd x) (hy : Gd y) (x0 : x ≠ (0, 0)) (y0 : y ≠ (0, 0)) (h : sort2 x = sort2 y) : psh (psh s x) y = psh s (comb x y) := by
  have pn : ∀ {s : List P2}, psh s (0, 0) = s := fun {s} => by unfold psh; rw [if_pos rfl]
  cases s with
  | nil =>
    have e : psh [] x = [x] := by unfold psh; rw [if_neg x0]
    rw [e]
    by_cases hc : comb x y = (0, 0)
    · rw [hc, pn]
      unfold psh
      rw [if_neg y0]
      simp only
      rw [if_pos h, if_pos hc]
    · unfold psh
      rw [if_neg y0, if_neg hc]
      simp only
      rw [if_pos h, if_neg hc]
  | cons t s' =>
    have ht := hs.head
    by_cases h1 : sort2 t = sort2 x
    · by_cases h2 : comb t x = (0, 0)
      · -- x takes the top away
        have e : psh (t :: s') x = s' := by unfold psh; rw [if_neg x0]; simp only; rw [if_pos h1, if_pos h2]
        rw [e]
        have e2 : psh s' y = y :: s' := by
          unfold psh
          rw [if_neg y0]
          cases s' with
          | nil => rfl
          | cons r s'' =>
            simp only
            rw [if_neg (fun e => hs.2.2.1 (by rw [h1, h, e]))]
        rw [e2]
        by_cases hc : comb x y = (0, 0)
        · rw [hc, pn, comb_back ht.1 hy h2 hc]
        · have h3 : sort2 t = sort2 (comb x y) := by rw [comb_sort hx hy h hc, h1]
          have e3 := comb_undo hy h2
          unfold psh
          rw [if_neg hc]
          simp only
          rw [if_pos h3, e3, if_neg y0]
      · have e : psh (t :: s') x = comb t x :: s' := by unfold psh; rw [if_neg x0]; simp only; rw [if_pos h1, if_neg h2]
        have h4 : sort2 (comb t x) = sort2 y := by rw [comb_sort ht.1 hx h1 h2, h1, h]
        rw [e]
        by_cases hc : comb x y = (0, 0)
        · rw [hc, pn]
          have e5 : comb (comb t x) y = t := by
            rw [comb_assoc, hc]
            obtain ⟨c, d⟩ := t
            have := ht.1
            unfold comb Gd at *
            refine Prod.ext ?_ ?_
            · simp only at *; omega
            · simp only at *; omega
          unfold psh
          rw [if_neg y0]
          simp only
          rw [if_pos h4, e5, if_neg ht.2]
        · have h3 : sort2 t = sort2 (comb x y) := by rw [comb_sort hx hy h hc, h1]
          unfold psh
          rw [if_neg y0, if_neg hc]
          simp only
          rw [if_pos h4, if_pos h3, comb_assoc]
    · have e : psh (t :: s') x = x :: t :: s' := by unfold psh; rw [if_neg x0]; simp only; rw [if_neg h1]
      rw [e]
      by_cases hc : comb x y = (0, 0)
      · rw [hc, pn]
        unfold psh
        rw [if_neg y0]
        simp only
        rw [if_pos h, if_pos hc]
      · have h3 : sort2 t ≠ sort2 (comb x y) := by rw [comb_sort hx hy h hc]; exact h1
        unfold psh
        rw [if_neg y0, if_neg hc]
        simp only
        rw [if_pos h, if_neg hc, if_neg h3]

/-- a thing done changes nothing of what comes out -/
theorem mrg_nf {l l' : List P2} (hl : ∀ x ∈ l, Gd x) (h : mrg1 l = some l') : (∀ x ∈ l', Gd x) ∧ l'.length + 1 = l.length ∧ ∀ s, Alt s → l.foldl psh s = l'.foldl psh s := by
  induction l generalizing l' with
  | nil => simp [mrg1] at h
  | cons x l ih =>
    have gx := hl x (by simp)
    cases l with
    | nil =>
      unfold mrg1 at h
      split at h
      · rename_i e
        cases h
        refine ⟨by simp, rfl, fun s _ => ?_⟩
        subst e
        simp [psh]
      · cases h
    | cons y l =>
      have gy := hl y (by simp)
      unfold mrg1 at h
      by_cases h0 : x = (0, 0)
      · rw [if_pos h0] at h
        cases h
        refine ⟨fun z hz => hl z (by simp at hz ⊢; exact .inr hz), rfl, fun s _ => ?_⟩
        subst h0
        simp [psh]
      · rw [if_neg h0] at h
        by_cases h1 : sort2 x = sort2 y ∧ y ≠ (0, 0)
        · rw [if_pos h1] at h
          cases h
          refine ⟨fun z hz => ?_, rfl, fun s hs => ?_⟩
          · simp at hz
            rcases hz with rfl | hz
            · exact comb_gd gx gy h1.1
            · exact hl z (by simp; exact .inr (.inr hz))
          · simp only [List.foldl_cons]
            rw [psh_two hs gx gy h0 h1.2 h1.1]
        · rw [if_neg h1] at h
          cases hm : mrg1 (y :: l) with
          | none => rw [hm] at h; cases h
          | some t =>
            rw [hm] at h
            cases h
            obtain ⟨a, b, c⟩ := ih (fun z hz => hl z (List.mem_cons_of_mem _ hz)) hm
            refine ⟨fun z hz => ?_, by simp only [List.length_cons] at b ⊢; omega, fun s hs => ?_⟩
            · simp at hz
              rcases hz with rfl | hz
              · exact gx
              · exact a z hz
            · rw [List.foldl_cons, List.foldl_cons]
              exact c _ (psh_alt hs gx)
/-- what nothing is to be done to: sorts in turn -/
theorem mrg_none {l : List P2} (hl : ∀ x ∈ l, Gd x) (h : mrg1 l = none) : Alt l := by
  induction l with
  | nil => trivial
  | cons x l ih =>
    have gx := hl x (by simp)
    cases l with
    | nil =>
      unfold mrg1 at h
      split at h
      · cases h
      · rename_i e; exact ⟨gx, e⟩
    | cons y l =>
      unfold mrg1 at h
      by_cases h0 : x = (0, 0)
      · rw [if_pos h0] at h; cases h
      · rw [if_neg h0] at h
        by_cases h1 : sort2 x = sort2 y ∧ y ≠ (0, 0)
        · rw [if_pos h1] at h; cases h
        · rw [if_neg h1] at h
          have hm : mrg1 (y :: l) = none := by
            cases hm : mrg1 (y :: l) with
            | none => rfl
            | some t => rw [hm] at h; cases h
          have ha := ih (fun z hz => hl z (List.mem_cons_of_mem _ hz)) hm
          exact ⟨gx, h0, fun e => h1 ⟨e, ha.head.2⟩, ha⟩
theorem foldl_alt {a s : List P2} (h : Alt (a.reverse ++ s)) : a.foldl psh s = a.reverse ++ s := by
  induction a generalizing s with
  | nil => rfl
  | cons x a ih =>
    rw [List.reverse_cons, List.append_assoc] at h ⊢
    rw [List.foldl_cons]
    have h1 : Alt (x :: s) := by
      clear ih
      generalize a.reverse = r at h
      induction r with
      | nil => exact h
      | cons y r ihr => exact ihr (Alt.tail h)
    have e : psh s x = x :: s := by
      unfold psh
      rw [if_neg h1.head.2]
      cases s with
      | nil => rfl
      | cons t s' => simp only; rw [if_neg (fun e => h1.2.2.1 e.symm)]
    rw [e]
    exact ih h
theorem Alt.reverse_aux {l s : List P2} (h : Alt l) (hs : Alt s) (hj : ∀ x y, l.head? = some x → s.head? = some y → sort2 x ≠ sort2 y) : Alt (l.reverse ++ s) := by
  induction l generalizing s with
  | nil => exact hs
  | cons x l ih =>
    rw [List.reverse_cons, List.append_assoc]
    have hx : Alt (x :: s) := by
      cases s with
      | nil => exact h.head
      | cons y s => exact ⟨h.head.1, h.head.2, hj x y rfl rfl, hs⟩
    refine ih h.tail hx ?_
    intro a b ha hb
    simp at hb
    subst hb
    cases l with
    | nil => simp at ha
    | cons z l => simp at ha; subst ha; exact fun e => h.2.2.1 e.symm
theorem Alt.reverse {l : List P2} (h : Alt l) : Alt l.reverse := by
  have := h.reverse_aux (s := []) trivial (by simp)
  simpa using this
/-- what is short comes out as it is -/
theorem nfs_alt {l : List P2} (h : Alt l) : nfs l = l.reverse := by
  unfold nfs
  have := foldl_alt (a := l) (s := []) (by simpa using h.reverse)
  simpa using this
theorem nfs_is {l l' : List P2} (hl : ∀ x ∈ l, Gd x) (h : mrg1 l = some l') : nfs l = nfs l' := (mrg_nf hl h).2.2 [] trivial
theorem alt_nfs {l : List P2} (hl : ∀ x ∈ l, Gd x) : Alt (nfs l) := by
  unfold nfs
  have : ∀ s, Alt s → Alt (l.foldl psh s) := by
    induction l with
    | nil => exact fun s h => h
    | cons x l ih => exact fun s h => ih (fun z hz => hl z (List.mem_cons_of_mem _ hz)) _ (psh_alt h (hl x (by simp)))
  exact this [] trivial
end Go.Proofs.Ytddlgnfghecncaa
