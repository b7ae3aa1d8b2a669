/- The walks of package motion: numbers, points, turns. -/
import Derived.Test.YthndmoipemnllaaGaussC
import Derived.Laws.Entries
namespace Go.Proofs.Ythndmoipemnllaa
open Go.RowKit

theorem store_complex (P : Program) (w : World) (a : Addr) (m : Mode) (k : FloatKind) (x y : Nat) : (store a (.complex k x y) m).run P w = stored P w a (.complex k x y) m := run_store P w a _ m rfl
attribute [local go_sem] store_complex

/-- a block of three cells that may be written -/
structure Cell3 (w : World) (b : Nat) (u v x : Value) : Prop where
  c0 : w.cell? ⟨b, 0, none⟩ = some u
  c1 : w.cell? ⟨b, 1, none⟩ = some v
  c2 : w.cell? ⟨b, 2, none⟩ = some x
  z0 : w.frozen? ⟨b, 0, none⟩ = false
  z1 : w.frozen? ⟨b, 1, none⟩ = false
  z2 : w.frozen? ⟨b, 2, none⟩ = false
theorem Cell3.new (w : World) (u v x : Value) (t : TypeId) : Cell3 (w.alloc (.cells #[u, v, x] t)) w.heap.size u v x :=
  ⟨by go_simp, by go_simp, by go_simp, by go_simp, by go_simp, by go_simp⟩
theorem Cell3.below {w w1 : World} {b B : Nat} {u v x : Value} (h : Cell3 w b u v x) (hb : Below B w w1) (hB : b < B) : Cell3 w1 b u v x :=
  ⟨by rw [hb.cell hB]; exact h.c0, by rw [hb.cell hB]; exact h.c1, by rw [hb.cell hB]; exact h.c2, by rw [hb.frozen hB]; exact h.z0, by rw [hb.frozen hB]; exact h.z1, by rw [hb.frozen hB]; exact h.z2⟩
theorem Cell3.kept {w w1 : World} {b : Nat} {u v x : Value} (h : Cell3 w b u v x) (hb : Below w.heap.size w w1) : Cell3 w1 b u v x :=
  h.below hb (World.block_lt_of_cell? w _ h.c0)
theorem Cell3.alloc {w : World} {b : Nat} {u v x : Value} (h : Cell3 w b u v x) (o : Obj) : Cell3 (w.alloc o) b u v x :=
  h.kept ((Below.refl _ _).alloc (Nat.le_refl _) _)
theorem Cell3.of_heap {w : World} {b : Nat} {u v x : Value} {t : TypeId} (h : w.heap[b]? = some (.cells #[u, v, x] t)) : Cell3 w b u v x :=
  ⟨by simp [World.cell?, h], by simp [World.cell?, h], by simp [World.cell?, h], by simp [World.frozen?, h], by simp [World.frozen?, h], by simp [World.frozen?, h]⟩

theorem Cell3.away {w : World} {b : Nat} {u v x : Value} (h : Cell3 w b u v x) (a : Addr) (y : Value) (hne : a.block ≠ b) : Cell3 (w.setCell a y) b u v x :=
  ⟨(World.cell?_setCell_other w a _ y (by rintro rfl; exact hne rfl)).trans h.c0, (World.cell?_setCell_other w a _ y (by rintro rfl; exact hne rfl)).trans h.c1, (World.cell?_setCell_other w a _ y (by rintro rfl; exact hne rfl)).trans h.c2, by simp [h.z0], by simp [h.z1], by simp [h.z2]⟩
theorem Cell2.away {w : World} {b : Nat} {u v : Value} (h : Cell2 w b u v) (a : Addr) (y : Value) (hne : a.block ≠ b) : Cell2 (w.setCell a y) b u v :=
  ⟨(World.cell?_setCell_other w a _ y (by rintro rfl; exact hne rfl)).trans h.c0, (World.cell?_setCell_other w a _ y (by rintro rfl; exact hne rfl)).trans h.c1, by simp [h.z0], by simp [h.z1]⟩
theorem Cell3.set {w : World} {b : Nat} {u v x : Value} (h : Cell3 w b u v x) (u' v' x' : Value) : Cell3 (((w.setCell ⟨b, 0, none⟩ u').setCell ⟨b, 1, none⟩ v').setCell ⟨b, 2, none⟩ x') b u' v' x' := by
  obtain ⟨c0, c1, c2, z0, z1, z2⟩ := h
  exact ⟨by simp [go_sem, c0, c1, c2], by simp [go_sem, c0, c1, c2], by simp [go_sem, c0, c1, c2], by simp [z0], by simp [z1], by simp [z2]⟩
theorem Cell2.set {w : World} {b : Nat} {u v : Value} (h : Cell2 w b u v) (u' v' : Value) : Cell2 ((w.setCell ⟨b, 0, none⟩ u').setCell ⟨b, 1, none⟩ v') b u' v' := by
  obtain ⟨c0, c1, z0, z1⟩ := h
  exact ⟨by simp [go_sem, c0, c1], by simp [go_sem, c0, c1], by simp [z0], by simp [z1]⟩

/-! ### Turns -/
theorem rot_zero (q : Nat) : rot q 0 0 = (0, 0) := by
  induction q with
  | zero => rfl
  | succ q ih => unfold rot; rw [ih]; rfl
theorem rot_four (q : Nat) (x y : Int) : rot (q + 4) x y = rot q x y := by
  simp [rot]
theorem rot_mod (q : Nat) (x y : Int) : rot (q % 4) x y = rot q x y := by
  have : ∀ k, rot (q % 4 + 4 * k) x y = rot (q % 4) x y := by
    intro k
    induction k with
    | zero => rfl
    | succ k ih => rw [show q % 4 + 4 * (k + 1) = (q % 4 + 4 * k) + 4 by omega, rot_four, ih]
  have h := this (q / 4)
  rw [show q % 4 + 4 * (q / 4) = q by omega] at h
  exact h.symm
theorem rot_add (q r : Nat) (x y : Int) : rot q (rot r x y).1 (rot r x y).2 = rot (q + r) x y := by
  induction q with
  | zero => simp [rot]
  | succ q ih => rw [show q + 1 + r = (q + r) + 1 by omega]; unfold rot; rw [ih]
theorem rot_sum (q : Nat) (x y u v : Int) : rot q (x + u) (y + v) = ((rot q x y).1 + (rot q u v).1, (rot q x y).2 + (rot q u v).2) := by
  induction q with
  | zero => rfl
  | succ q ih => unfold rot; rw [ih]; simp; omega
theorem rot_neg (q : Nat) (x y : Int) : rot q (-x) (-y) = (-(rot q x y).1, -(rot q x y).2) := by
  induction q with
  | zero => rfl
  | succ q ih => unfold rot; rw [ih]
/-- a turn's number -/
def uq (q : Nat) : Int := (rot q 1 0).1
def vq (q : Nat) : Int := (rot q 1 0).2
theorem unit_mul (q : Nat) (x y : Int) : uq q * x - vq q * y = (rot q x y).1 ∧ uq q * y + vq q * x = (rot q x y).2 := by
  induction q with
  | zero => simp [uq, vq, rot]
  | succ q ih =>
    obtain ⟨h1, h2⟩ := ih
    have e1 : uq (q + 1) = -vq q := rfl
    have e2 : vq (q + 1) = uq q := rfl
    rw [e1, e2]
    have e3 : (rot (q + 1) x y).1 = -(rot q x y).2 := rfl
    have e4 : (rot (q + 1) x y).2 = (rot q x y).1 := rfl
    rw [e3, e4, ← h1, ← h2]
    simp only [Int.neg_mul]
    omega
theorem unit_abs (q : Nat) : (uq q).natAbs ≤ 1 ∧ (vq q).natAbs ≤ 1 := rot_abs q 1 0 1 (by decide) (by decide)
theorem unit_fx (q : Nat) : fx (uq q) = uq q ∧ fx (vq q) = vq q := by
  obtain ⟨h1, h2⟩ := unit_abs q
  unfold fx
  omega
theorem unit_le (q : Nat) {x : Int} {B : Nat} (h : x.natAbs ≤ B) : (uq q * x).natAbs ≤ B ∧ (vq q * x).natAbs ≤ B := by
  obtain ⟨h1, h2⟩ := unit_abs q
  have a := mul_bd h1 h
  have b := mul_bd h2 h
  omega
theorem unit_one {q : Nat} (h : q < 4) : (uq q = 1 ∧ vq q = 0) ↔ q = 0 := by
  have : q = 0 ∨ q = 1 ∨ q = 2 ∨ q = 3 := by omega
  rcases this with rfl | rfl | rfl | rfl <;> decide
theorem fl_small {n : Int} (h : n.natAbs ≤ 1048576) : Fl (fl n) n := ofInt_whole (by omega)

/-- a turn's words, times a whole number's -/
theorem tMul_run {a b c d : Nat} {x y : Int} {B : Nat} (q : Nat) (ha : Fl a (uq q)) (hb : Fl b (vq q)) (hc : Fl c x) (hd : Fl d y) (hx : x.natAbs ≤ B) (hy : y.natAbs ≤ B) (hB : B < 2 ^ 50) :
    (∀ w, (binOp .mul 41 (.complex .f64 a b) (.complex .f64 c d)).run Try.prog w = .ok (.complex .f64 (mulRe a b c d) (mulIm a b c d)) w) ∧ Fl (mulRe a b c d) (rot q x y).1 ∧ Fl (mulIm a b c d) (rot q x y).2 := by
  have h1 := unit_le q hx
  have h2 := unit_le q hy
  have h := cMul_run 41 ha hb hc hd (by omega) (by omega) (by omega) (by omega)
  rw [(unit_mul q x y).1, (unit_mul q x y).2] at h
  exact h
theorem ord_eq {a b : Nat} {x y : Int} (ha : Fl a x) (hb : Fl b y) : (FloatKind.f64.format.order a b == some .eq) = decide (x = y) := by
  rw [order_whole ha hb]
  rcases Int.lt_trichotomy x y with h | h | h
  · rw [show compare x y = .lt from Int.compare_eq_lt.2 h, decide_eq_false (by omega)]; rfl
  · rw [show compare x y = .eq from Int.compare_eq_eq.2 h, decide_eq_true h]; rfl
  · rw [show compare x y = .gt from Int.compare_eq_gt.2 h, decide_eq_false (by omega)]; rfl
theorem cSum_whole {op : BinOp} (t : TypeId) {a b c d : Nat} {x y u v : Int} (ha : Fl a x) (hb : Fl b y) (hc : Fl c u) (hd : Fl d v) (hop : op = .add) (h1 : (x + u).natAbs < 2 ^ 53) (h2 : (y + v).natAbs < 2 ^ 53) :
    (∀ w, (binOp op t (.complex .f64 a b) (.complex .f64 c d)).run Try.prog w = .ok (.complex .f64 (fbits op a c) (fbits op b d)) w) ∧ Fl (fbits op a c) (x + u) ∧ Fl (fbits op b d) (y + v) := by
  subst hop
  obtain ⟨e1, f1⟩ := add_whole ha hc h1
  obtain ⟨e2, f2⟩ := add_whole hb hd h2
  exact ⟨cSum_run .add (by simp) t e1 e2, f1, f2⟩
theorem cDif_whole (t : TypeId) {a b c d : Nat} {x y u v : Int} (ha : Fl a x) (hb : Fl b y) (hc : Fl c u) (hd : Fl d v) (h1 : (x - u).natAbs < 2 ^ 53) (h2 : (y - v).natAbs < 2 ^ 53) :
    (∀ w, (binOp .sub t (.complex .f64 a b) (.complex .f64 c d)).run Try.prog w = .ok (.complex .f64 (fbits .sub a c) (fbits .sub b d)) w) ∧ Fl (fbits .sub a c) (x - u) ∧ Fl (fbits .sub b d) (y - v) := by
  obtain ⟨e1, f1⟩ := sub_whole ha hc h1
  obtain ⟨e2, f2⟩ := sub_whole hb hd h2
  exact ⟨cSum_run .sub (by simp) t e1 e2, f1, f2⟩

/-! ### The walks -/
theorem mnumber_any (x y : Int) (w : World) : Calls Try.prog 41 #[.agg #[.int .i64 x, .int .i64 y]] w fun e w' => e = .returned (.complex .f64 (fl (fx x)) (fl (fx y))) ∧ Below w.heap.size w w' := by
  go_enter Try.func41, Try.ntmps41
  go_wp2_with (go_at_call 38; refine (fix_any _ _ _).mono ?_; rintro e w1 ⟨rfl, hb⟩; obtain ⟨g0, g1, z0, z1⟩ := (Cell2.new w (.int .i64 x) (.int .i64 y) 23).kept hb; replace hb := ((Below.refl w.heap.size w).alloc (Nat.le_refl _) _).trans (hb.mono (by simp)))
  go_ret
  exact ⟨rfl, (hb.setCell (Nat.le_refl _) _).setCell (Nat.le_refl _) _⟩

theorem mpoint_any (p q : Nat) (x y : Int) (hp : Fl p x) (hq : Fl q y) (hx : x.natAbs < 2 ^ 53) (hy : y.natAbs < 2 ^ 53) (w : World) :
    Calls Try.prog 40 #[.complex .f64 p q] w fun e w' => e = .returned (.agg #[.int .i64 x, .int .i64 y]) ∧ Below w.heap.size w w' := by
  have k1 : ∀ w, (convert 49 3 (.float .f64 p)).run Try.prog w = .ok (.int .i64 x) w := fun w => run_convert_float_int w _ _ _ _ _ _ (by rw [Try.underlying49]; rfl) Try.underlying3 (toInt_whole hp (i64_in' hx).1 (i64_in' hx).2)
  have k2 : ∀ w, (convert 49 3 (.float .f64 q)).run Try.prog w = .ok (.int .i64 y) w := fun w => run_convert_float_int w _ _ _ _ _ _ (by rw [Try.underlying49]; rfl) Try.underlying3 (toInt_whole hq (i64_in' hy).1 (i64_in' hy).2)
  go_enter Try.func40, Try.ntmps40
  go_wp2
  refine bodyPost_ret (v := .agg #[.int .i64 x, .int .i64 y]) ?_ rfl ⟨rfl, (Below.refl _ _).alloc (Nat.le_refl _) _⟩
  simp [results, Try.results40, go_sem]

/-- quarters left of a number of turns -/
def qr (n : Int) : Nat := (n % 4).toNat
theorem qr_lt (n : Int) : qr n < 4 := by unfold qr; omega

set_option maxHeartbeats 2000000 in
theorem reckon_any (n x y : Int) (w : World) : Calls Try.prog 39 #[.agg #[.int .i64 n, .int .i64 x, .int .i64 y]] w fun e w' => e = .returned (.agg #[.complex .f64 (fl (uq (qr n))) (fl (vq (qr n))), .complex .f64 (fl (fx x)) (fl (fx y))]) ∧ Below w.heap.size w w' := by
  have f0 : fx 0 = 0 := by decide
  have f1 : fx 1 = 1 := by decide
  have t1 := fun w => turn_any 1 0 n w
  simp only [f0, f1] at t1
  have t2 := fun w => mnumber_any (uq (qr n)) (vq (qr n)) w
  rw [(unit_fx (qr n)).1, (unit_fx (qr n)).2] at t2
  change ∀ w, Calls _ _ _ w fun e w' => e = .returned (.agg #[.int .i64 (uq (qr n)), .int .i64 (vq (qr n))]) ∧ Below w.heap.size w w' at t1
  generalize uq (qr n) = U at t1 t2 ⊢
  generalize vq (qr n) = V at t1 t2 ⊢
  have T1 := Lib.hid t1
  have T2 := Lib.hid t2
  clear f0 f1 t1 t2
  go_enter Try.func39, Try.ntmps39
  go_wp2
  refine wp_region_calmT 9 (by kernel_rfl) (by simp) (by kernel_rfl) fun M => ?_
  simp only [List.take_succ_cons, List.take_zero, List.drop_succ_cons, List.drop_zero]
  have hc0 : ∀ n' : In M.w, n'.w.cell? ⟨w.heap.size, 0, none⟩ = some (.int .i64 n) := fun n' => n'.cell (M.cell (by go_simp))
  have hc1 : ∀ n' : In M.w, n'.w.cell? ⟨w.heap.size, 1, none⟩ = some (.int .i64 x) := fun n' => n'.cell (M.cell (by go_simp))
  have hc2 : ∀ n' : In M.w, n'.w.cell? ⟨w.heap.size, 2, none⟩ = some (.int .i64 y) := fun n' => n'.cell (M.cell (by go_simp))
  repeat (go_big_quiet_step (first
    | (go_at_call 45; with_reducible exact In.call (T1.out _))
    | (go_at_call 41; with_reducible exact In.call (T2.out _))
    | (go_at_call 41; exact In.call (mnumber_any _ _ _))))
  refine wpQuiet_nil ?_
  intro w1 hb
  obtain ⟨g0, g1, z0, z1⟩ := (Cell2.new (w.alloc (.cells #[.int .i64 n, .int .i64 x, .int .i64 y] 25)) (.complex .f64 0 0) (.complex .f64 0 0) 55).kept hb
  have hB : Below w.heap.size w w1 := (((Below.refl _ _).alloc (Nat.le_refl _) _).alloc (by simp) _).trans (hb.mono (by simp; omega))
  clear hb hc0 hc1 hc2
  simp only [World.size_alloc] at g0 g1 z0 z1
  go_wp2
  refine bodyPost_ret (v := .agg #[.complex .f64 (fl U) (fl V), .complex .f64 (fl (fx x)) (fl (fx y))]) ?_ rfl ⟨rfl, (hB.setCell (by simp) _).setCell (by simp) _⟩
  simp [results, Try.results39, go_sem, g0, g1, z0, z1]
end Go.Proofs.Ythndmoipemnllaa
