/- The walks of package motion: Fix, Do, Then, Back. -/
import Derived.Test.YthndmoipemnllaaMotionB
namespace Go.Proofs.Ythndmoipemnllaa
open Go.RowKit
attribute [local go_sem] store_complex

theorem fx_lt (n : Int) : (fx n).natAbs < 2 ^ 53 := by have := fx_abs n; omega
theorem rot_lt {q : Nat} {x y : Int} {B : Nat} (hx : x.natAbs ≤ B) (hy : y.natAbs ≤ B) (hB : B < 2 ^ 50) : (rot q x y).1.natAbs < 2 ^ 53 ∧ (rot q x y).2.natAbs < 2 ^ 53 := by
  obtain ⟨h1, h2⟩ := rot_abs q x y B hx hy
  omega

set_option maxHeartbeats 1000000 in
theorem mdo_any (n x y p1 p2 : Int) (w : World) : Calls Try.prog 31 #[.agg #[.int .i64 n, .int .i64 x, .int .i64 y], .agg #[.int .i64 p1, .int .i64 p2]] w fun e w' => e = .returned (.agg #[.int .i64 ((rot (qr n) (fx p1) (fx p2)).1 + fx x), .int .i64 ((rot (qr n) (fx p1) (fx p2)).2 + fx y)]) ∧ Below w.heap.size w w' := by
  obtain ⟨v, hv, h1⟩ := reckon_rk n x y
  obtain ⟨a, b, c, d, rfl, ha, hb, hc, hd⟩ := hv.is
  obtain ⟨r1, f1, f2⟩ := tMul_run (qr n) ha hb (fl_fx p1) (fl_fx p2) (fx_abs p1) (fx_abs p2) (by omega)
  obtain ⟨l1, l2⟩ := rot_abs (qr n) (fx p1) (fx p2) _ (fx_abs p1) (fx_abs p2)
  have l3 := fx_abs x
  have l4 := fx_abs y
  obtain ⟨r2, f3, f4⟩ := cSum_whole 41 f1 f2 hc hd rfl (by omega) (by omega)
  have h2 := fun w => mpoint_any _ _ _ _ f3 f4 (by omega) (by omega) w
  have h3 := fun w => mnumber_any p1 p2 w
  clear f1 f2 f3 f4 l1 l2 l3 l4 ha hb hc hd hv
  generalize (rot (qr n) (fx p1) (fx p2)).1 + fx x = X at h2 ⊢
  generalize (rot (qr n) (fx p1) (fx p2)).2 + fx y = Y at h2 ⊢
  generalize fl (fx p1) = P at *
  generalize fl (fx p2) = R at *
  generalize mulRe a b P R = m1 at *
  generalize mulIm a b P R = m2 at *
  generalize fbits .add m1 c = m3 at *
  generalize fbits .add m2 d = m4 at *
  have H1 := Lib.hid h1
  have H2 := Lib.hid h2
  have H3 := Lib.hid h3
  clear h1 h2 h3
  have hB : Below w.heap.size w (((w.alloc (.cells #[.int .i64 n, .int .i64 x, .int .i64 y] 25)).alloc (.cells #[.int .i64 p1, .int .i64 p2] 23)).alloc (.cells #[.int .i64 0, .int .i64 0] 23)) := (((Below.refl _ _).alloc (Nat.le_refl _) _).alloc (by simp) _).alloc (by simp; omega) _
  have C1 := (Cell2.new (w.alloc (.cells #[.int .i64 n, .int .i64 x, .int .i64 y] 25)) (.int .i64 p1) (.int .i64 p2) 23).alloc (.cells #[.int .i64 0, .int .i64 0] 23)
  have C2 := Cell2.new ((w.alloc (.cells #[.int .i64 n, .int .i64 x, .int .i64 y] 25)).alloc (.cells #[.int .i64 p1, .int .i64 p2] 23)) (.int .i64 0) (.int .i64 0) 23
  simp only [World.size_alloc] at C1 C2
  go_enter Try.func31, Try.ntmps31
  go_wp2_with (go_at_call 39; refine (H1.out _).mono ?_; rintro e w1 ⟨rfl, hb⟩; replace hB := (hB.trans (hb.mono hB.size)); replace hB := hB.alloc hB.size (.cells #[.complex .f64 a b, .complex .f64 c d] 55); replace C1 := (C1.kept hb).alloc (.cells #[.complex .f64 a b, .complex .f64 c d] 55); replace C2 := (C2.kept hb).alloc (.cells #[.complex .f64 a b, .complex .f64 c d] 55); have C3 := Cell2.new w1 (.complex .f64 a b) (.complex .f64 c d) 55; clear hb)
  refine wp_region_calmT 9 (by kernel_rfl) (by simp) (by kernel_rfl) fun M => ?_
  simp only [List.take_succ_cons, List.take_zero, List.drop_succ_cons, List.drop_zero]
  have e0 := fun n : In M.w => n.cell (M.cell C1.c0)
  have e1 := fun n : In M.w => n.cell (M.cell C1.c1)
  have e2 := fun n : In M.w => n.cell (M.cell C3.c0)
  have e3 := fun n : In M.w => n.cell (M.cell C3.c1)
  repeat (go_big_quiet_step (first
    | (go_at_call 41; exact In.call (H3.out _))
    | (go_at_call 40; exact In.call (H2.out _))))
  refine wpQuiet_nil ?_
  intro w2 hb
  obtain ⟨g0, g1, z0, z1⟩ := C2.kept hb
  replace hB := hB.trans (hb.mono hB.size)
  clear hb e0 e1 e2 e3
  go_wp2
  refine bodyPost_ret (v := .agg #[.int .i64 X, .int .i64 Y]) ?_ rfl ⟨rfl, (hB.setCell (by simp; omega) _).setCell (by simp; omega) _⟩
  simp [results, Try.results31, go_sem, g0, g1, z0, z1]

/-- the rest to four quarters -/
theorem unit_rest {q : Nat} (h : q < 4) : uq ((4 - q) % 4) = uq q ∧ vq ((4 - q) % 4) = -vq q := by
  have : q = 0 ∨ q = 1 ∨ q = 2 ∨ q = 3 := by omega
  rcases this with rfl | rfl | rfl | rfl <;> decide

end Go.Proofs.Ythndmoipemnllaa
