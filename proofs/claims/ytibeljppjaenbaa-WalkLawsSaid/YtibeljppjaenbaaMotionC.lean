/- The walks of package motion: Fix, Do, Then, Back. -/
import Derived.Test.YtibeljppjaenbaaMotionB
namespace Go.Proofs.Ytibeljppjaenbaa
open Go.RowKit
attribute [local go_sem] store_complex

theorem fx_lt (n : Int) : (fx n).natAbs < 2 ^ 53 := by have := fx_abs n; omega
theorem rot_lt {q : Nat} {x y : Int} {B : Nat} (hx : x.natAbs ≤ B) (hy : y.natAbs ≤ B) (hB : B < 2 ^ 50) : (rot q x y).1.natAbs < 2 ^ 53 ∧ (rot q x y).2.natAbs < 2 ^ 53 := by
  obtain ⟨h1, h2⟩ := rot_abs q x y B hx hy
  omega

set_option maxHeartbeats 1000000 in
theorem mthen_any (n x y m u v : Int) (w : World) : Calls Try.prog 25 #[.agg #[.int .i64 n, .int .i64 x, .int .i64 y], .agg #[.int .i64 m, .int .i64 u, .int .i64 v]] w fun e w' => e = .returned (.agg #[.int .i64 (((qr n + qr m) % 4 : Nat) : Int), .int .i64 ((rot (qr m) (fx x) (fx y)).1 + fx u), .int .i64 ((rot (qr m) (fx x) (fx y)).2 + fx v)]) ∧ Below w.heap.size w w' := by
  obtain ⟨v1, k1, h1⟩ := reckon_rk n x y
  obtain ⟨v2, k2, h2⟩ := reckon_rk m u v
  obtain ⟨v3, k3, h3⟩ := thenr_any k1 k2 (fx_abs x) (fx_abs y) (fx_abs u) (fx_abs v) (by omega)
  obtain ⟨l1, l2⟩ := rot_abs (qr m) (fx x) (fx y) _ (fx_abs x) (fx_abs y)
  have l3 := fx_abs u
  have l4 := fx_abs v
  have h4 := fun w => tell_rk k3 (by omega) (by omega) w
  clear k1 k2 k3 l1 l2 l3 l4
  generalize (((qr n + qr m) % 4 : Nat) : Int) = T at h4 ⊢
  generalize (rot (qr m) (fx x) (fx y)).1 + fx u = X at h4 ⊢
  generalize (rot (qr m) (fx x) (fx y)).2 + fx v = Y at h4 ⊢
  have H1 := Lib.hid h1
  have H2 := Lib.hid h2
  have H3 := Lib.hid h3
  have H4 := Lib.hid h4
  clear h1 h2 h3 h4
  have hB : Below w.heap.size w (((w.alloc (.cells #[.int .i64 n, .int .i64 x, .int .i64 y] 36)).alloc (.cells #[.int .i64 m, .int .i64 u, .int .i64 v] 36)).alloc (.cells #[.int .i64 0, .int .i64 0, .int .i64 0] 36)) := (((Below.refl _ _).alloc (Nat.le_refl _) _).alloc (by simp) _).alloc (by simp; omega) _
  have C0 := ((Cell3.new w (.int .i64 n) (.int .i64 x) (.int .i64 y) 36).alloc (.cells #[.int .i64 m, .int .i64 u, .int .i64 v] 36)).alloc (.cells #[.int .i64 0, .int .i64 0, .int .i64 0] 36)
  have C1 := (Cell3.new (w.alloc (.cells #[.int .i64 n, .int .i64 x, .int .i64 y] 36)) (.int .i64 m) (.int .i64 u) (.int .i64 v) 36).alloc (.cells #[.int .i64 0, .int .i64 0, .int .i64 0] 36)
  have C2 := Cell3.new ((w.alloc (.cells #[.int .i64 n, .int .i64 x, .int .i64 y] 36)).alloc (.cells #[.int .i64 m, .int .i64 u, .int .i64 v] 36)) (.int .i64 0) (.int .i64 0) (.int .i64 0) 36
  simp only [World.size_alloc] at C0 C1 C2
  go_enter Try.func25, Try.ntmps25
  go_wp2
  refine wp_region_calmT 6 (by kernel_rfl) (by simp) (by kernel_rfl) fun M => ?_
  simp only [List.take_succ_cons, List.take_zero, List.drop_succ_cons, List.drop_zero]
  have e0 := fun n : In M.w => n.cell (M.cell C0.c0)
  have e1 := fun n : In M.w => n.cell (M.cell C0.c1)
  have e2 := fun n : In M.w => n.cell (M.cell C0.c2)
  have e3 := fun n : In M.w => n.cell (M.cell C1.c0)
  have e4 := fun n : In M.w => n.cell (M.cell C1.c1)
  have e5 := fun n : In M.w => n.cell (M.cell C1.c2)
  repeat (go_big_quiet_step (first
    | (go_at_call 53; with_reducible exact In.call (H1.out _))
    | (go_at_call 53; with_reducible exact In.call (H2.out _))
    | (go_at_call 52; exact In.call (H3.out _))
    | (go_at_call 51; exact In.call (H4.out _))))
  refine wpQuiet_nil ?_
  intro w2 hb
  obtain ⟨g0, g1, g2, z0, z1, z2⟩ := C2.kept hb
  replace hB := hB.trans (hb.mono hB.size)
  clear hb e0 e1 e2 e3 e4 e5
  go_wp2
  refine bodyPost_ret (v := .agg #[.int .i64 T, .int .i64 X, .int .i64 Y]) ?_ rfl ⟨rfl, ((hB.setCell (by simp; omega) _).setCell (by simp; omega) _).setCell (by simp; omega) _⟩
  simp [results, Try.results25, go_sem, g0, g1, g2, z0, z1, z2]

/-- the rest to four quarters -/
theorem unit_rest {q : Nat} (h : q < 4) : uq ((4 - q) % 4) = uq q ∧ vq ((4 - q) % 4) = -vq q := by
  have : q = 0 ∨ q = 1 ∨ q = 2 ∨ q = 3 := by omega
  rcases this with rfl | rfl | rfl | rfl <;> decide

set_option maxHeartbeats 1000000 in
theorem mback_any (n x y : Int) (w : World) : Calls Try.prog 26 #[.agg #[.int .i64 n, .int .i64 x, .int .i64 y]] w fun e w' => e = .returned (.agg #[.int .i64 (((4 - qr n) % 4 : Nat) : Int), .int .i64 (rot ((4 - qr n) % 4) (-fx x) (-fx y)).1, .int .i64 (rot ((4 - qr n) % 4) (-fx x) (-fx y)).2]) ∧ Below w.heap.size w w' := by
  obtain ⟨v, hv, h1⟩ := reckon_rk n x y
  obtain ⟨a, b, c, d, rfl, ha, hb, hc, hd⟩ := hv.is
  obtain ⟨r, hr⟩ : ∃ r, (4 - qr n) % 4 = r := ⟨_, rfl⟩
  obtain ⟨u1, u2⟩ := unit_rest (qr_lt n)
  rw [hr] at u1 u2
  rw [hr]
  have hb' := neg_whole hb
  rw [← u2] at hb'
  rw [← u1] at ha
  have hneg : Op.unary .neg (.complex .f64 c d) = pure (.complex .f64 (Op.negFloat .f64 c) (Op.negFloat .f64 d)) := rfl
  have k1 : (-fx x).natAbs ≤ 1048576 := by have := fx_abs x; omega
  have k2 : (-fx y).natAbs ≤ 1048576 := by have := fx_abs y; omega
  obtain ⟨r1, f1, f2⟩ := tMul_run r ha hb' (neg_whole hc) (neg_whole hd) k1 k2 (by omega)
  obtain ⟨l1, l2⟩ := rot_abs r (-fx x) (-fx y) _ k1 k2
  have hm := fun w => mmirrored_any a b w
  have h2 := fun w => tell_any a (Op.negFloat .f64 b) _ _ r _ _ (by omega) ha hb' f1 f2 (by omega) (by omega) w
  clear f1 f2 l1 l2 k1 k2 ha hb hb' hc hd hv u1 u2 hr
  generalize (rot r (-fx x) (-fx y)).1 = X at *
  generalize (rot r (-fx x) (-fx y)).2 = Y at *
  generalize (r : Int) = T at *
  generalize Op.negFloat .f64 b = nb at *
  generalize Op.negFloat .f64 c = nc at *
  generalize Op.negFloat .f64 d = nd at *
  generalize mulRe a nb nc nd = m1 at *
  generalize mulIm a nb nc nd = m2 at *
  have H1 := Lib.hid h1
  have H2 := Lib.hid h2
  have H3 := Lib.hid hm
  clear h1 h2 hm
  have hB : Below w.heap.size w ((w.alloc (.cells #[.int .i64 n, .int .i64 x, .int .i64 y] 36)).alloc (.cells #[.int .i64 0, .int .i64 0, .int .i64 0] 36)) := ((Below.refl _ _).alloc (Nat.le_refl _) _).alloc (by simp) _
  have C := Cell3.new (w.alloc (.cells #[.int .i64 n, .int .i64 x, .int .i64 y] 36)) (.int .i64 0) (.int .i64 0) (.int .i64 0) 36
  simp only [World.size_alloc] at C
  go_enter Try.func26, Try.ntmps26
  go_wp2_with (first
    | (go_at_call 53; refine (H1.out _).mono ?_; rintro e w1 ⟨rfl, hb⟩; replace hB := hB.trans (hb.mono hB.size); replace hB := hB.alloc hB.size (.cells #[.complex .f64 a b, .complex .f64 c d] 96); replace C := (C.kept hb).alloc (.cells #[.complex .f64 a b, .complex .f64 c d] 96); clear hb)
    | (go_at_call 54; refine (H3.out _).mono ?_; rintro e w3 ⟨rfl, rfl⟩)
    | (go_at_call 51; refine (H2.out _).mono ?_; rintro e w2 ⟨rfl, hb⟩; replace hB := hB.trans (hb.mono hB.size); obtain ⟨g0, g1, g2, z0, z1, z2⟩ := C.kept hb; clear hb))
  refine bodyPost_ret (v := .agg #[.int .i64 T, .int .i64 X, .int .i64 Y]) ?_ rfl ⟨rfl, ((hB.setCell (by simp) _).setCell (by simp) _).setCell (by simp) _⟩
  simp [results, Try.results26, go_sem, g0, g1, g2, z0, z1, z2]
end Go.Proofs.Ytibeljppjaenbaa
