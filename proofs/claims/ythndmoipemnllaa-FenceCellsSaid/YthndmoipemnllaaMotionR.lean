/- The walks of the document's answers for layer 4. -/
import Derived.Test.YthndmoipemnllaaMotionC
import Derived.Test.YthndmoipemnllaaGaussS
namespace Go.Proofs.Ythndmoipemnllaa
open Go.RowKit
attribute [local go_sem] store_complex

theorem fx_fx (n : Int) : fx (fx n) = fx n := by unfold fx; omega
theorem fx_neg_fx (n : Int) : fx (-fx n) = -fx n := by unfold fx; omega
theorem fx_rot (q : Nat) (x y : Int) : fx (rot q (fx x) (fx y)).1 = (rot q (fx x) (fx y)).1 ∧ fx (rot q (fx x) (fx y)).2 = (rot q (fx x) (fx y)).2 := by
  obtain ⟨h1, h2⟩ := rot_abs q (fx x) (fx y) _ (fx_abs x) (fx_abs y)
  generalize (rot q (fx x) (fx y)).1 = a at *
  generalize (rot q (fx x) (fx y)).2 = b at *
  unfold fx
  omega
theorem qr_qr (n : Int) : qr ((qr n : Nat) : Int) = qr n := by unfold qr; omega

set_option maxHeartbeats 400000 in
theorem refMDo_any (n x y p1 p2 : Int) (w : World) : Calls Try.prog 32 #[.agg #[.int .i64 n, .int .i64 x, .int .i64 y], .agg #[.int .i64 p1, .int .i64 p2]] w fun e w' => e = .returned (.agg #[.int .i64 ((rot (qr n) (fx p1) (fx p2)).1 + fx x), .int .i64 ((rot (qr n) (fx p1) (fx p2)).2 + fx y)]) ∧ Below w.heap.size w w' := by
  have h1 := fun w => refTurn_any p1 p2 n w
  change ∀ w, Calls _ _ _ w fun e w' => e = .returned (.agg #[.int .i64 (rot (qr n) (fx p1) (fx p2)).1, .int .i64 (rot (qr n) (fx p1) (fx p2)).2]) ∧ Below w.heap.size w w' at h1
  have h2 := fun w => refAdd_any (rot (qr n) (fx p1) (fx p2)).1 (rot (qr n) (fx p1) (fx p2)).2 x y w
  rw [(fx_rot (qr n) p1 p2).1, (fx_rot (qr n) p1 p2).2] at h2
  generalize (rot (qr n) (fx p1) (fx p2)).1 = R at *
  generalize (rot (qr n) (fx p1) (fx p2)).2 = S at *
  generalize R + fx x = X at *
  generalize S + fx y = Y at *
  have H1 := Lib.hid h1
  have H2 := Lib.hid h2
  clear h1 h2
  have hB : Below w.heap.size w (((w.alloc (.cells #[.int .i64 n, .int .i64 x, .int .i64 y] 25)).alloc (.cells #[.int .i64 p1, .int .i64 p2] 23)).alloc (.cells #[.int .i64 0, .int .i64 0] 23)) := (((Below.refl _ _).alloc (Nat.le_refl _) _).alloc (by simp) _).alloc (by simp; omega) _
  have C0 := ((Cell3.new w (.int .i64 n) (.int .i64 x) (.int .i64 y) 25).alloc (.cells #[.int .i64 p1, .int .i64 p2] 23)).alloc (.cells #[.int .i64 0, .int .i64 0] 23)
  have C1 := (Cell2.new (w.alloc (.cells #[.int .i64 n, .int .i64 x, .int .i64 y] 25)) (.int .i64 p1) (.int .i64 p2) 23).alloc (.cells #[.int .i64 0, .int .i64 0] 23)
  have C2 := Cell2.new ((w.alloc (.cells #[.int .i64 n, .int .i64 x, .int .i64 y] 25)).alloc (.cells #[.int .i64 p1, .int .i64 p2] 23)) (.int .i64 0) (.int .i64 0) 23
  simp only [World.size_alloc] at C0 C1 C2
  go_enter Try.func32, Try.ntmps32
  go_wp2
  refine wp_region_calmT 7 (by kernel_rfl) (by simp) (by kernel_rfl) fun M => ?_
  simp only [List.take_succ_cons, List.take_zero, List.drop_succ_cons, List.drop_zero]
  have e0 := fun n : In M.w => n.cell (M.cell C0.c0)
  have e1 := fun n : In M.w => n.cell (M.cell C0.c1)
  have e2 := fun n : In M.w => n.cell (M.cell C0.c2)
  have e3 := fun n : In M.w => n.cell (M.cell C1.c0)
  have e4 := fun n : In M.w => n.cell (M.cell C1.c1)
  repeat (go_big_quiet_step (first
    | (go_at_call 43; exact In.call (H1.out _))
    | (go_at_call 42; exact In.call (H2.out _))))
  refine wpQuiet_nil ?_
  intro w2 hb
  obtain ⟨g0, g1, z0, z1⟩ := C2.kept hb
  replace hB := hB.trans (hb.mono hB.size)
  clear hb e0 e1 e2 e3 e4
  go_wp2
  refine bodyPost_ret (v := .agg #[.int .i64 X, .int .i64 Y]) ?_ rfl ⟨rfl, (hB.setCell (by simp; omega) _).setCell (by simp; omega) _⟩
  simp [results, Try.results32, go_sem, g0, g1, z0, z1]

theorem refMSmall_any (n x y m : Int) (w : World) (hm : 0 ≤ m) (hm' : m ≤ 9223372036854775807) : Calls Try.prog 22 #[.agg #[.int .i64 n, .int .i64 x, .int .i64 y], .int .i64 m] w fun e w' => e = .returned (.bool (smallB x y m)) ∧ Below w.heap.size w w' := by
  have h1 := fun w => refSmall_any x y m w hm hm'
  generalize smallB x y m = b at *
  have hB : Below w.heap.size w (w.alloc (.cells #[.int .i64 n, .int .i64 x, .int .i64 y] 25)) := (Below.refl _ _).alloc (Nat.le_refl _) _
  go_enter Try.func22, Try.ntmps22
  go_wp2_with (go_at_call 21; refine (h1 _).mono ?_; rintro e w1 ⟨rfl, hb⟩; replace hB := hB.trans (hb.mono hB.size); clear hb)
  go_ret
  exact ⟨rfl, hB⟩
end Go.Proofs.Ythndmoipemnllaa
