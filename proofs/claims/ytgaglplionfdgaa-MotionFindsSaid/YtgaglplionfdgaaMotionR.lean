/- The walks of the document's answers for layer 4. -/
import Derived.Test.YtgaglplionfdgaaMotionC
import Derived.Test.YtgaglplionfdgaaGaussS
namespace Go.Proofs.Ytgaglplionfdgaa
open Go.RowKit
attribute [local go_sem] store_complex

set_option maxHeartbeats 400000 in
theorem refMFix_any (n x y : Int) (w : World) : Calls Try.prog 8 #[.agg #[.int .i64 n, .int .i64 x, .int .i64 y]] w fun e w' => e = .returned (.agg #[.int .i64 ((qr n : Nat) : Int), .int .i64 (fx x), .int .i64 (fx y)]) ∧ Below w.heap.size w w' := by
  have h1 := fun w => quarter_any n w
  have e : n % 4 = ((qr n : Nat) : Int) := by unfold qr; omega
  rw [e] at h1
  clear e
  generalize ((qr n : Nat) : Int) = c at h1 ⊢
  have H1 := Lib.hid h1
  clear h1
  have hB : Below w.heap.size w ((w.alloc (.cells #[.int .i64 n, .int .i64 x, .int .i64 y] 25)).alloc (.cells #[.int .i64 0, .int .i64 0, .int .i64 0] 25)) := ((Below.refl _ _).alloc (Nat.le_refl _) _).alloc (by simp) _
  have C0 := (Cell3.new w (.int .i64 n) (.int .i64 x) (.int .i64 y) 25).alloc (.cells #[.int .i64 0, .int .i64 0, .int .i64 0] 25)
  have C := Cell3.new (w.alloc (.cells #[.int .i64 n, .int .i64 x, .int .i64 y] 25)) (.int .i64 0) (.int .i64 0) (.int .i64 0) 25
  simp only [World.size_alloc] at C
  go_enter Try.func8, Try.ntmps8
  go_wp2
  refine wp_region_calmT 7 (by kernel_rfl) (by simp) (by kernel_rfl) fun M => ?_
  simp only [List.take_succ_cons, List.take_zero, List.drop_succ_cons, List.drop_zero]
  have e0 := fun n : In M.w => n.cell (M.cell C0.c0)
  have e1 := fun n : In M.w => n.cell (M.cell C0.c1)
  have e2 := fun n : In M.w => n.cell (M.cell C0.c2)
  repeat (go_big_quiet_step (first
    | (go_at_call 28; exact In.call_same (H1.out _))
    | (go_at_call 29; exact In.call (refFix_any _ _ _))))
  refine wpQuiet_nil ?_
  intro w2 hb
  obtain ⟨g0, g1, g2, z0, z1, z2⟩ := C.kept hb
  replace hB := hB.trans (hb.mono hB.size)
  clear hb e0 e1 e2
  go_wp2
  refine bodyPost_ret (v := .agg #[.int .i64 c, .int .i64 (fx x), .int .i64 (fx y)]) ?_ rfl ⟨rfl, ((hB.setCell (by simp) _).setCell (by simp) _).setCell (by simp) _⟩
  simp [results, Try.results8, go_sem, g0, g1, g2, z0, z1, z2]

theorem fx_fx (n : Int) : fx (fx n) = fx n := by unfold fx; omega
theorem fx_neg_fx (n : Int) : fx (-fx n) = -fx n := by unfold fx; omega
theorem fx_rot (q : Nat) (x y : Int) : fx (rot q (fx x) (fx y)).1 = (rot q (fx x) (fx y)).1 ∧ fx (rot q (fx x) (fx y)).2 = (rot q (fx x) (fx y)).2 := by
  obtain ⟨h1, h2⟩ := rot_abs q (fx x) (fx y) _ (fx_abs x) (fx_abs y)
  generalize (rot q (fx x) (fx y)).1 = a at *
  generalize (rot q (fx x) (fx y)).2 = b at *
  unfold fx
  omega
theorem qr_qr (n : Int) : qr ((qr n : Nat) : Int) = qr n := by unfold qr; omega

set_option maxHeartbeats 400000 in
theorem refMDo_any (n x y p1 p2 : Int) (w : World) : Calls Try.prog 10 #[.agg #[.int .i64 n, .int .i64 x, .int .i64 y], .agg #[.int .i64 p1, .int .i64 p2]] w fun e w' => e = .returned (.agg #[.int .i64 ((rot (qr n) (fx p1) (fx p2)).1 + fx x), .int .i64 ((rot (qr n) (fx p1) (fx p2)).2 + fx y)]) ∧ Below w.heap.size w w' := by
  have h1 := fun w => refTurn_any p1 p2 n w
  change ∀ w, Calls _ _ _ w fun e w' => e = .returned (.agg #[.int .i64 (rot (qr n) (fx p1) (fx p2)).1, .int .i64 (rot (qr n) (fx p1) (fx p2)).2]) ∧ Below w.heap.size w w' at h1
  have h2 := fun w => refAdd_any (rot (qr n) (fx p1) (fx p2)).1 (rot (qr n) (fx p1) (fx p2)).2 x y w
  rw [(fx_rot (qr n) p1 p2).1, (fx_rot (qr n) p1 p2).2] at h2
  generalize (rot (qr n) (fx p1) (fx p2)).1 = R at *
  generalize (rot (qr n) (fx p1) (fx p2)).2 = S at *
  generalize R + fx x = X at *
  generalize S + fx y = Y at *
  have H1 := Lib.hid h1
  have H2 := Lib.hid h2
  clear h1 h2
  have hB : Below w.heap.size w (((w.alloc (.cells #[.int .i64 n, .int .i64 x, .int .i64 y] 25)).alloc (.cells #[.int .i64 p1, .int .i64 p2] 23)).alloc (.cells #[.int .i64 0, .int .i64 0] 23)) := (((Below.refl _ _).alloc (Nat.le_refl _) _).alloc (by simp) _).alloc (by simp; omega) _
  have C0 := ((Cell3.new w (.int .i64 n) (.int .i64 x) (.int .i64 y) 25).alloc (.cells #[.int .i64 p1, .int .i64 p2] 23)).alloc (.cells #[.int .i64 0, .int .i64 0] 23)
  have C1 := (Cell2.new (w.alloc (.cells #[.int .i64 n, .int .i64 x, .int .i64 y] 25)) (.int .i64 p1) (.int .i64 p2) 23).alloc (.cells #[.int .i64 0, .int .i64 0] 23)
  have C2 := Cell2.new ((w.alloc (.cells #[.int .i64 n, .int .i64 x, .int .i64 y] 25)).alloc (.cells #[.int .i64 p1, .int .i64 p2] 23)) (.int .i64 0) (.int .i64 0) 23
  simp only [World.size_alloc] at C0 C1 C2
  go_enter Try.func10, Try.ntmps10
  go_wp2
  refine wp_region_calmT 7 (by kernel_rfl) (by simp) (by kernel_rfl) fun M => ?_
  simp only [List.take_succ_cons, List.take_zero, List.drop_succ_cons, List.drop_zero]
  have e0 := fun n : In M.w => n.cell (M.cell C0.c0)
  have e1 := fun n : In M.w => n.cell (M.cell C0.c1)
  have e2 := fun n : In M.w => n.cell (M.cell C0.c2)
  have e3 := fun n : In M.w => n.cell (M.cell C1.c0)
  have e4 := fun n : In M.w => n.cell (M.cell C1.c1)
  repeat (go_big_quiet_step (first
    | (go_at_call 33; exact In.call (H1.out _))
    | (go_at_call 32; exact In.call (H2.out _))))
  refine wpQuiet_nil ?_
  intro w2 hb
  obtain ⟨g0, g1, z0, z1⟩ := C2.kept hb
  replace hB := hB.trans (hb.mono hB.size)
  clear hb e0 e1 e2 e3 e4
  go_wp2
  refine bodyPost_ret (v := .agg #[.int .i64 X, .int .i64 Y]) ?_ rfl ⟨rfl, (hB.setCell (by simp; omega) _).setCell (by simp; omega) _⟩
  simp [results, Try.results10, go_sem, g0, g1, z0, z1]

set_option maxHeartbeats 1000000 in
theorem refMThen_any (n x y m u v : Int) (w : World) : Calls Try.prog 12 #[.agg #[.int .i64 n, .int .i64 x, .int .i64 y], .agg #[.int .i64 m, .int .i64 u, .int .i64 v]] w fun e w' => e = .returned (.agg #[.int .i64 (((qr n + qr m) % 4 : Nat) : Int), .int .i64 ((rot (qr m) (fx x) (fx y)).1 + fx u), .int .i64 ((rot (qr m) (fx x) (fx y)).2 + fx v)]) ∧ Below w.heap.size w w' := by
  have h1 := fun w => refMFix_any n x y w
  have h2 := fun w => refMFix_any m u v w
  have h3 := fun w => refMDo_any ((qr m : Nat) : Int) (fx u) (fx v) (fx x) (fx y) w
  simp only [qr_qr, fx_fx] at h3
  have q1 := qr_lt n
  have q2 := qr_lt m
  have ht : Int.tmod (((qr n : Nat) : Int) + ((qr m : Nat) : Int)) 4 = (((qr n + qr m) % 4 : Nat) : Int) := by
    rw [Int.tmod_eq_emod_of_nonneg (by omega)]; omega
  generalize (rot (qr m) (fx x) (fx y)).1 + fx u = X at *
  generalize (rot (qr m) (fx x) (fx y)).2 + fx v = Y at *
  generalize (((qr n + qr m) % 4 : Nat) : Int) = T at *
  have a1 : 0 ≤ ((qr n : Nat) : Int) := by omega
  have a2 : ((qr n : Nat) : Int) ≤ 3 := by omega
  have a3 : 0 ≤ ((qr m : Nat) : Int) := by omega
  have a4 : ((qr m : Nat) : Int) ≤ 3 := by omega
  clear q1 q2
  generalize ((qr n : Nat) : Int) = c at *
  generalize ((qr m : Nat) : Int) = d at *
  generalize fx x = fX at *
  generalize fx y = fY at *
  generalize fx u = fU at *
  generalize fx v = fV at *
  have H1 := Lib.hid h1
  have H2 := Lib.hid h2
  have H3 := Lib.hid h3
  clear h1 h2 h3
  have hB : Below w.heap.size w (((w.alloc (.cells #[.int .i64 n, .int .i64 x, .int .i64 y] 25)).alloc (.cells #[.int .i64 m, .int .i64 u, .int .i64 v] 25)).alloc (.cells #[.int .i64 0, .int .i64 0, .int .i64 0] 25)) := (((Below.refl _ _).alloc (Nat.le_refl _) _).alloc (by simp) _).alloc (by simp; omega) _
  have C0 := ((Cell3.new w (.int .i64 n) (.int .i64 x) (.int .i64 y) 25).alloc (.cells #[.int .i64 m, .int .i64 u, .int .i64 v] 25)).alloc (.cells #[.int .i64 0, .int .i64 0, .int .i64 0] 25)
  have C1 := (Cell3.new (w.alloc (.cells #[.int .i64 n, .int .i64 x, .int .i64 y] 25)) (.int .i64 m) (.int .i64 u) (.int .i64 v) 25).alloc (.cells #[.int .i64 0, .int .i64 0, .int .i64 0] 25)
  have C2 := Cell3.new ((w.alloc (.cells #[.int .i64 n, .int .i64 x, .int .i64 y] 25)).alloc (.cells #[.int .i64 m, .int .i64 u, .int .i64 v] 25)) (.int .i64 0) (.int .i64 0) (.int .i64 0) 25
  simp only [World.size_alloc] at C0 C1 C2
  go_enter Try.func12, Try.ntmps12
  go_wp2
  refine wp_region_calmN 4 6 [(.cells #[.int .i64 0, .int .i64 0, .int .i64 0] 25, fun b => .pointer (some ⟨b, 0, none⟩)), (.cells #[.int .i64 0, .int .i64 0, .int .i64 0] 25, fun b => .pointer (some ⟨b, 0, none⟩))] (by kernel_rfl) (by simp) (by simp) (by kernel_rfl) fun M => ?_
  simp only [List.take_succ_cons, List.take_zero, List.drop_succ_cons, List.drop_zero, List.length_cons, List.length_nil, List.take_nil]
  have e0 := fun n : In M.w => n.cell (M.cell C0.c0)
  have e1 := fun n : In M.w => n.cell (M.cell C0.c1)
  have e2 := fun n : In M.w => n.cell (M.cell C0.c2)
  have e3 := fun n : In M.w => n.cell (M.cell C1.c0)
  have e4 := fun n : In M.w => n.cell (M.cell C1.c1)
  have e5 := fun n : In M.w => n.cell (M.cell C1.c2)
  repeat (go_big_quiet_step (first
    | (go_at_call 8; with_reducible exact In.call (H1.out _))
    | (go_at_call 8; with_reducible exact In.call (H2.out _))))
  refine wpQuiet_nil ?_
  clear e0 e1 e2 e3 e4 e5 M
  refine ⟨rfl, fun n => by simp [go_sem], fun p hp _ => ⟨rfl, fun n => by simp [go_sem], fun q hq hqp w1 hw => ?_⟩⟩
  have hne : q ≠ p := fun e => by rw [e, Gh.set_self] at hqp; cases hqp
  have hb := hw.below
  simp only [World.size_alloc] at hp hq
  have D1 : Cell3 w1 p (.int .i64 0) (.int .i64 0) (.int .i64 0) := Cell3.of_heap (hw.own p _ (by rw [Gh.set_ne _ (Ne.symm hne)]; exact Gh.set_self _ _ _))
  have D2 : Cell3 w1 q (.int .i64 0) (.int .i64 0) (.int .i64 0) := Cell3.of_heap (hw.own q _ (Gh.set_self _ _ _))
  replace C2 := C2.kept hb
  replace hB := hB.trans (hb.mono hB.size)
  clear hb hw hqp C0 C1
  have n1 : p ≠ w.heap.size + 1 + 1 := by omega
  have n2 : q ≠ w.heap.size + 1 + 1 := by omega
  have n5 : p ≠ q := Ne.symm hne
  have G1 := (((D1.set (.int .i64 c) (.int .i64 fX) (.int .i64 fY)).away ⟨q, 0, none⟩ (.int .i64 d) hne).away ⟨q, 1, none⟩ (.int .i64 fU) hne).away ⟨q, 2, none⟩ (.int .i64 fV) hne
  have G2 := (((D2.away ⟨p, 0, none⟩ (.int .i64 c) n5).away ⟨p, 1, none⟩ (.int .i64 fX) n5).away ⟨p, 2, none⟩ (.int .i64 fY) n5).set (.int .i64 d) (.int .i64 fU) (.int .i64 fV)
  have G3 := (((((C2.away ⟨p, 0, none⟩ (.int .i64 c) n1).away ⟨p, 1, none⟩ (.int .i64 fX) n1).away ⟨p, 2, none⟩ (.int .i64 fY) n1).away ⟨q, 0, none⟩ (.int .i64 d) n2).away ⟨q, 1, none⟩ (.int .i64 fU) n2).away ⟨q, 2, none⟩ (.int .i64 fV) n2
  have n6 : w.heap.size ≤ p := by omega
  have n7 : w.heap.size ≤ q := by omega
  replace hB := (((((hB.setCell (p := ⟨p, 0, none⟩) n6 (.int .i64 c)).setCell (p := ⟨p, 1, none⟩) n6 (.int .i64 fX)).setCell (p := ⟨p, 2, none⟩) n6 (.int .i64 fY)).setCell (p := ⟨q, 0, none⟩) n7 (.int .i64 d)).setCell (p := ⟨q, 1, none⟩) n7 (.int .i64 fU)).setCell (p := ⟨q, 2, none⟩) n7 (.int .i64 fV)
  obtain ⟨c10, c11, c12, z10, z11, z12⟩ := D1
  obtain ⟨c20, c21, c22, z20, z21, z22⟩ := D2
  clear C2
  go_wp2
  clear c10 c11 c12 z10 z11 z12 c20 c21 c22 z20 z21 z22
  refine wp_region_calmT 11 (by kernel_rfl) (by simp) (by kernel_rfl) fun M => ?_
  simp only [List.take_succ_cons, List.take_zero, List.drop_succ_cons, List.drop_zero]
  have e0 := fun n : In M.w => n.cell (M.cell G1.c0)
  have e1 := fun n : In M.w => n.cell (M.cell G1.c1)
  have e2 := fun n : In M.w => n.cell (M.cell G1.c2)
  have e3 := fun n : In M.w => n.cell (M.cell G2.c0)
  have e4 := fun n : In M.w => n.cell (M.cell G2.c1)
  have e5 := fun n : In M.w => n.cell (M.cell G2.c2)
  repeat (go_big_quiet_step ((go_at_call 10; exact In.call (H3.out _))))
  refine wpQuiet_nil ?_
  intro w2 hb
  obtain ⟨g0, g1, g2, z0, z1, z2⟩ := G3.kept hb
  replace hB := hB.trans (hb.mono hB.size)
  clear hb e0 e1 e2 e3 e4 e5 G1 G2 G3
  go_wp2
  refine bodyPost_ret (v := .agg #[.int .i64 T, .int .i64 X, .int .i64 Y]) ?_ rfl ⟨rfl, ((hB.setCell (by simp; omega) _).setCell (by simp; omega) _).setCell (by simp; omega) _⟩
  simp [results, Try.results12, go_sem, g0, g1, g2, z0, z1, z2]

set_option maxHeartbeats 1000000 in
theorem refMBack_any (n x y : Int) (w : World) : Calls Try.prog 14 #[.agg #[.int .i64 n, .int .i64 x, .int .i64 y]] w fun e w' => e = .returned (.agg #[.int .i64 (((4 - qr n) % 4 : Nat) : Int), .int .i64 (rot ((4 - qr n) % 4) (-fx x) (-fx y)).1, .int .i64 (rot ((4 - qr n) % 4) (-fx x) (-fx y)).2]) ∧ Below w.heap.size w w' := by
  have h1 := fun w => refMFix_any n x y w
  have h2 := fun w => refTurn_any (-fx x) (-fx y) (((4 - qr n) % 4 : Nat) : Int) w
  have e : (((((4 - qr n) % 4 : Nat) : Int)) % 4).toNat = (4 - qr n) % 4 := by omega
  simp only [e, fx_neg_fx] at h2
  have q1 := qr_lt n
  have ht : Int.tmod (4 - ((qr n : Nat) : Int)) 4 = (((4 - qr n) % 4 : Nat) : Int) := by
    rw [Int.tmod_eq_emod_of_nonneg (by omega)]; omega
  have b1 := fx_bd x
  have b2 := fx_bd y
  generalize (rot ((4 - qr n) % 4) (-fx x) (-fx y)).1 = X at *
  generalize (rot ((4 - qr n) % 4) (-fx x) (-fx y)).2 = Y at *
  generalize (((4 - qr n) % 4 : Nat) : Int) = T at *
  have a1 : 0 ≤ ((qr n : Nat) : Int) := by omega
  have a2 : ((qr n : Nat) : Int) ≤ 3 := by omega
  clear q1 e
  generalize ((qr n : Nat) : Int) = c at *
  generalize fx x = fX at *
  generalize fx y = fY at *
  obtain ⟨b3, b4⟩ := b1
  obtain ⟨b5, b6⟩ := b2
  have H1 := Lib.hid h1
  have H2 := Lib.hid h2
  clear h1 h2
  have hB : Below w.heap.size w ((w.alloc (.cells #[.int .i64 n, .int .i64 x, .int .i64 y] 25)).alloc (.cells #[.int .i64 0, .int .i64 0, .int .i64 0] 25)) := ((Below.refl _ _).alloc (Nat.le_refl _) _).alloc (by simp) _
  have C := Cell3.new (w.alloc (.cells #[.int .i64 n, .int .i64 x, .int .i64 y] 25)) (.int .i64 0) (.int .i64 0) (.int .i64 0) 25
  simp only [World.size_alloc] at C
  go_enter Try.func14, Try.ntmps14
  go_wp2_with (first
    | (go_at_call 8; refine (H1.out _).mono ?_; rintro e w1 ⟨rfl, hb⟩; replace hB := hB.trans (hb.mono hB.size); replace hB := hB.alloc hB.size (.cells #[.int .i64 c, .int .i64 fX, .int .i64 fY] 25); replace C := (C.kept hb).alloc (.cells #[.int .i64 c, .int .i64 fX, .int .i64 fY] 25); clear hb)
    | (go_at_call 33; refine (H2.out _).mono ?_; rintro e w2 ⟨rfl, hb⟩; replace hB := hB.trans (hb.mono hB.size); obtain ⟨g0, g1, g2, z0, z1, z2⟩ := C.kept hb; clear hb))
  refine bodyPost_ret (v := .agg #[.int .i64 T, .int .i64 X, .int .i64 Y]) ?_ rfl ⟨rfl, ((hB.setCell (by simp) _).setCell (by simp) _).setCell (by simp) _⟩
  simp [results, Try.results14, go_sem, g0, g1, g2, z0, z1, z2]

theorem refMSmall_any (n x y m : Int) (w : World) (hm : 0 ≤ m) (hm' : m ≤ 9223372036854775807) : Calls Try.prog 18 #[.agg #[.int .i64 n, .int .i64 x, .int .i64 y], .int .i64 m] w fun e w' => e = .returned (.bool (smallB x y m)) ∧ Below w.heap.size w w' := by
  have h1 := fun w => refSmall_any x y m w hm hm'
  generalize smallB x y m = b at *
  have hB : Below w.heap.size w (w.alloc (.cells #[.int .i64 n, .int .i64 x, .int .i64 y] 25)) := (Below.refl _ _).alloc (Nat.le_refl _) _
  go_enter Try.func18, Try.ntmps18
  go_wp2_with (go_at_call 19; refine (h1 _).mono ?_; rintro e w1 ⟨rfl, hb⟩; replace hB := hB.trans (hb.mono hB.size); clear hb)
  go_ret
  exact ⟨rfl, hB⟩
end Go.Proofs.Ytgaglplionfdgaa
