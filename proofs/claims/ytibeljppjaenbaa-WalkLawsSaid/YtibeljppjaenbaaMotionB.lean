/- The walks of package motion: Fix, Do, Then, Back. -/
import Derived.Test.YtibeljppjaenbaaMotionA
namespace Go.Proofs.Ytibeljppjaenbaa
open Go.RowKit
attribute [local go_sem] store_complex

theorem negone_whole : Fl 13830554455654793216 (-1) := by
  have h := neg_whole one_whole
  have e : Op.negFloat .f64 4607182418800017408 = 13830554455654793216 := by decide +kernel
  rw [e] at h
  exact h
theorem unit_is {k : Nat} (h : k < 4) : (decide (uq k = 1)) = decide (k = 0) := by
  have : k = 0 ∨ k = 1 ∨ k = 2 ∨ k = 3 := by omega
  rcases this with rfl | rfl | rfl | rfl <;> decide

theorem mquarters_any (p r : Nat) (q : Nat) (hq4 : q < 4) (hp : Fl p (uq q)) (hr : Fl r (vq q)) (w : World) : Calls Try.prog 64 #[.complex .f64 p r] w fun e w' =>
    e = .returned (.int .i64 q) ∧ Below w.heap.size w w' := by
  have hB : Below w.heap.size w w := Below.refl _ _
  go_enter Try.func64, Try.ntmps64
  go_wp2_with fail
  refine wp_scope_goto 0 (fun k a' w' => ∃ (j : Nat) (a b : Nat) (c : Int), k = q - j ∧ c = j ∧ j ≤ q ∧ Fl a (uq (q - j)) ∧ Fl b (vq (q - j)) ∧ Below w.heap.size w w' ∧ ∃ u1 u2 u4 u5 u6 u7 u8 u9 u10, a' = { tmps := #[.complex .f64 a b, u1, u2, .int .i64 c, u4, u5, u6, u7, u8, u9, u10], defers := [] }) rfl rfl ?_ ?_
  · clear hB
    rintro k a' w' ⟨j, a, b, c, rfl, hc, hj, ha, hb, hB, u1, u2, u4, u5, u6, u7, u8, u9, u10, rfl⟩ K hK
    have o1 := ord_eq ha one_whole
    have o2 := ord_eq hb zero_whole
    rw [unit_is (by omega)] at o1
    by_cases hlt : j < q
    · obtain ⟨m, hm⟩ : ∃ m, q - j = m + 1 := ⟨q - j - 1, by omega⟩
      rw [hm] at ha hb o1
      rw [decide_eq_false (by omega)] at o1
      clear o2
      obtain ⟨hrun, h2, h3⟩ := cMul_run 64 ha hb zero_whole negone_whole (by simp) (by have := (unit_abs (m + 1)).2; omega) (by have := (unit_abs (m + 1)).1; omega) (by simp)
      have e1 : uq (m + 1) * 0 - vq (m + 1) * (-1) = uq m := by rw [show vq (m + 1) = uq m from rfl]; omega
      have e2 : uq (m + 1) * (-1) + vq (m + 1) * 0 = vq m := by rw [show uq (m + 1) = -vq m from rfl]; omega
      rw [e1] at h2
      rw [e2] at h3
      have H2 := Lib.hid h2
      have H3 := Lib.hid h3
      have HC := Lib.hid hc
      have c0 : 0 ≤ c := by omega
      have c4 : c < 4 := by omega
      clear h2 h3 ha hb hc e1 e2
      go_wp2
      go_step3
      refine ⟨rfl, hK (q - (j + 1)) _ _ (by omega) ⟨j + 1, _, _, _, rfl, by have := HC.out; omega, by omega, by rw [show q - (j + 1) = m by omega]; exact H2.out, by rw [show q - (j + 1) = m by omega]; exact H3.out, hB, _, _, _, _, _, _, _, _, _,  rfl⟩⟩
    · have e : j = q := by omega
      subst e
      rw [Nat.sub_self] at o1 o2
      rw [decide_eq_true rfl] at o1
      rw [decide_eq_true (show vq 0 = 0 from rfl)] at o2
      clear ha hb
      have HC := Lib.hid hc
      clear hc
      go_wp2
      simp only [Exit.jump]
      go_ret
      exact ⟨ret_i HC.out, hB⟩
  · intro K hpass
    go_wp2
    go_step3
    rename_i hback
    refine hback _ _ (hpass (q - 0) _ _ ⟨0, _, _, _, rfl, rfl, by omega, hp, hr, hB, _, _, _, _, _, _, _, _, _,  rfl⟩)

set_option maxHeartbeats 400000 in
theorem tell_any (p r s t : Nat) (q : Nat) (x y : Int) (hq4 : q < 4) (hp : Fl p (uq q)) (hr : Fl r (vq q)) (hs : Fl s x) (ht : Fl t y) (hx : x.natAbs < 2 ^ 53) (hy : y.natAbs < 2 ^ 53) (w : World) :
    Calls Try.prog 51 #[.agg #[.complex .f64 p r, .complex .f64 s t]] w fun e w' => e = .returned (.agg #[.int .i64 q, .int .i64 x, .int .i64 y]) ∧ Below w.heap.size w w' := by
  have t1 := fun w => mquarters_any p r q hq4 hp hr w
  have t2 := fun w => mpoint_any s t x y hs ht hx hy w
  clear hp hr hs ht hx hy hq4
  generalize ((q : Nat) : Int) = c at t1 ⊢
  have T1 := Lib.hid t1
  have T2 := Lib.hid t2
  clear t1 t2
  go_enter Try.func51, Try.ntmps51
  go_wp2
  refine wp_region_calmT 7 (by kernel_rfl) (by simp) (by kernel_rfl) fun M => ?_
  simp only [List.take_succ_cons, List.take_zero, List.drop_succ_cons, List.drop_zero]
  have hc0 : ∀ n' : In M.w, n'.w.cell? ⟨w.heap.size, 0, none⟩ = some (.complex .f64 p r) := fun n' => n'.cell (M.cell (by go_simp))
  have hc1 : ∀ n' : In M.w, n'.w.cell? ⟨w.heap.size, 1, none⟩ = some (.complex .f64 s t) := fun n' => n'.cell (M.cell (by go_simp))
  repeat (go_big_quiet_step (first
    | (go_at_call 64; exact In.call (T1.out _))
    | (go_at_call 65; exact In.call (T2.out _))))
  refine wpQuiet_nil ?_
  intro w1 hb
  obtain ⟨g0, g1, g2, z0, z1, z2⟩ := (Cell3.new (w.alloc (.cells #[.complex .f64 p r, .complex .f64 s t] 96)) (.int .i64 0) (.int .i64 0) (.int .i64 0) 36).kept hb
  have hB : Below w.heap.size w w1 := (((Below.refl _ _).alloc (Nat.le_refl _) _).alloc (by simp) _).trans (hb.mono (by simp; omega))
  clear hb hc0 hc1
  simp only [World.size_alloc] at g0 g1 g2 z0 z1 z2
  go_wp2
  refine bodyPost_ret (v := .agg #[.int .i64 c, .int .i64 x, .int .i64 y]) ?_ rfl ⟨rfl, ((hB.setCell (by simp) _).setCell (by simp) _).setCell (by simp) _⟩
  simp [results, Try.results51, go_sem, g0, g1, g2, z0, z1, z2]

/-- a motion as numbers of the plane: its turn's quarters and its way -/
structure Rk (v : Value) (q : Nat) (x y : Int) : Prop where
  is : ∃ a b c d, v = .agg #[.complex .f64 a b, .complex .f64 c d] ∧ Fl a (uq q) ∧ Fl b (vq q) ∧ Fl c x ∧ Fl d y

set_option maxHeartbeats 400000 in
theorem thenr_any {v1 v2 : Value} {q1 q2 : Nat} {x1 y1 x2 y2 : Int} {B : Nat} (h1 : Rk v1 q1 x1 y1) (h2 : Rk v2 q2 x2 y2) (hx1 : x1.natAbs ≤ B) (hy1 : y1.natAbs ≤ B) (hx2 : x2.natAbs ≤ B) (hy2 : y2.natAbs ≤ B) (hB : B < 2 ^ 50) :
    ∃ v, Rk v (q1 + q2) ((rot q2 x1 y1).1 + x2) ((rot q2 x1 y1).2 + y2) ∧ ∀ w, Calls Try.prog 52 #[v1, v2] w fun e w' => e = .returned v ∧ Below w.heap.size w w' := by
  obtain ⟨a1, b1, c1, d1, rfl, ha1, hb1, hc1, hd1⟩ := h1.is
  obtain ⟨a2, b2, c2, d2, rfl, ha2, hb2, hc2, hd2⟩ := h2.is
  obtain ⟨r1, f1, f2⟩ := tMul_run (B := 1) q1 ha1 hb1 ha2 hb2 (unit_abs q2).1 (unit_abs q2).2 (by omega)
  obtain ⟨r2, f3, f4⟩ := tMul_run q2 ha2 hb2 hc1 hd1 hx1 hy1 hB
  obtain ⟨l1, l2⟩ := rot_abs q2 x1 y1 B hx1 hy1
  obtain ⟨r3, f5, f6⟩ := cSum_whole 64 f3 f4 hc2 hd2 rfl (by omega) (by omega)
  have e := rot_add q1 q2 1 0
  refine ⟨.agg #[.complex .f64 (mulRe a1 b1 a2 b2) (mulIm a1 b1 a2 b2), .complex .f64 (fbits .add (mulRe a2 b2 c1 d1) c2) (fbits .add (mulIm a2 b2 c1 d1) d2)],
    ⟨_, _, _, _, rfl, by rw [show uq (q1 + q2) = (rot q1 (uq q2) (vq q2)).1 from (congrArg Prod.fst e).symm]; exact f1, by rw [show vq (q1 + q2) = (rot q1 (uq q2) (vq q2)).2 from (congrArg Prod.snd e).symm]; exact f2, f5, f6⟩, ?_⟩
  clear f1 f2 f3 f4 f5 f6 ha1 hb1 hc1 hd1 ha2 hb2 hc2 hd2 l1 l2 e h1 h2 hx1 hx2 hy1 hy2 hB
  intro w
  generalize hm1 : mulRe a1 b1 a2 b2 = m1 at r1 ⊢
  generalize hm2 : mulIm a1 b1 a2 b2 = m2 at r1 ⊢
  generalize hm3 : mulRe a2 b2 c1 d1 = m3 at r2 r3 ⊢
  generalize hm4 : mulIm a2 b2 c1 d1 = m4 at r2 r3 ⊢
  generalize hm5 : fbits .add m3 c2 = m5 at r3 ⊢
  generalize hm6 : fbits .add m4 d2 = m6 at r3 ⊢
  clear hm1 hm2 hm3 hm4 hm5 hm6
  go_enter Try.func52, Try.ntmps52
  go_wp2
  refine bodyPost_ret (v := .agg #[.complex .f64 m1 m2, .complex .f64 m5 m6]) ?_ rfl ⟨rfl, ((Below.refl _ _).alloc (Nat.le_refl _) _).alloc (by simp) _ |>.alloc (by simp; omega) _⟩
  simp [results, Try.results52, go_sem]

theorem reckon_rk (n x y : Int) : ∃ v, Rk v (qr n) (fx x) (fx y) ∧ ∀ w, Calls Try.prog 53 #[.agg #[.int .i64 n, .int .i64 x, .int .i64 y]] w fun e w' => e = .returned v ∧ Below w.heap.size w w' :=
  ⟨_, ⟨_, _, _, _, rfl, fl_small (by have := (unit_abs (qr n)).1; omega), fl_small (by have := (unit_abs (qr n)).2; omega), fl_fx x, fl_fx y⟩, fun w => reckon_any n x y w⟩
theorem tell_rk {v : Value} {q : Nat} {x y : Int} (h : Rk v q x y) (hx : x.natAbs < 2 ^ 53) (hy : y.natAbs < 2 ^ 53) (w : World) : Calls Try.prog 51 #[v] w fun e w' => e = .returned (.agg #[.int .i64 ((q % 4 : Nat) : Int), .int .i64 x, .int .i64 y]) ∧ Below w.heap.size w w' := by
  obtain ⟨a, b, c, d, rfl, ha, hb, hc, hd⟩ := h.is
  have e := rot_mod q 1 0
  exact tell_any a b c d (q % 4) x y (by omega) (by rw [show uq (q % 4) = uq q from congrArg Prod.fst e]; exact ha) (by rw [show vq (q % 4) = vq q from congrArg Prod.snd e]; exact hb) hc hd hx hy w
end Go.Proofs.Ytibeljppjaenbaa
