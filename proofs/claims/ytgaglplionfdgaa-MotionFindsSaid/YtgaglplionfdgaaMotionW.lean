/- The walk of motion.Between. -/
import Derived.Test.YtgaglplionfdgaaMotionO
namespace Go.Proofs.Ytgaglplionfdgaa
open Go.RowKit
attribute [local go_sem] store_complex

theorem mul_i {a b : Nat} {k : Nat} (ha : Fl a (uq k)) (hb : Fl b (vq k)) :
    (∀ w, (binOp .mul 44 (.complex .f64 a b) (.complex .f64 0 4607182418800017408)).run Try.prog w = .ok (.complex .f64 (mulRe a b 0 4607182418800017408) (mulIm a b 0 4607182418800017408)) w) ∧
    Fl (mulRe a b 0 4607182418800017408) (uq (k + 1)) ∧ Fl (mulIm a b 0 4607182418800017408) (vq (k + 1)) := by
  have h := unit_abs k
  exact turn_step (X := uq k) (Y := vq k) ha hb (by omega) (by omega)

set_option maxHeartbeats 2000000 in
theorem mbetween_at (p1 p2 q1 q2 r1 r2 s1 s2 : Int) (t : Nat) (ht4 : t < 4)
    (hyes : rot t (fx q1 - fx p1) (fx q2 - fx p2) = (fx s1 - fx r1, fx s2 - fx r2)) (hno : ∀ j, j < t → rot j (fx q1 - fx p1) (fx q2 - fx p2) ≠ (fx s1 - fx r1, fx s2 - fx r2)) (w : World) :
    Calls Try.prog 23 #[.agg #[.int .i64 p1, .int .i64 p2], .agg #[.int .i64 q1, .int .i64 q2], .agg #[.int .i64 r1, .int .i64 r2], .agg #[.int .i64 s1, .int .i64 s2]] w fun e w' =>
      e = .returned (.tuple #[.agg #[.int .i64 (t : Int), .int .i64 (fx r1 - (rot t (fx p1) (fx p2)).1), .int .i64 (fx r2 - (rot t (fx p1) (fx p2)).2)], .bool true]) ∧ Below w.heap.size w w' := by
  have h1 := fun w => mnumber_any p1 p2 w
  have h2 := fun w => mnumber_any q1 q2 w
  have h3 := fun w => mnumber_any r1 r2 w
  have h4 := fun w => mnumber_any s1 s2 w
  have P1 := fl_fx p1
  have P2 := fl_fx p2
  have R1 := fl_fx r1
  have R2 := fl_fx r2
  have bp1 := fx_abs p1
  have bp2 := fx_abs p2
  have bq1 := fx_abs q1
  have bq2 := fx_abs q2
  have br1 := fx_abs r1
  have br2 := fx_abs r2
  have bs1 := fx_abs s1
  have bs2 := fx_abs s2
  obtain ⟨k1, W1, W2⟩ := cDif_whole 44 (fl_fx q1) (fl_fx q2) P1 P2 (by omega) (by omega)
  obtain ⟨k2, V1, V2⟩ := cDif_whole 44 (fl_fx s1) (fl_fx s2) R1 R2 (by omega) (by omega)
  have bw1 : (fx q1 - fx p1).natAbs ≤ 2097152 := by omega
  have bw2 : (fx q2 - fx p2).natAbs ≤ 2097152 := by omega
  generalize fx q1 - fx p1 = w1 at *
  generalize fx q2 - fx p2 = w2 at *
  generalize fx s1 - fx r1 = v1 at *
  generalize fx s2 - fx r2 = v2 at *
  clear bq1 bq2 bs1 bs2
  generalize fx p1 = a1 at *
  generalize fx p2 = a2 at *
  generalize fx r1 = c1 at *
  generalize fx r2 = c2 at *
  generalize fl (fx q1) = fq1 at *
  generalize fl (fx q2) = fq2 at *
  generalize fl (fx s1) = fs1 at *
  generalize fl (fx s2) = fs2 at *
  generalize fl a1 = fa1 at *
  generalize fl a2 = fa2 at *
  generalize fl c1 = fc1 at *
  generalize fl c2 = fc2 at *
  generalize fbits .sub fq1 fa1 = fw1 at *
  generalize fbits .sub fq2 fa2 = fw2 at *
  generalize fbits .sub fs1 fc1 = fv1 at *
  generalize fbits .sub fs2 fc2 = fv2 at *
  have H1 := Lib.hid h1
  have H2 := Lib.hid h2
  have H3 := Lib.hid h3
  have H4 := Lib.hid h4
  clear h1 h2 h3 h4
  let W0 := ((((w.alloc (.cells #[.int .i64 p1, .int .i64 p2] 23)).alloc (.cells #[.int .i64 q1, .int .i64 q2] 23)).alloc (.cells #[.int .i64 r1, .int .i64 r2] 23)).alloc (.cells #[.int .i64 s1, .int .i64 s2] 23)).alloc (.cells #[.int .i64 0, .int .i64 0, .int .i64 0] 25)
  have hB : Below w.heap.size w (((((w.alloc (.cells #[.int .i64 p1, .int .i64 p2] 23)).alloc (.cells #[.int .i64 q1, .int .i64 q2] 23)).alloc (.cells #[.int .i64 r1, .int .i64 r2] 23)).alloc (.cells #[.int .i64 s1, .int .i64 s2] 23)).alloc (.cells #[.int .i64 0, .int .i64 0, .int .i64 0] 25)) := (((((Below.refl _ _).alloc (Nat.le_refl _) _).alloc (by simp) _).alloc (by simp; omega) _).alloc (by simp; omega) _).alloc (by simp; omega) _
  have C0 := ((((Cell2.new w (.int .i64 p1) (.int .i64 p2) 23).alloc (.cells #[.int .i64 q1, .int .i64 q2] 23)).alloc (.cells #[.int .i64 r1, .int .i64 r2] 23)).alloc (.cells #[.int .i64 s1, .int .i64 s2] 23)).alloc (.cells #[.int .i64 0, .int .i64 0, .int .i64 0] 25)
  have C1 := (((Cell2.new (w.alloc (.cells #[.int .i64 p1, .int .i64 p2] 23)) (.int .i64 q1) (.int .i64 q2) 23).alloc (.cells #[.int .i64 r1, .int .i64 r2] 23)).alloc (.cells #[.int .i64 s1, .int .i64 s2] 23)).alloc (.cells #[.int .i64 0, .int .i64 0, .int .i64 0] 25)
  have C2 := ((Cell2.new ((w.alloc (.cells #[.int .i64 p1, .int .i64 p2] 23)).alloc (.cells #[.int .i64 q1, .int .i64 q2] 23)) (.int .i64 r1) (.int .i64 r2) 23).alloc (.cells #[.int .i64 s1, .int .i64 s2] 23)).alloc (.cells #[.int .i64 0, .int .i64 0, .int .i64 0] 25)
  have C3 := (Cell2.new (((w.alloc (.cells #[.int .i64 p1, .int .i64 p2] 23)).alloc (.cells #[.int .i64 q1, .int .i64 q2] 23)).alloc (.cells #[.int .i64 r1, .int .i64 r2] 23)) (.int .i64 s1) (.int .i64 s2) 23).alloc (.cells #[.int .i64 0, .int .i64 0, .int .i64 0] 25)
  have C4 := Cell3.new ((((w.alloc (.cells #[.int .i64 p1, .int .i64 p2] 23)).alloc (.cells #[.int .i64 q1, .int .i64 q2] 23)).alloc (.cells #[.int .i64 r1, .int .i64 r2] 23)).alloc (.cells #[.int .i64 s1, .int .i64 s2] 23)) (.int .i64 0) (.int .i64 0) (.int .i64 0) 25
  simp only [World.size_alloc] at C0 C1 C2 C3 C4
  clear W0
  go_enter Try.func23, Try.ntmps23
  go_wp2
  refine wp_region_calm0 (by kernel_rfl) (by kernel_rfl) fun M => ?_
  have e0 := fun n : In M.w => n.cell (M.cell C0.c0)
  have e1 := fun n : In M.w => n.cell (M.cell C0.c1)
  have e2 := fun n : In M.w => n.cell (M.cell C2.c0)
  have e3 := fun n : In M.w => n.cell (M.cell C2.c1)
  repeat (go_big_quiet_step (first
    | (go_at_call 31; with_reducible exact In.call (H1.out _))
    | (go_at_call 31; with_reducible exact In.call (H3.out _))))
  refine wpQuiet_nil ?_
  intro wa hb
  replace hB := hB.trans (hb.mono hB.size)
  replace C1 := C1.kept hb
  replace C3 := C3.kept hb
  replace C4 := C4.kept hb
  clear hb e0 e1 e2 e3 M C0 C2
  go_wp2
  refine wp_region_calm0 (by kernel_rfl) (by kernel_rfl) fun M => ?_
  have e0 := fun n : In M.w => n.cell (M.cell C1.c0)
  have e1 := fun n : In M.w => n.cell (M.cell C1.c1)
  have e2 := fun n : In M.w => n.cell (M.cell C3.c0)
  have e3 := fun n : In M.w => n.cell (M.cell C3.c1)
  repeat (go_big_quiet_step (first
    | (go_at_call 31; with_reducible exact In.call (H2.out _))
    | (go_at_call 31; with_reducible exact In.call (H4.out _))))
  refine wpQuiet_nil ?_
  intro wb hb
  replace hB := hB.trans (hb.mono hB.size)
  replace C4 := C4.kept hb
  clear hb e0 e1 e2 e3 M C1 C3 k1 k2
  go_wp2
  go_loop [14, 27] (fun u i => ∃ (j a b : Nat), j ≤ t ∧ i = .int .i64 j ∧ u = .complex .f64 a b ∧ Fl a (uq j) ∧ Fl b (vq j)) (fun _ i => t - (intOf i).toNat)
  case atStart => exact ⟨0, _, _, Nat.zero_le _, rfl, rfl, one_whole, zero_whole⟩
  case round =>
    obtain ⟨j, a, b, hj, rfl, rfl, ha, hb⟩ := hrel
    have j4 : (j : Int) < 4 := by omega
    obtain ⟨m1, f1, f2⟩ := tMul_run j ha hb W1 W2 bw1 bw2 (by omega)
    have o1 := ord_eq f1 V1
    have o2 := ord_eq f2 V2
    by_cases hlt : j < t
    · have hn := hno j hlt
      obtain ⟨i1, i2, i3⟩ := mul_i ha hb
      have I2 := Lib.hid i2
      have I3 := Lib.hid i3
      have hnn : decide ((rot j w1 w2).1 = v1) = false ∨ (decide ((rot j w1 w2).1 = v1) = true ∧ decide ((rot j w1 w2).2 = v2) = false) := by
        by_cases e1 : (rot j w1 w2).1 = v1
        · exact .inr ⟨decide_eq_true e1, decide_eq_false fun e2 => hn (Prod.ext e1 e2)⟩
        · exact .inl (decide_eq_false e1)
      clear i2 i3 hn ha hb f1 f2 V1 V2 W1 W2 P1 P2 R1 R2 hno
      generalize decide ((rot j w1 w2).1 = v1) = B1 at *
      generalize decide ((rot j w1 w2).2 = v2) = B2 at *
      rcases hnn with rfl | ⟨rfl, rfl⟩
      all_goals
        go_wp2
        go_round
        case rel => exact ⟨j + 1, _, _, by omega, by go_num, rfl, I2.out, I3.out⟩
        case measure => simp [intOf]; omega
    · have e : j = t := by omega
      subst e
      rw [hyes] at o1 o2
      rw [decide_eq_true rfl] at o1 o2
      obtain ⟨m2, g1, g2⟩ := tMul_run j ha hb P1 P2 bp1 bp2 (by omega)
      obtain ⟨l1, l2⟩ := rot_abs j a1 a2 _ bp1 bp2
      obtain ⟨m3, g3, g4⟩ := cDif_whole 44 R1 R2 g1 g2 (by omega) (by omega)
      have h5 := fun w => tell_any a b _ _ j _ _ ht4 ha hb g3 g4 (by omega) (by omega) w
      have H5 := Lib.hid h5
      clear h5 g1 g2 g3 g4 l1 l2 ha hb f1 f2 V1 V2 W1 W2 P1 P2 R1 R2 hno bp1 bp2 br1 br2 bw1 bw2 hyes
      go_wp2_with (go_at_call 26; refine (H5.out _).mono ?_; rintro e w5 ⟨rfl, hb⟩; replace hB := hB.trans (hb.mono hB.size); obtain ⟨g0, g1, g2, z0, z1, z2⟩ := C4.kept hb; clear hb C4)
      refine bodyPost_ret (v := .tuple #[.agg #[.int .i64 (j : Int), .int .i64 (c1 - (rot j a1 a2).1), .int .i64 (c2 - (rot j a1 a2).2)], .bool true]) ?_ rfl ⟨rfl, ((hB.setCell (by simp; omega) _).setCell (by simp; omega) _).setCell (by simp; omega) _⟩
      simp [results, Try.results23, go_sem, g0, g1, g2, z0, z1, z2]
end Go.Proofs.Ytgaglplionfdgaa
