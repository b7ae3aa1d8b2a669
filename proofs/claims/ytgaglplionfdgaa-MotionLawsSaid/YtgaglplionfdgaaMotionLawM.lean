/- The walk of the law MotionLaws. -/
import Derived.Test.YtgaglplionfdgaaMotionLawL
namespace Go.Proofs.Ytgaglplionfdgaa
open Go.RowKit

set_option maxHeartbeats 8000000 in
set_option maxRecDepth 100000 in
theorem motionLaws_any (a1 a2 a3 b1 b2 b3 c1 c2 c3 p1 p2 q1 q2 : Int) (w : World) :
    Calls Try.prog 5 #[.agg #[.int .i64 a1, .int .i64 a2, .int .i64 a3], .agg #[.int .i64 b1, .int .i64 b2, .int .i64 b3], .agg #[.int .i64 c1, .int .i64 c2, .int .i64 c3], .agg #[.int .i64 p1, .int .i64 p2], .agg #[.int .i64 q1, .int .i64 q2]] w fun e w' => e = .returned (.bool true) ∧ Below w.heap.size w w' := by
  have hB : Below w.heap.size w (((((w.alloc (.cells #[.int .i64 a1, .int .i64 a2, .int .i64 a3] 25)).alloc (.cells #[.int .i64 b1, .int .i64 b2, .int .i64 b3] 25)).alloc (.cells #[.int .i64 c1, .int .i64 c2, .int .i64 c3] 25)).alloc (.cells #[.int .i64 p1, .int .i64 p2] 23)).alloc (.cells #[.int .i64 q1, .int .i64 q2] 23)) := (((((Below.refl _ _).alloc (Nat.le_refl _) _).alloc (by simp) _).alloc (by simp; omega) _).alloc (by simp; omega) _).alloc (by simp; omega) _
  have CA := ((((Cell3.new w (.int .i64 a1) (.int .i64 a2) (.int .i64 a3) 25).alloc (.cells #[.int .i64 b1, .int .i64 b2, .int .i64 b3] 25)).alloc (.cells #[.int .i64 c1, .int .i64 c2, .int .i64 c3] 25)).alloc (.cells #[.int .i64 p1, .int .i64 p2] 23)).alloc (.cells #[.int .i64 q1, .int .i64 q2] 23)
  have CB := (((Cell3.new (w.alloc (.cells #[.int .i64 a1, .int .i64 a2, .int .i64 a3] 25)) (.int .i64 b1) (.int .i64 b2) (.int .i64 b3) 25).alloc (.cells #[.int .i64 c1, .int .i64 c2, .int .i64 c3] 25)).alloc (.cells #[.int .i64 p1, .int .i64 p2] 23)).alloc (.cells #[.int .i64 q1, .int .i64 q2] 23)
  have CC := ((Cell3.new ((w.alloc (.cells #[.int .i64 a1, .int .i64 a2, .int .i64 a3] 25)).alloc (.cells #[.int .i64 b1, .int .i64 b2, .int .i64 b3] 25)) (.int .i64 c1) (.int .i64 c2) (.int .i64 c3) 25).alloc (.cells #[.int .i64 p1, .int .i64 p2] 23)).alloc (.cells #[.int .i64 q1, .int .i64 q2] 23)
  have CP := (Cell2.new (((w.alloc (.cells #[.int .i64 a1, .int .i64 a2, .int .i64 a3] 25)).alloc (.cells #[.int .i64 b1, .int .i64 b2, .int .i64 b3] 25)).alloc (.cells #[.int .i64 c1, .int .i64 c2, .int .i64 c3] 25)) (.int .i64 p1) (.int .i64 p2) 23).alloc (.cells #[.int .i64 q1, .int .i64 q2] 23)
  have CQ := Cell2.new ((((w.alloc (.cells #[.int .i64 a1, .int .i64 a2, .int .i64 a3] 25)).alloc (.cells #[.int .i64 b1, .int .i64 b2, .int .i64 b3] 25)).alloc (.cells #[.int .i64 c1, .int .i64 c2, .int .i64 c3] 25)).alloc (.cells #[.int .i64 p1, .int .i64 p2] 23)) (.int .i64 q1) (.int .i64 q2) 23
  simp only [World.size_alloc] at CA CB CC CP CQ
  have k1 := fun w => refMSmall_any a1 a2 a3 500 w (by omega) (by omega)
  have k2 := fun w => refMSmall_any b1 b2 b3 500 w (by omega) (by omega)
  have k3 := fun w => refMSmall_any c1 c2 c3 500 w (by omega) (by omega)
  have k4 := fun w => refSmall_any p1 p2 500 w (by omega) (by omega)
  have k5 := fun w => refSmall_any q1 q2 500 w (by omega) (by omega)
  obtain ⟨t1, ht1⟩ : ∃ t, smallB a2 a3 500 = t := ⟨_, rfl⟩
  obtain ⟨t2, ht2⟩ : ∃ t, smallB b2 b3 500 = t := ⟨_, rfl⟩
  obtain ⟨t3, ht3⟩ : ∃ t, smallB c2 c3 500 = t := ⟨_, rfl⟩
  obtain ⟨t4, ht4⟩ : ∃ t, smallB p1 p2 500 = t := ⟨_, rfl⟩
  obtain ⟨t5, ht5⟩ : ∃ t, smallB q1 q2 500 = t := ⟨_, rfl⟩
  rw [ht1] at k1
  rw [ht2] at k2
  rw [ht3] at k3
  rw [ht4] at k4
  rw [ht5] at k5
  have K1 := Lib.hid k1
  have K2 := Lib.hid k2
  have K3 := Lib.hid k3
  have K4 := Lib.hid k4
  have K5 := Lib.hid k5
  clear k1 k2 k3 k4 k5
  have hcase : (t1 = false) ∨ (t1 = true ∧ t2 = false) ∨ (t1 = true ∧ t2 = true ∧ t3 = false) ∨ (t1 = true ∧ t2 = true ∧ t3 = true ∧ t4 = false) ∨ (t1 = true ∧ t2 = true ∧ t3 = true ∧ t4 = true ∧ t5 = false) ∨ (t1 = true ∧ t2 = true ∧ t3 = true ∧ t4 = true ∧ t5 = true) := by
    cases t1 <;> cases t2 <;> cases t3 <;> cases t4 <;> cases t5 <;> simp
  rcases hcase with rfl | ⟨rfl, rfl⟩ | ⟨rfl, rfl, rfl⟩ | ⟨rfl, rfl, rfl, rfl⟩ | ⟨rfl, rfl, rfl, rfl, rfl⟩ | ⟨rfl, rfl, rfl, rfl, rfl⟩
  case inr.inr.inr.inr.inr =>
    obtain ⟨l1, l2⟩ := smallB_abs ht1
    obtain ⟨l3, l4⟩ := smallB_abs ht2
    obtain ⟨l5, l6⟩ := smallB_abs ht3
    obtain ⟨l7, l8⟩ := smallB_abs ht4
    obtain ⟨l9, l10⟩ := smallB_abs ht5
    obtain ⟨AB1, AB2, AB3, r1, r2, s1, s2, t1, t2, U1, U2, U3, BC1, BC2, BC3, J1, J2, J3, d1, d2, e1, e2, S, N, L⟩ := law_calls (a1 := a1) (b1 := b1) (c1 := c1) l1 l2 l3 l4 l5 l6 l7 l8 l9 l10
    clear l1 l2 l3 l4 l5 l6 l7 l8 l9 l10 ht1 ht2 ht3 ht4 ht5
    have LL := Lib.hid L
    clear L
    go_enter Try.func5, Try.ntmps5
    go_wp2_with (first
      | (go_at_call 18; (first | (with_reducible refine (K1.out _).mono ?_) | (with_reducible refine (K2.out _).mono ?_) | (with_reducible refine (K3.out _).mono ?_)); rintro e wz ⟨rfl, hb⟩; (try clear u1 u2 u3 u4 u5 u6 u7 u8 u9 u10 u11 u12 u13); replace hB := hB.trans (hb.mono hB.size); replace CA := CA.kept hb; replace CB := CB.kept hb; replace CC := CC.kept hb; replace CP := CP.kept hb; replace CQ := CQ.kept hb; clear hb; have u1 := CA.c0; have u2 := CA.c1; have u3 := CA.c2; have u4 := CB.c0; have u5 := CB.c1; have u6 := CB.c2; have u7 := CC.c0; have u8 := CC.c1; have u9 := CC.c2; have u10 := CP.c0; have u11 := CP.c1; have u12 := CQ.c0; have u13 := CQ.c1)
      | (go_at_call 19; (first | (with_reducible refine (K4.out _).mono ?_) | (with_reducible refine (K5.out _).mono ?_)); rintro e wz ⟨rfl, hb⟩; (try clear u1 u2 u3 u4 u5 u6 u7 u8 u9 u10 u11 u12 u13); replace hB := hB.trans (hb.mono hB.size); replace CA := CA.kept hb; replace CB := CB.kept hb; replace CC := CC.kept hb; replace CP := CP.kept hb; replace CQ := CQ.kept hb; clear hb; have u1 := CA.c0; have u2 := CA.c1; have u3 := CA.c2; have u4 := CB.c0; have u5 := CB.c1; have u6 := CB.c2; have u7 := CC.c0; have u8 := CC.c1; have u9 := CC.c2; have u10 := CP.c0; have u11 := CP.c1; have u12 := CQ.c0; have u13 := CQ.c1))
    clear u1 u2 u3 u4 u5 u6 u7 u8 u9 u10 u11 u12 u13
    refine wp_region_calm0 (by kernel_rfl) (by kernel_rfl) fun M => ?_
    have e1' := fun n : In M.w => n.cell (M.cell CA.c0)
    have e2' := fun n : In M.w => n.cell (M.cell CA.c1)
    have e3' := fun n : In M.w => n.cell (M.cell CA.c2)
    have e4' := fun n : In M.w => n.cell (M.cell CB.c0)
    have e5' := fun n : In M.w => n.cell (M.cell CB.c1)
    have e6' := fun n : In M.w => n.cell (M.cell CB.c2)
    have e7' := fun n : In M.w => n.cell (M.cell CC.c0)
    have e8' := fun n : In M.w => n.cell (M.cell CC.c1)
    have e9' := fun n : In M.w => n.cell (M.cell CC.c2)
    have e10' := fun n : In M.w => n.cell (M.cell CP.c0)
    have e11' := fun n : In M.w => n.cell (M.cell CP.c1)
    repeat (go_big_quiet_step (first
      | (go_at_call 11; with_reducible exact In.call (LL.out.thenAB _))
      | (go_at_call 11; with_reducible exact In.call (LL.out.thenABC _))
      | (go_at_call 11; with_reducible exact In.call (LL.out.thenBC _))
      | (go_at_call 11; with_reducible exact In.call (LL.out.thenA_BC _))
      | (go_at_call 9; with_reducible exact In.call (LL.out.doAB _))
      | (go_at_call 9; with_reducible exact In.call (LL.out.doA _))
      | (go_at_call 9; with_reducible exact In.call (LL.out.doB _))))
    refine wpQuiet_nil ?_
    intro wa hb
    replace hB := hB.trans (hb.mono hB.size)
    replace CA := CA.kept hb
    replace CP := CP.kept hb
    replace CQ := CQ.kept hb
    clear hb e1' e2' e3' e4' e5' e6' e7' e8' e9' e10' e11' M CB CC
    go_wp2
    refine wp_region_calm0 (by kernel_rfl) (by kernel_rfl) fun M => ?_
    have e1' := fun n : In M.w => n.cell (M.cell CA.c0)
    have e2' := fun n : In M.w => n.cell (M.cell CA.c1)
    have e3' := fun n : In M.w => n.cell (M.cell CA.c2)
    have e10' := fun n : In M.w => n.cell (M.cell CP.c0)
    have e11' := fun n : In M.w => n.cell (M.cell CP.c1)
    repeat (go_big_quiet_step (first
      | (go_at_call 13; with_reducible exact In.call (LL.out.back _))
      | (go_at_call 11; with_reducible exact In.call (LL.out.thenAK _))
      | (go_at_call 11; with_reducible exact In.call (LL.out.thenKA _))
      | (go_at_call 9; with_reducible exact In.call (LL.out.doA _))
      | (go_at_call 9; with_reducible exact In.call (LL.out.doK _))))
    refine wpQuiet_nil ?_
    intro wb hb
    replace hB := hB.trans (hb.mono hB.size)
    replace CA := CA.kept hb
    replace CP := CP.kept hb
    replace CQ := CQ.kept hb
    clear hb e1' e2' e3' e10' e11' M
    go_wp2
    refine wp_region_calmN 10 12 [(.cells #[.int .i64 0, .int .i64 0] 23, fun b => .pointer (some ⟨b, 0, none⟩)), (.cells #[.int .i64 0, .int .i64 0] 23, fun b => .pointer (some ⟨b, 0, none⟩))] (by kernel_rfl) (by simp) (by simp) (by kernel_rfl) fun M => ?_
    simp only [List.take_succ_cons, List.take_zero, List.drop_succ_cons, List.drop_zero, List.length_cons, List.length_nil, List.take_nil]
    have e1' := fun n : In M.w => n.cell (M.cell CA.c0)
    have e2' := fun n : In M.w => n.cell (M.cell CA.c1)
    have e3' := fun n : In M.w => n.cell (M.cell CA.c2)
    have e10' := fun n : In M.w => n.cell (M.cell CP.c0)
    have e11' := fun n : In M.w => n.cell (M.cell CP.c1)
    have e12' := fun n : In M.w => n.cell (M.cell CQ.c0)
    have e13' := fun n : In M.w => n.cell (M.cell CQ.c1)
    repeat (go_big_quiet_step (first
      | (go_at_call 20; with_reducible exact In.call (LL.out.subPQ _))
      | (go_at_call 20; with_reducible exact In.call (LL.out.subST _))
      | (go_at_call 9; with_reducible exact In.call (LL.out.doA _))
      | (go_at_call 9; with_reducible exact In.call (LL.out.doAq _))))
    refine wpQuiet_nil ?_
    clear e1' e2' e3' e10' e11' e12' e13' M CA CP CQ
    refine ⟨rfl, fun n => by simp [go_sem], fun p hp _ => ⟨rfl, fun n => by simp [go_sem], fun q hq hqp w1 hw => ?_⟩⟩
    have hne : q ≠ p := fun e => by rw [e, Gh.set_self] at hqp; cases hqp
    have hb := hw.below
    have D1 : Cell2 w1 p (.int .i64 0) (.int .i64 0) := Cell2.of_heap (hw.own p _ (by rw [Gh.set_ne _ (Ne.symm hne)]; exact Gh.set_self _ _ _))
    have D2 : Cell2 w1 q (.int .i64 0) (.int .i64 0) := Cell2.of_heap (hw.own q _ (Gh.set_self _ _ _))
    have hsz := hB.size
    replace hB := hB.trans (hb.mono hB.size)
    have n5 : p ≠ q := Ne.symm hne
    have n6 : w.heap.size ≤ p := by omega
    have n7 : w.heap.size ≤ q := by omega
    have G1 := ((D1.set (.int .i64 d1) (.int .i64 d2)).away ⟨q, 0, none⟩ (.int .i64 e1) hne).away ⟨q, 1, none⟩ (.int .i64 e2) hne
    have G2 := ((D2.away ⟨p, 0, none⟩ (.int .i64 d1) n5).away ⟨p, 1, none⟩ (.int .i64 d2) n5).set (.int .i64 e1) (.int .i64 e2)
    replace hB := (((hB.setCell (p := ⟨p, 0, none⟩) n6 (.int .i64 d1)).setCell (p := ⟨p, 1, none⟩) n6 (.int .i64 d2)).setCell (p := ⟨q, 0, none⟩) n7 (.int .i64 e1)).setCell (p := ⟨q, 1, none⟩) n7 (.int .i64 e2)
    obtain ⟨c10, c11, z10, z11⟩ := D1
    obtain ⟨c20, c21, z20, z21⟩ := D2
    clear hb hw hqp hp hq hsz n6 n7
    go_wp2
    clear c10 c11 z10 z11 c20 c21 z20 z21
    refine wp_region_calm0 (by kernel_rfl) (by kernel_rfl) fun M => ?_
    have e1' := fun n : In M.w => n.cell (M.cell G1.c0)
    have e2' := fun n : In M.w => n.cell (M.cell G1.c1)
    have e3' := fun n : In M.w => n.cell (M.cell G2.c0)
    have e4' := fun n : In M.w => n.cell (M.cell G2.c1)
    repeat (go_big_quiet_step (first
      | (go_at_call 21; with_reducible exact In.call (LL.out.steps1 _))
      | (go_at_call 21; with_reducible exact In.call (LL.out.steps2 _))
      | (go_at_call 22; with_reducible exact In.call (LL.out.norm1 _))
      | (go_at_call 22; with_reducible exact In.call (LL.out.norm2 _))
      | (go_at_call 15; exact In.call (malive_any _))))
    refine wpQuiet_nil ?_
    intro wc hb
    replace hB := hB.trans (hb.mono hB.size)
    clear hb e1' e2' e3' e4'
    go_wp2
    go_ret
    exact ⟨rfl, hB⟩
  all_goals
    clear ht1 ht2 ht3 ht4 ht5
    go_enter Try.func5, Try.ntmps5
    go_wp2_with (first
      | (go_at_call 18; (first | (with_reducible refine (K1.out _).mono ?_) | (with_reducible refine (K2.out _).mono ?_) | (with_reducible refine (K3.out _).mono ?_)); rintro e wz ⟨rfl, hb⟩; (try clear u1 u2 u3 u4 u5 u6 u7 u8 u9 u10 u11 u12 u13); replace hB := hB.trans (hb.mono hB.size); replace CA := CA.kept hb; replace CB := CB.kept hb; replace CC := CC.kept hb; replace CP := CP.kept hb; replace CQ := CQ.kept hb; clear hb; have u1 := CA.c0; have u2 := CA.c1; have u3 := CA.c2; have u4 := CB.c0; have u5 := CB.c1; have u6 := CB.c2; have u7 := CC.c0; have u8 := CC.c1; have u9 := CC.c2; have u10 := CP.c0; have u11 := CP.c1; have u12 := CQ.c0; have u13 := CQ.c1)
      | (go_at_call 19; (first | (with_reducible refine (K4.out _).mono ?_) | (with_reducible refine (K5.out _).mono ?_)); rintro e wz ⟨rfl, hb⟩; (try clear u1 u2 u3 u4 u5 u6 u7 u8 u9 u10 u11 u12 u13); replace hB := hB.trans (hb.mono hB.size); replace CA := CA.kept hb; replace CB := CB.kept hb; replace CC := CC.kept hb; replace CP := CP.kept hb; replace CQ := CQ.kept hb; clear hb; have u1 := CA.c0; have u2 := CA.c1; have u3 := CA.c2; have u4 := CB.c0; have u5 := CB.c1; have u6 := CB.c2; have u7 := CC.c0; have u8 := CC.c1; have u9 := CC.c2; have u10 := CP.c0; have u11 := CP.c1; have u12 := CQ.c0; have u13 := CQ.c1)
      | (go_at_call 15; refine (malive_any _).mono ?_; rintro e w9 ⟨rfl, hb⟩; replace hB := hB.trans (hb.mono hB.size); clear hb))
    go_ret
    exact ⟨rfl, hB⟩
end Go.Proofs.Ytgaglplionfdgaa
