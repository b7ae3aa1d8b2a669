/- The walk of the law MotionFinds. -/
import Derived.Test.YtgaglplionfdgaaMotionLawG
import Derived.Deep.DeepCutAuto
namespace Go.Proofs.Ytgaglplionfdgaa
open Go.RowKit

theorem beq_no {a b : Int} (h : a ≠ b) : (a == b) = false := by simp [h]

set_option maxHeartbeats 8000000 in
set_option maxRecDepth 100000 in
theorem motionFinds_any (n x y p1 p2 q1 q2 : Int) (w : World) :
    Calls Try.prog 6 #[.agg #[.int .i64 n, .int .i64 x, .int .i64 y], .agg #[.int .i64 p1, .int .i64 p2], .agg #[.int .i64 q1, .int .i64 q2]] w fun e w' => e = .returned (.bool true) ∧ Below w.heap.size w w' := by
  have hB : Below w.heap.size w (((w.alloc (.cells #[.int .i64 n, .int .i64 x, .int .i64 y] 25)).alloc (.cells #[.int .i64 p1, .int .i64 p2] 23)).alloc (.cells #[.int .i64 q1, .int .i64 q2] 23)) := (((Below.refl _ _).alloc (Nat.le_refl _) _).alloc (by simp) _).alloc (by simp; omega) _
  have CM := ((Cell3.new w (.int .i64 n) (.int .i64 x) (.int .i64 y) 25).alloc (.cells #[.int .i64 p1, .int .i64 p2] 23)).alloc (.cells #[.int .i64 q1, .int .i64 q2] 23)
  have CP := (Cell2.new (w.alloc (.cells #[.int .i64 n, .int .i64 x, .int .i64 y] 25)) (.int .i64 p1) (.int .i64 p2) 23).alloc (.cells #[.int .i64 q1, .int .i64 q2] 23)
  have CQ := Cell2.new ((w.alloc (.cells #[.int .i64 n, .int .i64 x, .int .i64 y] 25)).alloc (.cells #[.int .i64 p1, .int .i64 p2] 23)) (.int .i64 q1) (.int .i64 q2) 23
  simp only [World.size_alloc] at CM CP CQ
  have k1 := fun w => refMSmall_any n x y 500 w (by omega) (by omega)
  have k4 := fun w => refSmall_any p1 p2 500 w (by omega) (by omega)
  have k5 := fun w => refSmall_any q1 q2 500 w (by omega) (by omega)
  obtain ⟨t1, ht1⟩ : ∃ t, smallB x y 500 = t := ⟨_, rfl⟩
  obtain ⟨t4, ht4⟩ : ∃ t, smallB p1 p2 500 = t := ⟨_, rfl⟩
  obtain ⟨t5, ht5⟩ : ∃ t, smallB q1 q2 500 = t := ⟨_, rfl⟩
  rw [ht1] at k1
  rw [ht4] at k4
  rw [ht5] at k5
  have K1 := Lib.hid k1
  have K4 := Lib.hid k4
  have K5 := Lib.hid k5
  clear k1 k4 k5
  have hcase : (t1 = false) ∨ (t1 = true ∧ t4 = false) ∨ (t1 = true ∧ t4 = true ∧ t5 = false) ∨ (t1 = true ∧ t4 = true ∧ t5 = true) := by
    cases t1 <;> cases t4 <;> cases t5 <;> simp
  rcases hcase with rfl | ⟨rfl, rfl⟩ | ⟨rfl, rfl, rfl⟩ | ⟨rfl, rfl, rfl⟩
  case inr.inr.inr =>
    obtain ⟨l1, l2⟩ := smallB_abs ht1
    obtain ⟨l7, l8⟩ := smallB_abs ht4
    obtain ⟨l9, l10⟩ := smallB_abs ht5
    obtain ⟨r1, r2, s1, s2, t, A1, A2, F1, X, Y, n0, b, L⟩ := find_calls (n := n) l1 l2 l7 l8 l9 l10
    clear l1 l2 l7 l8 l9 l10 ht1 ht4 ht5
    have hsame := Lib.hid L.same
    have huniq := Lib.hid L.uniq
    have LL := Lib.hid L
    clear L
    go_enter Try.func6, Try.ntmps6
    go_wp2_with (first
      | (go_at_call 18; refine (K1.out _).mono ?_; rintro e wz ⟨rfl, hb⟩; (try clear u1 u2 u3 v1 v2 v3 v4); replace hB := hB.trans (hb.mono hB.size); replace CM := CM.kept hb; replace CP := CP.kept hb; replace CQ := CQ.kept hb; clear hb; have u1 := CM.c0; have u2 := CM.c1; have u3 := CM.c2; have v1 := CP.c0; have v2 := CP.c1; have v3 := CQ.c0; have v4 := CQ.c1)
      | (go_at_call 19; (first | (with_reducible refine (K4.out _).mono ?_) | (with_reducible refine (K5.out _).mono ?_)); rintro e wz ⟨rfl, hb⟩; (try clear u1 u2 u3 v1 v2 v3 v4); replace hB := hB.trans (hb.mono hB.size); replace CM := CM.kept hb; replace CP := CP.kept hb; replace CQ := CQ.kept hb; clear hb; have u1 := CM.c0; have u2 := CM.c1; have u3 := CM.c2; have v1 := CP.c0; have v2 := CP.c1; have v3 := CQ.c0; have v4 := CQ.c1))
    clear u1 u2 u3 v1 v2 v3 v4
    refine wp_region_calmN 6 8 [(.cells #[.int .i64 0, .int .i64 0] 23, fun b => .pointer (some ⟨b, 0, none⟩)), (.cells #[.int .i64 0, .int .i64 0] 23, fun b => .pointer (some ⟨b, 0, none⟩))] (by kernel_rfl) (by simp) (by simp) (by kernel_rfl) fun M => ?_
    simp only [List.take_succ_cons, List.take_zero, List.drop_succ_cons, List.drop_zero, List.length_cons, List.length_nil, List.take_nil]
    have e1' := fun n : In M.w => n.cell (M.cell CM.c0)
    have e2' := fun n : In M.w => n.cell (M.cell CM.c1)
    have e3' := fun n : In M.w => n.cell (M.cell CM.c2)
    have e4' := fun n : In M.w => n.cell (M.cell CP.c0)
    have e5' := fun n : In M.w => n.cell (M.cell CP.c1)
    have e6' := fun n : In M.w => n.cell (M.cell CQ.c0)
    have e7' := fun n : In M.w => n.cell (M.cell CQ.c1)
    repeat (go_big_quiet_step (first
      | (go_at_call 9; with_reducible exact In.call (LL.out.doP _))
      | (go_at_call 9; with_reducible exact In.call (LL.out.doQ _))))
    refine wpQuiet_nil ?_
    clear e1' e2' e3' e4' e5' e6' e7' M
    refine ⟨rfl, fun n => by simp [go_sem], fun br hp _ => ⟨rfl, fun n => by simp [go_sem], fun bs hq hqp w1 hw => ?_⟩⟩
    have hne : bs ≠ br := fun e => by rw [e, Gh.set_self] at hqp; cases hqp
    have hb := hw.below
    have D1 : Cell2 w1 br (.int .i64 0) (.int .i64 0) := Cell2.of_heap (hw.own br _ (by rw [Gh.set_ne _ (Ne.symm hne)]; exact Gh.set_self _ _ _))
    have D2 : Cell2 w1 bs (.int .i64 0) (.int .i64 0) := Cell2.of_heap (hw.own bs _ (Gh.set_self _ _ _))
    have hsz := World.block_lt_of_cell? _ _ CQ.c0
    replace hB := hB.trans (hb.mono hB.size)
    have n5 : br ≠ bs := Ne.symm hne
    have m1 : br ≠ w.heap.size := by simp at hsz; omega
    have m2 : br ≠ w.heap.size + 1 := by simp at hsz; omega
    have m3 : br ≠ w.heap.size + 1 + 1 := by simp at hsz; omega
    have m4 : bs ≠ w.heap.size := by simp at hsz; omega
    have m5 : bs ≠ w.heap.size + 1 := by simp at hsz; omega
    have m6 : bs ≠ w.heap.size + 1 + 1 := by simp at hsz; omega
    have n6 : w.heap.size ≤ br := by simp at hsz; omega
    have n7 : w.heap.size ≤ bs := by simp at hsz; omega
    have GR := ((D1.set (.int .i64 r1) (.int .i64 r2)).away ⟨bs, 0, none⟩ (.int .i64 s1) hne).away ⟨bs, 1, none⟩ (.int .i64 s2) hne
    have GS := ((D2.away ⟨br, 0, none⟩ (.int .i64 r1) n5).away ⟨br, 1, none⟩ (.int .i64 r2) n5).set (.int .i64 s1) (.int .i64 s2)
    replace CM := ((((CM.kept hb).away ⟨br, 0, none⟩ (.int .i64 r1) m1).away ⟨br, 1, none⟩ (.int .i64 r2) m1).away ⟨bs, 0, none⟩ (.int .i64 s1) m4).away ⟨bs, 1, none⟩ (.int .i64 s2) m4
    replace CP := ((((CP.kept hb).away ⟨br, 0, none⟩ (.int .i64 r1) m2).away ⟨br, 1, none⟩ (.int .i64 r2) m2).away ⟨bs, 0, none⟩ (.int .i64 s1) m5).away ⟨bs, 1, none⟩ (.int .i64 s2) m5
    replace CQ := ((((CQ.kept hb).away ⟨br, 0, none⟩ (.int .i64 r1) m3).away ⟨br, 1, none⟩ (.int .i64 r2) m3).away ⟨bs, 0, none⟩ (.int .i64 s1) m6).away ⟨bs, 1, none⟩ (.int .i64 s2) m6
    replace hB := (((hB.setCell (p := ⟨br, 0, none⟩) n6 (.int .i64 r1)).setCell (p := ⟨br, 1, none⟩) n6 (.int .i64 r2)).setCell (p := ⟨bs, 0, none⟩) n7 (.int .i64 s1)).setCell (p := ⟨bs, 1, none⟩) n7 (.int .i64 s2)
    have u1 := CP.c0
    have u2 := CP.c1
    have u3 := CQ.c0
    have u4 := CQ.c1
    have v1 := GR.c0
    have v2 := GR.c1
    have v3 := GS.c0
    have v4 := GS.c1
    obtain ⟨c10, c11, z10, z11⟩ := D1
    obtain ⟨c20, c21, z20, z21⟩ := D2
    clear hb hw hqp hp hq hsz n6 n7 m1 m2 m3 m4 m5 m6
    go_upto_region 5 with (go_at_call 23; refine (LL.out.btw _).mono ?_; rintro e w2 ⟨rfl, hb⟩; clear u1 u2 u3 u4 v1 v2 v3 v4 c10 c11 z10 z11 c20 c21 z20 z21; replace hB := hB.trans (hb.mono hB.size); replace hB := hB.alloc hB.size (.cells #[.int .i64 t, .int .i64 A1, .int .i64 A2] 25); replace CM := (CM.kept hb).alloc (.cells #[.int .i64 t, .int .i64 A1, .int .i64 A2] 25); replace CP := (CP.kept hb).alloc (.cells #[.int .i64 t, .int .i64 A1, .int .i64 A2] 25); replace CQ := (CQ.kept hb).alloc (.cells #[.int .i64 t, .int .i64 A1, .int .i64 A2] 25); replace GR := (GR.kept hb).alloc (.cells #[.int .i64 t, .int .i64 A1, .int .i64 A2] 25); replace GS := (GS.kept hb).alloc (.cells #[.int .i64 t, .int .i64 A1, .int .i64 A2] 25); have GA := Cell3.new w2 (.int .i64 t) (.int .i64 A1) (.int .i64 A2) 25; clear hb)
    go_cut [69] (fun c wx => c = .bool false ∧ Below w.heap.size w wx ∧ Cell3 wx w.heap.size (.int .i64 n) (.int .i64 x) (.int .i64 y) ∧ Cell2 wx (w.heap.size + 1) (.int .i64 p1) (.int .i64 p2))
    case first =>
      refine wp_region_calm0 (by kernel_rfl) (by kernel_rfl) fun M => ?_
      have e1' := fun n : In M.w => n.cell (M.cell CM.c0)
      have e2' := fun n : In M.w => n.cell (M.cell CM.c1)
      have e3' := fun n : In M.w => n.cell (M.cell CM.c2)
      have e4' := fun n : In M.w => n.cell (M.cell CP.c0)
      have e5' := fun n : In M.w => n.cell (M.cell CP.c1)
      have e6' := fun n : In M.w => n.cell (M.cell CQ.c0)
      have e7' := fun n : In M.w => n.cell (M.cell CQ.c1)
      have e8' := fun n : In M.w => n.cell (M.cell GR.c0)
      have e9' := fun n : In M.w => n.cell (M.cell GR.c1)
      have f1' := fun n : In M.w => n.cell (M.cell GS.c0)
      have f2' := fun n : In M.w => n.cell (M.cell GS.c1)
      have f3' := fun n : In M.w => n.cell (M.cell GA.c0)
      have f4' := fun n : In M.w => n.cell (M.cell GA.c1)
      have f5' := fun n : In M.w => n.cell (M.cell GA.c2)
      rcases hsame.out with ⟨rfl, rfl, rfl, rfl⟩ | ⟨h1 | h2, rfl, rfl, rfl⟩
      · repeat (go_big_quiet_step (first
          | (go_at_call 9; with_reducible exact In.call (LL.out.doAP _))
          | (go_at_call 9; with_reducible exact In.call (LL.out.doAQ _))
          | (go_at_call 7; with_reducible exact In.call (LL.out.fix _))))
        refine wpQuiet_nil ?_
        intro wa hb
        replace hB := hB.trans (hb.mono hB.size)
        replace CM := CM.kept hb
        replace CP := CP.kept hb
        clear hb e1' e2' e3' e4' e5' e6' e7' e8' e9' f1' f2' f3' f4' f5' M
        go_wp2
        go_meet
        exact ⟨rfl, hB, CM, CP⟩
      · have h1b := beq_no h1
        repeat (go_big_quiet_step (first
          | (go_at_call 9; with_reducible exact In.call (LL.out.doAP _))
          | (go_at_call 9; with_reducible exact In.call (LL.out.doAQ _))
          | (go_at_call 7; with_reducible exact In.call (LL.out.fix _))))
        refine wpQuiet_nil ?_
        intro wa hb
        replace hB := hB.trans (hb.mono hB.size)
        replace CM := CM.kept hb
        replace CP := CP.kept hb
        clear hb e1' e2' e3' e4' e5' e6' e7' e8' e9' f1' f2' f3' f4' f5' M
        go_wp2
        go_meet
        exact ⟨rfl, hB, CM, CP⟩
      · have h2b := beq_no h2
        by_cases h1 : p1 = q1
        · subst h1
          repeat (go_big_quiet_step (first
            | (go_at_call 9; with_reducible exact In.call (LL.out.doAP _))
            | (go_at_call 9; with_reducible exact In.call (LL.out.doAQ _))
            | (go_at_call 7; with_reducible exact In.call (LL.out.fix _))))
          refine wpQuiet_nil ?_
          intro wa hb
          replace hB := hB.trans (hb.mono hB.size)
          replace CM := CM.kept hb
          replace CP := CP.kept hb
          clear hb e1' e2' e3' e4' e5' e6' e7' e8' e9' f1' f2' f3' f4' f5' M
          go_wp2
          go_meet
          exact ⟨rfl, hB, CM, CP⟩
        · have h1b := beq_no h1
          repeat (go_big_quiet_step (first
            | (go_at_call 9; with_reducible exact In.call (LL.out.doAP _))
            | (go_at_call 9; with_reducible exact In.call (LL.out.doAQ _))
            | (go_at_call 7; with_reducible exact In.call (LL.out.fix _))))
          refine wpQuiet_nil ?_
          intro wa hb
          replace hB := hB.trans (hb.mono hB.size)
          replace CM := CM.kept hb
          replace CP := CP.kept hb
          clear hb e1' e2' e3' e4' e5' e6' e7' e8' e9' f1' f2' f3' f4' f5' M
          go_wp2
          go_meet
          exact ⟨rfl, hB, CM, CP⟩
    case rest =>
      clear CM CP CQ GR GS GA hB hsame
      obtain ⟨rfl, hB, CM, CP⟩ := hcut
      have u1 := CM.c0
      have u2 := CM.c1
      have u3 := CM.c2
      go_upto_region 8 with (go_at_call 24; refine (LL.out.still _).mono ?_; rintro e w3 ⟨rfl, hb⟩; clear u1 u2 u3; replace hB := hB.trans (hb.mono hB.size); replace hB := hB.alloc hB.size (.cells #[.int .i64 X, .int .i64 Y] 23); replace CM := (CM.kept hb).alloc (.cells #[.int .i64 X, .int .i64 Y] 23); replace CP := (CP.kept hb).alloc (.cells #[.int .i64 X, .int .i64 Y] 23); have GX := Cell2.new w3 (.int .i64 X) (.int .i64 Y) 23; clear hb)
      go_cut [94] (fun c wx => c = .bool false ∧ Below w.heap.size w wx ∧ Cell3 wx w.heap.size (.int .i64 n) (.int .i64 x) (.int .i64 y))
      case first =>
        refine wp_region_calm0 (by kernel_rfl) (by kernel_rfl) fun M => ?_
        have e1' := fun n : In M.w => n.cell (M.cell CM.c0)
        have e2' := fun n : In M.w => n.cell (M.cell CM.c1)
        have e3' := fun n : In M.w => n.cell (M.cell CM.c2)
        have e4' := fun n : In M.w => n.cell (M.cell CP.c0)
        have e5' := fun n : In M.w => n.cell (M.cell CP.c1)
        have e6' := fun n : In M.w => n.cell (M.cell GX.c0)
        have e7' := fun n : In M.w => n.cell (M.cell GX.c1)
        cases b
        · repeat (go_big_quiet_step ((go_at_call 9; with_reducible exact In.call (LL.out.doP _))))
          refine wpQuiet_nil ?_
          intro wa hb
          replace hB := hB.trans (hb.mono hB.size)
          replace CM := CM.kept hb
          clear hb e1' e2' e3' e4' e5' e6' e7' M
          go_wp2
          go_meet
          exact ⟨rfl, hB, CM⟩
        · rcases huniq.out rfl with ⟨rfl, rfl⟩ | ⟨hx, hr⟩
          · repeat (go_big_quiet_step (first
              | (go_at_call 9; with_reducible exact In.call (LL.out.doX rfl _))
              | (go_at_call 9; with_reducible exact In.call (LL.out.doP _))))
            refine wpQuiet_nil ?_
            intro wa hb
            replace hB := hB.trans (hb.mono hB.size)
            replace CM := CM.kept hb
            clear hb e1' e2' e3' e4' e5' e6' e7' M
            go_wp2
            go_meet
            exact ⟨rfl, hB, CM⟩
          · have hx' : (p1 == X) = false ∨ (p1 = X ∧ (p2 == Y) = false) := by
              by_cases e : p1 = X
              · exact .inr ⟨e, beq_no (hx.resolve_left fun h => h e)⟩
              · exact .inl (beq_no e)
            have hr' : (r1 == p1) = false ∨ (r1 = p1 ∧ (r2 == p2) = false) := by
              by_cases e : r1 = p1
              · exact .inr ⟨e, beq_no (hr.resolve_left fun h => h e)⟩
              · exact .inl (beq_no e)
            clear hx hr huniq
            rcases hx' with hx1 | ⟨rfl, hx2⟩ <;> rcases hr' with hr1 | ⟨rfl, hr2⟩
            all_goals
              repeat (go_big_quiet_step (first
                | (go_at_call 9; with_reducible exact In.call (LL.out.doX rfl _))
                | (go_at_call 9; with_reducible exact In.call (LL.out.doP _))))
              refine wpQuiet_nil ?_
              intro wa hb
              replace hB := hB.trans (hb.mono hB.size)
              replace CM := CM.kept hb
              clear hb e1' e2' e3' e4' e5' e6' e7' M
              go_wp2
              go_meet
              exact ⟨rfl, hB, CM⟩
      case rest =>
        clear CM CP GX hB huniq
        obtain ⟨rfl, hB, CM⟩ := hcut
        have u1 := CM.c0
        have u2 := CM.c1
        have u3 := CM.c2
        go_wp2_with (go_at_call 25; refine (LL.out.order _).mono ?_; rintro e w4 ⟨rfl, hb⟩; clear u1 u2 u3; replace hB := hB.trans (hb.mono hB.size); replace CM := CM.kept hb; clear hb)
        go_loopw [14] (fun i wr => ∃ k : Nat, 1 ≤ k ∧ k ≤ 5 ∧ i = .int .i64 k ∧ Below w.heap.size w wr ∧ Cell3 wr w.heap.size (.int .i64 n) (.int .i64 x) (.int .i64 y)) (fun i _ => 5 - (intOf i).toNat)
        case atStart => exact ⟨1, by omega, by omega, rfl, hB, CM⟩
        case round =>
          clear hB CM
          obtain ⟨k, hk1, hk5, rfl, hB, CM⟩ := hrel
          by_cases hlt : k ≤ 4
          · obtain ⟨T, U, V, hT, hz⟩ := LL.out.times k hk1 hlt
            have HT := Lib.hid hT
            clear hT
            have hk4 : (k : Int) ≤ 4 := by omega
            have hk0 : 0 ≤ (k : Int) := by omega
            have hz' : ((T = 0 ∧ U = 0 ∧ V = 0) ∧ 0 < n0 ∧ max n0 1 = n0 ∧ (k : Int) % n0 = 0 ∧ (k : Int).tmod n0 = 0) ∨ (((T == 0) = false ∨ (T = 0 ∧ (U == 0) = false) ∨ (T = 0 ∧ U = 0 ∧ (V == 0) = false)) ∧ (n0 = 0 ∨ (0 < n0 ∧ max n0 1 = n0 ∧ ((k : Int) % n0 == 0) = false ∧ ((k : Int).tmod n0 == 0) = false))) := by
              rcases hz with ⟨h1, h2, h3, h4⟩ | ⟨h1, h2⟩
              · exact .inl ⟨h1, h2, by omega, h4, by rw [Int.tmod_eq_emod_of_nonneg hk0]; exact h4⟩
              · refine .inr ⟨?_, ?_⟩
                · by_cases e1 : T = 0
                  · by_cases e2 : U = 0
                    · exact .inr (.inr ⟨e1, e2, beq_no ((h1.resolve_left fun h => h e1).resolve_left fun h => h e2)⟩)
                    · exact .inr (.inl ⟨e1, beq_no e2⟩)
                  · exact .inl (beq_no e1)
                · rcases h2 with h2 | ⟨h2, h3, h4⟩
                  · exact .inl h2
                  · exact .inr ⟨h2, by omega, beq_no (Int.ne_of_gt h4), by rw [Int.tmod_eq_emod_of_nonneg hk0]; exact beq_no (Int.ne_of_gt h4)⟩
            clear hz
            have u1 := CM.c0
            have u2 := CM.c1
            have u3 := CM.c2
            go_upto_region 14 with fail
            refine wp_region_calm0 (by kernel_rfl) (by kernel_rfl) fun M => ?_
            have e1' := fun n : In M.w => n.cell (M.cell CM.c0)
            have e2' := fun n : In M.w => n.cell (M.cell CM.c1)
            have e3' := fun n : In M.w => n.cell (M.cell CM.c2)
            rcases hz' with ⟨⟨rfl, rfl, rfl⟩, h1, h2, h3, h4⟩ | ⟨h1, h2⟩
            · repeat (go_big_quiet_step ((go_at_call 16; with_reducible exact In.call (HT.out _))))
              refine wpQuiet_nil ?_
              intro wa hb
              replace hB := hB.trans (hb.mono hB.size)
              replace CM := CM.kept hb
              clear hb e1' e2' e3' u1 u2 u3 M
              go_wp2
              go_roundw
              case rel => exact ⟨k + 1, by omega, by omega, by go_num, hB, CM⟩
              case measure => simp [intOf]; omega
            · rcases h1 with h1 | ⟨rfl, h1⟩ | ⟨rfl, rfl, h1⟩ <;> rcases h2 with rfl | ⟨h2, h3, h4, h5⟩
              all_goals
                repeat (go_big_quiet_step ((go_at_call 16; with_reducible exact In.call (HT.out _))))
                refine wpQuiet_nil ?_
                intro wa hb
                replace hB := hB.trans (hb.mono hB.size)
                replace CM := CM.kept hb
                clear hb e1' e2' e3' u1 u2 u3 M
                go_wp2
                go_roundw
                case rel => exact ⟨k + 1, by omega, by omega, by go_num, hB, CM⟩
                case measure => simp [intOf]; omega
          · have hk4 : ¬ (k : Int) ≤ 4 := by omega
            go_wp2_with (go_at_call 15; refine (malive_any _).mono ?_; rintro e w9 ⟨rfl, hb⟩; replace hB := hB.trans (hb.mono hB.size); clear hb)
            go_ret
            exact ⟨rfl, hB⟩
  all_goals
    clear ht1 ht4 ht5
    go_enter Try.func6, Try.ntmps6
    go_wp2_with (first
      | (go_at_call 18; refine (K1.out _).mono ?_; rintro e wz ⟨rfl, hb⟩; (try clear u1 u2 u3 v1 v2 v3 v4); replace hB := hB.trans (hb.mono hB.size); replace CM := CM.kept hb; replace CP := CP.kept hb; replace CQ := CQ.kept hb; clear hb; have u1 := CM.c0; have u2 := CM.c1; have u3 := CM.c2; have v1 := CP.c0; have v2 := CP.c1; have v3 := CQ.c0; have v4 := CQ.c1)
      | (go_at_call 19; (first | (with_reducible refine (K4.out _).mono ?_) | (with_reducible refine (K5.out _).mono ?_)); rintro e wz ⟨rfl, hb⟩; (try clear u1 u2 u3 v1 v2 v3 v4); replace hB := hB.trans (hb.mono hB.size); replace CM := CM.kept hb; replace CP := CP.kept hb; replace CQ := CQ.kept hb; clear hb; have u1 := CM.c0; have u2 := CM.c1; have u3 := CM.c2; have v1 := CP.c0; have v2 := CP.c1; have v3 := CQ.c0; have v4 := CQ.c1)
      | (go_at_call 15; refine (malive_any _).mono ?_; rintro e w9 ⟨rfl, hb⟩; replace hB := hB.trans (hb.mono hB.size); clear hb))
    go_ret
    exact ⟨rfl, hB⟩
end Go.Proofs.Ytgaglplionfdgaa
