/- Stage 14: the document's Tick, Rate, Fix, Of, Full, Ahead. -/
import Derived.Test.YtoepodjpempcdaaAgeMath
import Derived.Test.YtoepodjpempcdaaOff
import Derived.Test.YtoepodjpempcdaaOwnInts
import Derived.Test.YtoepodjpempcdaaSatRef
import Derived.Lib.MinMax
import Derived.Deep.DeepCutAuto
namespace Go.Proofs.Ytoepodjpempcdaa
open Go.RowKit

def csI4 (x : It) : List Value := [.int .i64 x.id, .int .i64 x.prio, .int .i64 x.since, .int .i64 x.seq]
theorem csI4_len (x : It) : (csI4 x).length = 4 := rfl
theorem csI4_one (x : It) : ∀ u ∈ csI4 x, u.oneCell' = true := by
  intro u hu
  simp [csI4] at hu
  rcases hu with rfl | rfl | rfl | rfl <;> rfl
abbrev itv (x : It) : Value := .agg #[.int .i64 x.id, .int .i64 x.prio, .int .i64 x.since, .int .i64 x.seq]

theorem refTick14_any (n : Int) (w : World) : Calls Try.prog 20 #[.int .i64 n] w fun e w' => e = .returned (.int .i64 (tk n)) ∧ Below w.heap.size w w' := by
  have H := Lib.hid (refSatClip_c n 0 2147483647 w)
  have e : iclip n 0 2147483647 = tk n := rfl
  rw [e] at H
  generalize tk n = t at *
  go_enter Try.func20, Try.ntmps20
  go_wp2_with (go_at_call 34; (with_reducible refine H.out.mono ?_); rintro e w1 ⟨rfl, rfl⟩)
  go_ret
  exact ⟨rfl, Below.refl _ _⟩
theorem refRate14_any (n : Int) (w : World) : Calls Try.prog 21 #[.int .i64 n] w fun e w' => e = .returned (.int .i64 (rt n)) ∧ Below w.heap.size w w' := by
  have H := Lib.hid (refSatClip_c n 0 1048576 w)
  have e : iclip n 0 1048576 = rt n := rfl
  rw [e] at H
  generalize rt n = t at *
  go_enter Try.func21, Try.ntmps21
  go_wp2_with (go_at_call 34; (with_reducible refine H.out.mono ?_); rintro e w1 ⟨rfl, rfl⟩)
  go_ret
  exact ⟨rfl, Below.refl _ _⟩

set_option maxHeartbeats 2000000 in
set_option maxRecDepth 100000 in
theorem refFix14_any (x : It) (w : World) : Calls Try.prog 19 #[itv x] w fun e w' => e = .returned (itv ⟨x.id, pr x.prio, tk x.since, x.seq⟩) ∧ Below w.heap.size w w' := by
  obtain ⟨x1, x2, x3, x4⟩ := x
  simp only
  have H1 := fun w => refSatClip_c x2 0 1048575 w
  have H2 := fun w => refTick14_any x3 w
  have e : iclip x2 0 1048575 = pr x2 := rfl
  rw [e] at H1
  generalize pr x2 = p at *
  generalize tk x3 = s at *
  have HC := Lib.hid H1
  have HT := Lib.hid H2
  have hX := Blk.new w [.int .i64 x1, .int .i64 x2, .int .i64 x3, .int .i64 x4] 23
  have hal := (Below.refl (w.alloc (.cells #[.int .i64 x1, .int .i64 x2, .int .i64 x3, .int .i64 x4] 23)).heap.size _).alloc (Nat.le_refl _) (.cells #[.int .i64 0, .int .i64 0, .int .i64 0, .int .i64 0] 23)
  have hY := Blk.new (w.alloc (.cells #[.int .i64 x1, .int .i64 x2, .int .i64 x3, .int .i64 x4] 23)) [.int .i64 0, .int .i64 0, .int .i64 0, .int .i64 0] 23
  have e1 : (w.alloc (.cells #[.int .i64 x1, .int .i64 x2, .int .i64 x3, .int .i64 x4] 23)).heap.size = w.heap.size + 1 := by simp
  rw [e1] at hY
  have hX2 := hX.kept hal
  have hB := ((Below.refl w.heap.size w).alloc (Nat.le_refl _) (.cells #[.int .i64 x1, .int .i64 x2, .int .i64 x3, .int .i64 x4] 23)).trans (hal.mono (by simp))
  have HB := Lib.hid hB
  have HY := Lib.hid hY
  have c0 := hX2.cell 0 rfl
  have c1 := hX2.cell 1 rfl
  have c2 := hX2.cell 2 rfl
  have c3 := hX2.cell 3 rfl
  clear H1 H2 e hX hal hY hX2 hB e1
  go_enter Try.func19, Try.ntmps19
  go_wp2
  generalize (w.alloc (.cells #[.int .i64 x1, .int .i64 x2, .int .i64 x3, .int .i64 x4] 23)).alloc (.cells #[.int .i64 0, .int .i64 0, .int .i64 0, .int .i64 0] 23) = ww at *
  refine wp_region_calmT 11 (by kernel_rfl) (by simp) (by kernel_rfl) fun M => ?_
  simp only [List.take_succ_cons, List.take_zero, List.drop_succ_cons, List.drop_zero]
  have m0 := fun n : In M.w => n.cell (M.cell c0)
  have m1 := fun n : In M.w => n.cell (M.cell c1)
  have m2 := fun n : In M.w => n.cell (M.cell c2)
  have m3 := fun n : In M.w => n.cell (M.cell c3)
  repeat (go_big_quiet_step (first
    | (go_at_call 34; exact In.call_same (HC.out _))
    | (go_at_call 20; exact In.call (HT.out _))))
  refine wpQuiet_nil ?_
  intro w1 hb
  have hY1 := HY.out.kept hb
  have u := (((hY1.set 0 (.int .i64 x1)).set 1 (.int .i64 p)).set 2 (.int .i64 s)).set 3 (.int .i64 x4)
  have k0 := hY1.cell 0 rfl
  have k1 := hY1.cell 1 rfl
  have k2 := hY1.cell 2 rfl
  have k3 := hY1.cell 3 rfl
  have z0 := hY1.free 0 rfl
  have z1 := hY1.free 1 rfl
  have z2 := hY1.free 2 rfl
  have z3 := hY1.free 3 rfl
  have r0 := u.cell 0 rfl
  have r1 := u.cell 1 rfl
  have r2 := u.cell 2 rfl
  have r3 := u.cell 3 rfl
  have hb1 := HB.out.trans (hb.mono HB.out.size)
  have HB2 := Lib.hid ((((hb1.setCell (p := ⟨w.heap.size + 1, 0, none⟩) (by simp) (.int .i64 x1)).setCell (p := ⟨w.heap.size + 1, 1, none⟩) (by simp) (.int .i64 p)).setCell (p := ⟨w.heap.size + 1, 2, none⟩) (by simp) (.int .i64 s)).setCell (p := ⟨w.heap.size + 1, 3, none⟩) (by simp) (.int .i64 x4))
  clear m0 m1 m2 m3 c0 c1 c2 c3 hY1 u hb1 hb M
  go_wp2
  refine bodyPost_ret (v := .agg #[.int .i64 x1, .int .i64 p, .int .i64 s, .int .i64 x4]) ?_ rfl ⟨rfl, HB2.out⟩
  simp [results, Try.results19, go_sem, r0, r1, r2, r3]

set_option maxHeartbeats 2000000 in
set_option maxRecDepth 100000 in
theorem refOf14_any (x : It) (now rate : Int) (w : World) : Calls Try.prog 8 #[itv x, .int .i64 now, .int .i64 rate] w fun e w' => e = .returned (.int .i64 (ofA x now rate)) ∧ Below w.heap.size w w' := by
  obtain ⟨x1, x2, x3, x4⟩ := x
  have H0 := Lib.hid fun w => refFix14_any ⟨x1, x2, x3, x4⟩ w
  have H1 := Lib.hid fun w => refTick14_any now w
  have H2 := Lib.hid fun w => refRate14_any rate w
  have b1 := tk_bd now
  have b2 := tk_bd x3
  have b3 := rt_bd rate
  have b4 := pr_bd x2
  have hm := mulA_bd b3 (ageA_bd ⟨x1, x2, x3, x4⟩ now)
  have ho : ofA ⟨x1, x2, x3, x4⟩ now rate = min (pr x2 + rt rate * ageA ⟨x1, x2, x3, x4⟩ now) 1048575 := rfl
  have ha : ageA ⟨x1, x2, x3, x4⟩ now = max (tk now - tk x3) 0 := rfl
  rw [ho]
  simp only at H0
  generalize ageA ⟨x1, x2, x3, x4⟩ now = g at *
  generalize tk now = t at *
  generalize tk x3 = s at *
  generalize rt rate = r at *
  generalize pr x2 = p at *
  have q1 : IntKind.i64.wrap (t - s) = t - s := IntWalk.i64_in _ ⟨by omega, by omega⟩
  have q2 : IntKind.i64.wrap (r * g) = r * g := IntWalk.i64_in _ ⟨by omega, by omega⟩
  obtain ⟨rg, hrg⟩ : ∃ rg, r * g = rg := ⟨_, rfl⟩
  rw [hrg] at hm q2 ho ⊢
  have q3 : IntKind.i64.wrap (p + rg) = p + rg := IntWalk.i64_in _ ⟨by omega, by omega⟩
  obtain ⟨o, hmin⟩ : ∃ o, min (p + rg) 1048575 = o := ⟨_, rfl⟩
  rw [hmin]
  have hmax : max (t - s) 0 = g := ha.symm
  have hB := (Below.refl w.heap.size w).alloc (Nat.le_refl _) (.cells #[.int .i64 x1, .int .i64 x2, .int .i64 x3, .int .i64 x4] 23)
  have HB := Lib.hid hB
  clear ho ha b1 b2 b3 b4 hm hB
  go_enter Try.func8, Try.ntmps8
  go_wp2_with (go_at_call 19; (with_reducible refine (H0.out _).mono ?_); rintro e w1 ⟨rfl, hb⟩; have HB1 := Lib.hid (HB.out.trans (hb.mono HB.out.size)); clear hb)
  have hY := Blk.new w1 [.int .i64 x1, .int .i64 p, .int .i64 s, .int .i64 x4] 23
  have c1 := hY.cell 1 rfl
  have c2 := hY.cell 2 rfl
  have HB2 := Lib.hid (HB1.out.alloc HB1.out.size (.cells #[.int .i64 x1, .int .i64 p, .int .i64 s, .int .i64 x4] 23))
  clear hY
  refine wp_region_calm0 (by kernel_rfl) (by kernel_rfl) fun M => ?_
  have m2 := fun n : In M.w => n.cell (M.cell c2)
  repeat (go_big_quiet_step ((go_at_call 20; exact In.call (H1.out _))))
  refine wpQuiet_nil ?_
  intro w2 hb2
  have d1 := (hb2.cell (World.block_lt_of_cell? _ _ c1)).trans c1
  have HB3 := Lib.hid (HB2.out.trans (hb2.mono HB2.out.size))
  clear m2 c1 c2 hb2 M
  go_wp2
  refine wp_region_calm0 (by kernel_rfl) (by kernel_rfl) fun M => ?_
  have m1 := fun n : In M.w => n.cell (M.cell d1)
  repeat (go_big_quiet_step ((go_at_call 21; exact In.call (H2.out _))))
  refine wpQuiet_nil ?_
  intro w3 hb3
  have HB4 := Lib.hid (HB3.out.trans (hb3.mono HB3.out.size))
  go_wp2
  go_ret
  exact ⟨rfl, HB4.out⟩

set_option maxHeartbeats 2000000 in
set_option maxRecDepth 100000 in
theorem refFull14_any (x : It) (rate : Int) (w : World) : Calls Try.prog 10 #[itv x, .int .i64 rate] w fun e w' => e = .returned (.int .i64 (fullA x rate)) ∧ Below w.heap.size w w' := by
  obtain ⟨x1, x2, x3, x4⟩ := x
  have H0 := Lib.hid fun w => refFix14_any ⟨x1, x2, x3, x4⟩ w
  have H2 := Lib.hid fun w => refRate14_any rate w
  have b2 := tk_bd x3
  have b3 := rt_bd rate
  have b4 := pr_bd x2
  have ho : fullA ⟨x1, x2, x3, x4⟩ rate = if 1048575 - pr x2 = 0 then tk x3 else if rt rate = 0 then 2147483648 else min (tk x3 + iover (1048575 - pr x2) (rt rate)) 2147483648 := rfl
  obtain ⟨f, hf⟩ : ∃ f, fullA ⟨x1, x2, x3, x4⟩ rate = f := ⟨_, rfl⟩
  rw [hf] at ho ⊢
  have H3 := Lib.hid fun w => refSatOver_c (1048575 - pr x2) (rt rate) w (by omega) (by omega)
  have bo := iover_bd (1048575 - pr x2) (rt rate)
  simp only at H0
  generalize iover (1048575 - pr x2) (rt rate) = k at *
  generalize tk x3 = s at *
  generalize rt rate = r at *
  generalize pr x2 = p at *
  obtain ⟨q, hq⟩ : ∃ q, 1048575 - p = q := ⟨_, rfl⟩
  rw [hq] at ho H3 bo
  have q4 : 0 ≤ q := by omega
  have q5 : q ≤ 1048575 := by omega
  have q3 : IntKind.i64.wrap (s + k) = s + k := IntWalk.i64_in _ ⟨by omega, by omega⟩
  have HB := Lib.hid ((Below.refl w.heap.size w).alloc (Nat.le_refl _) (.cells #[.int .i64 x1, .int .i64 x2, .int .i64 x3, .int .i64 x4] 23))
  have HO := Lib.hid ho
  clear ho hf b2 b3 b4 bo
  go_enter Try.func10, Try.ntmps10
  go_upto_region 2 with (go_at_call 19; (with_reducible refine (H0.out _).mono ?_); rintro e w1 ⟨rfl, hb⟩; have HB1 := Lib.hid (HB.out.trans (hb.mono HB.out.size)); clear hb)
  have hY := Blk.new w1 [.int .i64 x1, .int .i64 p, .int .i64 s, .int .i64 x4] 23
  have c1 := hY.cell 1 rfl
  have c2 := hY.cell 2 rfl
  have HB2 := Lib.hid (HB1.out.alloc HB1.out.size (.cells #[.int .i64 x1, .int .i64 p, .int .i64 s, .int .i64 x4] 23))
  have HY := Lib.hid hY
  clear hY
  by_cases h0 : q = 0
  · have HF := Lib.hid (show s = f by rw [HO.out, if_pos h0])
    subst h0
    go_wp2
    go_ret
    exact ⟨ret_i HF.out, HB2.out⟩
  · have h0' : (q == 0) = false := beq_noI h0
    by_cases h1 : r = 0
    · have HF := Lib.hid (show 2147483648 = f by rw [HO.out, if_neg h0, if_pos h1])
      subst h1
      clear H3
      go_wp2_with (go_at_call 21; (with_reducible refine (H2.out _).mono ?_); rintro e w3 ⟨rfl, hb⟩; have HB3 := Lib.hid (HB2.out.trans (hb.mono HB2.out.size)); clear hb)
      go_ret
      exact ⟨ret_i HF.out, HB3.out⟩
    · have h1' : (r == 0) = false := beq_noI h1
      have HF := Lib.hid (show min (s + k) 2147483648 = f by rw [HO.out, if_neg h0, if_neg h1])
      go_upto_region 7 with (go_at_call 21; (with_reducible refine (H2.out _).mono ?_); rintro e w3 ⟨rfl, hb⟩; have HB3 := Lib.hid (HB2.out.trans (hb.mono HB2.out.size)); have d2 := ((HY.out.kept hb)).cell 2 rfl; clear hb c1 c2)
      refine wp_region_calm0 (by kernel_rfl) (by kernel_rfl) fun M => ?_
      have m1 := fun n : In M.w => n.cell (M.cell d2)
      repeat (go_big_quiet_step (first
        | (go_at_call 21; exact In.call (H2.out _))
        | (go_at_call 28; exact In.call_same (H3.out _))))
      refine wpQuiet_nil ?_
      intro w4 hb4
      have HB4 := Lib.hid (HB3.out.trans (hb4.mono HB3.out.size))
      go_wp2
      go_ret
      exact ⟨ret_i HF.out, HB4.out⟩
end Go.Proofs.Ytoepodjpempcdaa
