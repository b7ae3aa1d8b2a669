/- The law AgeKeeps. -/
import Derived.Test.YtoepodjpempcdaaAgeBase
namespace Go.Proofs.Ytoepodjpempcdaa
open Go.RowKit

set_option maxHeartbeats 16000000 in
set_option maxRecDepth 100000 in
theorem ageKeeps_any (x1 x2 x3 x4 y1 y2 y3 y4 N L rate : Int) (w : World) (hN : 0 ≤ N ∧ N ≤ 4294967295) (hL : 0 ≤ L ∧ L ≤ 4294967295) : Calls Try.prog 6 #[.agg #[.int .i64 x1, .int .i64 x2, .int .i64 x3, .int .i64 x4], .agg #[.int .i64 y1, .int .i64 y2, .int .i64 y3, .int .i64 y4], .int .u32 N, .int .u32 L, .int .i64 rate] w fun e w' => e = .returned (.bool true) ∧ Below w.heap.size w w' := by
  have HAL := Lib.hid fun w => aAlive_any w
  obtain ⟨n, hn⟩ : ∃ n, N / 2 = n := ⟨_, rfl⟩
  obtain ⟨l, hl⟩ : ∃ l, L / 2 = l := ⟨_, rfl⟩
  obtain ⟨m, hm⟩ : ∃ m, max n l = m := ⟨_, rfl⟩
  have n0 : 0 ≤ n := by omega
  have n1 : n ≤ 2147483647 := by omega
  have l0 : 0 ≤ l := by omega
  have l1 : l ≤ 2147483647 := by omega
  have hX0 := Blk.new w [.int .i64 x1, .int .i64 x2, .int .i64 x3, .int .i64 x4] 23
  have hal := (Below.refl (w.alloc (.cells #[.int .i64 x1, .int .i64 x2, .int .i64 x3, .int .i64 x4] 23)).heap.size _).alloc (Nat.le_refl _) (.cells #[.int .i64 y1, .int .i64 y2, .int .i64 y3, .int .i64 y4] 23)
  have hY := Blk.new (w.alloc (.cells #[.int .i64 x1, .int .i64 x2, .int .i64 x3, .int .i64 x4] 23)) [.int .i64 y1, .int .i64 y2, .int .i64 y3, .int .i64 y4] 23
  have e1 : (w.alloc (.cells #[.int .i64 x1, .int .i64 x2, .int .i64 x3, .int .i64 x4] 23)).heap.size = w.heap.size + 1 := by simp
  rw [e1] at hY
  have hX := hX0.kept hal
  have HB := Lib.hid (((Below.refl w.heap.size w).alloc (Nat.le_refl _) (.cells #[.int .i64 x1, .int .i64 x2, .int .i64 x3, .int .i64 x4] 23)).trans (hal.mono (by rw [e1]; omega)))
  have c0 := hX.cell 0 rfl
  have c1 := hX.cell 1 rfl
  have c2 := hX.cell 2 rfl
  have c3 := hX.cell 3 rfl
  have d0 := hY.cell 0 rfl
  have d1 := hY.cell 1 rfl
  have d2 := hY.cell 2 rfl
  have d3 := hY.cell 3 rfl
  have HX0 := Lib.hid hX
  have HY0 := Lib.hid hY
  clear hX hY hX0 hal e1
  by_cases hw : n < x3 ∨ n < y3 ∨ (x1 = y1 ∧ x4 = y4)
  · by_cases q1 : n < x3
    · clear hw
      go_enter Try.func6, Try.ntmps6
      go_wp2_with (go_at_call 13; (with_reducible refine (HAL.out _).mono ?_); rintro e w1 ⟨rfl, hb⟩; replace HB := Lib.hid (HB.out.trans (hb.mono HB.out.size)); clear hb)
      go_ret
      exact ⟨rfl, HB.out⟩
    by_cases q2 : n < y3
    · clear hw
      go_enter Try.func6, Try.ntmps6
      go_wp2_with (go_at_call 13; (with_reducible refine (HAL.out _).mono ?_); rintro e w1 ⟨rfl, hb⟩; replace HB := Lib.hid (HB.out.trans (hb.mono HB.out.size)); clear hb)
      go_ret
      exact ⟨rfl, HB.out⟩
    · obtain ⟨rfl, rfl⟩ : x1 = y1 ∧ x4 = y4 := by omega
      clear hw
      go_enter Try.func6, Try.ntmps6
      go_wp2_with (go_at_call 13; (with_reducible refine (HAL.out _).mono ?_); rintro e w1 ⟨rfl, hb⟩; replace HB := Lib.hid (HB.out.trans (hb.mono HB.out.size)); clear hb)
      go_ret
      exact ⟨rfl, HB.out⟩
  · have w1' : ¬ n < x3 := by omega
    have w2' : ¬ n < y3 := by omega
    have w3' : x1 = y1 → ¬ x4 = y4 := fun h1 h2 => hw (.inr (.inr ⟨h1, h2⟩))
    have hor := ahA_or ⟨x1, x2, x3, x4⟩ ⟨y1, y2, y3, y4⟩ n rate (fun h => w3' h.1 h.2)
    have hkeep := fun h1 h2 => keeps (a := ⟨x1, x2, x3, x4⟩) (b := ⟨y1, y2, y3, y4⟩) (n := n) (m := m) (rate := rate) (by simp only; omega) (by simp only; omega) n0 (by omega) (by omega) h1 h2
    have hfull := fun h1 h2 h3 => keeps_full (a := ⟨x1, x2, x3, x4⟩) (b := ⟨y1, y2, y3, y4⟩) (n := n) (m := m) (rate := rate) (by omega) h1 h2 h3
    have g1 := fun w => aAhead_any ⟨x1, x2, x3, x4⟩ ⟨y1, y2, y3, y4⟩ n rate w
    have g2 := fun w => aAhead_any ⟨y1, y2, y3, y4⟩ ⟨x1, x2, x3, x4⟩ n rate w
    have g3 := fun w => aOf_any ⟨y1, y2, y3, y4⟩ m rate w
    have g4 := fun w => aAhead_any ⟨x1, x2, x3, x4⟩ ⟨y1, y2, y3, y4⟩ m rate w
    have g5 := fun w => aOf_any ⟨x1, x2, x3, x4⟩ n rate w
    have g6 := fun w => aOf_any ⟨y1, y2, y3, y4⟩ n rate w
    simp only [itv] at g1 g2 g3 g4 g5 g6
    simp only at hfull
    generalize ahA ⟨x1, x2, x3, x4⟩ ⟨y1, y2, y3, y4⟩ n rate = t1 at *
    generalize ahA ⟨y1, y2, y3, y4⟩ ⟨x1, x2, x3, x4⟩ n rate = t2 at *
    generalize ahA ⟨x1, x2, x3, x4⟩ ⟨y1, y2, y3, y4⟩ m rate = t3 at *
    generalize ofA ⟨y1, y2, y3, y4⟩ m rate = qb at *
    generalize ofA ⟨x1, x2, x3, x4⟩ n rate = pa at *
    generalize ofA ⟨y1, y2, y3, y4⟩ n rate = pb at *
    have G1 := Lib.hid g1
    have G2 := Lib.hid g2
    have G3 := Lib.hid g3
    have G4 := Lib.hid g4
    have G5 := Lib.hid g5
    have G6 := Lib.hid g6
    have HK := Lib.hid hkeep
    have HF := Lib.hid hfull
    have HO := Lib.hid hor
    clear g1 g2 g3 g4 g5 g6 hkeep hfull hor hw
    have HB0 := HB
    clear HB
    by_cases hid : x1 = y1
    · have hne := w3' hid
      have HWW := Lib.hid hne
      have h4 : (x4 == y4) = false := beq_noI hne
      subst hid
      clear w3' hne
      go_enter Try.func6, Try.ntmps6
      go_upto_region 4 with fail
      generalize (w.alloc (.cells #[.int .i64 x1, .int .i64 x2, .int .i64 x3, .int .i64 x4] 23)).alloc (.cells #[.int .i64 x1, .int .i64 y2, .int .i64 y3, .int .i64 y4] 23) = ww at *
      refine wp_region_calm0 (by kernel_rfl) (by kernel_rfl) fun M => ?_
      have m0 := fun n : In M.w => n.cell (M.cell c0)
      have m1 := fun n : In M.w => n.cell (M.cell c1)
      have m2 := fun n : In M.w => n.cell (M.cell c2)
      have m3 := fun n : In M.w => n.cell (M.cell c3)
      have m4 := fun n : In M.w => n.cell (M.cell d0)
      have m5 := fun n : In M.w => n.cell (M.cell d1)
      have m6 := fun n : In M.w => n.cell (M.cell d2)
      have m7 := fun n : In M.w => n.cell (M.cell d3)
      repeat (go_big_quiet_step (first
        | (go_at_call 11; with_reducible exact In.call (G1.out _))
        | (go_at_call 11; with_reducible exact In.call (G2.out _))))
      refine wpQuiet_nil ?_
      intro w2 hb
      have HB := Lib.hid (HB0.out.trans (hb.mono HB0.out.size))
      have HX := Lib.hid (HX0.out.kept hb)
      have HY := Lib.hid (HY0.out.kept hb)
      clear hb c0 c1 c2 c3 d0 d1 d2 d3 m0 m1 m2 m3 m4 m5 m6 m7 M HB0 HX0 HY0
      have c0 := HX.out.cell 0 rfl
      have c1 := HX.out.cell 1 rfl
      have c2 := HX.out.cell 2 rfl
      have c3 := HX.out.cell 3 rfl
      have d0 := HY.out.cell 0 rfl
      have d1 := HY.out.cell 1 rfl
      have d2 := HY.out.cell 2 rfl
      have d3 := HY.out.cell 3 rfl
      cases t1 with
      | true =>
        cases t2 with
        | true => exact absurd rfl HO.out
        | false =>
          by_cases hq : qb < 1048575
          · have hk := HK.out rfl hq
            subst hk
            by_cases f1 : pa = 1048575
            · subst f1
              by_cases f2 : pb = 1048575
              · subst f2
                by_cases f3 : x4 = y4
                · exact absurd f3 HWW.out
                · have f4 : decide (x4 < y4) = true := (HF.out (by trivial) (by trivial) f3).symm
                  have f5 : (x4 == y4) = false := beq_noI f3
                  go_wp2_with (first
                    | (go_at_call 11; (with_reducible refine (G1.out _).mono ?_); rintro e w1 ⟨rfl, hb⟩; replace HB := Lib.hid (HB.out.trans (hb.mono HB.out.size)); replace HX := Lib.hid (HX.out.kept hb); replace HY := Lib.hid (HY.out.kept hb); have c0 := HX.out.cell 0 rfl; have c1 := HX.out.cell 1 rfl; have c2 := HX.out.cell 2 rfl; have c3 := HX.out.cell 3 rfl; have d0 := HY.out.cell 0 rfl; have d1 := HY.out.cell 1 rfl; have d2 := HY.out.cell 2 rfl; have d3 := HY.out.cell 3 rfl; clear hb)
                    | (go_at_call 7; (with_reducible refine (G3.out _).mono ?_); rintro e w1 ⟨rfl, hb⟩; replace HB := Lib.hid (HB.out.trans (hb.mono HB.out.size)); replace HX := Lib.hid (HX.out.kept hb); replace HY := Lib.hid (HY.out.kept hb); have c0 := HX.out.cell 0 rfl; have c1 := HX.out.cell 1 rfl; have c2 := HX.out.cell 2 rfl; have c3 := HX.out.cell 3 rfl; have d0 := HY.out.cell 0 rfl; have d1 := HY.out.cell 1 rfl; have d2 := HY.out.cell 2 rfl; have d3 := HY.out.cell 3 rfl; clear hb)
                    | (go_at_call 11; (with_reducible refine (G4.out _).mono ?_); rintro e w1 ⟨rfl, hb⟩; replace HB := Lib.hid (HB.out.trans (hb.mono HB.out.size)); replace HX := Lib.hid (HX.out.kept hb); replace HY := Lib.hid (HY.out.kept hb); have c0 := HX.out.cell 0 rfl; have c1 := HX.out.cell 1 rfl; have c2 := HX.out.cell 2 rfl; have c3 := HX.out.cell 3 rfl; have d0 := HY.out.cell 0 rfl; have d1 := HY.out.cell 1 rfl; have d2 := HY.out.cell 2 rfl; have d3 := HY.out.cell 3 rfl; clear hb)
                    | (go_at_call 7; (with_reducible refine (G5.out _).mono ?_); rintro e w1 ⟨rfl, hb⟩; replace HB := Lib.hid (HB.out.trans (hb.mono HB.out.size)); replace HX := Lib.hid (HX.out.kept hb); replace HY := Lib.hid (HY.out.kept hb); have c0 := HX.out.cell 0 rfl; have c1 := HX.out.cell 1 rfl; have c2 := HX.out.cell 2 rfl; have c3 := HX.out.cell 3 rfl; have d0 := HY.out.cell 0 rfl; have d1 := HY.out.cell 1 rfl; have d2 := HY.out.cell 2 rfl; have d3 := HY.out.cell 3 rfl; clear hb)
                    | (go_at_call 7; (with_reducible refine (G6.out _).mono ?_); rintro e w1 ⟨rfl, hb⟩; replace HB := Lib.hid (HB.out.trans (hb.mono HB.out.size)); replace HX := Lib.hid (HX.out.kept hb); replace HY := Lib.hid (HY.out.kept hb); have c0 := HX.out.cell 0 rfl; have c1 := HX.out.cell 1 rfl; have c2 := HX.out.cell 2 rfl; have c3 := HX.out.cell 3 rfl; have d0 := HY.out.cell 0 rfl; have d1 := HY.out.cell 1 rfl; have d2 := HY.out.cell 2 rfl; have d3 := HY.out.cell 3 rfl; clear hb))
                  refine wp_region_calm0 (by kernel_rfl) (by kernel_rfl) fun M => ?_
                  have m0 := fun n : In M.w => n.cell (M.cell c0)
                  have m1 := fun n : In M.w => n.cell (M.cell c1)
                  have m2 := fun n : In M.w => n.cell (M.cell c2)
                  have m3 := fun n : In M.w => n.cell (M.cell c3)
                  have m4 := fun n : In M.w => n.cell (M.cell d0)
                  have m5 := fun n : In M.w => n.cell (M.cell d1)
                  have m6 := fun n : In M.w => n.cell (M.cell d2)
                  have m7 := fun n : In M.w => n.cell (M.cell d3)
                  repeat (go_big_quiet_step (first
                    | (go_at_call 11; with_reducible exact In.call (G4.out _))
                    | (go_at_call 13; with_reducible exact In.call (HAL.out _))))
                  refine wpQuiet_nil ?_
                  intro w3 hb3
                  have HB3 := Lib.hid (HB.out.trans (hb3.mono HB.out.size))
                  clear hb3
                  go_wp2
                  go_ret
                  exact ⟨rfl, HB3.out⟩
              · have f3 : (pb == 1048575) = false := beq_noI f2
                go_wp2_with (first
                  | (go_at_call 11; (with_reducible refine (G1.out _).mono ?_); rintro e w1 ⟨rfl, hb⟩; replace HB := Lib.hid (HB.out.trans (hb.mono HB.out.size)); replace HX := Lib.hid (HX.out.kept hb); replace HY := Lib.hid (HY.out.kept hb); have c0 := HX.out.cell 0 rfl; have c1 := HX.out.cell 1 rfl; have c2 := HX.out.cell 2 rfl; have c3 := HX.out.cell 3 rfl; have d0 := HY.out.cell 0 rfl; have d1 := HY.out.cell 1 rfl; have d2 := HY.out.cell 2 rfl; have d3 := HY.out.cell 3 rfl; clear hb)
                  | (go_at_call 7; (with_reducible refine (G3.out _).mono ?_); rintro e w1 ⟨rfl, hb⟩; replace HB := Lib.hid (HB.out.trans (hb.mono HB.out.size)); replace HX := Lib.hid (HX.out.kept hb); replace HY := Lib.hid (HY.out.kept hb); have c0 := HX.out.cell 0 rfl; have c1 := HX.out.cell 1 rfl; have c2 := HX.out.cell 2 rfl; have c3 := HX.out.cell 3 rfl; have d0 := HY.out.cell 0 rfl; have d1 := HY.out.cell 1 rfl; have d2 := HY.out.cell 2 rfl; have d3 := HY.out.cell 3 rfl; clear hb)
                  | (go_at_call 11; (with_reducible refine (G4.out _).mono ?_); rintro e w1 ⟨rfl, hb⟩; replace HB := Lib.hid (HB.out.trans (hb.mono HB.out.size)); replace HX := Lib.hid (HX.out.kept hb); replace HY := Lib.hid (HY.out.kept hb); have c0 := HX.out.cell 0 rfl; have c1 := HX.out.cell 1 rfl; have c2 := HX.out.cell 2 rfl; have c3 := HX.out.cell 3 rfl; have d0 := HY.out.cell 0 rfl; have d1 := HY.out.cell 1 rfl; have d2 := HY.out.cell 2 rfl; have d3 := HY.out.cell 3 rfl; clear hb)
                  | (go_at_call 7; (with_reducible refine (G5.out _).mono ?_); rintro e w1 ⟨rfl, hb⟩; replace HB := Lib.hid (HB.out.trans (hb.mono HB.out.size)); replace HX := Lib.hid (HX.out.kept hb); replace HY := Lib.hid (HY.out.kept hb); have c0 := HX.out.cell 0 rfl; have c1 := HX.out.cell 1 rfl; have c2 := HX.out.cell 2 rfl; have c3 := HX.out.cell 3 rfl; have d0 := HY.out.cell 0 rfl; have d1 := HY.out.cell 1 rfl; have d2 := HY.out.cell 2 rfl; have d3 := HY.out.cell 3 rfl; clear hb)
                  | (go_at_call 7; (with_reducible refine (G6.out _).mono ?_); rintro e w1 ⟨rfl, hb⟩; replace HB := Lib.hid (HB.out.trans (hb.mono HB.out.size)); replace HX := Lib.hid (HX.out.kept hb); replace HY := Lib.hid (HY.out.kept hb); have c0 := HX.out.cell 0 rfl; have c1 := HX.out.cell 1 rfl; have c2 := HX.out.cell 2 rfl; have c3 := HX.out.cell 3 rfl; have d0 := HY.out.cell 0 rfl; have d1 := HY.out.cell 1 rfl; have d2 := HY.out.cell 2 rfl; have d3 := HY.out.cell 3 rfl; clear hb)
                  | (go_at_call 13; (with_reducible refine (HAL.out _).mono ?_); rintro e w1 ⟨rfl, hb⟩; replace HB := Lib.hid (HB.out.trans (hb.mono HB.out.size)); clear hb))
                go_ret
                exact ⟨rfl, HB.out⟩
            · have f2 : (pa == 1048575) = false := beq_noI f1
              go_wp2_with (first
                | (go_at_call 11; (with_reducible refine (G1.out _).mono ?_); rintro e w1 ⟨rfl, hb⟩; replace HB := Lib.hid (HB.out.trans (hb.mono HB.out.size)); replace HX := Lib.hid (HX.out.kept hb); replace HY := Lib.hid (HY.out.kept hb); have c0 := HX.out.cell 0 rfl; have c1 := HX.out.cell 1 rfl; have c2 := HX.out.cell 2 rfl; have c3 := HX.out.cell 3 rfl; have d0 := HY.out.cell 0 rfl; have d1 := HY.out.cell 1 rfl; have d2 := HY.out.cell 2 rfl; have d3 := HY.out.cell 3 rfl; clear hb)
                | (go_at_call 7; (with_reducible refine (G3.out _).mono ?_); rintro e w1 ⟨rfl, hb⟩; replace HB := Lib.hid (HB.out.trans (hb.mono HB.out.size)); replace HX := Lib.hid (HX.out.kept hb); replace HY := Lib.hid (HY.out.kept hb); have c0 := HX.out.cell 0 rfl; have c1 := HX.out.cell 1 rfl; have c2 := HX.out.cell 2 rfl; have c3 := HX.out.cell 3 rfl; have d0 := HY.out.cell 0 rfl; have d1 := HY.out.cell 1 rfl; have d2 := HY.out.cell 2 rfl; have d3 := HY.out.cell 3 rfl; clear hb)
                | (go_at_call 11; (with_reducible refine (G4.out _).mono ?_); rintro e w1 ⟨rfl, hb⟩; replace HB := Lib.hid (HB.out.trans (hb.mono HB.out.size)); replace HX := Lib.hid (HX.out.kept hb); replace HY := Lib.hid (HY.out.kept hb); have c0 := HX.out.cell 0 rfl; have c1 := HX.out.cell 1 rfl; have c2 := HX.out.cell 2 rfl; have c3 := HX.out.cell 3 rfl; have d0 := HY.out.cell 0 rfl; have d1 := HY.out.cell 1 rfl; have d2 := HY.out.cell 2 rfl; have d3 := HY.out.cell 3 rfl; clear hb)
                | (go_at_call 7; (with_reducible refine (G5.out _).mono ?_); rintro e w1 ⟨rfl, hb⟩; replace HB := Lib.hid (HB.out.trans (hb.mono HB.out.size)); replace HX := Lib.hid (HX.out.kept hb); replace HY := Lib.hid (HY.out.kept hb); have c0 := HX.out.cell 0 rfl; have c1 := HX.out.cell 1 rfl; have c2 := HX.out.cell 2 rfl; have c3 := HX.out.cell 3 rfl; have d0 := HY.out.cell 0 rfl; have d1 := HY.out.cell 1 rfl; have d2 := HY.out.cell 2 rfl; have d3 := HY.out.cell 3 rfl; clear hb)
                | (go_at_call 13; (with_reducible refine (HAL.out _).mono ?_); rintro e w1 ⟨rfl, hb⟩; replace HB := Lib.hid (HB.out.trans (hb.mono HB.out.size)); clear hb))
              go_ret
              exact ⟨rfl, HB.out⟩
          · have hq2 : 1048575 ≤ qb := by omega
            by_cases f1 : pa = 1048575
            · subst f1
              by_cases f2 : pb = 1048575
              · subst f2
                by_cases f3 : x4 = y4
                · exact absurd f3 HWW.out
                · have f4 := HF.out (by trivial) (by trivial) f3
                  subst f4
                  have f5 : (x4 == y4) = false := beq_noI f3
                  go_wp2_with (first
                    | (go_at_call 11; (with_reducible refine (G1.out _).mono ?_); rintro e w1 ⟨rfl, hb⟩; replace HB := Lib.hid (HB.out.trans (hb.mono HB.out.size)); replace HX := Lib.hid (HX.out.kept hb); replace HY := Lib.hid (HY.out.kept hb); have c0 := HX.out.cell 0 rfl; have c1 := HX.out.cell 1 rfl; have c2 := HX.out.cell 2 rfl; have c3 := HX.out.cell 3 rfl; have d0 := HY.out.cell 0 rfl; have d1 := HY.out.cell 1 rfl; have d2 := HY.out.cell 2 rfl; have d3 := HY.out.cell 3 rfl; clear hb)
                    | (go_at_call 7; (with_reducible refine (G3.out _).mono ?_); rintro e w1 ⟨rfl, hb⟩; replace HB := Lib.hid (HB.out.trans (hb.mono HB.out.size)); replace HX := Lib.hid (HX.out.kept hb); replace HY := Lib.hid (HY.out.kept hb); have c0 := HX.out.cell 0 rfl; have c1 := HX.out.cell 1 rfl; have c2 := HX.out.cell 2 rfl; have c3 := HX.out.cell 3 rfl; have d0 := HY.out.cell 0 rfl; have d1 := HY.out.cell 1 rfl; have d2 := HY.out.cell 2 rfl; have d3 := HY.out.cell 3 rfl; clear hb)
                    | (go_at_call 7; (with_reducible refine (G5.out _).mono ?_); rintro e w1 ⟨rfl, hb⟩; replace HB := Lib.hid (HB.out.trans (hb.mono HB.out.size)); replace HX := Lib.hid (HX.out.kept hb); replace HY := Lib.hid (HY.out.kept hb); have c0 := HX.out.cell 0 rfl; have c1 := HX.out.cell 1 rfl; have c2 := HX.out.cell 2 rfl; have c3 := HX.out.cell 3 rfl; have d0 := HY.out.cell 0 rfl; have d1 := HY.out.cell 1 rfl; have d2 := HY.out.cell 2 rfl; have d3 := HY.out.cell 3 rfl; clear hb)
                    | (go_at_call 7; (with_reducible refine (G6.out _).mono ?_); rintro e w1 ⟨rfl, hb⟩; replace HB := Lib.hid (HB.out.trans (hb.mono HB.out.size)); replace HX := Lib.hid (HX.out.kept hb); replace HY := Lib.hid (HY.out.kept hb); have c0 := HX.out.cell 0 rfl; have c1 := HX.out.cell 1 rfl; have c2 := HX.out.cell 2 rfl; have c3 := HX.out.cell 3 rfl; have d0 := HY.out.cell 0 rfl; have d1 := HY.out.cell 1 rfl; have d2 := HY.out.cell 2 rfl; have d3 := HY.out.cell 3 rfl; clear hb))
                  refine wp_region_calm0 (by kernel_rfl) (by kernel_rfl) fun M => ?_
                  have m0 := fun n : In M.w => n.cell (M.cell c0)
                  have m1 := fun n : In M.w => n.cell (M.cell c1)
                  have m2 := fun n : In M.w => n.cell (M.cell c2)
                  have m3 := fun n : In M.w => n.cell (M.cell c3)
                  have m4 := fun n : In M.w => n.cell (M.cell d0)
                  have m5 := fun n : In M.w => n.cell (M.cell d1)
                  have m6 := fun n : In M.w => n.cell (M.cell d2)
                  have m7 := fun n : In M.w => n.cell (M.cell d3)
                  repeat (go_big_quiet_step (first
                    | (go_at_call 11; with_reducible exact In.call (G4.out _))
                    | (go_at_call 13; with_reducible exact In.call (HAL.out _))))
                  refine wpQuiet_nil ?_
                  intro w3 hb3
                  have HB3 := Lib.hid (HB.out.trans (hb3.mono HB.out.size))
                  clear hb3
                  go_wp2
                  go_ret
                  exact ⟨rfl, HB3.out⟩
              · have f3 : (pb == 1048575) = false := beq_noI f2
                go_wp2_with (first
                  | (go_at_call 11; (with_reducible refine (G1.out _).mono ?_); rintro e w1 ⟨rfl, hb⟩; replace HB := Lib.hid (HB.out.trans (hb.mono HB.out.size)); replace HX := Lib.hid (HX.out.kept hb); replace HY := Lib.hid (HY.out.kept hb); have c0 := HX.out.cell 0 rfl; have c1 := HX.out.cell 1 rfl; have c2 := HX.out.cell 2 rfl; have c3 := HX.out.cell 3 rfl; have d0 := HY.out.cell 0 rfl; have d1 := HY.out.cell 1 rfl; have d2 := HY.out.cell 2 rfl; have d3 := HY.out.cell 3 rfl; clear hb)
                  | (go_at_call 7; (with_reducible refine (G3.out _).mono ?_); rintro e w1 ⟨rfl, hb⟩; replace HB := Lib.hid (HB.out.trans (hb.mono HB.out.size)); replace HX := Lib.hid (HX.out.kept hb); replace HY := Lib.hid (HY.out.kept hb); have c0 := HX.out.cell 0 rfl; have c1 := HX.out.cell 1 rfl; have c2 := HX.out.cell 2 rfl; have c3 := HX.out.cell 3 rfl; have d0 := HY.out.cell 0 rfl; have d1 := HY.out.cell 1 rfl; have d2 := HY.out.cell 2 rfl; have d3 := HY.out.cell 3 rfl; clear hb)
                  | (go_at_call 7; (with_reducible refine (G5.out _).mono ?_); rintro e w1 ⟨rfl, hb⟩; replace HB := Lib.hid (HB.out.trans (hb.mono HB.out.size)); replace HX := Lib.hid (HX.out.kept hb); replace HY := Lib.hid (HY.out.kept hb); have c0 := HX.out.cell 0 rfl; have c1 := HX.out.cell 1 rfl; have c2 := HX.out.cell 2 rfl; have c3 := HX.out.cell 3 rfl; have d0 := HY.out.cell 0 rfl; have d1 := HY.out.cell 1 rfl; have d2 := HY.out.cell 2 rfl; have d3 := HY.out.cell 3 rfl; clear hb)
                  | (go_at_call 7; (with_reducible refine (G6.out _).mono ?_); rintro e w1 ⟨rfl, hb⟩; replace HB := Lib.hid (HB.out.trans (hb.mono HB.out.size)); replace HX := Lib.hid (HX.out.kept hb); replace HY := Lib.hid (HY.out.kept hb); have c0 := HX.out.cell 0 rfl; have c1 := HX.out.cell 1 rfl; have c2 := HX.out.cell 2 rfl; have c3 := HX.out.cell 3 rfl; have d0 := HY.out.cell 0 rfl; have d1 := HY.out.cell 1 rfl; have d2 := HY.out.cell 2 rfl; have d3 := HY.out.cell 3 rfl; clear hb)
                  | (go_at_call 13; (with_reducible refine (HAL.out _).mono ?_); rintro e w1 ⟨rfl, hb⟩; replace HB := Lib.hid (HB.out.trans (hb.mono HB.out.size)); clear hb))
                go_ret
                exact ⟨rfl, HB.out⟩
            · have f2 : (pa == 1048575) = false := beq_noI f1
              go_wp2_with (first
                | (go_at_call 11; (with_reducible refine (G1.out _).mono ?_); rintro e w1 ⟨rfl, hb⟩; replace HB := Lib.hid (HB.out.trans (hb.mono HB.out.size)); replace HX := Lib.hid (HX.out.kept hb); replace HY := Lib.hid (HY.out.kept hb); have c0 := HX.out.cell 0 rfl; have c1 := HX.out.cell 1 rfl; have c2 := HX.out.cell 2 rfl; have c3 := HX.out.cell 3 rfl; have d0 := HY.out.cell 0 rfl; have d1 := HY.out.cell 1 rfl; have d2 := HY.out.cell 2 rfl; have d3 := HY.out.cell 3 rfl; clear hb)
                | (go_at_call 7; (with_reducible refine (G3.out _).mono ?_); rintro e w1 ⟨rfl, hb⟩; replace HB := Lib.hid (HB.out.trans (hb.mono HB.out.size)); replace HX := Lib.hid (HX.out.kept hb); replace HY := Lib.hid (HY.out.kept hb); have c0 := HX.out.cell 0 rfl; have c1 := HX.out.cell 1 rfl; have c2 := HX.out.cell 2 rfl; have c3 := HX.out.cell 3 rfl; have d0 := HY.out.cell 0 rfl; have d1 := HY.out.cell 1 rfl; have d2 := HY.out.cell 2 rfl; have d3 := HY.out.cell 3 rfl; clear hb)
                | (go_at_call 7; (with_reducible refine (G5.out _).mono ?_); rintro e w1 ⟨rfl, hb⟩; replace HB := Lib.hid (HB.out.trans (hb.mono HB.out.size)); replace HX := Lib.hid (HX.out.kept hb); replace HY := Lib.hid (HY.out.kept hb); have c0 := HX.out.cell 0 rfl; have c1 := HX.out.cell 1 rfl; have c2 := HX.out.cell 2 rfl; have c3 := HX.out.cell 3 rfl; have d0 := HY.out.cell 0 rfl; have d1 := HY.out.cell 1 rfl; have d2 := HY.out.cell 2 rfl; have d3 := HY.out.cell 3 rfl; clear hb)
                | (go_at_call 13; (with_reducible refine (HAL.out _).mono ?_); rintro e w1 ⟨rfl, hb⟩; replace HB := Lib.hid (HB.out.trans (hb.mono HB.out.size)); clear hb))
              go_ret
              exact ⟨rfl, HB.out⟩
      | false =>
        cases t2 with
        | false => exact absurd rfl HO.out
        | true =>
          by_cases f1 : pa = 1048575
          · subst f1
            by_cases f2 : pb = 1048575
            · subst f2
              by_cases f3 : x4 = y4
              · exact absurd f3 HWW.out
              · have f4 := HF.out (by trivial) (by trivial) f3
                subst f4
                have f5 : (x4 == y4) = false := beq_noI f3
                go_wp2_with (first
                  | (go_at_call 11; (with_reducible refine (G1.out _).mono ?_); rintro e w1 ⟨rfl, hb⟩; replace HB := Lib.hid (HB.out.trans (hb.mono HB.out.size)); replace HX := Lib.hid (HX.out.kept hb); replace HY := Lib.hid (HY.out.kept hb); have c0 := HX.out.cell 0 rfl; have c1 := HX.out.cell 1 rfl; have c2 := HX.out.cell 2 rfl; have c3 := HX.out.cell 3 rfl; have d0 := HY.out.cell 0 rfl; have d1 := HY.out.cell 1 rfl; have d2 := HY.out.cell 2 rfl; have d3 := HY.out.cell 3 rfl; clear hb)
                  | (go_at_call 7; (with_reducible refine (G5.out _).mono ?_); rintro e w1 ⟨rfl, hb⟩; replace HB := Lib.hid (HB.out.trans (hb.mono HB.out.size)); replace HX := Lib.hid (HX.out.kept hb); replace HY := Lib.hid (HY.out.kept hb); have c0 := HX.out.cell 0 rfl; have c1 := HX.out.cell 1 rfl; have c2 := HX.out.cell 2 rfl; have c3 := HX.out.cell 3 rfl; have d0 := HY.out.cell 0 rfl; have d1 := HY.out.cell 1 rfl; have d2 := HY.out.cell 2 rfl; have d3 := HY.out.cell 3 rfl; clear hb)
                  | (go_at_call 7; (with_reducible refine (G6.out _).mono ?_); rintro e w1 ⟨rfl, hb⟩; replace HB := Lib.hid (HB.out.trans (hb.mono HB.out.size)); replace HX := Lib.hid (HX.out.kept hb); replace HY := Lib.hid (HY.out.kept hb); have c0 := HX.out.cell 0 rfl; have c1 := HX.out.cell 1 rfl; have c2 := HX.out.cell 2 rfl; have c3 := HX.out.cell 3 rfl; have d0 := HY.out.cell 0 rfl; have d1 := HY.out.cell 1 rfl; have d2 := HY.out.cell 2 rfl; have d3 := HY.out.cell 3 rfl; clear hb))
                refine wp_region_calm0 (by kernel_rfl) (by kernel_rfl) fun M => ?_
                have m0 := fun n : In M.w => n.cell (M.cell c0)
                have m1 := fun n : In M.w => n.cell (M.cell c1)
                have m2 := fun n : In M.w => n.cell (M.cell c2)
                have m3 := fun n : In M.w => n.cell (M.cell c3)
                have m4 := fun n : In M.w => n.cell (M.cell d0)
                have m5 := fun n : In M.w => n.cell (M.cell d1)
                have m6 := fun n : In M.w => n.cell (M.cell d2)
                have m7 := fun n : In M.w => n.cell (M.cell d3)
                repeat (go_big_quiet_step (first
                  | (go_at_call 11; with_reducible exact In.call (G4.out _))
                  | (go_at_call 13; with_reducible exact In.call (HAL.out _))))
                refine wpQuiet_nil ?_
                intro w3 hb3
                have HB3 := Lib.hid (HB.out.trans (hb3.mono HB.out.size))
                clear hb3
                go_wp2
                go_ret
                exact ⟨rfl, HB3.out⟩
            · have f3 : (pb == 1048575) = false := beq_noI f2
              go_wp2_with (first
                | (go_at_call 11; (with_reducible refine (G1.out _).mono ?_); rintro e w1 ⟨rfl, hb⟩; replace HB := Lib.hid (HB.out.trans (hb.mono HB.out.size)); replace HX := Lib.hid (HX.out.kept hb); replace HY := Lib.hid (HY.out.kept hb); have c0 := HX.out.cell 0 rfl; have c1 := HX.out.cell 1 rfl; have c2 := HX.out.cell 2 rfl; have c3 := HX.out.cell 3 rfl; have d0 := HY.out.cell 0 rfl; have d1 := HY.out.cell 1 rfl; have d2 := HY.out.cell 2 rfl; have d3 := HY.out.cell 3 rfl; clear hb)
                | (go_at_call 7; (with_reducible refine (G5.out _).mono ?_); rintro e w1 ⟨rfl, hb⟩; replace HB := Lib.hid (HB.out.trans (hb.mono HB.out.size)); replace HX := Lib.hid (HX.out.kept hb); replace HY := Lib.hid (HY.out.kept hb); have c0 := HX.out.cell 0 rfl; have c1 := HX.out.cell 1 rfl; have c2 := HX.out.cell 2 rfl; have c3 := HX.out.cell 3 rfl; have d0 := HY.out.cell 0 rfl; have d1 := HY.out.cell 1 rfl; have d2 := HY.out.cell 2 rfl; have d3 := HY.out.cell 3 rfl; clear hb)
                | (go_at_call 7; (with_reducible refine (G6.out _).mono ?_); rintro e w1 ⟨rfl, hb⟩; replace HB := Lib.hid (HB.out.trans (hb.mono HB.out.size)); replace HX := Lib.hid (HX.out.kept hb); replace HY := Lib.hid (HY.out.kept hb); have c0 := HX.out.cell 0 rfl; have c1 := HX.out.cell 1 rfl; have c2 := HX.out.cell 2 rfl; have c3 := HX.out.cell 3 rfl; have d0 := HY.out.cell 0 rfl; have d1 := HY.out.cell 1 rfl; have d2 := HY.out.cell 2 rfl; have d3 := HY.out.cell 3 rfl; clear hb)
                | (go_at_call 13; (with_reducible refine (HAL.out _).mono ?_); rintro e w1 ⟨rfl, hb⟩; replace HB := Lib.hid (HB.out.trans (hb.mono HB.out.size)); clear hb))
              go_ret
              exact ⟨rfl, HB.out⟩
          · have f2 : (pa == 1048575) = false := beq_noI f1
            go_wp2_with (first
              | (go_at_call 11; (with_reducible refine (G1.out _).mono ?_); rintro e w1 ⟨rfl, hb⟩; replace HB := Lib.hid (HB.out.trans (hb.mono HB.out.size)); replace HX := Lib.hid (HX.out.kept hb); replace HY := Lib.hid (HY.out.kept hb); have c0 := HX.out.cell 0 rfl; have c1 := HX.out.cell 1 rfl; have c2 := HX.out.cell 2 rfl; have c3 := HX.out.cell 3 rfl; have d0 := HY.out.cell 0 rfl; have d1 := HY.out.cell 1 rfl; have d2 := HY.out.cell 2 rfl; have d3 := HY.out.cell 3 rfl; clear hb)
              | (go_at_call 7; (with_reducible refine (G5.out _).mono ?_); rintro e w1 ⟨rfl, hb⟩; replace HB := Lib.hid (HB.out.trans (hb.mono HB.out.size)); replace HX := Lib.hid (HX.out.kept hb); replace HY := Lib.hid (HY.out.kept hb); have c0 := HX.out.cell 0 rfl; have c1 := HX.out.cell 1 rfl; have c2 := HX.out.cell 2 rfl; have c3 := HX.out.cell 3 rfl; have d0 := HY.out.cell 0 rfl; have d1 := HY.out.cell 1 rfl; have d2 := HY.out.cell 2 rfl; have d3 := HY.out.cell 3 rfl; clear hb)
              | (go_at_call 13; (with_reducible refine (HAL.out _).mono ?_); rintro e w1 ⟨rfl, hb⟩; replace HB := Lib.hid (HB.out.trans (hb.mono HB.out.size)); clear hb))
            go_ret
            exact ⟨rfl, HB.out⟩
    · have h1 : (x1 == y1) = false := beq_noI hid
      clear w3'
      go_enter Try.func6, Try.ntmps6
      go_upto_region 4 with fail
      generalize (w.alloc (.cells #[.int .i64 x1, .int .i64 x2, .int .i64 x3, .int .i64 x4] 23)).alloc (.cells #[.int .i64 y1, .int .i64 y2, .int .i64 y3, .int .i64 y4] 23) = ww at *
      refine wp_region_calm0 (by kernel_rfl) (by kernel_rfl) fun M => ?_
      have m0 := fun n : In M.w => n.cell (M.cell c0)
      have m1 := fun n : In M.w => n.cell (M.cell c1)
      have m2 := fun n : In M.w => n.cell (M.cell c2)
      have m3 := fun n : In M.w => n.cell (M.cell c3)
      have m4 := fun n : In M.w => n.cell (M.cell d0)
      have m5 := fun n : In M.w => n.cell (M.cell d1)
      have m6 := fun n : In M.w => n.cell (M.cell d2)
      have m7 := fun n : In M.w => n.cell (M.cell d3)
      repeat (go_big_quiet_step (first
        | (go_at_call 11; with_reducible exact In.call (G1.out _))
        | (go_at_call 11; with_reducible exact In.call (G2.out _))))
      refine wpQuiet_nil ?_
      intro w2 hb
      have HB := Lib.hid (HB0.out.trans (hb.mono HB0.out.size))
      have HX := Lib.hid (HX0.out.kept hb)
      have HY := Lib.hid (HY0.out.kept hb)
      clear hb c0 c1 c2 c3 d0 d1 d2 d3 m0 m1 m2 m3 m4 m5 m6 m7 M HB0 HX0 HY0
      have c0 := HX.out.cell 0 rfl
      have c1 := HX.out.cell 1 rfl
      have c2 := HX.out.cell 2 rfl
      have c3 := HX.out.cell 3 rfl
      have d0 := HY.out.cell 0 rfl
      have d1 := HY.out.cell 1 rfl
      have d2 := HY.out.cell 2 rfl
      have d3 := HY.out.cell 3 rfl
      cases t1 with
      | true =>
        cases t2 with
        | true => exact absurd rfl HO.out
        | false =>
          by_cases hq : qb < 1048575
          · have hk := HK.out rfl hq
            subst hk
            by_cases f1 : pa = 1048575
            · subst f1
              by_cases f2 : pb = 1048575
              · subst f2
                by_cases f3 : x4 = y4
                · subst f3
                  go_wp2_with (first
                    | (go_at_call 11; (with_reducible refine (G1.out _).mono ?_); rintro e w1 ⟨rfl, hb⟩; replace HB := Lib.hid (HB.out.trans (hb.mono HB.out.size)); replace HX := Lib.hid (HX.out.kept hb); replace HY := Lib.hid (HY.out.kept hb); have c0 := HX.out.cell 0 rfl; have c1 := HX.out.cell 1 rfl; have c2 := HX.out.cell 2 rfl; have c3 := HX.out.cell 3 rfl; have d0 := HY.out.cell 0 rfl; have d1 := HY.out.cell 1 rfl; have d2 := HY.out.cell 2 rfl; have d3 := HY.out.cell 3 rfl; clear hb)
                    | (go_at_call 7; (with_reducible refine (G3.out _).mono ?_); rintro e w1 ⟨rfl, hb⟩; replace HB := Lib.hid (HB.out.trans (hb.mono HB.out.size)); replace HX := Lib.hid (HX.out.kept hb); replace HY := Lib.hid (HY.out.kept hb); have c0 := HX.out.cell 0 rfl; have c1 := HX.out.cell 1 rfl; have c2 := HX.out.cell 2 rfl; have c3 := HX.out.cell 3 rfl; have d0 := HY.out.cell 0 rfl; have d1 := HY.out.cell 1 rfl; have d2 := HY.out.cell 2 rfl; have d3 := HY.out.cell 3 rfl; clear hb)
                    | (go_at_call 11; (with_reducible refine (G4.out _).mono ?_); rintro e w1 ⟨rfl, hb⟩; replace HB := Lib.hid (HB.out.trans (hb.mono HB.out.size)); replace HX := Lib.hid (HX.out.kept hb); replace HY := Lib.hid (HY.out.kept hb); have c0 := HX.out.cell 0 rfl; have c1 := HX.out.cell 1 rfl; have c2 := HX.out.cell 2 rfl; have c3 := HX.out.cell 3 rfl; have d0 := HY.out.cell 0 rfl; have d1 := HY.out.cell 1 rfl; have d2 := HY.out.cell 2 rfl; have d3 := HY.out.cell 3 rfl; clear hb)
                    | (go_at_call 7; (with_reducible refine (G5.out _).mono ?_); rintro e w1 ⟨rfl, hb⟩; replace HB := Lib.hid (HB.out.trans (hb.mono HB.out.size)); replace HX := Lib.hid (HX.out.kept hb); replace HY := Lib.hid (HY.out.kept hb); have c0 := HX.out.cell 0 rfl; have c1 := HX.out.cell 1 rfl; have c2 := HX.out.cell 2 rfl; have c3 := HX.out.cell 3 rfl; have d0 := HY.out.cell 0 rfl; have d1 := HY.out.cell 1 rfl; have d2 := HY.out.cell 2 rfl; have d3 := HY.out.cell 3 rfl; clear hb)
                    | (go_at_call 7; (with_reducible refine (G6.out _).mono ?_); rintro e w1 ⟨rfl, hb⟩; replace HB := Lib.hid (HB.out.trans (hb.mono HB.out.size)); replace HX := Lib.hid (HX.out.kept hb); replace HY := Lib.hid (HY.out.kept hb); have c0 := HX.out.cell 0 rfl; have c1 := HX.out.cell 1 rfl; have c2 := HX.out.cell 2 rfl; have c3 := HX.out.cell 3 rfl; have d0 := HY.out.cell 0 rfl; have d1 := HY.out.cell 1 rfl; have d2 := HY.out.cell 2 rfl; have d3 := HY.out.cell 3 rfl; clear hb)
                    | (go_at_call 13; (with_reducible refine (HAL.out _).mono ?_); rintro e w1 ⟨rfl, hb⟩; replace HB := Lib.hid (HB.out.trans (hb.mono HB.out.size)); clear hb))
                  go_ret
                  exact ⟨rfl, HB.out⟩
                · have f4 : decide (x4 < y4) = true := (HF.out (by trivial) (by trivial) f3).symm
                  have f5 : (x4 == y4) = false := beq_noI f3
                  go_wp2_with (first
                    | (go_at_call 11; (with_reducible refine (G1.out _).mono ?_); rintro e w1 ⟨rfl, hb⟩; replace HB := Lib.hid (HB.out.trans (hb.mono HB.out.size)); replace HX := Lib.hid (HX.out.kept hb); replace HY := Lib.hid (HY.out.kept hb); have c0 := HX.out.cell 0 rfl; have c1 := HX.out.cell 1 rfl; have c2 := HX.out.cell 2 rfl; have c3 := HX.out.cell 3 rfl; have d0 := HY.out.cell 0 rfl; have d1 := HY.out.cell 1 rfl; have d2 := HY.out.cell 2 rfl; have d3 := HY.out.cell 3 rfl; clear hb)
                    | (go_at_call 7; (with_reducible refine (G3.out _).mono ?_); rintro e w1 ⟨rfl, hb⟩; replace HB := Lib.hid (HB.out.trans (hb.mono HB.out.size)); replace HX := Lib.hid (HX.out.kept hb); replace HY := Lib.hid (HY.out.kept hb); have c0 := HX.out.cell 0 rfl; have c1 := HX.out.cell 1 rfl; have c2 := HX.out.cell 2 rfl; have c3 := HX.out.cell 3 rfl; have d0 := HY.out.cell 0 rfl; have d1 := HY.out.cell 1 rfl; have d2 := HY.out.cell 2 rfl; have d3 := HY.out.cell 3 rfl; clear hb)
                    | (go_at_call 11; (with_reducible refine (G4.out _).mono ?_); rintro e w1 ⟨rfl, hb⟩; replace HB := Lib.hid (HB.out.trans (hb.mono HB.out.size)); replace HX := Lib.hid (HX.out.kept hb); replace HY := Lib.hid (HY.out.kept hb); have c0 := HX.out.cell 0 rfl; have c1 := HX.out.cell 1 rfl; have c2 := HX.out.cell 2 rfl; have c3 := HX.out.cell 3 rfl; have d0 := HY.out.cell 0 rfl; have d1 := HY.out.cell 1 rfl; have d2 := HY.out.cell 2 rfl; have d3 := HY.out.cell 3 rfl; clear hb)
                    | (go_at_call 7; (with_reducible refine (G5.out _).mono ?_); rintro e w1 ⟨rfl, hb⟩; replace HB := Lib.hid (HB.out.trans (hb.mono HB.out.size)); replace HX := Lib.hid (HX.out.kept hb); replace HY := Lib.hid (HY.out.kept hb); have c0 := HX.out.cell 0 rfl; have c1 := HX.out.cell 1 rfl; have c2 := HX.out.cell 2 rfl; have c3 := HX.out.cell 3 rfl; have d0 := HY.out.cell 0 rfl; have d1 := HY.out.cell 1 rfl; have d2 := HY.out.cell 2 rfl; have d3 := HY.out.cell 3 rfl; clear hb)
                    | (go_at_call 7; (with_reducible refine (G6.out _).mono ?_); rintro e w1 ⟨rfl, hb⟩; replace HB := Lib.hid (HB.out.trans (hb.mono HB.out.size)); replace HX := Lib.hid (HX.out.kept hb); replace HY := Lib.hid (HY.out.kept hb); have c0 := HX.out.cell 0 rfl; have c1 := HX.out.cell 1 rfl; have c2 := HX.out.cell 2 rfl; have c3 := HX.out.cell 3 rfl; have d0 := HY.out.cell 0 rfl; have d1 := HY.out.cell 1 rfl; have d2 := HY.out.cell 2 rfl; have d3 := HY.out.cell 3 rfl; clear hb))
                  refine wp_region_calm0 (by kernel_rfl) (by kernel_rfl) fun M => ?_
                  have m0 := fun n : In M.w => n.cell (M.cell c0)
                  have m1 := fun n : In M.w => n.cell (M.cell c1)
                  have m2 := fun n : In M.w => n.cell (M.cell c2)
                  have m3 := fun n : In M.w => n.cell (M.cell c3)
                  have m4 := fun n : In M.w => n.cell (M.cell d0)
                  have m5 := fun n : In M.w => n.cell (M.cell d1)
                  have m6 := fun n : In M.w => n.cell (M.cell d2)
                  have m7 := fun n : In M.w => n.cell (M.cell d3)
                  repeat (go_big_quiet_step (first
                    | (go_at_call 11; with_reducible exact In.call (G4.out _))
                    | (go_at_call 13; with_reducible exact In.call (HAL.out _))))
                  refine wpQuiet_nil ?_
                  intro w3 hb3
                  have HB3 := Lib.hid (HB.out.trans (hb3.mono HB.out.size))
                  clear hb3
                  go_wp2
                  go_ret
                  exact ⟨rfl, HB3.out⟩
              · have f3 : (pb == 1048575) = false := beq_noI f2
                go_wp2_with (first
                  | (go_at_call 11; (with_reducible refine (G1.out _).mono ?_); rintro e w1 ⟨rfl, hb⟩; replace HB := Lib.hid (HB.out.trans (hb.mono HB.out.size)); replace HX := Lib.hid (HX.out.kept hb); replace HY := Lib.hid (HY.out.kept hb); have c0 := HX.out.cell 0 rfl; have c1 := HX.out.cell 1 rfl; have c2 := HX.out.cell 2 rfl; have c3 := HX.out.cell 3 rfl; have d0 := HY.out.cell 0 rfl; have d1 := HY.out.cell 1 rfl; have d2 := HY.out.cell 2 rfl; have d3 := HY.out.cell 3 rfl; clear hb)
                  | (go_at_call 7; (with_reducible refine (G3.out _).mono ?_); rintro e w1 ⟨rfl, hb⟩; replace HB := Lib.hid (HB.out.trans (hb.mono HB.out.size)); replace HX := Lib.hid (HX.out.kept hb); replace HY := Lib.hid (HY.out.kept hb); have c0 := HX.out.cell 0 rfl; have c1 := HX.out.cell 1 rfl; have c2 := HX.out.cell 2 rfl; have c3 := HX.out.cell 3 rfl; have d0 := HY.out.cell 0 rfl; have d1 := HY.out.cell 1 rfl; have d2 := HY.out.cell 2 rfl; have d3 := HY.out.cell 3 rfl; clear hb)
                  | (go_at_call 11; (with_reducible refine (G4.out _).mono ?_); rintro e w1 ⟨rfl, hb⟩; replace HB := Lib.hid (HB.out.trans (hb.mono HB.out.size)); replace HX := Lib.hid (HX.out.kept hb); replace HY := Lib.hid (HY.out.kept hb); have c0 := HX.out.cell 0 rfl; have c1 := HX.out.cell 1 rfl; have c2 := HX.out.cell 2 rfl; have c3 := HX.out.cell 3 rfl; have d0 := HY.out.cell 0 rfl; have d1 := HY.out.cell 1 rfl; have d2 := HY.out.cell 2 rfl; have d3 := HY.out.cell 3 rfl; clear hb)
                  | (go_at_call 7; (with_reducible refine (G5.out _).mono ?_); rintro e w1 ⟨rfl, hb⟩; replace HB := Lib.hid (HB.out.trans (hb.mono HB.out.size)); replace HX := Lib.hid (HX.out.kept hb); replace HY := Lib.hid (HY.out.kept hb); have c0 := HX.out.cell 0 rfl; have c1 := HX.out.cell 1 rfl; have c2 := HX.out.cell 2 rfl; have c3 := HX.out.cell 3 rfl; have d0 := HY.out.cell 0 rfl; have d1 := HY.out.cell 1 rfl; have d2 := HY.out.cell 2 rfl; have d3 := HY.out.cell 3 rfl; clear hb)
                  | (go_at_call 7; (with_reducible refine (G6.out _).mono ?_); rintro e w1 ⟨rfl, hb⟩; replace HB := Lib.hid (HB.out.trans (hb.mono HB.out.size)); replace HX := Lib.hid (HX.out.kept hb); replace HY := Lib.hid (HY.out.kept hb); have c0 := HX.out.cell 0 rfl; have c1 := HX.out.cell 1 rfl; have c2 := HX.out.cell 2 rfl; have c3 := HX.out.cell 3 rfl; have d0 := HY.out.cell 0 rfl; have d1 := HY.out.cell 1 rfl; have d2 := HY.out.cell 2 rfl; have d3 := HY.out.cell 3 rfl; clear hb)
                  | (go_at_call 13; (with_reducible refine (HAL.out _).mono ?_); rintro e w1 ⟨rfl, hb⟩; replace HB := Lib.hid (HB.out.trans (hb.mono HB.out.size)); clear hb))
                go_ret
                exact ⟨rfl, HB.out⟩
            · have f2 : (pa == 1048575) = false := beq_noI f1
              go_wp2_with (first
                | (go_at_call 11; (with_reducible refine (G1.out _).mono ?_); rintro e w1 ⟨rfl, hb⟩; replace HB := Lib.hid (HB.out.trans (hb.mono HB.out.size)); replace HX := Lib.hid (HX.out.kept hb); replace HY := Lib.hid (HY.out.kept hb); have c0 := HX.out.cell 0 rfl; have c1 := HX.out.cell 1 rfl; have c2 := HX.out.cell 2 rfl; have c3 := HX.out.cell 3 rfl; have d0 := HY.out.cell 0 rfl; have d1 := HY.out.cell 1 rfl; have d2 := HY.out.cell 2 rfl; have d3 := HY.out.cell 3 rfl; clear hb)
                | (go_at_call 7; (with_reducible refine (G3.out _).mono ?_); rintro e w1 ⟨rfl, hb⟩; replace HB := Lib.hid (HB.out.trans (hb.mono HB.out.size)); replace HX := Lib.hid (HX.out.kept hb); replace HY := Lib.hid (HY.out.kept hb); have c0 := HX.out.cell 0 rfl; have c1 := HX.out.cell 1 rfl; have c2 := HX.out.cell 2 rfl; have c3 := HX.out.cell 3 rfl; have d0 := HY.out.cell 0 rfl; have d1 := HY.out.cell 1 rfl; have d2 := HY.out.cell 2 rfl; have d3 := HY.out.cell 3 rfl; clear hb)
                | (go_at_call 11; (with_reducible refine (G4.out _).mono ?_); rintro e w1 ⟨rfl, hb⟩; replace HB := Lib.hid (HB.out.trans (hb.mono HB.out.size)); replace HX := Lib.hid (HX.out.kept hb); replace HY := Lib.hid (HY.out.kept hb); have c0 := HX.out.cell 0 rfl; have c1 := HX.out.cell 1 rfl; have c2 := HX.out.cell 2 rfl; have c3 := HX.out.cell 3 rfl; have d0 := HY.out.cell 0 rfl; have d1 := HY.out.cell 1 rfl; have d2 := HY.out.cell 2 rfl; have d3 := HY.out.cell 3 rfl; clear hb)
                | (go_at_call 7; (with_reducible refine (G5.out _).mono ?_); rintro e w1 ⟨rfl, hb⟩; replace HB := Lib.hid (HB.out.trans (hb.mono HB.out.size)); replace HX := Lib.hid (HX.out.kept hb); replace HY := Lib.hid (HY.out.kept hb); have c0 := HX.out.cell 0 rfl; have c1 := HX.out.cell 1 rfl; have c2 := HX.out.cell 2 rfl; have c3 := HX.out.cell 3 rfl; have d0 := HY.out.cell 0 rfl; have d1 := HY.out.cell 1 rfl; have d2 := HY.out.cell 2 rfl; have d3 := HY.out.cell 3 rfl; clear hb)
                | (go_at_call 13; (with_reducible refine (HAL.out _).mono ?_); rintro e w1 ⟨rfl, hb⟩; replace HB := Lib.hid (HB.out.trans (hb.mono HB.out.size)); clear hb))
              go_ret
              exact ⟨rfl, HB.out⟩
          · have hq2 : 1048575 ≤ qb := by omega
            by_cases f1 : pa = 1048575
            · subst f1
              by_cases f2 : pb = 1048575
              · subst f2
                by_cases f3 : x4 = y4
                · subst f3
                  go_wp2_with (first
                    | (go_at_call 11; (with_reducible refine (G1.out _).mono ?_); rintro e w1 ⟨rfl, hb⟩; replace HB := Lib.hid (HB.out.trans (hb.mono HB.out.size)); replace HX := Lib.hid (HX.out.kept hb); replace HY := Lib.hid (HY.out.kept hb); have c0 := HX.out.cell 0 rfl; have c1 := HX.out.cell 1 rfl; have c2 := HX.out.cell 2 rfl; have c3 := HX.out.cell 3 rfl; have d0 := HY.out.cell 0 rfl; have d1 := HY.out.cell 1 rfl; have d2 := HY.out.cell 2 rfl; have d3 := HY.out.cell 3 rfl; clear hb)
                    | (go_at_call 7; (with_reducible refine (G3.out _).mono ?_); rintro e w1 ⟨rfl, hb⟩; replace HB := Lib.hid (HB.out.trans (hb.mono HB.out.size)); replace HX := Lib.hid (HX.out.kept hb); replace HY := Lib.hid (HY.out.kept hb); have c0 := HX.out.cell 0 rfl; have c1 := HX.out.cell 1 rfl; have c2 := HX.out.cell 2 rfl; have c3 := HX.out.cell 3 rfl; have d0 := HY.out.cell 0 rfl; have d1 := HY.out.cell 1 rfl; have d2 := HY.out.cell 2 rfl; have d3 := HY.out.cell 3 rfl; clear hb)
                    | (go_at_call 7; (with_reducible refine (G5.out _).mono ?_); rintro e w1 ⟨rfl, hb⟩; replace HB := Lib.hid (HB.out.trans (hb.mono HB.out.size)); replace HX := Lib.hid (HX.out.kept hb); replace HY := Lib.hid (HY.out.kept hb); have c0 := HX.out.cell 0 rfl; have c1 := HX.out.cell 1 rfl; have c2 := HX.out.cell 2 rfl; have c3 := HX.out.cell 3 rfl; have d0 := HY.out.cell 0 rfl; have d1 := HY.out.cell 1 rfl; have d2 := HY.out.cell 2 rfl; have d3 := HY.out.cell 3 rfl; clear hb)
                    | (go_at_call 7; (with_reducible refine (G6.out _).mono ?_); rintro e w1 ⟨rfl, hb⟩; replace HB := Lib.hid (HB.out.trans (hb.mono HB.out.size)); replace HX := Lib.hid (HX.out.kept hb); replace HY := Lib.hid (HY.out.kept hb); have c0 := HX.out.cell 0 rfl; have c1 := HX.out.cell 1 rfl; have c2 := HX.out.cell 2 rfl; have c3 := HX.out.cell 3 rfl; have d0 := HY.out.cell 0 rfl; have d1 := HY.out.cell 1 rfl; have d2 := HY.out.cell 2 rfl; have d3 := HY.out.cell 3 rfl; clear hb)
                    | (go_at_call 13; (with_reducible refine (HAL.out _).mono ?_); rintro e w1 ⟨rfl, hb⟩; replace HB := Lib.hid (HB.out.trans (hb.mono HB.out.size)); clear hb))
                  go_ret
                  exact ⟨rfl, HB.out⟩
                · have f4 := HF.out (by trivial) (by trivial) f3
                  subst f4
                  have f5 : (x4 == y4) = false := beq_noI f3
                  go_wp2_with (first
                    | (go_at_call 11; (with_reducible refine (G1.out _).mono ?_); rintro e w1 ⟨rfl, hb⟩; replace HB := Lib.hid (HB.out.trans (hb.mono HB.out.size)); replace HX := Lib.hid (HX.out.kept hb); replace HY := Lib.hid (HY.out.kept hb); have c0 := HX.out.cell 0 rfl; have c1 := HX.out.cell 1 rfl; have c2 := HX.out.cell 2 rfl; have c3 := HX.out.cell 3 rfl; have d0 := HY.out.cell 0 rfl; have d1 := HY.out.cell 1 rfl; have d2 := HY.out.cell 2 rfl; have d3 := HY.out.cell 3 rfl; clear hb)
                    | (go_at_call 7; (with_reducible refine (G3.out _).mono ?_); rintro e w1 ⟨rfl, hb⟩; replace HB := Lib.hid (HB.out.trans (hb.mono HB.out.size)); replace HX := Lib.hid (HX.out.kept hb); replace HY := Lib.hid (HY.out.kept hb); have c0 := HX.out.cell 0 rfl; have c1 := HX.out.cell 1 rfl; have c2 := HX.out.cell 2 rfl; have c3 := HX.out.cell 3 rfl; have d0 := HY.out.cell 0 rfl; have d1 := HY.out.cell 1 rfl; have d2 := HY.out.cell 2 rfl; have d3 := HY.out.cell 3 rfl; clear hb)
                    | (go_at_call 7; (with_reducible refine (G5.out _).mono ?_); rintro e w1 ⟨rfl, hb⟩; replace HB := Lib.hid (HB.out.trans (hb.mono HB.out.size)); replace HX := Lib.hid (HX.out.kept hb); replace HY := Lib.hid (HY.out.kept hb); have c0 := HX.out.cell 0 rfl; have c1 := HX.out.cell 1 rfl; have c2 := HX.out.cell 2 rfl; have c3 := HX.out.cell 3 rfl; have d0 := HY.out.cell 0 rfl; have d1 := HY.out.cell 1 rfl; have d2 := HY.out.cell 2 rfl; have d3 := HY.out.cell 3 rfl; clear hb)
                    | (go_at_call 7; (with_reducible refine (G6.out _).mono ?_); rintro e w1 ⟨rfl, hb⟩; replace HB := Lib.hid (HB.out.trans (hb.mono HB.out.size)); replace HX := Lib.hid (HX.out.kept hb); replace HY := Lib.hid (HY.out.kept hb); have c0 := HX.out.cell 0 rfl; have c1 := HX.out.cell 1 rfl; have c2 := HX.out.cell 2 rfl; have c3 := HX.out.cell 3 rfl; have d0 := HY.out.cell 0 rfl; have d1 := HY.out.cell 1 rfl; have d2 := HY.out.cell 2 rfl; have d3 := HY.out.cell 3 rfl; clear hb))
                  refine wp_region_calm0 (by kernel_rfl) (by kernel_rfl) fun M => ?_
                  have m0 := fun n : In M.w => n.cell (M.cell c0)
                  have m1 := fun n : In M.w => n.cell (M.cell c1)
                  have m2 := fun n : In M.w => n.cell (M.cell c2)
                  have m3 := fun n : In M.w => n.cell (M.cell c3)
                  have m4 := fun n : In M.w => n.cell (M.cell d0)
                  have m5 := fun n : In M.w => n.cell (M.cell d1)
                  have m6 := fun n : In M.w => n.cell (M.cell d2)
                  have m7 := fun n : In M.w => n.cell (M.cell d3)
                  repeat (go_big_quiet_step (first
                    | (go_at_call 11; with_reducible exact In.call (G4.out _))
                    | (go_at_call 13; with_reducible exact In.call (HAL.out _))))
                  refine wpQuiet_nil ?_
                  intro w3 hb3
                  have HB3 := Lib.hid (HB.out.trans (hb3.mono HB.out.size))
                  clear hb3
                  go_wp2
                  go_ret
                  exact ⟨rfl, HB3.out⟩
              · have f3 : (pb == 1048575) = false := beq_noI f2
                go_wp2_with (first
                  | (go_at_call 11; (with_reducible refine (G1.out _).mono ?_); rintro e w1 ⟨rfl, hb⟩; replace HB := Lib.hid (HB.out.trans (hb.mono HB.out.size)); replace HX := Lib.hid (HX.out.kept hb); replace HY := Lib.hid (HY.out.kept hb); have c0 := HX.out.cell 0 rfl; have c1 := HX.out.cell 1 rfl; have c2 := HX.out.cell 2 rfl; have c3 := HX.out.cell 3 rfl; have d0 := HY.out.cell 0 rfl; have d1 := HY.out.cell 1 rfl; have d2 := HY.out.cell 2 rfl; have d3 := HY.out.cell 3 rfl; clear hb)
                  | (go_at_call 7; (with_reducible refine (G3.out _).mono ?_); rintro e w1 ⟨rfl, hb⟩; replace HB := Lib.hid (HB.out.trans (hb.mono HB.out.size)); replace HX := Lib.hid (HX.out.kept hb); replace HY := Lib.hid (HY.out.kept hb); have c0 := HX.out.cell 0 rfl; have c1 := HX.out.cell 1 rfl; have c2 := HX.out.cell 2 rfl; have c3 := HX.out.cell 3 rfl; have d0 := HY.out.cell 0 rfl; have d1 := HY.out.cell 1 rfl; have d2 := HY.out.cell 2 rfl; have d3 := HY.out.cell 3 rfl; clear hb)
                  | (go_at_call 7; (with_reducible refine (G5.out _).mono ?_); rintro e w1 ⟨rfl, hb⟩; replace HB := Lib.hid (HB.out.trans (hb.mono HB.out.size)); replace HX := Lib.hid (HX.out.kept hb); replace HY := Lib.hid (HY.out.kept hb); have c0 := HX.out.cell 0 rfl; have c1 := HX.out.cell 1 rfl; have c2 := HX.out.cell 2 rfl; have c3 := HX.out.cell 3 rfl; have d0 := HY.out.cell 0 rfl; have d1 := HY.out.cell 1 rfl; have d2 := HY.out.cell 2 rfl; have d3 := HY.out.cell 3 rfl; clear hb)
                  | (go_at_call 7; (with_reducible refine (G6.out _).mono ?_); rintro e w1 ⟨rfl, hb⟩; replace HB := Lib.hid (HB.out.trans (hb.mono HB.out.size)); replace HX := Lib.hid (HX.out.kept hb); replace HY := Lib.hid (HY.out.kept hb); have c0 := HX.out.cell 0 rfl; have c1 := HX.out.cell 1 rfl; have c2 := HX.out.cell 2 rfl; have c3 := HX.out.cell 3 rfl; have d0 := HY.out.cell 0 rfl; have d1 := HY.out.cell 1 rfl; have d2 := HY.out.cell 2 rfl; have d3 := HY.out.cell 3 rfl; clear hb)
                  | (go_at_call 13; (with_reducible refine (HAL.out _).mono ?_); rintro e w1 ⟨rfl, hb⟩; replace HB := Lib.hid (HB.out.trans (hb.mono HB.out.size)); clear hb))
                go_ret
                exact ⟨rfl, HB.out⟩
            · have f2 : (pa == 1048575) = false := beq_noI f1
              go_wp2_with (first
                | (go_at_call 11; (with_reducible refine (G1.out _).mono ?_); rintro e w1 ⟨rfl, hb⟩; replace HB := Lib.hid (HB.out.trans (hb.mono HB.out.size)); replace HX := Lib.hid (HX.out.kept hb); replace HY := Lib.hid (HY.out.kept hb); have c0 := HX.out.cell 0 rfl; have c1 := HX.out.cell 1 rfl; have c2 := HX.out.cell 2 rfl; have c3 := HX.out.cell 3 rfl; have d0 := HY.out.cell 0 rfl; have d1 := HY.out.cell 1 rfl; have d2 := HY.out.cell 2 rfl; have d3 := HY.out.cell 3 rfl; clear hb)
                | (go_at_call 7; (with_reducible refine (G3.out _).mono ?_); rintro e w1 ⟨rfl, hb⟩; replace HB := Lib.hid (HB.out.trans (hb.mono HB.out.size)); replace HX := Lib.hid (HX.out.kept hb); replace HY := Lib.hid (HY.out.kept hb); have c0 := HX.out.cell 0 rfl; have c1 := HX.out.cell 1 rfl; have c2 := HX.out.cell 2 rfl; have c3 := HX.out.cell 3 rfl; have d0 := HY.out.cell 0 rfl; have d1 := HY.out.cell 1 rfl; have d2 := HY.out.cell 2 rfl; have d3 := HY.out.cell 3 rfl; clear hb)
                | (go_at_call 7; (with_reducible refine (G5.out _).mono ?_); rintro e w1 ⟨rfl, hb⟩; replace HB := Lib.hid (HB.out.trans (hb.mono HB.out.size)); replace HX := Lib.hid (HX.out.kept hb); replace HY := Lib.hid (HY.out.kept hb); have c0 := HX.out.cell 0 rfl; have c1 := HX.out.cell 1 rfl; have c2 := HX.out.cell 2 rfl; have c3 := HX.out.cell 3 rfl; have d0 := HY.out.cell 0 rfl; have d1 := HY.out.cell 1 rfl; have d2 := HY.out.cell 2 rfl; have d3 := HY.out.cell 3 rfl; clear hb)
                | (go_at_call 13; (with_reducible refine (HAL.out _).mono ?_); rintro e w1 ⟨rfl, hb⟩; replace HB := Lib.hid (HB.out.trans (hb.mono HB.out.size)); clear hb))
              go_ret
              exact ⟨rfl, HB.out⟩
      | false =>
        cases t2 with
        | false => exact absurd rfl HO.out
        | true =>
          by_cases f1 : pa = 1048575
          · subst f1
            by_cases f2 : pb = 1048575
            · subst f2
              by_cases f3 : x4 = y4
              · subst f3
                go_wp2_with (first
                  | (go_at_call 11; (with_reducible refine (G1.out _).mono ?_); rintro e w1 ⟨rfl, hb⟩; replace HB := Lib.hid (HB.out.trans (hb.mono HB.out.size)); replace HX := Lib.hid (HX.out.kept hb); replace HY := Lib.hid (HY.out.kept hb); have c0 := HX.out.cell 0 rfl; have c1 := HX.out.cell 1 rfl; have c2 := HX.out.cell 2 rfl; have c3 := HX.out.cell 3 rfl; have d0 := HY.out.cell 0 rfl; have d1 := HY.out.cell 1 rfl; have d2 := HY.out.cell 2 rfl; have d3 := HY.out.cell 3 rfl; clear hb)
                  | (go_at_call 7; (with_reducible refine (G5.out _).mono ?_); rintro e w1 ⟨rfl, hb⟩; replace HB := Lib.hid (HB.out.trans (hb.mono HB.out.size)); replace HX := Lib.hid (HX.out.kept hb); replace HY := Lib.hid (HY.out.kept hb); have c0 := HX.out.cell 0 rfl; have c1 := HX.out.cell 1 rfl; have c2 := HX.out.cell 2 rfl; have c3 := HX.out.cell 3 rfl; have d0 := HY.out.cell 0 rfl; have d1 := HY.out.cell 1 rfl; have d2 := HY.out.cell 2 rfl; have d3 := HY.out.cell 3 rfl; clear hb)
                  | (go_at_call 7; (with_reducible refine (G6.out _).mono ?_); rintro e w1 ⟨rfl, hb⟩; replace HB := Lib.hid (HB.out.trans (hb.mono HB.out.size)); replace HX := Lib.hid (HX.out.kept hb); replace HY := Lib.hid (HY.out.kept hb); have c0 := HX.out.cell 0 rfl; have c1 := HX.out.cell 1 rfl; have c2 := HX.out.cell 2 rfl; have c3 := HX.out.cell 3 rfl; have d0 := HY.out.cell 0 rfl; have d1 := HY.out.cell 1 rfl; have d2 := HY.out.cell 2 rfl; have d3 := HY.out.cell 3 rfl; clear hb)
                  | (go_at_call 13; (with_reducible refine (HAL.out _).mono ?_); rintro e w1 ⟨rfl, hb⟩; replace HB := Lib.hid (HB.out.trans (hb.mono HB.out.size)); clear hb))
                go_ret
                exact ⟨rfl, HB.out⟩
              · have f4 := HF.out (by trivial) (by trivial) f3
                subst f4
                have f5 : (x4 == y4) = false := beq_noI f3
                go_wp2_with (first
                  | (go_at_call 11; (with_reducible refine (G1.out _).mono ?_); rintro e w1 ⟨rfl, hb⟩; replace HB := Lib.hid (HB.out.trans (hb.mono HB.out.size)); replace HX := Lib.hid (HX.out.kept hb); replace HY := Lib.hid (HY.out.kept hb); have c0 := HX.out.cell 0 rfl; have c1 := HX.out.cell 1 rfl; have c2 := HX.out.cell 2 rfl; have c3 := HX.out.cell 3 rfl; have d0 := HY.out.cell 0 rfl; have d1 := HY.out.cell 1 rfl; have d2 := HY.out.cell 2 rfl; have d3 := HY.out.cell 3 rfl; clear hb)
                  | (go_at_call 7; (with_reducible refine (G5.out _).mono ?_); rintro e w1 ⟨rfl, hb⟩; replace HB := Lib.hid (HB.out.trans (hb.mono HB.out.size)); replace HX := Lib.hid (HX.out.kept hb); replace HY := Lib.hid (HY.out.kept hb); have c0 := HX.out.cell 0 rfl; have c1 := HX.out.cell 1 rfl; have c2 := HX.out.cell 2 rfl; have c3 := HX.out.cell 3 rfl; have d0 := HY.out.cell 0 rfl; have d1 := HY.out.cell 1 rfl; have d2 := HY.out.cell 2 rfl; have d3 := HY.out.cell 3 rfl; clear hb)
                  | (go_at_call 7; (with_reducible refine (G6.out _).mono ?_); rintro e w1 ⟨rfl, hb⟩; replace HB := Lib.hid (HB.out.trans (hb.mono HB.out.size)); replace HX := Lib.hid (HX.out.kept hb); replace HY := Lib.hid (HY.out.kept hb); have c0 := HX.out.cell 0 rfl; have c1 := HX.out.cell 1 rfl; have c2 := HX.out.cell 2 rfl; have c3 := HX.out.cell 3 rfl; have d0 := HY.out.cell 0 rfl; have d1 := HY.out.cell 1 rfl; have d2 := HY.out.cell 2 rfl; have d3 := HY.out.cell 3 rfl; clear hb))
                refine wp_region_calm0 (by kernel_rfl) (by kernel_rfl) fun M => ?_
                have m0 := fun n : In M.w => n.cell (M.cell c0)
                have m1 := fun n : In M.w => n.cell (M.cell c1)
                have m2 := fun n : In M.w => n.cell (M.cell c2)
                have m3 := fun n : In M.w => n.cell (M.cell c3)
                have m4 := fun n : In M.w => n.cell (M.cell d0)
                have m5 := fun n : In M.w => n.cell (M.cell d1)
                have m6 := fun n : In M.w => n.cell (M.cell d2)
                have m7 := fun n : In M.w => n.cell (M.cell d3)
                repeat (go_big_quiet_step (first
                  | (go_at_call 11; with_reducible exact In.call (G4.out _))
                  | (go_at_call 13; with_reducible exact In.call (HAL.out _))))
                refine wpQuiet_nil ?_
                intro w3 hb3
                have HB3 := Lib.hid (HB.out.trans (hb3.mono HB.out.size))
                clear hb3
                go_wp2
                go_ret
                exact ⟨rfl, HB3.out⟩
            · have f3 : (pb == 1048575) = false := beq_noI f2
              go_wp2_with (first
                | (go_at_call 11; (with_reducible refine (G1.out _).mono ?_); rintro e w1 ⟨rfl, hb⟩; replace HB := Lib.hid (HB.out.trans (hb.mono HB.out.size)); replace HX := Lib.hid (HX.out.kept hb); replace HY := Lib.hid (HY.out.kept hb); have c0 := HX.out.cell 0 rfl; have c1 := HX.out.cell 1 rfl; have c2 := HX.out.cell 2 rfl; have c3 := HX.out.cell 3 rfl; have d0 := HY.out.cell 0 rfl; have d1 := HY.out.cell 1 rfl; have d2 := HY.out.cell 2 rfl; have d3 := HY.out.cell 3 rfl; clear hb)
                | (go_at_call 7; (with_reducible refine (G5.out _).mono ?_); rintro e w1 ⟨rfl, hb⟩; replace HB := Lib.hid (HB.out.trans (hb.mono HB.out.size)); replace HX := Lib.hid (HX.out.kept hb); replace HY := Lib.hid (HY.out.kept hb); have c0 := HX.out.cell 0 rfl; have c1 := HX.out.cell 1 rfl; have c2 := HX.out.cell 2 rfl; have c3 := HX.out.cell 3 rfl; have d0 := HY.out.cell 0 rfl; have d1 := HY.out.cell 1 rfl; have d2 := HY.out.cell 2 rfl; have d3 := HY.out.cell 3 rfl; clear hb)
                | (go_at_call 7; (with_reducible refine (G6.out _).mono ?_); rintro e w1 ⟨rfl, hb⟩; replace HB := Lib.hid (HB.out.trans (hb.mono HB.out.size)); replace HX := Lib.hid (HX.out.kept hb); replace HY := Lib.hid (HY.out.kept hb); have c0 := HX.out.cell 0 rfl; have c1 := HX.out.cell 1 rfl; have c2 := HX.out.cell 2 rfl; have c3 := HX.out.cell 3 rfl; have d0 := HY.out.cell 0 rfl; have d1 := HY.out.cell 1 rfl; have d2 := HY.out.cell 2 rfl; have d3 := HY.out.cell 3 rfl; clear hb)
                | (go_at_call 13; (with_reducible refine (HAL.out _).mono ?_); rintro e w1 ⟨rfl, hb⟩; replace HB := Lib.hid (HB.out.trans (hb.mono HB.out.size)); clear hb))
              go_ret
              exact ⟨rfl, HB.out⟩
          · have f2 : (pa == 1048575) = false := beq_noI f1
            go_wp2_with (first
              | (go_at_call 11; (with_reducible refine (G1.out _).mono ?_); rintro e w1 ⟨rfl, hb⟩; replace HB := Lib.hid (HB.out.trans (hb.mono HB.out.size)); replace HX := Lib.hid (HX.out.kept hb); replace HY := Lib.hid (HY.out.kept hb); have c0 := HX.out.cell 0 rfl; have c1 := HX.out.cell 1 rfl; have c2 := HX.out.cell 2 rfl; have c3 := HX.out.cell 3 rfl; have d0 := HY.out.cell 0 rfl; have d1 := HY.out.cell 1 rfl; have d2 := HY.out.cell 2 rfl; have d3 := HY.out.cell 3 rfl; clear hb)
              | (go_at_call 7; (with_reducible refine (G5.out _).mono ?_); rintro e w1 ⟨rfl, hb⟩; replace HB := Lib.hid (HB.out.trans (hb.mono HB.out.size)); replace HX := Lib.hid (HX.out.kept hb); replace HY := Lib.hid (HY.out.kept hb); have c0 := HX.out.cell 0 rfl; have c1 := HX.out.cell 1 rfl; have c2 := HX.out.cell 2 rfl; have c3 := HX.out.cell 3 rfl; have d0 := HY.out.cell 0 rfl; have d1 := HY.out.cell 1 rfl; have d2 := HY.out.cell 2 rfl; have d3 := HY.out.cell 3 rfl; clear hb)
              | (go_at_call 13; (with_reducible refine (HAL.out _).mono ?_); rintro e w1 ⟨rfl, hb⟩; replace HB := Lib.hid (HB.out.trans (hb.mono HB.out.size)); clear hb))
            go_ret
            exact ⟨rfl, HB.out⟩
end Go.Proofs.Ytoepodjpempcdaa
