/- The law AgeRises. -/
import Derived.Test.YtoepodjpempcdaaAgeBase
namespace Go.Proofs.Ytoepodjpempcdaa
open Go.RowKit

theorem tk_minmax (n : Int) : min (max n 0) 2147483647 = tk n := by
  unfold tk iclip
  split <;> omega

set_option maxHeartbeats 4000000 in
set_option maxRecDepth 100000 in
theorem ageRises_any (x1 x2 x3 x4 now later rate : Int) (w : World) : Calls Try.prog 5 #[.agg #[.int .i64 x1, .int .i64 x2, .int .i64 x3, .int .i64 x4], .int .i64 now, .int .i64 later, .int .i64 rate] w fun e w' => e = .returned (.bool true) ∧ Below w.heap.size w w' := by
  have HAL := Lib.hid fun w => aAlive_any w
  obtain ⟨a, hA⟩ : ∃ a, min now later = a := ⟨_, rfl⟩
  obtain ⟨b, hB⟩ : ∃ b, max now later = b := ⟨_, rfl⟩
  have hab : a ≤ b := by omega
  obtain ⟨hf1, hf2⟩ := fullA_ok ⟨x1, x2, x3, x4⟩ rate
  have hp := ofA_bd ⟨x1, x2, x3, x4⟩ a rate
  have hq := ofA_bd ⟨x1, x2, x3, x4⟩ b rate
  have hpq := ofA_mono ⟨x1, x2, x3, x4⟩ rate hab
  have hts := tk_bd x3
  have hs := tk_minmax x3
  have g1 := fun w => aOf_any ⟨x1, x2, x3, x4⟩ a rate w
  have g2 := fun w => aOf_any ⟨x1, x2, x3, x4⟩ b rate w
  have g3 := fun w => aFull_any ⟨x1, x2, x3, x4⟩ rate w
  have g4 := fun w => aOf_any ⟨x1, x2, x3, x4⟩ 2147483647 rate w
  have g5 := fun w => aOf_any ⟨x1, x2, x3, x4⟩ (fullA ⟨x1, x2, x3, x4⟩ rate) rate w
  have g6 := fun w => aOf_any ⟨x1, x2, x3, x4⟩ (fullA ⟨x1, x2, x3, x4⟩ rate - 1) rate w
  simp only [itv] at g1 g2 g3 g4 g5 g6
  generalize fullA ⟨x1, x2, x3, x4⟩ rate = n at *
  generalize ofA ⟨x1, x2, x3, x4⟩ a rate = p at *
  generalize ofA ⟨x1, x2, x3, x4⟩ b rate = q at *
  generalize ofA ⟨x1, x2, x3, x4⟩ 2147483647 rate = r at *
  generalize ofA ⟨x1, x2, x3, x4⟩ n rate = s at *
  generalize ofA ⟨x1, x2, x3, x4⟩ (n - 1) rate = u at *
  generalize tk x3 = t at *
  have k1 : ¬ p < 0 := by omega
  have k2 : ¬ q < p := by omega
  have k3 : ¬ 1048575 < q := by omega
  have G1 := Lib.hid g1
  have G2 := Lib.hid g2
  have G3 := Lib.hid g3
  have hX := Blk.new w [.int .i64 x1, .int .i64 x2, .int .i64 x3, .int .i64 x4] 23
  have HB0 := Lib.hid ((Below.refl w.heap.size w).alloc (Nat.le_refl _) (.cells #[.int .i64 x1, .int .i64 x2, .int .i64 x3, .int .i64 x4] 23))
  have c0 := hX.cell 0 rfl
  have c1 := hX.cell 1 rfl
  have c2 := hX.cell 2 rfl
  have c3 := hX.cell 3 rfl
  have HX0 := Lib.hid hX
  clear hX g1 g2 g3 hab hp hq hpq
  go_enter Try.func5, Try.ntmps5
  go_wp2
  generalize w.alloc (.cells #[.int .i64 x1, .int .i64 x2, .int .i64 x3, .int .i64 x4] 23) = ww at *
  refine wp_region_calm0 (by kernel_rfl) (by kernel_rfl) fun M => ?_
  have m0 := fun n : In M.w => n.cell (M.cell c0)
  have m1 := fun n : In M.w => n.cell (M.cell c1)
  have m2 := fun n : In M.w => n.cell (M.cell c2)
  have m3 := fun n : In M.w => n.cell (M.cell c3)
  repeat (go_big_quiet_step (first
    | (go_at_call 7; with_reducible exact In.call (G1.out _))
    | (go_at_call 7; with_reducible exact In.call (G2.out _))))
  refine wpQuiet_nil ?_
  intro w2 hb
  have HB := Lib.hid (HB0.out.trans (hb.mono HB0.out.size))
  have HX := Lib.hid (HX0.out.kept hb)
  clear hb c0 c1 c2 c3 m0 m1 m2 m3 M HB0 HX0
  have c0 := HX.out.cell 0 rfl
  have c1 := HX.out.cell 1 rfl
  have c2 := HX.out.cell 2 rfl
  have c3 := HX.out.cell 3 rfl
  by_cases h0 : 2147483647 < n
  · obtain ⟨rfl, hr⟩ := hf1 h0
    have G4 := Lib.hid g4
    clear g4 g5 g6 hf1 hf2 h0
    go_wp2_with (first
      | (go_at_call 9; (with_reducible refine (G3.out _).mono ?_); rintro e w1 ⟨rfl, hb⟩; replace HB := Lib.hid (HB.out.trans (hb.mono HB.out.size)); replace HX := Lib.hid (HX.out.kept hb); have c0 := HX.out.cell 0 rfl; have c1 := HX.out.cell 1 rfl; have c2 := HX.out.cell 2 rfl; have c3 := HX.out.cell 3 rfl; clear hb)
      | (go_at_call 7; (with_reducible refine (G4.out _).mono ?_); rintro e w1 ⟨rfl, hb⟩; replace HB := Lib.hid (HB.out.trans (hb.mono HB.out.size)); replace HX := Lib.hid (HX.out.kept hb); have c0 := HX.out.cell 0 rfl; have c1 := HX.out.cell 1 rfl; have c2 := HX.out.cell 2 rfl; have c3 := HX.out.cell 3 rfl; clear hb)
      | (go_at_call 13; (with_reducible refine (HAL.out _).mono ?_); rintro e w1 ⟨rfl, hb⟩; replace HB := Lib.hid (HB.out.trans (hb.mono HB.out.size)); clear hb))
    go_ret
    exact ⟨rfl, HB.out⟩
  · obtain ⟨h1, rfl, h3⟩ := hf2 (by omega)
    have n1 : n ≤ 2147483647 := by omega
    have n2 : 0 ≤ n := by omega
    have G5 := Lib.hid g5
    have G6 := Lib.hid g6
    by_cases h4 : n = t
    · subst h4
      clear g4 g5 g6 hf1 hf2 h3
      go_wp2_with (first
        | (go_at_call 9; (with_reducible refine (G3.out _).mono ?_); rintro e w1 ⟨rfl, hb⟩; replace HB := Lib.hid (HB.out.trans (hb.mono HB.out.size)); replace HX := Lib.hid (HX.out.kept hb); have c0 := HX.out.cell 0 rfl; have c1 := HX.out.cell 1 rfl; have c2 := HX.out.cell 2 rfl; have c3 := HX.out.cell 3 rfl; clear hb)
        | (go_at_call 7; (with_reducible refine (G5.out _).mono ?_); rintro e w1 ⟨rfl, hb⟩; replace HB := Lib.hid (HB.out.trans (hb.mono HB.out.size)); replace HX := Lib.hid (HX.out.kept hb); have c0 := HX.out.cell 0 rfl; have c1 := HX.out.cell 1 rfl; have c2 := HX.out.cell 2 rfl; have c3 := HX.out.cell 3 rfl; clear hb)
        | (go_at_call 13; (with_reducible refine (HAL.out _).mono ?_); rintro e w1 ⟨rfl, hb⟩; replace HB := Lib.hid (HB.out.trans (hb.mono HB.out.size)); clear hb))
      go_ret
      exact ⟨rfl, HB.out⟩
    · have h5 := h3 h4
      have h6 : (n == t) = false := beq_noI h4
      clear g4 g5 g6 hf1 hf2 h3
      go_wp2_with (first
        | (go_at_call 9; (with_reducible refine (G3.out _).mono ?_); rintro e w1 ⟨rfl, hb⟩; replace HB := Lib.hid (HB.out.trans (hb.mono HB.out.size)); replace HX := Lib.hid (HX.out.kept hb); have c0 := HX.out.cell 0 rfl; have c1 := HX.out.cell 1 rfl; have c2 := HX.out.cell 2 rfl; have c3 := HX.out.cell 3 rfl; clear hb)
        | (go_at_call 7; (with_reducible refine (G5.out _).mono ?_); rintro e w1 ⟨rfl, hb⟩; replace HB := Lib.hid (HB.out.trans (hb.mono HB.out.size)); replace HX := Lib.hid (HX.out.kept hb); have c0 := HX.out.cell 0 rfl; have c1 := HX.out.cell 1 rfl; have c2 := HX.out.cell 2 rfl; have c3 := HX.out.cell 3 rfl; clear hb)
        | (go_at_call 7; (with_reducible refine (G6.out _).mono ?_); rintro e w1 ⟨rfl, hb⟩; replace HB := Lib.hid (HB.out.trans (hb.mono HB.out.size)); replace HX := Lib.hid (HX.out.kept hb); have c0 := HX.out.cell 0 rfl; have c1 := HX.out.cell 1 rfl; have c2 := HX.out.cell 2 rfl; have c3 := HX.out.cell 3 rfl; clear hb)
        | (go_at_call 13; (with_reducible refine (HAL.out _).mono ?_); rintro e w1 ⟨rfl, hb⟩; replace HB := Lib.hid (HB.out.trans (hb.mono HB.out.size)); clear hb))
      go_ret
      exact ⟨rfl, HB.out⟩
end Go.Proofs.Ytoepodjpempcdaa
