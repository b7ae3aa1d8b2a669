/- The law PlanTells. -/
import Derived.Test.YtddlgnfghecncaaBun9
namespace Go.Proofs.Ytddlgnfghecncaa
open Go.RowKit

set_option maxHeartbeats 2000000 in
set_option maxRecDepth 100000 in
theorem planTells_any (va : Value) (l : List Ais) (A B : Ais) (px py : Int) (w : World) (ha : AisAt w va l) (hl : l.length ≤ 9223372036854775807) :
    Calls Try.prog 3 #[va, av A.id A.lx A.ly A.hx A.hy, av B.id B.lx B.ly B.hx B.hy, .agg #[.int .i64 px, .int .i64 py]] w fun e w' => e = .returned (.bool true) ∧ Below w.heap.size w w' := by
  have HAL := Lib.hid fun w => pAlive_any w
  have HA := Lib.hid ha
  obtain ⟨a, c, rfl⟩ := RowsAt.form ha
  clear ha
  have gm := fun w => pMeet_any A B w
  have gn := fun w => refMeet_any A B w
  generalize meetB A B = t at *
  obtain ⟨i, a1, a2, a3, a4⟩ := A
  obtain ⟨j, b1, b2, b3, b4⟩ := B
  simp only at gm gn ⊢
  have hB : Below w.heap.size w (((w.alloc (.cells #[.int .i64 i, .int .i64 a1, .int .i64 a2, .int .i64 a3, .int .i64 a4] 26)).alloc (.cells #[.int .i64 j, .int .i64 b1, .int .i64 b2, .int .i64 b3, .int .i64 b4] 26)).alloc (.cells #[.int .i64 px, .int .i64 py] 24)) := (((Below.refl _ _).alloc (Nat.le_refl _) _).alloc (by simp) _).alloc (by simp; omega) _
  by_cases h1 : 60 < l.length
  · have GM := Lib.hid gm
    have GN := Lib.hid gn
    clear gm gn
    go_enter Try.func3, Try.ntmps3
    go_wp2_with (go_at_call 8; refine (HAL.out _).mono ?_; rintro e w1 ⟨rfl, hb⟩; replace hB := hB.trans (hb.mono hB.size); clear hb)
    go_ret
    exact ⟨rfl, hB⟩
  have CP := Cell2.new ((w.alloc (.cells #[.int .i64 i, .int .i64 a1, .int .i64 a2, .int .i64 a3, .int .i64 a4] 26)).alloc (.cells #[.int .i64 j, .int .i64 b1, .int .i64 b2, .int .i64 b3, .int .i64 b4] 26)) (.int .i64 px) (.int .i64 py) 24
  simp only [World.size_alloc] at CP
  have k0 : ∀ w1, Below (w.heap.size + 1 + 1 + 1) (((w.alloc (.cells #[.int .i64 i, .int .i64 a1, .int .i64 a2, .int .i64 a3, .int .i64 a4] 26)).alloc (.cells #[.int .i64 j, .int .i64 b1, .int .i64 b2, .int .i64 b3, .int .i64 b4] 26)).alloc (.cells #[.int .i64 px, .int .i64 py] 24)) w1 →
      (w1.cell? ⟨w.heap.size, 0, none⟩ = some (.int .i64 i) ∧ w1.cell? ⟨w.heap.size, 1, none⟩ = some (.int .i64 a1) ∧ w1.cell? ⟨w.heap.size, 2, none⟩ = some (.int .i64 a2) ∧ w1.cell? ⟨w.heap.size, 3, none⟩ = some (.int .i64 a3) ∧ w1.cell? ⟨w.heap.size, 4, none⟩ = some (.int .i64 a4)) ∧
      w1.cell? ⟨w.heap.size + 1, 0, none⟩ = some (.int .i64 j) ∧ w1.cell? ⟨w.heap.size + 1, 1, none⟩ = some (.int .i64 b1) ∧ w1.cell? ⟨w.heap.size + 1, 2, none⟩ = some (.int .i64 b2) ∧ w1.cell? ⟨w.heap.size + 1, 3, none⟩ = some (.int .i64 b3) ∧ w1.cell? ⟨w.heap.size + 1, 4, none⟩ = some (.int .i64 b4) := by
    intro w1 hb
    refine ⟨⟨?_, ?_, ?_, ?_, ?_⟩, ?_, ?_, ?_, ?_, ?_⟩ <;> rw [hb.cell (by simp <;> omega)] <;> go_simp
  have HK := Lib.hid k0
  clear k0
  have ga := fun w ha => pAt_any (.slice a l.length c) l px py w ha (by omega)
  have gb := fun w ha => refAt_any (.slice a l.length c) l px py w ha (by omega)
  obtain ⟨⟨n, s⟩, hat⟩ : ∃ p, atL l px py = p := ⟨_, rfl⟩
  rw [hat] at ga gb
  simp only at ga gb
  have gr := fun w ha => pRight_any (.slice a l.length c) l w ha (by omega)
  have gs := fun w ha => refPRight_any (.slice a l.length c) l w ha (by omega)
  generalize rightP l = r at *
  have GM := Lib.hid gm
  have GN := Lib.hid gn
  have GA := Lib.hid ga
  have GB := Lib.hid gb
  have GR := Lib.hid gr
  have GS := Lib.hid gs
  clear gm gn ga gb gr gs hat
  have hz : (((w.alloc (.cells #[.int .i64 i, .int .i64 a1, .int .i64 a2, .int .i64 a3, .int .i64 a4] 26)).alloc (.cells #[.int .i64 j, .int .i64 b1, .int .i64 b2, .int .i64 b3, .int .i64 b4] 26)).alloc (.cells #[.int .i64 px, .int .i64 py] 24)).heap.size = w.heap.size + 1 + 1 + 1 := by simp
  have HB0 := Lib.hid (Below.refl (w.heap.size + 1 + 1 + 1) (((w.alloc (.cells #[.int .i64 i, .int .i64 a1, .int .i64 a2, .int .i64 a3, .int .i64 a4] 26)).alloc (.cells #[.int .i64 j, .int .i64 b1, .int .i64 b2, .int .i64 b3, .int .i64 b4] 26)).alloc (.cells #[.int .i64 px, .int .i64 py] 24)))
  go_enter Try.func3, Try.ntmps3
  go_wp2_with (first
    | (go_at_call 9; with_reducible refine (GA.out _ (HA.out.kept hB)).mono ?_; rintro e w1 ⟨rfl, hb⟩; have hB1 := hB.trans (hb.mono hB.size); obtain ⟨g0, g1, _, _⟩ := CP.kept hb; have HB1 := Lib.hid (HB0.out.trans (hb.mono (Nat.le_of_eq hz.symm))); have HZ1 := Lib.hid (Nat.le_trans (Nat.le_of_eq hz.symm) hb.size); clear hb CP hB HB0)
    | (go_at_call 10; with_reducible refine (GB.out _ (HA.out.kept hB1)).mono ?_; rintro e w2 ⟨rfl, hb⟩; have hB2 := hB1.trans (hb.mono hB1.size); have HB2 := Lib.hid (HB1.out.trans (hb.mono HZ1.out)); clear hb g0 g1 hB1 HB1 HZ1))
  obtain ⟨⟨c0, c1, c2, c3, c4⟩, d0, d1, d2, d3, d4⟩ := HK.out _ HB2.out
  refine wp_region_calm0 (by kernel_rfl) (by kernel_rfl) fun M => ?_
  have HP := Lib.hid fun n : In M.w => ((HA.out.kept hB2).kept M.h).kept n.h
  have e0 := fun n : In M.w => n.cell (M.cell c0)
  have e1 := fun n : In M.w => n.cell (M.cell c1)
  have e2 := fun n : In M.w => n.cell (M.cell c2)
  have e3 := fun n : In M.w => n.cell (M.cell c3)
  have e4 := fun n : In M.w => n.cell (M.cell c4)
  have f0 := fun n : In M.w => n.cell (M.cell d0)
  have f1 := fun n : In M.w => n.cell (M.cell d1)
  have f2 := fun n : In M.w => n.cell (M.cell d2)
  have f3 := fun n : In M.w => n.cell (M.cell d3)
  have f4 := fun n : In M.w => n.cell (M.cell d4)
  repeat (go_big_quiet_step (first
    | (go_at_call 11; with_reducible exact In.call (GR.out _ (HP.out _)))
    | (go_at_call 12; with_reducible exact In.call (GS.out _ (HP.out _)))
    | (go_at_call 13; with_reducible exact In.call (GM.out _))
    | (go_at_call 14; with_reducible exact In.call (GN.out _))
    | (go_at_call 8; with_reducible exact In.call (HAL.out _))))
  refine wpQuiet_nil ?_
  intro w3 hb
  have hBF := hB2.trans (hb.mono hB2.size)
  clear e0 e1 e2 e3 e4 f0 f1 f2 f3 f4 HP M c0 c1 c2 c3 c4 d0 d1 d2 d3 d4 hb hB2
  go_wp2
  go_ret
  exact ⟨rfl, hBF⟩
end Go.Proofs.Ytddlgnfghecncaa
