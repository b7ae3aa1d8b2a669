/- The laws FenceTells and FenceMeasures. -/
import Derived.Test.YthndmoipemnllaaFenceAlive
namespace Go.Proofs.Ythndmoipemnllaa
open Go.RowKit

set_option maxHeartbeats 4000000 in
set_option maxRecDepth 100000 in
theorem fenceMeasures_any (va : Value) (l : List (Int × Int)) (px py : Int) (w : World) (ha : PairsAt w va l) (hl : l.length ≤ 9223372036854775807) (hpx : -9223372036854775808 ≤ px ∧ px ≤ 9223372036854775807) (hpy : -9223372036854775808 ≤ py ∧ py ≤ 9223372036854775807) :
    Calls Try.prog 4 #[va, .agg #[.int .i64 px, .int .i64 py]] w fun e w' => e = .returned (.bool true) ∧ Below w.heap.size w w' := by
  have hal := fun w => fAlive_any w
  have HAL := Lib.hid hal
  clear hal
  have HA := Lib.hid ha
  have hform : ∃ a c, va = .slice a l.length c := by obtain ⟨a, c, e, _⟩ := ha; exact ⟨a, c, e⟩
  obtain ⟨a, c, rfl⟩ := hform
  clear ha
  have hB : Below w.heap.size w (w.alloc (.cells #[.int .i64 px, .int .i64 py] 23)) := (Below.refl _ _).alloc (Nat.le_refl _) _
  by_cases h1 : 300 < l.length
  · go_enter Try.func4, Try.ntmps4
    go_wp2_with (go_at_call 7; refine (HAL.out _).mono ?_; rintro e w1 ⟨rfl, hb⟩; replace hB := hB.trans (hb.mono hB.size); clear hb)
    go_ret
    exact ⟨rfl, hB⟩
  have C0 := Cell2.new w (.int .i64 px) (.int .i64 py) 23
  have ga := fun w ha => fArea_any (.slice a l.length c) l w ha (by omega)
  have gb := fun w ha => refArea_any (.slice a l.length c) l w ha (by omega)
  have gc := fun w ha => fCell_any (.slice a l.length c) l px py w ha (by omega) hpx hpy
  have gd := fun w ha => refCell_any (.slice a l.length c) l px py w ha (by omega)
  have GA := Lib.hid ga
  have GB := Lib.hid gb
  have GC := Lib.hid gc
  have GD := Lib.hid gd
  clear ga gb gc gd
  go_enter Try.func4, Try.ntmps4
  go_wp2
  refine wp_region_calm0 (by kernel_rfl) (by kernel_rfl) fun M => ?_
  have HP := Lib.hid fun n : In M.w => ((HA.out.kept hB).kept M.h).kept n.h
  have q1 := fun n : In M.w => n.cell (M.cell C0.c0)
  have q2 := fun n : In M.w => n.cell (M.cell C0.c1)
  repeat (go_big_quiet_step (first
    | (go_at_call 17; with_reducible exact In.call (GA.out _ (HP.out _)))
    | (go_at_call 18; with_reducible exact In.call (GB.out _ (HP.out _)))
    | (go_at_call 19; with_reducible exact In.call (GC.out _ (HP.out _)))
    | (go_at_call 20; with_reducible exact In.call (GD.out _ (HP.out _)))
    | (go_at_call 7; with_reducible exact In.call (HAL.out _))))
  refine wpQuiet_nil ?_
  intro w1 hb
  replace hB := hB.trans (hb.mono hB.size)
  clear HP q1 q2 M hb
  go_wp2
  go_ret
  exact ⟨rfl, hB⟩

set_option maxHeartbeats 4000000 in
set_option maxRecDepth 100000 in
theorem fenceTells_any (n x y : Int) (va : Value) (l : List (Int × Int)) (p1 p2 r1 r2 : Int) (w : World) (ha : PairsAt w va l) (hl : l.length ≤ 9223372036854775807) :
    Calls Try.prog 3 #[.agg #[.int .i64 n, .int .i64 x, .int .i64 y], va, .agg #[.int .i64 p1, .int .i64 p2], .agg #[.int .i64 r1, .int .i64 r2]] w fun e w' => e = .returned (.bool true) ∧ Below w.heap.size w w' := by
  have hal := fun w => fAlive_any w
  have HAL := Lib.hid hal
  clear hal
  have HA := Lib.hid ha
  have hform : ∃ a c, va = .slice a l.length c := by obtain ⟨a, c, e, _⟩ := ha; exact ⟨a, c, e⟩
  obtain ⟨a, c, rfl⟩ := hform
  clear ha
  have hB : Below w.heap.size w (((w.alloc (.cells #[.int .i64 n, .int .i64 x, .int .i64 y] 25)).alloc (.cells #[.int .i64 p1, .int .i64 p2] 23)).alloc (.cells #[.int .i64 r1, .int .i64 r2] 23)) := (((Below.refl _ _).alloc (Nat.le_refl _) _).alloc (by simp) _).alloc (by simp; omega) _
  by_cases h1 : 300 < l.length
  · go_enter Try.func3, Try.ntmps3
    go_wp2_with (go_at_call 7; refine (HAL.out _).mono ?_; rintro e w1 ⟨rfl, hb⟩; replace hB := hB.trans (hb.mono hB.size); clear hb)
    go_ret
    exact ⟨rfl, hB⟩
  have CM := ((Cell3.new w (.int .i64 n) (.int .i64 x) (.int .i64 y) 25).alloc (.cells #[.int .i64 p1, .int .i64 p2] 23)).alloc (.cells #[.int .i64 r1, .int .i64 r2] 23)
  have CP := (Cell2.new (w.alloc (.cells #[.int .i64 n, .int .i64 x, .int .i64 y] 25)) (.int .i64 p1) (.int .i64 p2) 23).alloc (.cells #[.int .i64 r1, .int .i64 r2] 23)
  have CR := Cell2.new ((w.alloc (.cells #[.int .i64 n, .int .i64 x, .int .i64 y] 25)).alloc (.cells #[.int .i64 p1, .int .i64 p2] 23)) (.int .i64 r1) (.int .i64 r2) 23
  simp only [World.size_alloc] at CP CR
  have gb := fun w ha => fBox_any (.slice a l.length c) l w ha (by omega)
  have gc := fun w ha => refBox_any (.slice a l.length c) l w ha (by omega)
  obtain ⟨⟨a1, a2⟩, he1⟩ : ∃ q, blo l l.length = q := ⟨_, rfl⟩
  obtain ⟨⟨b1, b2⟩, he2⟩ : ∃ q, bhi l l.length = q := ⟨_, rfl⟩
  rw [he1, he2] at gb gc
  simp only at gb gc
  have gr := fun w ha => fRight_any (.slice a l.length c) l w ha (by omega)
  have gs := fun w ha => refRight_any (.slice a l.length c) l w ha (by omega)
  obtain ⟨b, hb⟩ : ∃ b, rightB l = b := ⟨_, rfl⟩
  rw [hb] at gr gs
  have gm := fun w ha => fMove_any n x y (.slice a l.length c) l w ha (by omega)
  have gn := fun w ha => refFMove_any n x y (.slice a l.length c) l w ha (by omega)
  have hml : (l.map (rmv n x y)).length ≤ 9223372036854775807 := by simp; omega
  have gp := fun w va vb ha hb => refPoints_any va vb (l.map (rmv n x y)) (l.map (rmv n x y)) w ha hb hml hml
  rw [decide_eq_true rfl] at gp
  have gk := fun w => fRing_any p1 p2 r1 r2 w
  have gl := fun w => refRing_any p1 p2 r1 r2 w
  have gq := fun w va vb ha hb => refPoints_any va vb [(p1, p2), (r1, p2), (r1, r2), (p1, r2)] [(p1, p2), (r1, p2), (r1, r2), (p1, r2)] w ha hb (by simp) (by simp)
  rw [decide_eq_true rfl] at gq
  have GB := Lib.hid gb
  have GC := Lib.hid gc
  have GR := Lib.hid gr
  have GS := Lib.hid gs
  have GM := Lib.hid gm
  have GN := Lib.hid gn
  have GP := Lib.hid gp
  have GK := Lib.hid gk
  have GL := Lib.hid gl
  have GQ := Lib.hid gq
  clear gb gc gr gs gm gn gp gk gl gq he1 he2 hb hml
  go_enter Try.func3, Try.ntmps3
  go_wp2_with (first
    | (go_at_call 8; with_reducible refine (GB.out _ (HA.out.kept hB)).mono ?_; rintro e w1 ⟨rfl, hb⟩; have hB1 := hB.trans (hb.mono hB.size); have CM1 := Lib.hid (CM.kept hb); have CP1 := Lib.hid (CP.kept hb); have CR1 := Lib.hid (CR.kept hb); clear hb hB CM CP CR)
    | (go_at_call 9; with_reducible refine (GC.out _ (HA.out.kept ((hB1.alloc hB1.size _).alloc (by have := hB1.size; simp; omega) _))).mono ?_; rintro e w2 ⟨rfl, hb⟩))
  have hz1 := hB1.size
  have HBa : Below w1.heap.size w1 ((w1.alloc (.cells #[.int .i64 a1, .int .i64 a2] 23)).alloc (.cells #[.int .i64 b1, .int .i64 b2] 23)) := ((Below.refl _ _).alloc (Nat.le_refl _) _).alloc (by simp) _
  have HBb : Below w1.heap.size w1 w2 := HBa.trans (hb.mono (by simp; omega))
  have hz2 := HBb.size
  have HBc : Below w2.heap.size w2 ((w2.alloc (.cells #[.int .i64 a1, .int .i64 a2] 23)).alloc (.cells #[.int .i64 b1, .int .i64 b2] 23)) := ((Below.refl _ _).alloc (Nat.le_refl _) _).alloc (by simp) _
  have hB5 := (hB1.trans (HBb.mono hz1)).trans (HBc.mono (by omega))
  have CM5 := (CM1.out.kept HBb).kept HBc
  have CP5 := (CP1.out.kept HBb).kept HBc
  have CR5 := (CR1.out.kept HBb).kept HBc
  have CA5 := (((Cell2.new w1 (.int .i64 a1) (.int .i64 a2) 23).alloc (.cells #[.int .i64 b1, .int .i64 b2] 23)).kept hb).kept HBc
  have CB5 := ((Cell2.new (w1.alloc (.cells #[.int .i64 a1, .int .i64 a2] 23)) (.int .i64 b1) (.int .i64 b2) 23).kept hb).kept HBc
  have CC5 := (Cell2.new w2 (.int .i64 a1) (.int .i64 a2) 23).alloc (.cells #[.int .i64 b1, .int .i64 b2] 23)
  have CD5 := Cell2.new (w2.alloc (.cells #[.int .i64 a1, .int .i64 a2] 23)) (.int .i64 b1) (.int .i64 b2) 23
  simp only [World.size_alloc] at CB5 CD5
  have HA5 := HA.out.kept hB5
  obtain ⟨N1, hN1⟩ : ∃ N, w1.heap.size = N := ⟨_, rfl⟩
  obtain ⟨N2, hN2⟩ : ∃ N, w2.heap.size = N := ⟨_, rfl⟩
  rw [hN1] at CA5 CB5
  rw [hN2] at CC5 CD5
  try rw [hN1]
  try rw [hN2]
  clear hz1 HBa HBb hz2 HBc hb hB1 CM1 CP1 CR1 hN1 hN2
  generalize (w2.alloc (.cells #[.int .i64 a1, .int .i64 a2] 23)).alloc (.cells #[.int .i64 b1, .int .i64 b2] 23) = W0 at *
  have hS0 : Below W0.heap.size W0 W0.drew := below_drewN (Below.refl _ W0) 1
  have K0 : ∀ w', Below W0.heap.size W0 w' → w'.cell? ⟨w.heap.size, 0, none⟩ = some (.int .i64 n) := fun w' h => (h.cell (World.block_lt_of_cell? _ _ CM5.c0)).trans CM5.c0
  have K1 : ∀ w', Below W0.heap.size W0 w' → w'.cell? ⟨w.heap.size, 1, none⟩ = some (.int .i64 x) := fun w' h => (h.cell (World.block_lt_of_cell? _ _ CM5.c1)).trans CM5.c1
  have K2 : ∀ w', Below W0.heap.size W0 w' → w'.cell? ⟨w.heap.size, 2, none⟩ = some (.int .i64 y) := fun w' h => (h.cell (World.block_lt_of_cell? _ _ CM5.c2)).trans CM5.c2
  have K3 : ∀ w', Below W0.heap.size W0 w' → w'.cell? ⟨w.heap.size + 1, 0, none⟩ = some (.int .i64 p1) := fun w' h => (h.cell (World.block_lt_of_cell? _ _ CP5.c0)).trans CP5.c0
  have K4 : ∀ w', Below W0.heap.size W0 w' → w'.cell? ⟨w.heap.size + 1, 1, none⟩ = some (.int .i64 p2) := fun w' h => (h.cell (World.block_lt_of_cell? _ _ CP5.c1)).trans CP5.c1
  have K5 : ∀ w', Below W0.heap.size W0 w' → w'.cell? ⟨w.heap.size + 1 + 1, 0, none⟩ = some (.int .i64 r1) := fun w' h => (h.cell (World.block_lt_of_cell? _ _ CR5.c0)).trans CR5.c0
  have K6 : ∀ w', Below W0.heap.size W0 w' → w'.cell? ⟨w.heap.size + 1 + 1, 1, none⟩ = some (.int .i64 r2) := fun w' h => (h.cell (World.block_lt_of_cell? _ _ CR5.c1)).trans CR5.c1
  have K7 : ∀ w', Below W0.heap.size W0 w' → w'.cell? ⟨N1, 0, none⟩ = some (.int .i64 a1) := fun w' h => (h.cell (World.block_lt_of_cell? _ _ CA5.c0)).trans CA5.c0
  have K8 : ∀ w', Below W0.heap.size W0 w' → w'.cell? ⟨N1, 1, none⟩ = some (.int .i64 a2) := fun w' h => (h.cell (World.block_lt_of_cell? _ _ CA5.c1)).trans CA5.c1
  have K9 : ∀ w', Below W0.heap.size W0 w' → w'.cell? ⟨N1 + 1, 0, none⟩ = some (.int .i64 b1) := fun w' h => (h.cell (World.block_lt_of_cell? _ _ CB5.c0)).trans CB5.c0
  have K10 : ∀ w', Below W0.heap.size W0 w' → w'.cell? ⟨N1 + 1, 1, none⟩ = some (.int .i64 b2) := fun w' h => (h.cell (World.block_lt_of_cell? _ _ CB5.c1)).trans CB5.c1
  have K11 : ∀ w', Below W0.heap.size W0 w' → w'.cell? ⟨N2, 0, none⟩ = some (.int .i64 a1) := fun w' h => (h.cell (World.block_lt_of_cell? _ _ CC5.c0)).trans CC5.c0
  have K12 : ∀ w', Below W0.heap.size W0 w' → w'.cell? ⟨N2, 1, none⟩ = some (.int .i64 a2) := fun w' h => (h.cell (World.block_lt_of_cell? _ _ CC5.c1)).trans CC5.c1
  have K13 : ∀ w', Below W0.heap.size W0 w' → w'.cell? ⟨N2 + 1, 0, none⟩ = some (.int .i64 b1) := fun w' h => (h.cell (World.block_lt_of_cell? _ _ CD5.c0)).trans CD5.c0
  have K14 : ∀ w', Below W0.heap.size W0 w' → w'.cell? ⟨N2 + 1, 1, none⟩ = some (.int .i64 b2) := fun w' h => (h.cell (World.block_lt_of_cell? _ _ CD5.c1)).trans CD5.c1
  have HA6 := Lib.hid HA5
  clear HA5 CM5 CP5 CR5 CA5 CB5 CC5 CD5
  go_region_held3 (fun w' => Below W0.heap.size W0 w') (assumption) ((first
    | (go_at_call 10; with_reducible refine (GR.out _ (HA6.out.kept ‹Below W0.heap.size W0 _›)).mono ?_; rintro e u1 ⟨rfl, hb1⟩; have hS1 := keep_call ‹Below W0.heap.size W0 _› hb1; clear hb1)
    | (go_at_call 11; with_reducible refine (GS.out _ (HA6.out.kept ‹Below W0.heap.size W0 _›)).mono ?_; rintro e u2 ⟨rfl, hb2⟩; have hS2 := keep_call ‹Below W0.heap.size W0 _› hb2; clear hb2)
    | (go_at_call 13; with_reducible refine (GM.out _ (HA6.out.kept ‹Below W0.heap.size W0 _›)).mono ?_; rintro e u3 ⟨r3, rfl, hp3, hb3⟩; have hS3 := keep_call ‹Below W0.heap.size W0 _› hb3; clear hb3)
    | (go_at_call 14; with_reducible refine (GN.out _ (HA6.out.kept ‹Below W0.heap.size W0 _›)).mono ?_; rintro e u4 ⟨r4, rfl, hp4, hb4⟩; have hS4 := keep_call ‹Below W0.heap.size W0 _› hb4; have hp34 := Lib.hid (hp3.kept hb4); clear hb4 hp3)
    | (go_at_call 12; with_reducible refine (GP.out _ r3 r4 hp34.out hp4).mono ?_; rintro e u5 ⟨rfl, hb5⟩; have hS5 := keep_call ‹Below W0.heap.size W0 _› hb5; clear hb5 hp34 hp4)
    | (go_at_call 15; with_reducible refine (GK.out _).mono ?_; rintro e u6 ⟨r6, rfl, hp6, hb6⟩; have hS6 := keep_call ‹Below W0.heap.size W0 _› hb6; clear hb6)
    | (go_at_call 16; with_reducible refine (GL.out _).mono ?_; rintro e u7 ⟨r7, rfl, hp7, hb7⟩; have hS7 := keep_call ‹Below W0.heap.size W0 _› hb7; have hp67 := Lib.hid (hp6.kept hb7); clear hb7 hp6)
    | (go_at_call 12; with_reducible refine (GQ.out _ r6 r7 hp67.out hp7).mono ?_; rintro e u8 ⟨rfl, hb8⟩; have hS8 := keep_call ‹Below W0.heap.size W0 _› hb8; clear hb8 hp67 hp7)
    | (go_at_call 7; refine (HAL.out _).mono ?_; rintro e u9 ⟨rfl, hb9⟩; have hS9 := keep_call ‹Below W0.heap.size W0 _› hb9; clear hb9)))
  all_goals
    have hBF := hB5.trans (hS9.mono hB5.size)
    clear K0 K1 K2 K3 K4 K5 K6 K7 K8 K9 K10 K11 K12 K13 K14
    go_wp2
    go_ret
    exact ⟨rfl, hBF⟩
end Go.Proofs.Ythndmoipemnllaa
