/- The laws of layer 7 that hold the program against the document: PlanTells, PlanRoutes, PlanMoved. -/
import Derived.Test.YtddlgnfghecncaaBun9
namespace Go.Proofs.Ytddlgnfghecncaa
open Go.RowKit

set_option maxHeartbeats 2000000 in
set_option maxRecDepth 100000 in
theorem planMoved_any (va : Value) (l : List Ais) (n x y : Int) (w : World) (ha : AisAt w va l) (hl : l.length ≤ 9223372036854775807) :
    Calls Try.prog 5 #[va, .agg #[.int .i64 n, .int .i64 x, .int .i64 y]] w fun e w' => e = .returned (.bool true) ∧ Below w.heap.size w w' := by
  have HAL := Lib.hid fun w => pAlive_any w
  have HA := Lib.hid ha
  obtain ⟨a, c, rfl⟩ := RowsAt.form ha
  clear ha
  have hB : Below w.heap.size w (w.alloc (.cells #[.int .i64 n, .int .i64 x, .int .i64 y] 41)) := (Below.refl _ _).alloc (Nat.le_refl _) _
  by_cases h1 : 60 < l.length
  · go_enter Try.func5, Try.ntmps5
    go_wp2_with (go_at_call 8; refine (HAL.out _).mono ?_; rintro e w1 ⟨rfl, hb⟩; replace hB := hB.trans (hb.mono hB.size); clear hb)
    go_ret
    exact ⟨rfl, hB⟩
  have CM := Cell3.new w (.int .i64 n) (.int .i64 x) (.int .i64 y) 41
  have hml : (l.map (mvA n x y)).length ≤ 1000000 := by simp; omega
  have GM := Lib.hid fun w ha => pMoved_any n x y (.slice a l.length c) l w ha (by omega)
  have GN := Lib.hid fun w ha => refPMoved_any n x y (.slice a l.length c) l w ha (by omega)
  have gp := fun w va vb ha hb => refPSame_any va vb (l.map (mvA n x y)) (l.map (mvA n x y)) w ha hb hml hml
  rw [decide_eq_true rfl] at gp
  have GP := Lib.hid gp
  clear gp hml
  go_enter Try.func5, Try.ntmps5
  go_wp2
  have HA5 := Lib.hid (HA.out.kept hB)
  generalize w.alloc (.cells #[.int .i64 n, .int .i64 x, .int .i64 y] 41) = W0 at *
  have hS0 : Below W0.heap.size W0 W0.drew := below_drewN (Below.refl _ W0) 1
  have K0 : ∀ w', Below W0.heap.size W0 w' → w'.cell? ⟨w.heap.size, 0, none⟩ = some (.int .i64 n) := fun w' h => (h.cell (World.block_lt_of_cell? _ _ CM.c0)).trans CM.c0
  have K1 : ∀ w', Below W0.heap.size W0 w' → w'.cell? ⟨w.heap.size, 1, none⟩ = some (.int .i64 x) := fun w' h => (h.cell (World.block_lt_of_cell? _ _ CM.c1)).trans CM.c1
  have K2 : ∀ w', Below W0.heap.size W0 w' → w'.cell? ⟨w.heap.size, 2, none⟩ = some (.int .i64 y) := fun w' h => (h.cell (World.block_lt_of_cell? _ _ CM.c2)).trans CM.c2
  clear CM
  go_region_held3 (fun w' => Below W0.heap.size W0 w') (assumption) ((first
    | (go_at_call 22; with_reducible refine (GM.out _ (HA5.out.kept ‹Below W0.heap.size W0 _›)).mono ?_; rintro e u3 ⟨r3, rfl, hp3, hb3⟩; have hS3 := keep_call ‹Below W0.heap.size W0 _› hb3; clear hb3)
    | (go_at_call 23; with_reducible refine (GN.out _ (HA5.out.kept ‹Below W0.heap.size W0 _›)).mono ?_; rintro e u4 ⟨r4, rfl, hp4, hb4⟩; have hS4 := keep_call ‹Below W0.heap.size W0 _› hb4; have hp34 := Lib.hid (hp3.kept hb4); clear hb4 hp3)
    | (go_at_call 21; with_reducible refine (GP.out _ r3 r4 hp34.out hp4).mono ?_; rintro e u5 ⟨rfl, hb5⟩; have hS5 := keep_call ‹Below W0.heap.size W0 _› hb5; clear hb5 hp34 hp4)
    | (go_at_call 8; refine (HAL.out _).mono ?_; rintro e u9 ⟨rfl, hb9⟩; have hS9 := keep_call ‹Below W0.heap.size W0 _› hb9; clear hb9)))
  all_goals
    have hBF := hB.trans (hS9.mono hB.size)
    clear K0 K1 K2
    go_wp2
    go_ret
    exact ⟨rfl, hBF⟩

set_option maxHeartbeats 2000000 in
set_option maxRecDepth 100000 in
theorem planRoutes_any (va : Value) (l : List Ais) (x1 y1 x2 y2 how : Int) (w : World) (ha : AisAt w va l) (hl : l.length ≤ 9223372036854775807) :
    Calls Try.prog 4 #[va, .agg #[.int .i64 x1, .int .i64 y1], .agg #[.int .i64 x2, .int .i64 y2], .int .i64 how] w fun e w' => e = .returned (.bool true) ∧ Below w.heap.size w w' := by
  have HAL := Lib.hid fun w => pAlive_any w
  have HA := Lib.hid ha
  obtain ⟨a, c, rfl⟩ := RowsAt.form ha
  clear ha
  have hB : Below w.heap.size w ((w.alloc (.cells #[.int .i64 x1, .int .i64 y1] 24)).alloc (.cells #[.int .i64 x2, .int .i64 y2] 24)) := ((Below.refl _ _).alloc (Nat.le_refl _) _).alloc (by simp) _
  by_cases h1 : 40 < l.length
  · go_enter Try.func4, Try.ntmps4
    go_wp2_with (go_at_call 8; refine (HAL.out _).mono ?_; rintro e w1 ⟨rfl, hb⟩; replace hB := hB.trans (hb.mono hB.size); clear hb)
    go_ret
    exact ⟨rfl, hB⟩
  have CP := (Cell2.new w (.int .i64 x1) (.int .i64 y1) 24).alloc (.cells #[.int .i64 x2, .int .i64 y2] 24)
  have CQ := Cell2.new (w.alloc (.cells #[.int .i64 x1, .int .i64 y1] 24)) (.int .i64 x2) (.int .i64 y2) 24
  simp only [World.size_alloc] at CQ
  have hwl := rway_length (wd x1, wd y1) (wd x2, wd y2) how
  have hgb := gap_bd (a := (wd x1, wd y1)) (b := (wd x2, wd y2)) ⟨wd_bd x1, wd_bd y1⟩ ⟨wd_bd x2, wd_bd y2⟩
  have hr := fun w => pRoute_any x1 y1 x2 y2 how w
  have hs := fun w => refRoute_any x1 y1 x2 y2 how w
  have hc := fun w ha => pCross_any (.slice a l.length c) l x1 y1 x2 y2 how w ha (by omega)
  have hd := fun w ha => refCross_any (.slice a l.length c) l x1 y1 x2 y2 how w ha (by omega)
  have hcl := crs7_len (hitB (rway (wd x1, wd y1) (wd x2, wd y2) how)) l
  generalize crs7 (hitB (rway (wd x1, wd y1) (wd x2, wd y2) how)) l = L at *
  generalize rway (wd x1, wd y1) (wd x2, wd y2) how = R at *
  have gp := fun w va vb ha hb => refPoints_any va vb R R w ha hb (by omega) (by omega)
  rw [decide_eq_true rfl] at gp
  have gi := fun w va vb ha hb => refInts_any va vb L L w ha hb (by omega) (by omega)
  rw [decide_eq_true rfl] at gi
  have GR := Lib.hid hr
  have GS := Lib.hid hs
  have GC := Lib.hid hc
  have GD := Lib.hid hd
  have GP := Lib.hid gp
  have GI := Lib.hid gi
  clear hr hs hc hd gp gi hwl hgb hcl
  go_enter Try.func4, Try.ntmps4
  go_wp2
  have HA5 := Lib.hid (HA.out.kept hB)
  generalize (w.alloc (.cells #[.int .i64 x1, .int .i64 y1] 24)).alloc (.cells #[.int .i64 x2, .int .i64 y2] 24) = W0 at *
  have hS0 : Below W0.heap.size W0 W0.drew := below_drewN (Below.refl _ W0) 1
  have K0 : ∀ w', Below W0.heap.size W0 w' → w'.cell? ⟨w.heap.size, 0, none⟩ = some (.int .i64 x1) := fun w' h => (h.cell (World.block_lt_of_cell? _ _ CP.c0)).trans CP.c0
  have K1 : ∀ w', Below W0.heap.size W0 w' → w'.cell? ⟨w.heap.size, 1, none⟩ = some (.int .i64 y1) := fun w' h => (h.cell (World.block_lt_of_cell? _ _ CP.c1)).trans CP.c1
  have K2 : ∀ w', Below W0.heap.size W0 w' → w'.cell? ⟨w.heap.size + 1, 0, none⟩ = some (.int .i64 x2) := fun w' h => (h.cell (World.block_lt_of_cell? _ _ CQ.c0)).trans CQ.c0
  have K3 : ∀ w', Below W0.heap.size W0 w' → w'.cell? ⟨w.heap.size + 1, 1, none⟩ = some (.int .i64 y2) := fun w' h => (h.cell (World.block_lt_of_cell? _ _ CQ.c1)).trans CQ.c1
  clear CP CQ
  go_region_held3 (fun w' => Below W0.heap.size W0 w') (assumption) ((first
    | (go_at_call 16; with_reducible refine (GR.out _).mono ?_; rintro e u1 ⟨r1, rfl, hp1, hb1⟩; have hS1 := keep_call ‹Below W0.heap.size W0 _› hb1; clear hb1)
    | (go_at_call 17; with_reducible refine (GS.out _).mono ?_; rintro e u2 ⟨r2, rfl, hp2, hb2⟩; have hS2 := keep_call ‹Below W0.heap.size W0 _› hb2; have hp12 := Lib.hid (hp1.kept hb2); clear hb2 hp1)
    | (go_at_call 15; with_reducible refine (GP.out _ r1 r2 hp12.out hp2).mono ?_; rintro e u5 ⟨rfl, hb5⟩; have hS5 := keep_call ‹Below W0.heap.size W0 _› hb5; clear hb5 hp12 hp2)
    | (go_at_call 19; with_reducible refine (GC.out _ (HA5.out.kept ‹Below W0.heap.size W0 _›)).mono ?_; rintro e u6 ⟨r6, rfl, hp6, hb6⟩; have hS6 := keep_call ‹Below W0.heap.size W0 _› hb6; clear hb6)
    | (go_at_call 20; with_reducible refine (GD.out _ (HA5.out.kept ‹Below W0.heap.size W0 _›)).mono ?_; rintro e u7 ⟨r7, rfl, hp7, hb7⟩; have hS7 := keep_call ‹Below W0.heap.size W0 _› hb7; have hp67 := Lib.hid (hp6.below hb7); clear hb7 hp6)
    | (go_at_call 18; with_reducible refine (GI.out _ r6 r7 hp67.out hp7).mono ?_; rintro e u8 ⟨rfl, hb8⟩; have hS8 := keep_call ‹Below W0.heap.size W0 _› hb8; clear hb8 hp67 hp7)
    | (go_at_call 8; refine (HAL.out _).mono ?_; rintro e u9 ⟨rfl, hb9⟩; have hS9 := keep_call ‹Below W0.heap.size W0 _› hb9; clear hb9)))
  all_goals
    have hBF := hB.trans (hS9.mono hB.size)
    clear K0 K1 K2 K3
    go_wp2
    go_ret
    exact ⟨rfl, hBF⟩
end Go.Proofs.Ytddlgnfghecncaa
