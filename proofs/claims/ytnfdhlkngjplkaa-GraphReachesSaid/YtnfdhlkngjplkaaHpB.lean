/- Stage 13's program: the order, up. -/
import Derived.Test.YtnfdhlkngjplkaaHpA
import Derived.StillTailTactics
import Derived.Shelf.SlicesG.Cmp
import Derived.Shelf.SlSortCmp.WholeK
namespace Go.Proofs.Ytnfdhlkngjplkaa
open Go.RowKit Go.Shelf

theorem cCmp_any (x y : Int) (w : World) : Calls Try.prog 68 #[.int .i64 x, .int .i64 y] w fun e w' => e = .returned (.int .i64 (Lib.compareInt x y)) ∧ w' = w := by
  have hn : ∀ x w, Calls Try.prog 59 #[.int .i64 x] w fun e w' => e = .returned (.bool false) ∧ w' = w := fun x w => by
    go_enter Try.func59, Try.ntmps59
    go_wp2
    go_ret
    exact ⟨by simp, rfl⟩
  go_enter Try.func68, Try.ntmps68
  go_wp2_with (go_at_call 59; refine (hn _ _).mono ?_; rintro e w' ⟨rfl, rfl⟩)
  all_goals (go_ret; refine ⟨?_, rfl⟩; unfold Lib.compareInt; (repeat' split) <;> first | rfl | (exfalso; omega))

/-- the first that is not zero -/
def orT : List Int → Int
  | [] => 0
  | x :: t => if x ≠ 0 then x else orT t
set_option maxHeartbeats 2000000 in
theorem cOr_any (b : Nat) (x y z : Int) (w : World) (h : Blk w b [.int .i64 x, .int .i64 y, .int .i64 z]) : Calls Try.prog 67 #[.slice (some ⟨b, 0, none⟩) 3 3] w fun e w' => e = .returned (.int .i64 (orT [x, y, z])) ∧ w' = w := by
  have e0 := h.cell 0 rfl
  have e1 := h.cell 1 rfl
  have e2 := h.cell 2 rfl
  obtain ⟨r, hr⟩ : ∃ r, orT [x, y, z] = r := ⟨_, rfl⟩
  rw [hr]
  unfold orT orT orT orT at hr
  clear h
  by_cases hx : x = 0
  · have x0 : (x != 0) = false := by simp [hx]
    rw [if_neg (by simp [hx])] at hr
    by_cases hy : y = 0
    · have y0 : (y != 0) = false := by simp [hy]
      rw [if_neg (by simp [hy])] at hr
      by_cases hz : z = 0
      · have z0 : (z != 0) = false := by simp [hz]
        rw [if_neg (by simp [hz])] at hr
        have HR := Lib.hid hr
        clear hx hy hz hr
        go_enter Try.func67, Try.ntmps67
        go_wp2
        refine wp_loop_rounds 4 ?_
        rw [rounds_succ]; go_wp2; rw [rounds_succ]; go_wp2; rw [rounds_succ]; go_wp2; rw [rounds_succ]; go_wp2
        go_ret
        exact ⟨by rw [← HR.out]; rfl, rfl⟩
      · have z0 : (z != 0) = true := by simp [hz]
        rw [if_pos hz] at hr
        subst hr
        clear hx hy hz
        go_enter Try.func67, Try.ntmps67
        go_wp2
        refine wp_loop_rounds 3 ?_
        rw [rounds_succ]; go_wp2; rw [rounds_succ]; go_wp2; rw [rounds_succ]; go_wp2
        go_ret
        exact ⟨rfl, rfl⟩
    · have y0 : (y != 0) = true := by simp [hy]
      rw [if_pos hy] at hr
      subst hr
      clear hx hy
      go_enter Try.func67, Try.ntmps67
      go_wp2
      refine wp_loop_rounds 2 ?_
      rw [rounds_succ]; go_wp2; rw [rounds_succ]; go_wp2
      go_ret
      exact ⟨rfl, rfl⟩
  · have x0 : (x != 0) = true := by simp [hx]
    rw [if_pos hx] at hr
    subst hr
    clear hx
    go_enter Try.func67, Try.ntmps67
    go_wp2
    refine wp_loop_rounds 1 ?_
    rw [rounds_succ]; go_wp2
    go_ret
    exact ⟨rfl, rfl⟩

/-- below 0: a is ahead of b; above 0: b of a -/
def ordT (a b : Th) : Int := orT [Lib.compareInt b.key a.key, Lib.compareInt a.seq b.seq, Lib.compareInt a.id b.id]
theorem ordT_ahead (a b : Th) : decide (ordT a b < 0) = ahead a b := by
  unfold ordT orT orT orT orT Lib.compareInt ahead
  (repeat' split) <;> simp <;> omega

set_option maxHeartbeats 4000000 in
set_option maxRecDepth 100000 in
theorem hOrder_any (a b : Th) (w : World) : Calls Try.prog 66 #[.agg #[.int .i64 a.id, .int .i64 a.key, .int .i64 a.seq], .agg #[.int .i64 b.id, .int .i64 b.key, .int .i64 b.seq]] w fun e w' => e = .returned (.int .i64 (ordT a b)) ∧ ∃ q os', w' = Sort.grow (w.drewN q) os' := by
  unfold ordT
  generalize hc1 : Lib.compareInt b.key a.key = c1
  generalize hc2 : Lib.compareInt a.seq b.seq = c2
  generalize hc3 : Lib.compareInt a.id b.id = c3
  obtain ⟨r, hr⟩ : ∃ r, orT [c1, c2, c3] = r := ⟨_, rfl⟩
  rw [hr]
  have G1 := fun w => cCmp_any b.key a.key w
  have G2 := fun w => cCmp_any a.seq b.seq w
  have G3 := fun w => cCmp_any a.id b.id w
  have GO := fun bl w (h : Blk w bl _) => cOr_any bl c1 c2 c3 w h
  rw [hc1] at G1
  rw [hc2] at G2
  rw [hc3] at G3
  rw [hr] at GO
  have H1 := Lib.hid G1
  have H2 := Lib.hid G2
  have H3 := Lib.hid G3
  have HO := Lib.hid GO
  obtain ⟨a1, a2, a3⟩ := a
  obtain ⟨b1, b2, b3⟩ := b
  simp only at H1 H2 H3 ⊢
  have hx := (((Blk.new w [.int .i64 a1, .int .i64 a2, .int .i64 a3] 77).kept ((Below.refl _ _).alloc (Nat.le_refl _) (.cells #[.int .i64 b1, .int .i64 b2, .int .i64 b3] 77)))).drew
  have hy := (Blk.new (w.alloc (.cells #[.int .i64 a1, .int .i64 a2, .int .i64 a3] 77)) [.int .i64 b1, .int .i64 b2, .int .i64 b3] 77).drew
  have hg : ∃ q os', ((w.alloc (.cells #[.int .i64 a1, .int .i64 a2, .int .i64 a3] 77)).alloc (.cells #[.int .i64 b1, .int .i64 b2, .int .i64 b3] 77)).drew.alloc (.cells #[.int .i64 c1, .int .i64 c2, .int .i64 c3] 3) = Sort.grow (w.drewN q) os' := ⟨1, _, by rw [Sort.alloc_eq_grow, Sort.alloc_eq_grow, Sort.alloc_eq_grow, Sort.drew_grow, Sort.drew_grow, Sort.grow_grow, Sort.grow_grow]; rfl⟩
  have x0 := hx.cell 0 rfl
  have x1 := hx.cell 1 rfl
  have x2 := hx.cell 2 rfl
  have y0 := hy.cell 0 rfl
  have y1 := hy.cell 1 rfl
  have y2 := hy.cell 2 rfl
  rw [show (w.alloc (.cells #[.int .i64 a1, .int .i64 a2, .int .i64 a3] 77)).heap.size = w.heap.size + 1 by simp] at y0 y1 y2
  clear G1 G2 G3 GO hc1 hc2 hc3 hr hx hy
  go_enter Try.func66, Try.ntmps66
  go_wp2
  refine wp_region_still_tail 15 (by kernel_rfl) (by kernel_rfl) ?_
  change wpStill _ _ (World.drew _) (fun a' => wpList _ _ _ _ a' (World.drew _)) _ _
  generalize World.drew _ = W3 at *
  have HG := Lib.hid hg
  have HB := Lib.hid (Blk.new W3 [.int .i64 c1, .int .i64 c2, .int .i64 c3] 3)
  clear hg
  simp only [List.take_succ_cons, List.take_zero, List.drop_succ_cons, List.drop_zero]
  iterate 4 still_step
  (refine wpStill_step (fun K hK => ?_); go_simp; with_reducible refine ⟨_, H1.out _, hK _ ?_⟩; clear hK K)
  iterate 4 still_step
  (refine wpStill_step (fun K hK => ?_); go_simp; with_reducible refine ⟨_, H2.out _, hK _ ?_⟩; clear hK K)
  iterate 4 still_step
  (refine wpStill_step (fun K hK => ?_); go_simp; with_reducible refine ⟨_, H3.out _, hK _ ?_⟩; clear hK K)
  refine wpStill_nil ?_
  clear H1 H2 H3 x0 x1 x2 y0 y1 y2
  go_wp2_with (go_at_call 67; (with_reducible refine (HO.out _ _ HB.out).mono ?_); rintro e w1 ⟨rfl, rfl⟩)
  go_ret
  exact ⟨rfl, HG.out⟩

theorem grow_below {w : World} {q : Nat} {os : Array Obj} : Below w.heap.size w (Sort.grow (w.drewN q) os) :=
  ⟨rfl, rfl, rfl, by rw [Sort.size_grow]; exact Nat.le_add_right _ _, fun k hk => by
    show (w.heap ++ os)[k]? = _
    exact Array.getElem?_append_left hk⟩
set_option maxHeartbeats 2000000 in
theorem hAhead_any (a b : Th) (w : World) : Calls Try.prog 65 #[.agg #[.int .i64 a.id, .int .i64 a.key, .int .i64 a.seq], .agg #[.int .i64 b.id, .int .i64 b.key, .int .i64 b.seq]] w fun e w' => e = .returned (.bool (ahead a b)) ∧ Below w.heap.size w w' := by
  rw [← ordT_ahead]
  have HO := Lib.hid fun w => hOrder_any a b w
  generalize ordT a b = r at *
  obtain ⟨a1, a2, a3⟩ := a
  obtain ⟨b1, b2, b3⟩ := b
  simp only at HO ⊢
  have HB := Lib.hid (((Below.refl w.heap.size w).alloc (Nat.le_refl _) (.cells #[.int .i64 a1, .int .i64 a2, .int .i64 a3] 77)).alloc (by simp) (.cells #[.int .i64 b1, .int .i64 b2, .int .i64 b3] 77))
  go_enter Try.func65, Try.ntmps65
  go_wp2_with (go_at_call 66; (with_reducible refine (HO.out _).mono ?_); rintro e w1 ⟨rfl, q, os, rfl⟩)
  have HB2 := HB.out.trans ((grow_below (q := q) (os := os)).mono HB.out.size)
  go_ret
  exact ⟨rfl, HB2⟩
end Go.Proofs.Ytnfdhlkngjplkaa
