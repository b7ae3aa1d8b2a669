/- Stage 14's program: how items are held against one another. -/
import Derived.Test.YtoepodjpempcdaaAgeA
import Derived.Test.YtoepodjpempcdaaCmpOr
namespace Go.Proofs.Ytoepodjpempcdaa
open Go.RowKit

/-- below 0: a is ahead of b; above 0: b of a -/
def ordI (now rate : Int) (a b : It) : Int := orT [Lib.compareInt (ofA b now rate) (ofA a now rate), Lib.compareInt a.seq b.seq, Lib.compareInt a.id b.id]
theorem ordI_ahead (now rate : Int) (a b : It) : decide (ordI now rate a b < 0) = ahA a b now rate := by
  unfold ordI orT orT orT orT Lib.compareInt ahA
  generalize ofA a now rate = p
  generalize ofA b now rate = q
  (repeat' split) <;> simp <;> omega

/-- a new row of three numbers -/
def lkThree (x y z : Int) : Lk := ⟨Nat, ⟨0⟩, fun b => .slice (some ⟨b, 0, none⟩) 3 3, fun b w => Blk w b [.int .i64 x, .int .i64 y, .int .i64 z]⟩
theorem lkThree_at {P : Program} {o : Oper} {a : Act} {W : World} {G : World → Prop} {x y z : Int} {t : TypeId} (he : ∀ k : In W, (execOp a.eval o).run P k.w = .ok (.value (.slice (some ⟨k.w.heap.size, 0, none⟩) 3 3)) (k.w.alloc (.cells #[.int .i64 x, .int .i64 y, .int .i64 z] t))) : (lkThree x y z).at P o a W G :=
  ⟨fun _ _ _ h hb => Blk.kept h hb, fun k _ => by
    rw [he k]
    exact ⟨k.w.heap.size, rfl, Blk.new k.w [.int .i64 x, .int .i64 y, .int .i64 z] t, (Below.refl W.heap.size _).alloc k.h.size _⟩⟩

set_option maxHeartbeats 4000000 in
set_option maxRecDepth 100000 in
theorem aOrder_any (now rate : Int) (a b : It) (w : World) : Calls Try.prog 29 #[agv now rate, itv a, itv b] w fun e w' => e = .returned (.int .i64 (ordI now rate a b)) ∧ Below w.heap.size w w' := by
  unfold ordI
  have HA := Lib.hid fun w => aOfG_any a now rate w
  have HB := Lib.hid fun w => aOfG_any b now rate w
  unfold agv at HA HB
  generalize ofA a now rate = p at *
  generalize ofA b now rate = q at *
  generalize hc1 : Lib.compareInt q p = k1
  generalize hc2 : Lib.compareInt a.seq b.seq = k2
  generalize hc3 : Lib.compareInt a.id b.id = k3
  obtain ⟨r, hr⟩ : ∃ r, orT [k1, k2, k3] = r := ⟨_, rfl⟩
  rw [hr]
  have G1 := fun w => cCmp_any q p w
  have G2 := fun w => cCmp_any a.seq b.seq w
  have G3 := fun w => cCmp_any a.id b.id w
  have GO := fun bl w (h : Blk w bl _) => cOr_any bl k1 k2 k3 w h
  rw [hc1] at G1
  rw [hc2] at G2
  rw [hc3] at G3
  rw [hr] at GO
  unfold agv
  generalize tk now = t at *
  generalize rt rate = rr at *
  obtain ⟨x1, x2, x3, x4⟩ := a
  obtain ⟨y1, y2, y3, y4⟩ := b
  simp only [itv] at G2 G3 HA HB ⊢
  have H1 := Lib.hid fun w => (G1 w).mono (fun e w' (h : e = _ ∧ w' = w) => (⟨h.1, h.2.symm⟩ : e = _ ∧ w = w'))
  have H2 := Lib.hid fun w => (G2 w).mono (fun e w' (h : e = _ ∧ w' = w) => (⟨h.1, h.2.symm⟩ : e = _ ∧ w = w'))
  have H3 := Lib.hid fun w => (G3 w).mono (fun e w' (h : e = _ ∧ w' = w) => (⟨h.1, h.2.symm⟩ : e = _ ∧ w = w'))
  have HO := Lib.hid fun bl w h => (GO bl w h).mono (fun e w' (h : e = _ ∧ w' = w) => (⟨h.1, by rw [h.2]; exact Below.refl _ _⟩ : e = _ ∧ Below w.heap.size w w'))
  clear G1 G2 G3 GO hc1 hc2 hc3 hr
  have hG0 := Blk.new w [.int .i64 t, .int .i64 rr] 38
  have hX0 := Blk.new (w.alloc (.cells #[.int .i64 t, .int .i64 rr] 38)) [.int .i64 x1, .int .i64 x2, .int .i64 x3, .int .i64 x4] 23
  have hY := Blk.new ((w.alloc (.cells #[.int .i64 t, .int .i64 rr] 38)).alloc (.cells #[.int .i64 x1, .int .i64 x2, .int .i64 x3, .int .i64 x4] 23)) [.int .i64 y1, .int .i64 y2, .int .i64 y3, .int .i64 y4] 23
  have a1 := (Below.refl (w.alloc (.cells #[.int .i64 t, .int .i64 rr] 38)).heap.size _).alloc (Nat.le_refl _) (.cells #[.int .i64 x1, .int .i64 x2, .int .i64 x3, .int .i64 x4] 23)
  have a2 := (Below.refl ((w.alloc (.cells #[.int .i64 t, .int .i64 rr] 38)).alloc (.cells #[.int .i64 x1, .int .i64 x2, .int .i64 x3, .int .i64 x4] 23)).heap.size _).alloc (Nat.le_refl _) (.cells #[.int .i64 y1, .int .i64 y2, .int .i64 y3, .int .i64 y4] 23)
  have hG := (hG0.kept a1).kept a2
  have hX := hX0.kept a2
  rw [show ((w.alloc (.cells #[.int .i64 t, .int .i64 rr] 38)).alloc (.cells #[.int .i64 x1, .int .i64 x2, .int .i64 x3, .int .i64 x4] 23)).heap.size = w.heap.size + 2 by simp] at hY
  rw [show (w.alloc (.cells #[.int .i64 t, .int .i64 rr] 38)).heap.size = w.heap.size + 1 by simp] at hX
  have HBB := Lib.hid ((((Below.refl w.heap.size w).alloc (Nat.le_refl _) (.cells #[.int .i64 t, .int .i64 rr] 38)).alloc (by simp) (.cells #[.int .i64 x1, .int .i64 x2, .int .i64 x3, .int .i64 x4] 23)).alloc (by simp; omega) (.cells #[.int .i64 y1, .int .i64 y2, .int .i64 y3, .int .i64 y4] 23))
  have g0 := hG.cell 0 rfl
  have g1 := hG.cell 1 rfl
  have c0 := hX.cell 0 rfl
  have c1 := hX.cell 1 rfl
  have c2 := hX.cell 2 rfl
  have c3 := hX.cell 3 rfl
  have d0 := hY.cell 0 rfl
  have d1 := hY.cell 1 rfl
  have d2 := hY.cell 2 rfl
  have d3 := hY.cell 3 rfl
  clear hG0 hX0 hY a1 a2 hG hX
  go_enter Try.func29, Try.ntmps29
  go_wp2
  generalize ((w.alloc (.cells #[.int .i64 t, .int .i64 rr] 38)).alloc (.cells #[.int .i64 x1, .int .i64 x2, .int .i64 x3, .int .i64 x4] 23)).alloc (.cells #[.int .i64 y1, .int .i64 y2, .int .i64 y3, .int .i64 y4] 23) = ww at *
  refine wp_region_chain 20 [.calm 17, .own (lkThree k1 k2 k3), .own (Lk.val1 (.int .i64 r)), .calm 1] [17, 18] rfl (by kernel_rfl) (by simp) (by kernel_rfl) (by kernel_rfl) ?_
  simp only [List.take_succ_cons, List.take_zero, List.drop_succ_cons, List.drop_zero]
  refine ⟨by simp, fun M => ?_⟩
  simp only [List.take_succ_cons, List.take_zero, List.drop_succ_cons, List.drop_zero]
  have m0 := fun n : In M.w => n.cell (M.cell g0)
  have m1 := fun n : In M.w => n.cell (M.cell g1)
  have p0 := fun n : In M.w => n.cell (M.cell c0)
  have p1 := fun n : In M.w => n.cell (M.cell c1)
  have p2 := fun n : In M.w => n.cell (M.cell c2)
  have p3 := fun n : In M.w => n.cell (M.cell c3)
  have q0 := fun n : In M.w => n.cell (M.cell d0)
  have q1 := fun n : In M.w => n.cell (M.cell d1)
  have q2 := fun n : In M.w => n.cell (M.cell d2)
  have q3 := fun n : In M.w => n.cell (M.cell d3)
  repeat (go_big_quiet_step (first
    | (go_at_call 18; with_reducible exact In.call (HA.out _))
    | (go_at_call 18; with_reducible exact In.call (HB.out _))
    | (go_at_call 40; with_reducible exact In.call_same (H1.out _))
    | (go_at_call 40; with_reducible exact In.call_same (H2.out _))
    | (go_at_call 40; with_reducible exact In.call_same (H3.out _))))
  refine wpQuiet_nil ?_
  clear m0 m1 p0 p1 p2 p3 q0 q1 q2 q3 M
  refine ⟨rfl, lkThree_at (t := 3) (fun k => by simp [go_sem]), fun v1 A hA => ?_⟩
  simp [Act.put, lkThree] at hA
  subst hA
  refine ⟨rfl, lkVal_at (f := 39) (args := #[.slice (some ⟨v1, 0, none⟩) 3 3]) (fun k => by simp [go_sem]) (fun k hk => HO.out _ k.w hk), fun v2 A hA => ?_⟩
  simp [Act.put, Lk.val1] at hA
  subst hA
  refine ⟨by simp, fun M => ?_⟩
  simp only [List.take_succ_cons, List.take_zero, List.drop_succ_cons, List.drop_zero]
  repeat (go_big_quiet_step (fail))
  refine wpQuiet_nil ?_
  clear M
  refine ⟨rfl, fun w5 hb5 _ => ?_⟩
  have HB5 := Lib.hid (HBB.out.trans (hb5.mono HBB.out.size))
  clear hb5
  go_wp2
  go_ret
  exact ⟨rfl, HB5.out⟩

set_option maxHeartbeats 2000000 in
set_option maxRecDepth 100000 in
theorem aAhead_any (x y : It) (now rate : Int) (w : World) : Calls Try.prog 11 #[itv x, itv y, .int .i64 now, .int .i64 rate] w fun e w' => e = .returned (.bool (ahA x y now rate)) ∧ Below w.heap.size w w' := by
  have H1 := Lib.hid fun w => aAging_any now rate w
  have H2 := Lib.hid fun w => aOrder_any now rate x y w
  rw [← ordI_ahead]
  unfold agv at H1 H2
  generalize ordI now rate x y = o at *
  generalize tk now = t at *
  generalize rt rate = r at *
  obtain ⟨x1, x2, x3, x4⟩ := x
  obtain ⟨y1, y2, y3, y4⟩ := y
  simp only [itv] at H2 ⊢
  have hX0 := Blk.new w [.int .i64 x1, .int .i64 x2, .int .i64 x3, .int .i64 x4] 23
  have hal := (Below.refl (w.alloc (.cells #[.int .i64 x1, .int .i64 x2, .int .i64 x3, .int .i64 x4] 23)).heap.size _).alloc (Nat.le_refl _) (.cells #[.int .i64 y1, .int .i64 y2, .int .i64 y3, .int .i64 y4] 23)
  have hY := Blk.new (w.alloc (.cells #[.int .i64 x1, .int .i64 x2, .int .i64 x3, .int .i64 x4] 23)) [.int .i64 y1, .int .i64 y2, .int .i64 y3, .int .i64 y4] 23
  have e1 : (w.alloc (.cells #[.int .i64 x1, .int .i64 x2, .int .i64 x3, .int .i64 x4] 23)).heap.size = w.heap.size + 1 := by simp
  rw [e1] at hY
  have hX := hX0.kept hal
  have HB := Lib.hid (((Below.refl w.heap.size w).alloc (Nat.le_refl _) (.cells #[.int .i64 x1, .int .i64 x2, .int .i64 x3, .int .i64 x4] 23)).trans (hal.mono (by rw [e1]; omega)))
  have c0 := hX.cell 0 rfl
  have c1 := hX.cell 1 rfl
  have c2 := hX.cell 2 rfl
  have c3 := hX.cell 3 rfl
  have d0 := hY.cell 0 rfl
  have d1 := hY.cell 1 rfl
  have d2 := hY.cell 2 rfl
  have d3 := hY.cell 3 rfl
  clear hX hY hX0 hal e1
  go_enter Try.func11, Try.ntmps11
  go_wp2
  generalize (w.alloc (.cells #[.int .i64 x1, .int .i64 x2, .int .i64 x3, .int .i64 x4] 23)).alloc (.cells #[.int .i64 y1, .int .i64 y2, .int .i64 y3, .int .i64 y4] 23) = ww at *
  refine wp_region_calm0 (by kernel_rfl) (by kernel_rfl) fun M => ?_
  have m0 := fun n : In M.w => n.cell (M.cell c0)
  have m1 := fun n : In M.w => n.cell (M.cell c1)
  have m2 := fun n : In M.w => n.cell (M.cell c2)
  have m3 := fun n : In M.w => n.cell (M.cell c3)
  have m4 := fun n : In M.w => n.cell (M.cell d0)
  have m5 := fun n : In M.w => n.cell (M.cell d1)
  have m6 := fun n : In M.w => n.cell (M.cell d2)
  have m7 := fun n : In M.w => n.cell (M.cell d3)
  repeat (go_big_quiet_step (first
    | (go_at_call 17; with_reducible exact In.call (H1.out _))
    | (go_at_call 29; with_reducible exact In.call (H2.out _))))
  refine wpQuiet_nil ?_
  intro w1 hb
  have HB1 := Lib.hid (HB.out.trans (hb.mono HB.out.size))
  clear m0 m1 m2 m3 m4 m5 m6 m7 c0 c1 c2 c3 d0 d1 d2 d3 hb M
  go_wp2
  go_ret
  exact ⟨rfl, HB1.out⟩
end Go.Proofs.Ytoepodjpempcdaa
