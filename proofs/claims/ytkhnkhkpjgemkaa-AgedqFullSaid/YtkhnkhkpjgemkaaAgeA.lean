/- Stage 14's program: numbers as they count; Of. -/
import Derived.Test.YtkhnkhkpjgemkaaAgeRefD
import Derived.Test.YtkhnkhkpjgemkaaSatB
import Derived.Test.YtkhnkhkpjgemkaaChainO
namespace Go.Proofs.Ytkhnkhkpjgemkaa
open Go.RowKit

theorem aTick_any (n : Int) (w : World) : Calls Try.prog 38 #[.int .i64 n] w fun e w' => e = .returned (.int .i64 (tk n)) ∧ w = w' := by
  have H := Lib.hid (satClip_c n 0 2147483647 w)
  have e : iclip n 0 2147483647 = tk n := rfl
  rw [e] at H
  generalize tk n = t at *
  go_enter Try.func38, Try.ntmps38
  go_wp2_with (go_at_call 17; (with_reducible refine H.out.mono ?_); rintro e w1 ⟨rfl, rfl⟩)
  go_ret
  exact ⟨rfl, rfl⟩
theorem aRate_any (n : Int) (w : World) : Calls Try.prog 39 #[.int .i64 n] w fun e w' => e = .returned (.int .i64 (rt n)) ∧ w = w' := by
  have H := Lib.hid (satClip_c n 0 1048576 w)
  have e : iclip n 0 1048576 = rt n := rfl
  rw [e] at H
  generalize rt n = t at *
  go_enter Try.func39, Try.ntmps39
  go_wp2_with (go_at_call 17; (with_reducible refine H.out.mono ?_); rintro e w1 ⟨rfl, rfl⟩)
  go_ret
  exact ⟨rfl, rfl⟩
theorem aPrio_any (n : Int) (w : World) : Calls Try.prog 42 #[.int .i64 n] w fun e w' => e = .returned (.int .i64 (pr n)) ∧ w = w' := by
  have H := Lib.hid (satClip_c n 0 1048575 w)
  have e : iclip n 0 1048575 = pr n := rfl
  rw [e] at H
  generalize pr n = t at *
  go_enter Try.func42, Try.ntmps42
  go_wp2_with (go_at_call 17; (with_reducible refine H.out.mono ?_); rintro e w1 ⟨rfl, rfl⟩)
  go_ret
  exact ⟨rfl, rfl⟩

abbrev agv (now rate : Int) : Value := .agg #[.int .i64 (tk now), .int .i64 (rt rate)]
set_option maxHeartbeats 1000000 in
theorem aAging_any (now rate : Int) (w : World) : Calls Try.prog 27 #[.int .i64 now, .int .i64 rate] w fun e w' => e = .returned (agv now rate) ∧ Below w.heap.size w w' := by
  have H1 := Lib.hid (fun w => aTick_any now w)
  have H2 := Lib.hid (fun w => aRate_any rate w)
  unfold agv
  generalize tk now = t at *
  generalize rt rate = r at *
  have hX := Blk.new w [.int .i64 0, .int .i64 0] 57
  have c0 := hX.cell 0 rfl
  have c1 := hX.cell 1 rfl
  have z0 := hX.free 0 rfl
  have z1 := hX.free 1 rfl
  have HB := Lib.hid ((Below.refl w.heap.size w).alloc (Nat.le_refl _) (.cells #[.int .i64 t, .int .i64 r] 57))
  clear hX
  go_enter Try.func27, Try.ntmps27
  go_wp2_with (first
    | (go_at_call 38; (with_reducible refine (H1.out _).mono ?_); rintro e w1 ⟨rfl, rfl⟩)
    | (go_at_call 39; (with_reducible refine (H2.out _).mono ?_); rintro e w1 ⟨rfl, rfl⟩))
  refine bodyPost_ret (v := .agg #[.int .i64 t, .int .i64 r]) ?_ rfl ⟨rfl, HB.out⟩
  simp [results, Try.results27, go_sem]

/-- a new row of two numbers -/
def lkTwo (x y : Int) : Lk := ⟨Nat, ⟨0⟩, fun b => .slice (some ⟨b, 0, none⟩) 2 2, fun b w => IntsAt w (.slice (some ⟨b, 0, none⟩) 2 2) [x, y]⟩
theorem lkTwo_at {P : Program} {o : Oper} {a : Act} {W : World} {G : World → Prop} {x y : Int} {t : TypeId} (he : ∀ k : In W, (execOp a.eval o).run P k.w = .ok (.value (.slice (some ⟨k.w.heap.size, 0, none⟩) 2 2)) (k.w.alloc (.cells #[.int .i64 x, .int .i64 y] t))) : (lkTwo x y).at P o a W G :=
  ⟨fun _ _ _ h hb => IntsAt.below h hb, fun k _ => by
    rw [he k]
    exact ⟨k.w.heap.size, rfl, IntsAt.lit k.w [x, y] t, (Below.refl W.heap.size _).alloc k.h.size _⟩⟩
/-- a call whose answer is settled, over what the region has made -/
theorem lkVal_at {P : Program} {o : Oper} {a : Act} {W : World} {G : World → Prop} {v : Value} {f : FuncId} {args : Array Value} (he : ∀ k : In W, (execOp a.eval o).run P k.w = .ok (.enter f args) k.w)
    (hc : ∀ k : In W, G k.w → Calls P f args k.w fun e w' => e = .returned v ∧ Below k.w.heap.size k.w w') : (Lk.val1 v).at P o a W G :=
  ⟨fun _ _ _ _ _ => trivial, fun k hk => by
    rw [he k]
    refine ⟨rfl, (hc k hk).mono ?_⟩
    rintro e w' ⟨rfl, hb⟩
    exact ⟨(), rfl, trivial, hb.mono k.h.size⟩⟩
theorem of_sum {p r g : Int} (hp : 0 ≤ p) (hr : 0 ≤ r) (hg : 0 ≤ g) : sadd (max 1048575 0) [p, smul (max 1048575 0) [r, g]] = min (p + r * g) 1048575 := by
  have h0 := Int.mul_nonneg hr hg
  have e1 : max r 0 = r := by omega
  have e2 : max g 0 = g := by omega
  simp only [sadd, smul, isum, iprod, e1, e2, Int.mul_one]
  generalize r * g = k at *
  omega
theorem smul_in {r g : Int} : 0 ≤ smul (max 1048575 0) [r, g] ∧ smul (max 1048575 0) [r, g] ≤ 1048575 := by
  have e1 : 0 ≤ max r 0 := by omega
  have e2 : 0 ≤ max g 0 := by omega
  have h0 := Int.mul_nonneg e1 e2
  simp only [smul, iprod, Int.mul_one]
  generalize max r 0 * max g 0 = k at *
  omega

set_option maxHeartbeats 2000000 in
set_option maxRecDepth 100000 in
theorem aOfG_any (x : It) (now rate : Int) (w : World) : Calls Try.prog 28 #[agv now rate, itv x] w fun e w' => e = .returned (.int .i64 (ofA x now rate)) ∧ Below w.heap.size w w' := by
  obtain ⟨x1, x2, x3, x4⟩ := x
  have b1 := tk_bd now
  have b2 := tk_bd x3
  have b3 := rt_bd rate
  have b4 := pr_bd x2
  have hg : iless (tk now) (tk x3) = ageA ⟨x1, x2, x3, x4⟩ now := by unfold iless ageA; simp only; omega
  have bg := ageA_bd ⟨x1, x2, x3, x4⟩ now
  have H1 := Lib.hid fun w => aTick_any x3 w
  have H2 := Lib.hid fun w => aPrio_any x2 w
  have HL := Lib.hid fun w => satLess_c (tk now) (tk x3) w (by omega) (by omega)
  rw [hg] at HL
  obtain ⟨o, ho⟩ : ∃ o, ofA ⟨x1, x2, x3, x4⟩ now rate = o := ⟨_, rfl⟩
  have ho2 : min (pr x2 + rt rate * ageA ⟨x1, x2, x3, x4⟩ now) 1048575 = o := ho
  rw [ho]
  unfold agv
  generalize ageA ⟨x1, x2, x3, x4⟩ now = g at *
  generalize tk now = t at *
  generalize tk x3 = s at *
  generalize rt rate = r at *
  generalize pr x2 = p at *
  obtain ⟨m, hm⟩ : ∃ m, smul (max 1048575 0) [r, g] = m := ⟨_, rfl⟩
  have bm := smul_in (r := r) (g := g)
  have hsum := of_sum b4.1 b3.1 bg.1
  rw [hm] at bm hsum
  rw [ho2] at hsum
  have HM := Lib.hid fun (v : Value) (w : World) (h : IntsAt w v [r, g]) => satMul_c 1048575 v [r, g] w (by omega) h (by simp) (by intro y hy; simp at hy; rcases hy with rfl | rfl <;> omega)
  have HA := Lib.hid fun (v : Value) (w : World) (h : IntsAt w v [p, m]) => satAdd_c 1048575 v [p, m] w (by omega) h (by simp) (by intro y hy; simp at hy; rcases hy with rfl | rfl <;> omega)
  rw [hm] at HM
  rw [hsum] at HA
  have hX0 := Blk.new w [.int .i64 t, .int .i64 r] 57
  have hal := (Below.refl (w.alloc (.cells #[.int .i64 t, .int .i64 r] 57)).heap.size _).alloc (Nat.le_refl _) (.cells #[.int .i64 x1, .int .i64 x2, .int .i64 x3, .int .i64 x4] 28)
  have hY := Blk.new (w.alloc (.cells #[.int .i64 t, .int .i64 r] 57)) [.int .i64 x1, .int .i64 x2, .int .i64 x3, .int .i64 x4] 28
  have e1 : (w.alloc (.cells #[.int .i64 t, .int .i64 r] 57)).heap.size = w.heap.size + 1 := by simp
  rw [e1] at hY
  have hX := hX0.kept hal
  have HB := Lib.hid (((Below.refl w.heap.size w).alloc (Nat.le_refl _) (.cells #[.int .i64 t, .int .i64 r] 57)).trans (hal.mono (by rw [e1]; omega)))
  have c0 := hX.cell 0 rfl
  have c1 := hX.cell 1 rfl
  have d1 := hY.cell 1 rfl
  have d2 := hY.cell 2 rfl
  clear hX hY hX0 hal e1 b1 b2 b3 b4 bg bm hg hm hsum ho ho2
  go_enter Try.func28, Try.ntmps28
  go_wp2
  generalize (w.alloc (.cells #[.int .i64 t, .int .i64 r] 57)).alloc (.cells #[.int .i64 x1, .int .i64 x2, .int .i64 x3, .int .i64 x4] 28) = ww at *
  refine wp_region_calm0 (by kernel_rfl) (by kernel_rfl) fun M => ?_
  have m0 := fun n : In M.w => n.cell (M.cell c0)
  have m2 := fun n : In M.w => n.cell (M.cell d2)
  repeat (go_big_quiet_step (first
    | (go_at_call 38; with_reducible exact In.call_same (H1.out _))
    | (go_at_call 40; with_reducible exact In.call_same (HL.out _))))
  refine wpQuiet_nil ?_
  intro w1 hb
  have f1 := (hb.cell (World.block_lt_of_cell? _ _ c1)).trans c1
  have f2 := (hb.cell (World.block_lt_of_cell? _ _ d1)).trans d1
  have HB1 := Lib.hid (HB.out.trans (hb.mono HB.out.size))
  clear m0 m2 c0 c1 d1 d2 hb M HB
  go_wp2
  refine wp_region_chain 11 [.calm 6, .own (lkTwo r g), .own (Lk.val1 (.int .i64 m)), .own (lkTwo p m), .own (Lk.val1 (.int .i64 o)), .calm 1] [6, 7, 8, 9] rfl (by kernel_rfl) (by simp) (by kernel_rfl) (by kernel_rfl) ?_
  simp only [List.take_succ_cons, List.take_zero, List.drop_succ_cons, List.drop_zero]
  refine ⟨by simp, fun M => ?_⟩
  simp only [List.take_succ_cons, List.take_zero, List.drop_succ_cons, List.drop_zero]
  have m1 := fun n : In M.w => n.cell (M.cell f1)
  have m2 := fun n : In M.w => n.cell (M.cell f2)
  repeat (go_big_quiet_step ((go_at_call 42; with_reducible exact In.call_same (H2.out _))))
  refine wpQuiet_nil ?_
  clear m1 m2 M
  refine ⟨rfl, lkTwo_at (t := 3) (fun k => by simp [go_sem]), fun x1 A hA => ?_⟩
  simp [Act.put, lkTwo] at hA
  subst hA
  refine ⟨rfl, lkVal_at (f := 43) (args := #[.int .i64 1048575, .slice (some ⟨x1, 0, none⟩) 2 2]) (fun k => by simp [go_sem]) (fun k hk => HM.out _ k.w hk), fun x2 A hA => ?_⟩
  simp [Act.put, Lk.val1] at hA
  subst hA
  refine ⟨rfl, lkTwo_at (t := 3) (fun k => by simp [go_sem]), fun x3 A hA => ?_⟩
  simp [Act.put, lkTwo] at hA
  subst hA
  refine ⟨rfl, lkVal_at (f := 41) (args := #[.int .i64 1048575, .slice (some ⟨x3, 0, none⟩) 2 2]) (fun k => by simp [go_sem]) (fun k hk => HA.out _ k.w hk), fun x4 A hA => ?_⟩
  simp [Act.put, Lk.val1] at hA
  subst hA
  refine ⟨by simp, fun M => ?_⟩
  simp only [List.take_succ_cons, List.take_zero, List.drop_succ_cons, List.drop_zero]
  repeat (go_big_quiet_step (fail))
  refine wpQuiet_nil ?_
  clear M
  refine ⟨rfl, fun w5 hb5 _ => ?_⟩
  have HB5 := Lib.hid (HB1.out.trans (hb5.mono HB1.out.size))
  clear hb5
  go_wp2
  go_ret
  exact ⟨rfl, HB5.out⟩

set_option maxHeartbeats 2000000 in
set_option maxRecDepth 100000 in
theorem aOf_any (x : It) (now rate : Int) (w : World) : Calls Try.prog 13 #[itv x, .int .i64 now, .int .i64 rate] w fun e w' => e = .returned (.int .i64 (ofA x now rate)) ∧ Below w.heap.size w w' := by
  obtain ⟨x1, x2, x3, x4⟩ := x
  have H1 := Lib.hid fun w => aAging_any now rate w
  have H2 := Lib.hid fun w => aOfG_any ⟨x1, x2, x3, x4⟩ now rate w
  unfold agv at H1 H2
  generalize ofA ⟨x1, x2, x3, x4⟩ now rate = o at *
  generalize tk now = t at *
  generalize rt rate = r at *
  simp only [itv] at H2 ⊢
  have hX := Blk.new w [.int .i64 x1, .int .i64 x2, .int .i64 x3, .int .i64 x4] 28
  have HB := Lib.hid ((Below.refl w.heap.size w).alloc (Nat.le_refl _) (.cells #[.int .i64 x1, .int .i64 x2, .int .i64 x3, .int .i64 x4] 28))
  have c0 := hX.cell 0 rfl
  have c1 := hX.cell 1 rfl
  have c2 := hX.cell 2 rfl
  have c3 := hX.cell 3 rfl
  clear hX
  go_enter Try.func13, Try.ntmps13
  go_wp2
  generalize w.alloc (.cells #[.int .i64 x1, .int .i64 x2, .int .i64 x3, .int .i64 x4] 28) = ww at *
  refine wp_region_calm0 (by kernel_rfl) (by kernel_rfl) fun M => ?_
  have m0 := fun n : In M.w => n.cell (M.cell c0)
  have m1 := fun n : In M.w => n.cell (M.cell c1)
  have m2 := fun n : In M.w => n.cell (M.cell c2)
  have m3 := fun n : In M.w => n.cell (M.cell c3)
  repeat (go_big_quiet_step (first
    | (go_at_call 27; with_reducible exact In.call (H1.out _))
    | (go_at_call 28; with_reducible exact In.call (H2.out _))))
  refine wpQuiet_nil ?_
  intro w1 hb
  have HB1 := Lib.hid (HB.out.trans (hb.mono HB.out.size))
  clear m0 m1 m2 m3 c0 c1 c2 c3 hb M
  go_wp2
  go_ret
  exact ⟨rfl, HB1.out⟩

theorem iover_zero (r : Int) : iover 0 r = 0 := by
  unfold iover
  simp
theorem full_sum {s k : Int} (hs : 0 ≤ s) (hk : 0 ≤ k) : sadd (max 2147483648 0) [s, k] = min (s + k) 2147483648 := by
  simp only [sadd, isum]
  omega
end Go.Proofs.Ytkhnkhkpjgemkaa
