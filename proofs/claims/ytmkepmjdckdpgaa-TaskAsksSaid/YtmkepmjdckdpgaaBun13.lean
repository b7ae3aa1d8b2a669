/- Texts of this proof, joined: TkD; TkRefB; TkLawA; OpenPt; OpenAis; OpenBss. -/
import Derived.Test.YtmkepmjdckdpgaaBun12
import Derived.Laws.BitsAllLaws
import Derived.Deep.DeepCutAuto
import Derived.Test.YtmkepmjdckdpgaaRows
import Derived.Lib.SmallJoins
import Derived.ChangeArms
import Derived.Deep.Strs
/- Stage 22: the program's Same and SameRules. -/
namespace Go.Proofs.Ytmkepmjdckdpgaa
open Go.RowKit

set_option maxHeartbeats 16000000 in
set_option maxRecDepth 100000 in
theorem tSame_any (x y : Sp) (w : World) (ha : IntsAt w x.v x.aft) (hb : IntsAt w y.v y.aft) (hl : x.aft.length ≤ 1000) (hl' : y.aft.length ≤ 1000) :
    Calls Try.prog 17 #[spv x, spv y] w fun e w' => e = .returned (.bool (sameS x y)) ∧ Below w.heap.size w w' := by
  have hws := plain_ways x y
  unfold sameS
  generalize plainB x y = pb at *
  obtain ⟨id, prio, sk, ge, fx, fy, tx, ty, a, c, l⟩ := x
  obtain ⟨id', prio', sk', ge', fx', fy', tx', ty', a', c', l'⟩ := y
  dsimp only [Sp.v, spv] at *
  have hal1 := (Below.refl w.heap.size w).alloc (Nat.le_refl _) (.cells #[.int .i64 id, .int .i64 prio, .int .u64 sk, .int .u64 ge, .int .i64 fx, .int .i64 fy, .int .i64 tx, .int .i64 ty, .slice a l.length c] 27)
  have hX := boxS w id prio sk ge fx fy tx ty (.slice a l.length c)
  have hI := ha.below hal1
  have hJ := hb.below hal1
  obtain ⟨W1, hW1⟩ : ∃ W1, w.alloc (.cells #[.int .i64 id, .int .i64 prio, .int .u64 sk, .int .u64 ge, .int .i64 fx, .int .i64 fy, .int .i64 tx, .int .i64 ty, .slice a l.length c] 27) = W1 := ⟨_, rfl⟩
  have hsz : W1.heap.size = w.heap.size + 1 := by rw [← hW1]; simp
  rw [hW1] at hal1 hX hI hJ
  have hal2 := (Below.refl W1.heap.size W1).alloc (Nat.le_refl _) (.cells #[.int .i64 id', .int .i64 prio', .int .u64 sk', .int .u64 ge', .int .i64 fx', .int .i64 fy', .int .i64 tx', .int .i64 ty', .slice a' l'.length c'] 27)
  have hY := boxS W1 id' prio' sk' ge' fx' fy' tx' ty' (.slice a' l'.length c')
  rw [hsz] at hY
  have HX := Lib.hid (hX.kept hal2)
  have HY := Lib.hid hY
  have HI := Lib.hid (hI.below hal2)
  have HJ := Lib.hid (hJ.below hal2)
  have HB := Lib.hid (hal1.trans (hal2.mono hal1.size))
  rw [← hW1] at HX HY HI HJ HB
  clear hal1 hX hI hJ hal2 hY hsz hW1 ha hb
  have G := Lib.hid fun w h h2 => equalI_any (.slice a l.length c) (.slice a' l'.length c') l l' w h h2 (by omega) (by omega)
  obtain ⟨t, ht⟩ : ∃ t, decide (l = l') = t := ⟨_, rfl⟩
  rw [ht] at G ⊢
  have P1 := Lib.hid fun w => tPlain_any id prio sk ge fx fy tx ty (.slice a l.length c) w
  have P2 := Lib.hid fun w => tPlain_any id' prio' sk' ge' fx' fy' tx' ty' (.slice a' l'.length c') w
  clear ht
  rcases hws with ⟨rfl, hws⟩ | ⟨rfl, rfl, rfl, rfl, rfl, rfl, rfl, rfl, rfl⟩
  · rcases hws with hne | ⟨rfl, hne⟩ | ⟨rfl, rfl, hne⟩ | ⟨rfl, rfl, rfl, hne⟩ | ⟨rfl, rfl, rfl, rfl, hne⟩ | ⟨rfl, rfl, rfl, rfl, rfl, hne⟩ | ⟨rfl, rfl, rfl, rfl, rfl, rfl, hne⟩ | ⟨rfl, rfl, rfl, rfl, rfl, rfl, rfl, hne⟩
    all_goals
      go_enter Try.func17, Try.ntmps17
      go_wp2
      generalize (w.alloc (.cells #[_, _, _, _, _, _, _, _, .slice a l.length c] 27)).alloc (.cells #[_, _, _, _, _, _, _, _, .slice a' l'.length c'] 27) = W0 at *
      refine wp_region_calm0 (by kernel_rfl) (by kernel_rfl) fun M => ?_
      have c0 := fun n : In M.w => n.cell (M.cell (HX.out.cell 0 rfl))
      have d0 := fun n : In M.w => n.cell (M.cell (HY.out.cell 0 rfl))
      have c1 := fun n : In M.w => n.cell (M.cell (HX.out.cell 1 rfl))
      have d1 := fun n : In M.w => n.cell (M.cell (HY.out.cell 1 rfl))
      have c2 := fun n : In M.w => n.cell (M.cell (HX.out.cell 2 rfl))
      have d2 := fun n : In M.w => n.cell (M.cell (HY.out.cell 2 rfl))
      have c3 := fun n : In M.w => n.cell (M.cell (HX.out.cell 3 rfl))
      have d3 := fun n : In M.w => n.cell (M.cell (HY.out.cell 3 rfl))
      have c4 := fun n : In M.w => n.cell (M.cell (HX.out.cell 4 rfl))
      have d4 := fun n : In M.w => n.cell (M.cell (HY.out.cell 4 rfl))
      have c5 := fun n : In M.w => n.cell (M.cell (HX.out.cell 5 rfl))
      have d5 := fun n : In M.w => n.cell (M.cell (HY.out.cell 5 rfl))
      have c6 := fun n : In M.w => n.cell (M.cell (HX.out.cell 6 rfl))
      have d6 := fun n : In M.w => n.cell (M.cell (HY.out.cell 6 rfl))
      have c7 := fun n : In M.w => n.cell (M.cell (HX.out.cell 7 rfl))
      have d7 := fun n : In M.w => n.cell (M.cell (HY.out.cell 7 rfl))
      have c8 := fun n : In M.w => n.cell (M.cell (HX.out.cell 8 rfl))
      have d8 := fun n : In M.w => n.cell (M.cell (HY.out.cell 8 rfl))
      repeat (go_big_quiet_step (first
        | (go_at_call 38; with_reducible exact In.call (P1.out _))
        | (go_at_call 38; with_reducible exact In.call (P2.out _))))
      refine wpQuiet_nil ?_
      intro w1 hb1
      have HB1 := Lib.hid (HB.out.trans (hb1.mono HB.out.size))
      clear hb1 c0 d0 c1 d1 c2 d2 c3 d3 c4 d4 c5 d5 c6 d6 c7 d7 c8 d8 M
      go_wp2
      go_ret
      exact ⟨rfl, HB1.out⟩
  · go_enter Try.func17, Try.ntmps17
    go_wp2
    generalize (w.alloc (.cells #[_, _, _, _, _, _, _, _, .slice a l.length c] 27)).alloc (.cells #[_, _, _, _, _, _, _, _, .slice a' l'.length c'] 27) = W0 at *
    refine wp_region_calm0 (by kernel_rfl) (by kernel_rfl) fun M => ?_
    have c0 := fun n : In M.w => n.cell (M.cell (HX.out.cell 0 rfl))
    have d0 := fun n : In M.w => n.cell (M.cell (HY.out.cell 0 rfl))
    have c1 := fun n : In M.w => n.cell (M.cell (HX.out.cell 1 rfl))
    have d1 := fun n : In M.w => n.cell (M.cell (HY.out.cell 1 rfl))
    have c2 := fun n : In M.w => n.cell (M.cell (HX.out.cell 2 rfl))
    have d2 := fun n : In M.w => n.cell (M.cell (HY.out.cell 2 rfl))
    have c3 := fun n : In M.w => n.cell (M.cell (HX.out.cell 3 rfl))
    have d3 := fun n : In M.w => n.cell (M.cell (HY.out.cell 3 rfl))
    have c4 := fun n : In M.w => n.cell (M.cell (HX.out.cell 4 rfl))
    have d4 := fun n : In M.w => n.cell (M.cell (HY.out.cell 4 rfl))
    have c5 := fun n : In M.w => n.cell (M.cell (HX.out.cell 5 rfl))
    have d5 := fun n : In M.w => n.cell (M.cell (HY.out.cell 5 rfl))
    have c6 := fun n : In M.w => n.cell (M.cell (HX.out.cell 6 rfl))
    have d6 := fun n : In M.w => n.cell (M.cell (HY.out.cell 6 rfl))
    have c7 := fun n : In M.w => n.cell (M.cell (HX.out.cell 7 rfl))
    have d7 := fun n : In M.w => n.cell (M.cell (HY.out.cell 7 rfl))
    have c8 := fun n : In M.w => n.cell (M.cell (HX.out.cell 8 rfl))
    have d8 := fun n : In M.w => n.cell (M.cell (HY.out.cell 8 rfl))
    have hi := fun n : In M.w => HI.out.below (M.h.trans (n.h.mono M.h.size))
    have hj := fun n : In M.w => HJ.out.below (M.h.trans (n.h.mono M.h.size))
    repeat (go_big_quiet_step (first
      | (go_at_call 38; with_reducible exact In.call (P1.out _))
      | (go_at_call 38; with_reducible exact In.call (P2.out _))
      | (go_at_call 39; with_reducible exact In.call (G.out _ (hi _) (hj _)))))
    refine wpQuiet_nil ?_
    intro w1 hb1
    have HB1 := Lib.hid (HB.out.trans (hb1.mono HB.out.size))
    clear hb1 c0 d0 c1 d1 c2 d2 c3 d3 c4 d4 c5 d5 c6 d6 c7 d7 c8 d8 hi hj M
    go_wp2
    go_ret
    exact ⟨ret_b (by simp), HB1.out⟩

set_option maxHeartbeats 16000000 in
set_option maxRecDepth 100000 in
theorem tSameR_any (x y : Ru) (w : World) (ha : AisAt w x.v x.ais) (hb : AisAt w y.v y.ais) (hl : x.ais.length ≤ 1000) (hl' : y.ais.length ≤ 1000) :
    Calls Try.prog 19 #[ruv x, ruv y] w fun e w' => e = .returned (.bool (sameR x y)) ∧ Below w.heap.size w w' := by
  have hws := plainR_ways x y
  unfold sameR
  generalize plainR x y = pb at *
  obtain ⟨x1, x2, x3, x4, x5, x6, x7, a, c, l⟩ := x
  obtain ⟨y1, y2, y3, y4, y5, y6, y7, a', c', l'⟩ := y
  dsimp only [Ru.v, ruv] at *
  have hal1 := (Below.refl w.heap.size w).alloc (Nat.le_refl _) (.cells #[.int .i64 x1, .int .i64 x2, .int .i64 x3, .int .i64 x4, .int .i64 x5, .int .i64 x6, .int .i64 x7, .slice a l.length c] 30)
  have hX := boxR w x1 x2 x3 x4 x5 x6 x7 (.slice a l.length c)
  have hI := ha.kept hal1
  have hJ := hb.kept hal1
  obtain ⟨W1, hW1⟩ : ∃ W1, w.alloc (.cells #[.int .i64 x1, .int .i64 x2, .int .i64 x3, .int .i64 x4, .int .i64 x5, .int .i64 x6, .int .i64 x7, .slice a l.length c] 30) = W1 := ⟨_, rfl⟩
  have hsz : W1.heap.size = w.heap.size + 1 := by rw [← hW1]; simp
  rw [hW1] at hal1 hX hI hJ
  have hal2 := (Below.refl W1.heap.size W1).alloc (Nat.le_refl _) (.cells #[.int .i64 y1, .int .i64 y2, .int .i64 y3, .int .i64 y4, .int .i64 y5, .int .i64 y6, .int .i64 y7, .slice a' l'.length c'] 30)
  have hY := boxR W1 y1 y2 y3 y4 y5 y6 y7 (.slice a' l'.length c')
  rw [hsz] at hY
  have HX := Lib.hid (hX.kept hal2)
  have HY := Lib.hid hY
  have HI := Lib.hid (hI.kept hal2)
  have HJ := Lib.hid (hJ.kept hal2)
  have HB := Lib.hid (hal1.trans (hal2.mono hal1.size))
  rw [← hW1] at HX HY HI HJ HB
  clear hal1 hX hI hJ hal2 hY hsz hW1 ha hb
  have G := Lib.hid fun w h h2 => equalA_any (.slice a l.length c) (.slice a' l'.length c') l l' w h h2 (by omega) (by omega)
  obtain ⟨t, ht⟩ : ∃ t, decide (l = l') = t := ⟨_, rfl⟩
  rw [ht] at G ⊢
  have P1 := Lib.hid fun w => tNums_any x1 x2 x3 x4 x5 x6 x7 (.slice a l.length c) w
  have P2 := Lib.hid fun w => tNums_any y1 y2 y3 y4 y5 y6 y7 (.slice a' l'.length c') w
  clear ht
  have hcmp : ∀ w, (binOp .eql 67 (.agg #[.int .i64 x1, .int .i64 x2, .int .i64 x3, .int .i64 x4, .int .i64 x5, .int .i64 x6, .int .i64 x7]) (.agg #[.int .i64 y1, .int .i64 y2, .int .i64 y3, .int .i64 y4, .int .i64 y5, .int .i64 y6, .int .i64 y7])).run Try.prog w = .ok (.bool ([x1, x2, x3, x4, x5, x6, x7] == [y1, y2, y3, y4, y5, y6, y7])) w := fun w => run_eql_ints w 67 3 7 Try.underlying67 Try.underlying3 (fun w => by kernel_rfl) [x1, x2, x3, x4, x5, x6, x7] [y1, y2, y3, y4, y5, y6, y7] rfl rfl
  simp only [List.cons_beq_cons, List.nil_beq_eq, List.isEmpty_nil, Bool.and_true] at hcmp
  rcases hws with ⟨rfl, hws⟩ | ⟨rfl, rfl, rfl, rfl, rfl, rfl, rfl, rfl⟩
  · rcases hws with hne | ⟨rfl, hne⟩ | ⟨rfl, rfl, hne⟩ | ⟨rfl, rfl, rfl, hne⟩ | ⟨rfl, rfl, rfl, rfl, hne⟩ | ⟨rfl, rfl, rfl, rfl, rfl, hne⟩ | ⟨rfl, rfl, rfl, rfl, rfl, rfl, hne⟩
    all_goals
      simp only [hne, beq_self_eq_true, Bool.true_and, Bool.false_and] at hcmp
      go_enter Try.func19, Try.ntmps19
      go_wp2
      generalize (w.alloc (.cells #[_, _, _, _, _, _, _, .slice a l.length c] 30)).alloc (.cells #[_, _, _, _, _, _, _, .slice a' l'.length c'] 30) = W0 at *
      refine wp_region_calm0 (by kernel_rfl) (by kernel_rfl) fun M => ?_
      have c0 := fun n : In M.w => n.cell (M.cell (HX.out.cell 0 rfl))
      have d0 := fun n : In M.w => n.cell (M.cell (HY.out.cell 0 rfl))
      have c1 := fun n : In M.w => n.cell (M.cell (HX.out.cell 1 rfl))
      have d1 := fun n : In M.w => n.cell (M.cell (HY.out.cell 1 rfl))
      have c2 := fun n : In M.w => n.cell (M.cell (HX.out.cell 2 rfl))
      have d2 := fun n : In M.w => n.cell (M.cell (HY.out.cell 2 rfl))
      have c3 := fun n : In M.w => n.cell (M.cell (HX.out.cell 3 rfl))
      have d3 := fun n : In M.w => n.cell (M.cell (HY.out.cell 3 rfl))
      have c4 := fun n : In M.w => n.cell (M.cell (HX.out.cell 4 rfl))
      have d4 := fun n : In M.w => n.cell (M.cell (HY.out.cell 4 rfl))
      have c5 := fun n : In M.w => n.cell (M.cell (HX.out.cell 5 rfl))
      have d5 := fun n : In M.w => n.cell (M.cell (HY.out.cell 5 rfl))
      have c6 := fun n : In M.w => n.cell (M.cell (HX.out.cell 6 rfl))
      have d6 := fun n : In M.w => n.cell (M.cell (HY.out.cell 6 rfl))
      have c7 := fun n : In M.w => n.cell (M.cell (HX.out.cell 7 rfl))
      have d7 := fun n : In M.w => n.cell (M.cell (HY.out.cell 7 rfl))
      repeat (go_big_quiet_step (first
        | (go_at_call 40; with_reducible exact In.call (P1.out _))
        | (go_at_call 40; with_reducible exact In.call (P2.out _))))
      refine wpQuiet_nil ?_
      intro w1 hb1
      have HB1 := Lib.hid (HB.out.trans (hb1.mono HB.out.size))
      clear hb1 c0 d0 c1 d1 c2 d2 c3 d3 c4 d4 c5 d5 c6 d6 c7 d7 M
      go_wp2
      go_ret
      exact ⟨rfl, HB1.out⟩
  · simp only [beq_self_eq_true, Bool.true_and] at hcmp
    go_enter Try.func19, Try.ntmps19
    go_wp2
    generalize (w.alloc (.cells #[_, _, _, _, _, _, _, .slice a l.length c] 30)).alloc (.cells #[_, _, _, _, _, _, _, .slice a' l'.length c'] 30) = W0 at *
    refine wp_region_calm0 (by kernel_rfl) (by kernel_rfl) fun M => ?_
    have c0 := fun n : In M.w => n.cell (M.cell (HX.out.cell 0 rfl))
    have d0 := fun n : In M.w => n.cell (M.cell (HY.out.cell 0 rfl))
    have c1 := fun n : In M.w => n.cell (M.cell (HX.out.cell 1 rfl))
    have d1 := fun n : In M.w => n.cell (M.cell (HY.out.cell 1 rfl))
    have c2 := fun n : In M.w => n.cell (M.cell (HX.out.cell 2 rfl))
    have d2 := fun n : In M.w => n.cell (M.cell (HY.out.cell 2 rfl))
    have c3 := fun n : In M.w => n.cell (M.cell (HX.out.cell 3 rfl))
    have d3 := fun n : In M.w => n.cell (M.cell (HY.out.cell 3 rfl))
    have c4 := fun n : In M.w => n.cell (M.cell (HX.out.cell 4 rfl))
    have d4 := fun n : In M.w => n.cell (M.cell (HY.out.cell 4 rfl))
    have c5 := fun n : In M.w => n.cell (M.cell (HX.out.cell 5 rfl))
    have d5 := fun n : In M.w => n.cell (M.cell (HY.out.cell 5 rfl))
    have c6 := fun n : In M.w => n.cell (M.cell (HX.out.cell 6 rfl))
    have d6 := fun n : In M.w => n.cell (M.cell (HY.out.cell 6 rfl))
    have c7 := fun n : In M.w => n.cell (M.cell (HX.out.cell 7 rfl))
    have d7 := fun n : In M.w => n.cell (M.cell (HY.out.cell 7 rfl))
    have hi := fun n : In M.w => HI.out.kept (M.h.trans (n.h.mono M.h.size))
    have hj := fun n : In M.w => HJ.out.kept (M.h.trans (n.h.mono M.h.size))
    repeat (go_big_quiet_step (first
      | (go_at_call 40; with_reducible exact In.call (P1.out _))
      | (go_at_call 40; with_reducible exact In.call (P2.out _))
      | (go_at_call 41; with_reducible exact In.call (G.out _ (hi _) (hj _)))))
    refine wpQuiet_nil ?_
    intro w1 hb1
    have HB1 := Lib.hid (HB.out.trans (hb1.mono HB.out.size))
    clear hb1 c0 d0 c1 d1 c2 d2 c3 d3 c4 d4 c5 d5 c6 d6 c7 d7 hi hj M
    go_wp2
    go_ret
    exact ⟨ret_b (by simp), HB1.out⟩

/-! ### Has, Fits, Want, Clone -/
set_option maxHeartbeats 2000000 in
theorem tHas_any (a b : Nat) (W : World) (ha : a < 2 ^ 64) (hb : b < 2 ^ 64) : Calls Try.prog 36 #[.int .u64 (a : Int), .int .u64 (b : Int)] W fun e w' => e = .returned (.bool (hasK a b 64)) ∧ Below W.heap.size W w' := by
  have h1 := u64_andNot_nat b a hb ha
  have h2 := hasK_andNot a b ha
  generalize b &&& (18446744073709551615 - a) = x at *
  have H2 := Lib.hid h2
  clear h2
  go_enter Try.func36, Try.ntmps36
  go_wp2
  go_ret
  exact ⟨ret_b (by rw [H2.out]; by_cases h : x = 0 <;> simp [h]), Below.refl _ _⟩

set_option maxHeartbeats 4000000 in
set_option maxRecDepth 100000 in
theorem tFits_any (x : Sp) (s g a b : Nat) (w : World) (hs : x.sk = (s : Int)) (hg : x.ge = (g : Int)) (hs2 : s < 2 ^ 64) (hg2 : g < 2 ^ 64) (ha : a < 2 ^ 64) (hb : b < 2 ^ 64) :
    Calls Try.prog 15 #[spv x, .int .u64 (a : Int), .int .u64 (b : Int)] w fun e w' => e = .returned (.bool (hasK a s 64 && hasK b g 64)) ∧ Below w.heap.size w w' := by
  have G1 := Lib.hid fun w => tHas_any a s w ha hs2
  have G2 := Lib.hid fun w => tHas_any b g w hb hg2
  obtain ⟨id, prio, sk, ge, fx, fy, tx, ty, va, c, l⟩ := x
  dsimp only [Sp.v, spv] at *
  subst hs hg
  have HX := Lib.hid (boxS w id prio s g fx fy tx ty (.slice va l.length c))
  have d2 := HX.out.cell 2 rfl
  have HB := Lib.hid ((Below.refl w.heap.size w).alloc (Nat.le_refl _) (.cells #[.int .i64 id, .int .i64 prio, .int .u64 s, .int .u64 g, .int .i64 fx, .int .i64 fy, .int .i64 tx, .int .i64 ty, .slice va l.length c] 27))
  generalize hasK a s 64 = t1 at *
  generalize hasK b g 64 = t2 at *
  clear ha hb hs2 hg2
  cases t1 with
  | false =>
    go_enter Try.func15, Try.ntmps15
    go_wp2_with (go_at_call 36; (with_reducible refine (G1.out _).mono ?_); rintro e w1 ⟨rfl, hb1⟩; have HB1 := Lib.hid (HB.out.trans (hb1.mono HB.out.size)); clear hb1)
    go_ret
    exact ⟨rfl, HB1.out⟩
  | true =>
    go_enter Try.func15, Try.ntmps15
    go_wp2_with (first
      | (go_at_call 36; (with_reducible refine (G1.out _).mono ?_); rintro e w1 ⟨rfl, hb1⟩; have HB1 := Lib.hid (HB.out.trans (hb1.mono HB.out.size)); replace HX := Lib.hid (HX.out.kept hb1); clear hb1 d2; have d3 := HX.out.cell 3 rfl)
      | (go_at_call 36; (with_reducible refine (G2.out _).mono ?_); rintro e w2 ⟨rfl, hb2⟩; have HB2 := Lib.hid (HB1.out.trans (hb2.mono HB1.out.size)); clear hb2))
    go_ret
    exact ⟨rfl, HB2.out⟩

set_option maxHeartbeats 4000000 in
set_option maxRecDepth 100000 in
theorem tWant_any (r : Ru) (x : Sp) (w : World) (ha : AisAt w r.v r.ais) (hl : r.ais.length ≤ 1000) :
    Calls Try.prog 13 #[ruv r, spv x] w fun e w' => ∃ v, e = .returned v ∧ IntsAt w' v (wantL r x) ∧ Below w.heap.size w w' := by
  unfold wantL
  obtain ⟨x1, x2, x3, x4, x5, x6, x7, a, c, l⟩ := r
  obtain ⟨id, prio, sk, ge, fx, fy, tx, ty, a', c', l'⟩ := x
  dsimp only [Ru.v, ruv, Sp.v, spv] at *
  have hal1 := (Below.refl w.heap.size w).alloc (Nat.le_refl _) (.cells #[.int .i64 x1, .int .i64 x2, .int .i64 x3, .int .i64 x4, .int .i64 x5, .int .i64 x6, .int .i64 x7, .slice a l.length c] 30)
  have hR := boxR w x1 x2 x3 x4 x5 x6 x7 (.slice a l.length c)
  have hI := ha.kept hal1
  obtain ⟨W1, hW1⟩ : ∃ W1, w.alloc (.cells #[.int .i64 x1, .int .i64 x2, .int .i64 x3, .int .i64 x4, .int .i64 x5, .int .i64 x6, .int .i64 x7, .slice a l.length c] 30) = W1 := ⟨_, rfl⟩
  have hsz : W1.heap.size = w.heap.size + 1 := by rw [← hW1]; simp
  rw [hW1] at hal1 hR hI
  have hal2 := (Below.refl W1.heap.size W1).alloc (Nat.le_refl _) (.cells #[.int .i64 id, .int .i64 prio, .int .u64 sk, .int .u64 ge, .int .i64 fx, .int .i64 fy, .int .i64 tx, .int .i64 ty, .slice a' l'.length c'] 27)
  have hS := boxS W1 id prio sk ge fx fy tx ty (.slice a' l'.length c')
  rw [hsz] at hS
  have c7 := (hR.kept hal2).cell 7 rfl
  have d4 := hS.cell 4 rfl
  have d5 := hS.cell 5 rfl
  have d6 := hS.cell 6 rfl
  have d7 := hS.cell 7 rfl
  have HI := Lib.hid (hI.kept hal2)
  have HB := Lib.hid (hal1.trans (hal2.mono hal1.size))
  rw [← hW1] at c7 d4 d5 d6 d7 HI HB
  have G := Lib.hid fun w h => pCross_any (.slice a l.length c) l fx fy tx ty 0 w h (by omega)
  generalize crs7 (hitB (rway (wd fx, wd fy) (wd tx, wd ty) 0)) l = L at *
  clear hal1 hR hI hal2 hS hsz hW1 ha
  go_enter Try.func13, Try.ntmps13
  go_wp2_with (go_at_call 34; (with_reducible refine (G.out _ HI.out).mono ?_); rintro e w1 ⟨v, rfl, hv, hb1⟩; have HV := Lib.hid hv; have HB1 := Lib.hid (HB.out.trans (hb1.mono HB.out.size)); clear hv hb1)
  go_ret
  exact ⟨v, rfl, HV.out, HB1.out⟩

theorem ownGe {α : Type} {w : World} {B : Nat} {e : TypeId} {K : Nat} {cs : α → List Value} {v : Value} {l : List α} (h : OwnR w B e K cs v l) : ∀ g, v.ownBlock = some g → B ≤ g := by
  intro g hg
  rcases h.2 with ⟨rfl, _⟩ | ⟨g', cap, cur, rfl, hg', _⟩
  · simp [Value.ownBlock] at hg
  · simp [Value.ownBlock] at hg
    omega
set_option maxHeartbeats 4000000 in
set_option maxRecDepth 100000 in
theorem tClone_any (x : Sp) (w : World) (ha : IntsAt w x.v x.aft) (hl : x.aft.length ≤ 1000) :
    Calls Try.prog 11 #[spv x] w fun e w' => ∃ y : Sp, e = .returned (spv y) ∧ IntsAt w' y.v y.aft ∧ sameS y x = true ∧ y.aft = x.aft ∧ Below w.heap.size w w' := by
  have G := Lib.hid fun w h => cloneI_any x.v x.aft w h (by omega)
  have hsame : ∀ a' c', sameS { x with a := a', c := c' } x = true := fun a' c' => by simp [sameS, plainB]
  have HS := Lib.hid hsame
  clear hsame
  obtain ⟨id, prio, sk, ge, fx, fy, tx, ty, a, c, l⟩ := x
  dsimp only [Sp.v, spv] at *
  have hal1 := (Below.refl w.heap.size w).alloc (Nat.le_refl _) (.cells #[.int .i64 id, .int .i64 prio, .int .u64 sk, .int .u64 ge, .int .i64 fx, .int .i64 fy, .int .i64 tx, .int .i64 ty, .slice a l.length c] 27)
  have hX := boxS w id prio sk ge fx fy tx ty (.slice a l.length c)
  have hI := ha.below hal1
  obtain ⟨W1, hW1⟩ : ∃ W1, w.alloc (.cells #[.int .i64 id, .int .i64 prio, .int .u64 sk, .int .u64 ge, .int .i64 fx, .int .i64 fy, .int .i64 tx, .int .i64 ty, .slice a l.length c] 27) = W1 := ⟨_, rfl⟩
  have hsz : W1.heap.size = w.heap.size + 1 := by rw [← hW1]; simp
  rw [hW1] at hal1 hX hI
  have hal2 := (Below.refl W1.heap.size W1).alloc (Nat.le_refl _) (.cells #[.int .i64 0, .int .i64 0, .int .u64 0, .int .u64 0, .int .i64 0, .int .i64 0, .int .i64 0, .int .i64 0, .slice none 0 0] 27)
  have hY := boxS W1 0 0 0 0 0 0 0 0 (.slice none 0 0)
  rw [hsz] at hY
  have HX := Lib.hid (hX.kept hal2)
  have HY := Lib.hid hY
  have HI := Lib.hid (hI.below hal2)
  have HB := Lib.hid (hal1.trans (hal2.mono hal1.size))
  rw [← hW1] at HX HY HI HB
  have c6 := HX.out.cell 8 rfl
  clear hal1 hX hI hal2 hY hsz hW1 ha
  go_enter Try.func11, Try.ntmps11
  go_wp2_with (go_at_call 33; (with_reducible refine (G.out _ HI.out).mono ?_); rintro e w1 ⟨v', rfl, ho, hb1⟩; obtain ⟨a', c', e⟩ := RowsAt.form (OwnR.rows csI_len ho); subst e; have HO := Lib.hid ho; replace HX := Lib.hid (HX.out.kept hb1); replace HY := Lib.hid (HY.out.kept hb1); replace HB := Lib.hid (HB.out.trans (hb1.mono HB.out.size)); clear hb1 c6 ho; have f8 := HX.out.free 8 rfl; have e8 := HX.out.cell 8 rfl; have HX2 := Lib.hid (HX.out.set 8 (.slice a' l.length c')); have HY2 := Lib.hid (HY.out.away ⟨w.heap.size, 8, none⟩ (.slice a' l.length c') (by simp)); have c0 := HX2.out.cell 0 rfl; have c1 := HX2.out.cell 1 rfl; have c2 := HX2.out.cell 2 rfl; have c3 := HX2.out.cell 3 rfl; have c4 := HX2.out.cell 4 rfl; have c5 := HX2.out.cell 5 rfl; have c6 := HX2.out.cell 6 rfl; have c7 := HX2.out.cell 7 rfl; have c8 := HX2.out.cell 8 rfl; have y0 := HY2.out.cell 0 rfl; have z0 := HY2.out.free 0 rfl; have y1 := HY2.out.cell 1 rfl; have z1 := HY2.out.free 1 rfl; have y2 := HY2.out.cell 2 rfl; have z2 := HY2.out.free 2 rfl; have y3 := HY2.out.cell 3 rfl; have z3 := HY2.out.free 3 rfl; have y4 := HY2.out.cell 4 rfl; have z4 := HY2.out.free 4 rfl; have y5 := HY2.out.cell 5 rfl; have z5 := HY2.out.free 5 rfl; have y6 := HY2.out.cell 6 rfl; have z6 := HY2.out.free 6 rfl; have y7 := HY2.out.cell 7 rfl; have z7 := HY2.out.free 7 rfl; have y8 := HY2.out.cell 8 rfl; have z8 := HY2.out.free 8 rfl)
  have hge := ownGe HO.out
  have hn1 : (Value.slice a' l.length c').ownBlock ≠ some w.heap.size := fun e => by have := hge _ e; simp at this <;> omega
  have hn2 : (Value.slice a' l.length c').ownBlock ≠ some (w.heap.size + 1) := fun e => by have := hge _ e; simp at this <;> omega
  have hb1 := HB.out.setCell (p := ⟨w.heap.size, 8, none⟩) (Nat.le_refl _) (.slice a' l.length c')
  have hl1 : w.heap.size ≤ w.heap.size + 1 := by omega
  refine bodyPost_ret (v := .agg #[.int .i64 id, .int .i64 prio, .int .u64 sk, .int .u64 ge, .int .i64 fx, .int .i64 fy, .int .i64 tx, .int .i64 ty, .slice a' l.length c']) ?_ rfl ⟨⟨id, prio, sk, ge, fx, fy, tx, ty, a', c', l⟩, rfl, ?_, HS.out a' c', rfl, ?_⟩
  · simp [results, Try.results11, go_sem, y0, y1, y2, y3, y4, y5, y6, y7, y8]
  · exact OwnI.ints ((((((((((HO.out.away _ _ hn1).away _ _ hn2).away _ _ hn2).away _ _ hn2).away _ _ hn2).away _ _ hn2).away _ _ hn2).away _ _ hn2).away _ _ hn2).away _ _ hn2)
  · exact ((((((((hb1.setCell hl1 _).setCell hl1 _).setCell hl1 _).setCell hl1 _).setCell hl1 _).setCell hl1 _).setCell hl1 _).setCell hl1 _).setCell hl1 _
end Go.Proofs.Ytmkepmjdckdpgaa
/- Stage 22: the document's Same and SameRules. -/
namespace Go.Proofs.Ytmkepmjdckdpgaa
open Go.RowKit

set_option maxHeartbeats 8000000 in
set_option maxRecDepth 100000 in
theorem refSame22_any (x y : Sp) (w : World) (ha : IntsAt w x.v x.aft) (hb : IntsAt w y.v y.aft) (hl : x.aft.length ≤ 1000) (hl' : y.aft.length ≤ 1000) :
    Calls Try.prog 18 #[spv x, spv y] w fun e w' => e = .returned (.bool (sameS x y)) ∧ Below w.heap.size w w' := by
  have hws := plain_ways x y
  unfold sameS
  generalize plainB x y = pb at *
  obtain ⟨id, prio, sk, ge, fx, fy, tx, ty, a, c, l⟩ := x
  obtain ⟨id', prio', sk', ge', fx', fy', tx', ty', a', c', l'⟩ := y
  dsimp only [Sp.v, spv] at *
  have hal1 := (Below.refl w.heap.size w).alloc (Nat.le_refl _) (.cells #[.int .i64 id, .int .i64 prio, .int .u64 sk, .int .u64 ge, .int .i64 fx, .int .i64 fy, .int .i64 tx, .int .i64 ty, .slice a l.length c] 27)
  have hX := boxS w id prio sk ge fx fy tx ty (.slice a l.length c)
  have hI := ha.below hal1
  have hJ := hb.below hal1
  obtain ⟨W1, hW1⟩ : ∃ W1, w.alloc (.cells #[.int .i64 id, .int .i64 prio, .int .u64 sk, .int .u64 ge, .int .i64 fx, .int .i64 fy, .int .i64 tx, .int .i64 ty, .slice a l.length c] 27) = W1 := ⟨_, rfl⟩
  have hsz : W1.heap.size = w.heap.size + 1 := by rw [← hW1]; simp
  rw [hW1] at hal1 hX hI hJ
  have hal2 := (Below.refl W1.heap.size W1).alloc (Nat.le_refl _) (.cells #[.int .i64 id', .int .i64 prio', .int .u64 sk', .int .u64 ge', .int .i64 fx', .int .i64 fy', .int .i64 tx', .int .i64 ty', .slice a' l'.length c'] 27)
  have hY := boxS W1 id' prio' sk' ge' fx' fy' tx' ty' (.slice a' l'.length c')
  rw [hsz] at hY
  have HX := Lib.hid (hX.kept hal2)
  have HY := Lib.hid hY
  have HI := Lib.hid (hI.below hal2)
  have HJ := Lib.hid (hJ.below hal2)
  have HB := Lib.hid (hal1.trans (hal2.mono hal1.size))
  rw [← hW1] at HX HY HI HJ HB
  clear hal1 hX hI hJ hal2 hY hsz hW1 ha hb
  have G := Lib.hid fun w h h2 => refInts_any (.slice a l.length c) (.slice a' l'.length c') l l' w h h2 (by omega) (by omega)
  obtain ⟨t, ht⟩ : ∃ t, decide (l = l') = t := ⟨_, rfl⟩
  rw [ht] at G ⊢
  have c0 := HX.out.cell 0 rfl
  have d0 := HY.out.cell 0 rfl
  have c1 := HX.out.cell 1 rfl
  have d1 := HY.out.cell 1 rfl
  have c2 := HX.out.cell 2 rfl
  have d2 := HY.out.cell 2 rfl
  have c3 := HX.out.cell 3 rfl
  have d3 := HY.out.cell 3 rfl
  have c4 := HX.out.cell 4 rfl
  have d4 := HY.out.cell 4 rfl
  have c5 := HX.out.cell 5 rfl
  have d5 := HY.out.cell 5 rfl
  have c6 := HX.out.cell 6 rfl
  have d6 := HY.out.cell 6 rfl
  have c7 := HX.out.cell 7 rfl
  have d7 := HY.out.cell 7 rfl
  have c8 := HX.out.cell 8 rfl
  have d8 := HY.out.cell 8 rfl
  clear ht
  rcases hws with ⟨rfl, hws⟩ | ⟨rfl, rfl, rfl, rfl, rfl, rfl, rfl, rfl, rfl⟩
  · rcases hws with hne | ⟨rfl, hne⟩ | ⟨rfl, rfl, hne⟩ | ⟨rfl, rfl, rfl, hne⟩ | ⟨rfl, rfl, rfl, rfl, hne⟩ | ⟨rfl, rfl, rfl, rfl, rfl, hne⟩ | ⟨rfl, rfl, rfl, rfl, rfl, rfl, hne⟩ | ⟨rfl, rfl, rfl, rfl, rfl, rfl, rfl, hne⟩
    all_goals
      go_enter Try.func18, Try.ntmps18
      go_wp2
      go_ret
      exact ⟨rfl, HB.out⟩
  · go_enter Try.func18, Try.ntmps18
    go_wp2_with (go_at_call 12; (with_reducible refine (G.out _ HI.out HJ.out).mono ?_); rintro e w1 ⟨rfl, hb1⟩; have HB1 := Lib.hid (HB.out.trans (hb1.mono HB.out.size)); clear hb1)
    go_ret
    exact ⟨ret_b (by simp), HB1.out⟩

set_option maxHeartbeats 8000000 in
set_option maxRecDepth 100000 in
theorem refSameR22_any (x y : Ru) (w : World) (ha : AisAt w x.v x.ais) (hb : AisAt w y.v y.ais) (hl : x.ais.length ≤ 1000) (hl' : y.ais.length ≤ 1000) :
    Calls Try.prog 20 #[ruv x, ruv y] w fun e w' => e = .returned (.bool (sameR x y)) ∧ Below w.heap.size w w' := by
  have hws := plainR_ways x y
  unfold sameR
  generalize plainR x y = pb at *
  obtain ⟨x1, x2, x3, x4, x5, x6, x7, a, c, l⟩ := x
  obtain ⟨y1, y2, y3, y4, y5, y6, y7, a', c', l'⟩ := y
  dsimp only [Ru.v, ruv] at *
  have hal1 := (Below.refl w.heap.size w).alloc (Nat.le_refl _) (.cells #[.int .i64 x1, .int .i64 x2, .int .i64 x3, .int .i64 x4, .int .i64 x5, .int .i64 x6, .int .i64 x7, .slice a l.length c] 30)
  have hX := boxR w x1 x2 x3 x4 x5 x6 x7 (.slice a l.length c)
  have hI := ha.kept hal1
  have hJ := hb.kept hal1
  obtain ⟨W1, hW1⟩ : ∃ W1, w.alloc (.cells #[.int .i64 x1, .int .i64 x2, .int .i64 x3, .int .i64 x4, .int .i64 x5, .int .i64 x6, .int .i64 x7, .slice a l.length c] 30) = W1 := ⟨_, rfl⟩
  have hsz : W1.heap.size = w.heap.size + 1 := by rw [← hW1]; simp
  rw [hW1] at hal1 hX hI hJ
  have hal2 := (Below.refl W1.heap.size W1).alloc (Nat.le_refl _) (.cells #[.int .i64 y1, .int .i64 y2, .int .i64 y3, .int .i64 y4, .int .i64 y5, .int .i64 y6, .int .i64 y7, .slice a' l'.length c'] 30)
  have hY := boxR W1 y1 y2 y3 y4 y5 y6 y7 (.slice a' l'.length c')
  rw [hsz] at hY
  have HX := Lib.hid (hX.kept hal2)
  have HY := Lib.hid hY
  have HI := Lib.hid (hI.kept hal2)
  have HJ := Lib.hid (hJ.kept hal2)
  have HB := Lib.hid (hal1.trans (hal2.mono hal1.size))
  rw [← hW1] at HX HY HI HJ HB
  clear hal1 hX hI hJ hal2 hY hsz hW1 ha hb
  have G := Lib.hid fun w h h2 => refPSame_any (.slice a l.length c) (.slice a' l'.length c') l l' w h h2 (by omega) (by omega)
  obtain ⟨t, ht⟩ : ∃ t, decide (l = l') = t := ⟨_, rfl⟩
  rw [ht] at G ⊢
  have c0 := HX.out.cell 0 rfl
  have d0 := HY.out.cell 0 rfl
  have c1 := HX.out.cell 1 rfl
  have d1 := HY.out.cell 1 rfl
  have c2 := HX.out.cell 2 rfl
  have d2 := HY.out.cell 2 rfl
  have c3 := HX.out.cell 3 rfl
  have d3 := HY.out.cell 3 rfl
  have c4 := HX.out.cell 4 rfl
  have d4 := HY.out.cell 4 rfl
  have c5 := HX.out.cell 5 rfl
  have d5 := HY.out.cell 5 rfl
  have c6 := HX.out.cell 6 rfl
  have d6 := HY.out.cell 6 rfl
  have c7 := HX.out.cell 7 rfl
  have d7 := HY.out.cell 7 rfl
  clear ht
  rcases hws with ⟨rfl, hws⟩ | ⟨rfl, rfl, rfl, rfl, rfl, rfl, rfl, rfl⟩
  · rcases hws with hne | ⟨rfl, hne⟩ | ⟨rfl, rfl, hne⟩ | ⟨rfl, rfl, rfl, hne⟩ | ⟨rfl, rfl, rfl, rfl, hne⟩ | ⟨rfl, rfl, rfl, rfl, rfl, hne⟩ | ⟨rfl, rfl, rfl, rfl, rfl, rfl, hne⟩
    all_goals
      go_enter Try.func20, Try.ntmps20
      go_wp2
      go_ret
      exact ⟨rfl, HB.out⟩
  · go_enter Try.func20, Try.ntmps20
    go_wp2_with (go_at_call 42; (with_reducible refine (G.out _ HI.out HJ.out).mono ?_); rintro e w1 ⟨rfl, hb1⟩; have HB1 := Lib.hid (HB.out.trans (hb1.mono HB.out.size)); clear hb1)
    go_ret
    exact ⟨ret_b (by simp), HB1.out⟩
end Go.Proofs.Ytmkepmjdckdpgaa
/- Stage 22: what must come at any rate. -/
namespace Go.Proofs.Ytmkepmjdckdpgaa
open Go.RowKit

structure Al22 (W : World) (n : Nat) : Prop where
  x : Blk W (n + 1) [.int .i64 3, .int .i64 5, .int .u64 1, .int .u64 0, .int .i64 1, .int .i64 0, .int .i64 4, .int .i64 0, .slice (some ⟨n, 0, none⟩) 1 1]
  y : Blk W (n + 1 + 1) [.int .i64 3, .int .i64 5, .int .u64 1, .int .u64 0, .int .i64 1, .int .i64 0, .int .i64 4, .int .i64 0, .slice (some ⟨n + 1 + 1 + 1, 0, none⟩) 1 1]
  r : Blk W (n + 1 + 1 + 1 + 1 + 1) [.int .i64 9, .int .i64 2, .int .i64 2, .int .i64 5, .int .i64 3, .int .i64 0, .int .i64 0, .slice (some ⟨n + 1 + 1 + 1 + 1, 0, none⟩) 1 1]
  i2 : IntsAt W (.slice (some ⟨n, 0, none⟩) 1 1) [2]
  i3 : IntsAt W (.slice (some ⟨n + 1 + 1 + 1, 0, none⟩) 1 1) [3]
  ai : AisAt W (.slice (some ⟨n + 1 + 1 + 1 + 1, 0, none⟩) 1 1) [⟨7, 2, 0, 2, 0⟩]
theorem Al22.kept {W W' : World} {n : Nat} (h : Al22 W n) (hb : Below W.heap.size W W') : Al22 W' n :=
  ⟨h.x.kept hb, h.y.kept hb, h.r.kept hb, h.i2.below hb, h.i3.below hb, RowsAt.kept h.ai hb⟩
theorem al22 (w : World) : Al22 ((((((w.alloc (.cells #[.int .i64 2] 3)).alloc (.cells #[.int .i64 3, .int .i64 5, .int .u64 1, .int .u64 0, .int .i64 1, .int .i64 0, .int .i64 4, .int .i64 0, .slice (some ⟨w.heap.size, 0, none⟩) 1 1] 27)).alloc (.cells #[.int .i64 3, .int .i64 5, .int .u64 1, .int .u64 0, .int .i64 1, .int .i64 0, .int .i64 4, .int .i64 0, .slice (some ⟨w.heap.size + 1 + 1 + 1, 0, none⟩) 1 1] 27)).alloc (.cells #[.int .i64 3] 3)).alloc (.cells #[.int .i64 7, .int .i64 2, .int .i64 0, .int .i64 2, .int .i64 0] 45)).alloc (.cells #[.int .i64 9, .int .i64 2, .int .i64 2, .int .i64 5, .int .i64 3, .int .i64 0, .int .i64 0, .slice (some ⟨w.heap.size + 1 + 1 + 1 + 1, 0, none⟩) 1 1] 30)) w.heap.size ∧ Below w.heap.size w ((((((w.alloc (.cells #[.int .i64 2] 3)).alloc (.cells #[.int .i64 3, .int .i64 5, .int .u64 1, .int .u64 0, .int .i64 1, .int .i64 0, .int .i64 4, .int .i64 0, .slice (some ⟨w.heap.size, 0, none⟩) 1 1] 27)).alloc (.cells #[.int .i64 3, .int .i64 5, .int .u64 1, .int .u64 0, .int .i64 1, .int .i64 0, .int .i64 4, .int .i64 0, .slice (some ⟨w.heap.size + 1 + 1 + 1, 0, none⟩) 1 1] 27)).alloc (.cells #[.int .i64 3] 3)).alloc (.cells #[.int .i64 7, .int .i64 2, .int .i64 0, .int .i64 2, .int .i64 0] 45)).alloc (.cells #[.int .i64 9, .int .i64 2, .int .i64 2, .int .i64 5, .int .i64 3, .int .i64 0, .int .i64 0, .slice (some ⟨w.heap.size + 1 + 1 + 1 + 1, 0, none⟩) 1 1] 30)) := by
  have b1 := (Below.refl w.heap.size w).alloc (Nat.le_refl _) (.cells #[.int .i64 2] 3)
  have f1 := IntsAt.lit w [2] 3
  change IntsAt (w.alloc (.cells #[.int .i64 2] 3)) _ _ at f1
  have s1 : (w.alloc (.cells #[.int .i64 2] 3)).heap.size = w.heap.size + 1 := by simp
  generalize w.alloc (.cells #[.int .i64 2] 3) = W1 at *
  generalize w.heap.size = n at *
  have b2 := (Below.refl W1.heap.size W1).alloc (Nat.le_refl _) (.cells #[.int .i64 3, .int .i64 5, .int .u64 1, .int .u64 0, .int .i64 1, .int .i64 0, .int .i64 4, .int .i64 0, .slice (some ⟨n, 0, none⟩) 1 1] 27)
  have f2 := Blk.new W1 [.int .i64 3, .int .i64 5, .int .u64 1, .int .u64 0, .int .i64 1, .int .i64 0, .int .i64 4, .int .i64 0, .slice (some ⟨n, 0, none⟩) 1 1] 27
  have s2 : (W1.alloc (.cells #[.int .i64 3, .int .i64 5, .int .u64 1, .int .u64 0, .int .i64 1, .int .i64 0, .int .i64 4, .int .i64 0, .slice (some ⟨n, 0, none⟩) 1 1] 27)).heap.size = n + 1 + 1 := by simp [s1]
  rw [s1] at f2
  generalize W1.alloc (.cells #[.int .i64 3, .int .i64 5, .int .u64 1, .int .u64 0, .int .i64 1, .int .i64 0, .int .i64 4, .int .i64 0, .slice (some ⟨n, 0, none⟩) 1 1] 27) = W2 at *
  have b3 := (Below.refl W2.heap.size W2).alloc (Nat.le_refl _) (.cells #[.int .i64 3, .int .i64 5, .int .u64 1, .int .u64 0, .int .i64 1, .int .i64 0, .int .i64 4, .int .i64 0, .slice (some ⟨n + 1 + 1 + 1, 0, none⟩) 1 1] 27)
  have f3 := Blk.new W2 [.int .i64 3, .int .i64 5, .int .u64 1, .int .u64 0, .int .i64 1, .int .i64 0, .int .i64 4, .int .i64 0, .slice (some ⟨n + 1 + 1 + 1, 0, none⟩) 1 1] 27
  have s3 : (W2.alloc (.cells #[.int .i64 3, .int .i64 5, .int .u64 1, .int .u64 0, .int .i64 1, .int .i64 0, .int .i64 4, .int .i64 0, .slice (some ⟨n + 1 + 1 + 1, 0, none⟩) 1 1] 27)).heap.size = n + 1 + 1 + 1 := by simp [s2]
  rw [s2] at f3
  generalize W2.alloc (.cells #[.int .i64 3, .int .i64 5, .int .u64 1, .int .u64 0, .int .i64 1, .int .i64 0, .int .i64 4, .int .i64 0, .slice (some ⟨n + 1 + 1 + 1, 0, none⟩) 1 1] 27) = W3 at *
  have b4 := (Below.refl W3.heap.size W3).alloc (Nat.le_refl _) (.cells #[.int .i64 3] 3)
  have f4 := IntsAt.lit W3 [3] 3
  change IntsAt (W3.alloc (.cells #[.int .i64 3] 3)) _ _ at f4
  have s4 : (W3.alloc (.cells #[.int .i64 3] 3)).heap.size = n + 1 + 1 + 1 + 1 := by simp [s3]
  rw [s3] at f4
  generalize W3.alloc (.cells #[.int .i64 3] 3) = W4 at *
  have b5 := (Below.refl W4.heap.size W4).alloc (Nat.le_refl _) (.cells #[.int .i64 7, .int .i64 2, .int .i64 0, .int .i64 2, .int .i64 0] 45)
  have f5 := rowsLit Ais.cs_len W4 [⟨7, 2, 0, 2, 0⟩] 45 1 rfl
  change RowsAt (W4.alloc (.cells #[.int .i64 7, .int .i64 2, .int .i64 0, .int .i64 2, .int .i64 0] 45)) _ _ _ _ at f5
  have s5 : (W4.alloc (.cells #[.int .i64 7, .int .i64 2, .int .i64 0, .int .i64 2, .int .i64 0] 45)).heap.size = n + 1 + 1 + 1 + 1 + 1 := by simp [s4]
  rw [s4] at f5
  generalize W4.alloc (.cells #[.int .i64 7, .int .i64 2, .int .i64 0, .int .i64 2, .int .i64 0] 45) = W5 at *
  have b6 := (Below.refl W5.heap.size W5).alloc (Nat.le_refl _) (.cells #[.int .i64 9, .int .i64 2, .int .i64 2, .int .i64 5, .int .i64 3, .int .i64 0, .int .i64 0, .slice (some ⟨n + 1 + 1 + 1 + 1, 0, none⟩) 1 1] 30)
  have f6 := Blk.new W5 [.int .i64 9, .int .i64 2, .int .i64 2, .int .i64 5, .int .i64 3, .int .i64 0, .int .i64 0, .slice (some ⟨n + 1 + 1 + 1 + 1, 0, none⟩) 1 1] 30
  rw [s5] at f6
  have c5 := b5.trans (b6.mono b5.size)
  have c4 := b4.trans (c5.mono b4.size)
  have c3 := b3.trans (c4.mono b3.size)
  have c2 := b2.trans (c3.mono b2.size)
  have hs : n ≤ W1.heap.size := by omega
  exact ⟨⟨f2.kept c3, f3.kept c4, f6, f1.below c2, f4.below c5, RowsAt.kept f5 b6⟩, b1.trans (c2.mono hs)⟩

theorem alive_chk (a : Option Addr) (c : Nat) : chk ⟨3, 5, 1, 0, 1, 0, 4, 0, a, c, [2]⟩ = 0 := chk_zero (by rfl) (by rfl)
theorem alive_chk1 (a : Option Addr) (c : Nat) : chk ⟨3, 5, 1, 0, 1, 0, 4, 0, a, c, [3]⟩ = 1 := chk_one (by rfl) (by rfl)
theorem alive_plan : rightP [⟨7, 2, 0, 2, 0⟩] = true := by
  rw [rightP_iff]
  refine ⟨by decide, fun i hi => ?_⟩
  have e : i = 0 := by simp at hi; exact hi
  subst e
  exact ⟨by decide, by decide, fun h => absurd h (by decide), by decide, by unfold valA; decide, fun k hk => absurd hk (by omega)⟩
theorem alive_rul (a : Option Addr) (c : Nat) : rul ⟨9, 2, 2, 5, 3, 0, 0, a, c, [⟨7, 2, 0, 2, 0⟩]⟩ = 0 := rul_zero (by rfl) alive_plan
theorem alive_crs : crs7 (hitB (rway (wd 1, wd 0) (wd 4, wd 0) 0)) [⟨7, 2, 0, 2, 0⟩] = [7] := by decide +kernel
theorem alive_want (a a' : Option Addr) (c c' : Nat) : wantL ⟨9, 2, 2, 5, 3, 0, 0, a, c, [⟨7, 2, 0, 2, 0⟩]⟩ ⟨3, 5, 1, 0, 1, 0, 4, 0, a', c', [2]⟩ = [7] := alive_crs
theorem same_self (x : Sp) : sameS x x = true := by simp [sameS, plainB]
theorem sameR_self (x : Ru) : sameR x x = true := by simp [sameR, plainR]
theorem alive_fit : (hasK 3 1 64 && hasK 0 0 64) = true := by decide +kernel
theorem alive_fit2 : (hasK 2 1 64 && hasK 0 0 64) = false := by decide +kernel

set_option maxHeartbeats 8000000 in
set_option maxRecDepth 100000 in
theorem tAlive_any (w : World) : Calls Try.prog 6 #[] w fun e w' => e = .returned (.bool true) ∧ Below w.heap.size w w' := by
  obtain ⟨hA, hB⟩ := al22 w
  have HB := Lib.hid hB
  have HA := Lib.hid hA
  clear hA hB
  have H1 := Lib.hid fun W (h : Al22 W w.heap.size) => tCheck_any ⟨3, 5, 1, 0, 1, 0, 4, 0, some ⟨w.heap.size, 0, none⟩, 1, [2]⟩ W h.i2 (by simp)
  have H2 := Lib.hid fun W (h : Al22 W w.heap.size) => tCheck_any ⟨3, 5, 1, 0, 1, 0, 4, 0, some ⟨w.heap.size + 1 + 1 + 1, 0, none⟩, 1, [3]⟩ W h.i3 (by simp)
  have H3 := Lib.hid fun W (h : Al22 W w.heap.size) => tRules_any ⟨9, 2, 2, 5, 3, 0, 0, some ⟨w.heap.size + 1 + 1 + 1 + 1, 0, none⟩, 1, [⟨7, 2, 0, 2, 0⟩]⟩ W h.ai (by simp)
  have H4 := Lib.hid fun W (h : Al22 W w.heap.size) => tWant_any ⟨9, 2, 2, 5, 3, 0, 0, some ⟨w.heap.size + 1 + 1 + 1 + 1, 0, none⟩, 1, [⟨7, 2, 0, 2, 0⟩]⟩ ⟨3, 5, 1, 0, 1, 0, 4, 0, some ⟨w.heap.size, 0, none⟩, 1, [2]⟩ W h.ai (by simp)
  have H5 := Lib.hid (show ∀ W : World, Calls Try.prog 15 #[.agg #[.int .i64 3, .int .i64 5, .int .u64 1, .int .u64 0, .int .i64 1, .int .i64 0, .int .i64 4, .int .i64 0, .slice (some ⟨w.heap.size, 0, none⟩) 1 1], .int .u64 3, .int .u64 0] W fun e w' => e = .returned (.bool true) ∧ Below W.heap.size W w' from fun W => by
    have h := tFits_any ⟨3, 5, 1, 0, 1, 0, 4, 0, some ⟨w.heap.size, 0, none⟩, 1, [2]⟩ 1 0 3 0 W rfl rfl (by decide) (by decide) (by decide) (by decide)
    rw [alive_fit] at h
    exact h)
  have H6 := Lib.hid (show ∀ W : World, Calls Try.prog 15 #[.agg #[.int .i64 3, .int .i64 5, .int .u64 1, .int .u64 0, .int .i64 1, .int .i64 0, .int .i64 4, .int .i64 0, .slice (some ⟨w.heap.size, 0, none⟩) 1 1], .int .u64 2, .int .u64 0] W fun e w' => e = .returned (.bool false) ∧ Below W.heap.size W w' from fun W => by
    have h := tFits_any ⟨3, 5, 1, 0, 1, 0, 4, 0, some ⟨w.heap.size, 0, none⟩, 1, [2]⟩ 1 0 2 0 W rfl rfl (by decide) (by decide) (by decide) (by decide)
    rw [alive_fit2] at h
    exact h)
  have H7 := Lib.hid fun W (h : Al22 W w.heap.size) => tSame_any ⟨3, 5, 1, 0, 1, 0, 4, 0, some ⟨w.heap.size, 0, none⟩, 1, [2]⟩ ⟨3, 5, 1, 0, 1, 0, 4, 0, some ⟨w.heap.size, 0, none⟩, 1, [2]⟩ W h.i2 h.i2 (by simp) (by simp)
  have H8 := Lib.hid fun W (h : Al22 W w.heap.size) => tSameR_any ⟨9, 2, 2, 5, 3, 0, 0, some ⟨w.heap.size + 1 + 1 + 1 + 1, 0, none⟩, 1, [⟨7, 2, 0, 2, 0⟩]⟩ ⟨9, 2, 2, 5, 3, 0, 0, some ⟨w.heap.size + 1 + 1 + 1 + 1, 0, none⟩, 1, [⟨7, 2, 0, 2, 0⟩]⟩ W h.ai h.ai (by simp) (by simp)
  have H9 := Lib.hid fun (w : World) va vb ha hb => refInts_any va vb [7] [7] w ha hb (by decide) (by decide)
  rw [alive_chk] at H1
  rw [alive_chk1] at H2
  rw [alive_rul] at H3
  rw [alive_want] at H4
  rw [same_self] at H7
  rw [sameR_self] at H8
  rw [decide_eq_true rfl] at H9
  dsimp only [spv, ruv, List.length_cons, List.length_nil, Nat.reduceAdd] at H1 H2 H3 H4 H7 H8
  go_enter Try.func6, Try.ntmps6
  go_upto_region 5 with (fail)
  generalize (((((w.alloc (.cells #[.int .i64 2] 3)).alloc (.cells #[.int .i64 3, .int .i64 5, .int .u64 1, .int .u64 0, .int .i64 1, .int .i64 0, .int .i64 4, .int .i64 0, .slice (some ⟨w.heap.size, 0, none⟩) 1 1] 27)).alloc (.cells #[.int .i64 3, .int .i64 5, .int .u64 1, .int .u64 0, .int .i64 1, .int .i64 0, .int .i64 4, .int .i64 0, .slice (some ⟨w.heap.size + 1 + 1 + 1, 0, none⟩) 1 1] 27)).alloc (.cells #[.int .i64 3] 3)).alloc (.cells #[.int .i64 7, .int .i64 2, .int .i64 0, .int .i64 2, .int .i64 0] 45)).alloc (.cells #[.int .i64 9, .int .i64 2, .int .i64 2, .int .i64 5, .int .i64 3, .int .i64 0, .int .i64 0, .slice (some ⟨w.heap.size + 1 + 1 + 1 + 1, 0, none⟩) 1 1] 30) = W6 at *
  have x0 := HA.out.x.cell 0 rfl
  have x1 := HA.out.x.cell 1 rfl
  have x2 := HA.out.x.cell 2 rfl
  have x3 := HA.out.x.cell 3 rfl
  have x4 := HA.out.x.cell 4 rfl
  have x5 := HA.out.x.cell 5 rfl
  have x6 := HA.out.x.cell 6 rfl
  have x7 := HA.out.x.cell 7 rfl
  have x8 := HA.out.x.cell 8 rfl
  go_wp2_with (first
    | (go_at_call 7; (with_reducible refine (H1.out _ HA.out).mono ?_); rintro e w1 ⟨rfl, hb⟩; replace HB := Lib.hid (HB.out.trans (hb.mono HB.out.size)); replace HA := Lib.hid (HA.out.kept hb); clear hb x0 x1 x2 x3 x4 x5 x6 x7 x8; have y0 := HA.out.y.cell 0 rfl; have y1 := HA.out.y.cell 1 rfl; have y2 := HA.out.y.cell 2 rfl; have y3 := HA.out.y.cell 3 rfl; have y4 := HA.out.y.cell 4 rfl; have y5 := HA.out.y.cell 5 rfl; have y6 := HA.out.y.cell 6 rfl; have y7 := HA.out.y.cell 7 rfl; have y8 := HA.out.y.cell 8 rfl)
    | (go_at_call 7; (with_reducible refine (H2.out _ HA.out).mono ?_); rintro e w2 ⟨rfl, hb⟩; replace HB := Lib.hid (HB.out.trans (hb.mono HB.out.size)); replace HA := Lib.hid (HA.out.kept hb); clear hb y0 y1 y2 y3 y4 y5 y6 y7 y8; have r0 := HA.out.r.cell 0 rfl; have r1 := HA.out.r.cell 1 rfl; have r2 := HA.out.r.cell 2 rfl; have r3 := HA.out.r.cell 3 rfl; have r4 := HA.out.r.cell 4 rfl; have r5 := HA.out.r.cell 5 rfl; have r6 := HA.out.r.cell 6 rfl; have r7 := HA.out.r.cell 7 rfl)
    | (go_at_call 9; (with_reducible refine (H3.out _ HA.out).mono ?_); rintro e w3 ⟨rfl, hb⟩; replace HB := Lib.hid (HB.out.trans (hb.mono HB.out.size)); replace HA := Lib.hid (HA.out.kept hb); clear hb r0 r1 r2 r3 r4 r5 r6 r7; have r0 := HA.out.r.cell 0 rfl; have r1 := HA.out.r.cell 1 rfl; have r2 := HA.out.r.cell 2 rfl; have r3 := HA.out.r.cell 3 rfl; have r4 := HA.out.r.cell 4 rfl; have r5 := HA.out.r.cell 5 rfl; have r6 := HA.out.r.cell 6 rfl; have r7 := HA.out.r.cell 7 rfl; have x0 := HA.out.x.cell 0 rfl; have x1 := HA.out.x.cell 1 rfl; have x2 := HA.out.x.cell 2 rfl; have x3 := HA.out.x.cell 3 rfl; have x4 := HA.out.x.cell 4 rfl; have x5 := HA.out.x.cell 5 rfl; have x6 := HA.out.x.cell 6 rfl; have x7 := HA.out.x.cell 7 rfl; have x8 := HA.out.x.cell 8 rfl)
    | (go_at_call 13; (with_reducible refine (H4.out _ HA.out).mono ?_); rintro e w4 ⟨v, rfl, hv, hb⟩; replace HB := Lib.hid (HB.out.trans (hb.mono HB.out.size)); replace HA := Lib.hid (HA.out.kept hb); clear hb r0 r1 r2 r3 r4 r5 r6 r7 x0 x1 x2 x3 x4 x5 x6 x7 x8; have hal := (Below.refl w4.heap.size w4).alloc (Nat.le_refl _) (.cells #[.int .i64 7] 3); have HV := Lib.hid (hv.below hal); have HLI := Lib.hid (show IntsAt (w4.alloc (.cells #[.int .i64 7] 3)) (.slice (some ⟨w4.heap.size, 0, none⟩) 1 1) [7] from IntsAt.lit w4 [7] 3); replace HB := Lib.hid (HB.out.trans (hal.mono HB.out.size)); replace HA := Lib.hid (HA.out.kept hal); clear hv hal)
    | (go_at_call 12; (with_reducible refine (H9.out _ _ _ HV.out HLI.out).mono ?_); rintro e w5 ⟨rfl, hb⟩; replace HB := Lib.hid (HB.out.trans (hb.mono HB.out.size)); replace HA := Lib.hid (HA.out.kept hb); clear hb HV HLI; have x0 := HA.out.x.cell 0 rfl; have x1 := HA.out.x.cell 1 rfl; have x2 := HA.out.x.cell 2 rfl; have x3 := HA.out.x.cell 3 rfl; have x4 := HA.out.x.cell 4 rfl; have x5 := HA.out.x.cell 5 rfl; have x6 := HA.out.x.cell 6 rfl; have x7 := HA.out.x.cell 7 rfl; have x8 := HA.out.x.cell 8 rfl)
    | (go_at_call 15; (with_reducible refine (H5.out _).mono ?_); rintro e w6 ⟨rfl, hb⟩; replace HB := Lib.hid (HB.out.trans (hb.mono HB.out.size)); replace HA := Lib.hid (HA.out.kept hb); clear hb x0 x1 x2 x3 x4 x5 x6 x7 x8; have x0 := HA.out.x.cell 0 rfl; have x1 := HA.out.x.cell 1 rfl; have x2 := HA.out.x.cell 2 rfl; have x3 := HA.out.x.cell 3 rfl; have x4 := HA.out.x.cell 4 rfl; have x5 := HA.out.x.cell 5 rfl; have x6 := HA.out.x.cell 6 rfl; have x7 := HA.out.x.cell 7 rfl; have x8 := HA.out.x.cell 8 rfl)
    | (go_at_call 15; (with_reducible refine (H6.out _).mono ?_); rintro e w7 ⟨rfl, hb⟩; replace HB := Lib.hid (HB.out.trans (hb.mono HB.out.size)); replace HA := Lib.hid (HA.out.kept hb); clear hb x0 x1 x2 x3 x4 x5 x6 x7 x8; have x0 := HA.out.x.cell 0 rfl; have x1 := HA.out.x.cell 1 rfl; have x2 := HA.out.x.cell 2 rfl; have x3 := HA.out.x.cell 3 rfl; have x4 := HA.out.x.cell 4 rfl; have x5 := HA.out.x.cell 5 rfl; have x6 := HA.out.x.cell 6 rfl; have x7 := HA.out.x.cell 7 rfl; have x8 := HA.out.x.cell 8 rfl)
    | (go_at_call 17; (with_reducible refine (H7.out _ HA.out).mono ?_); rintro e w8 ⟨rfl, hb⟩; replace HB := Lib.hid (HB.out.trans (hb.mono HB.out.size)); replace HA := Lib.hid (HA.out.kept hb); clear hb x0 x1 x2 x3 x4 x5 x6 x7 x8; have r0 := HA.out.r.cell 0 rfl; have r1 := HA.out.r.cell 1 rfl; have r2 := HA.out.r.cell 2 rfl; have r3 := HA.out.r.cell 3 rfl; have r4 := HA.out.r.cell 4 rfl; have r5 := HA.out.r.cell 5 rfl; have r6 := HA.out.r.cell 6 rfl; have r7 := HA.out.r.cell 7 rfl)
    | (go_at_call 19; (with_reducible refine (H8.out _ HA.out).mono ?_); rintro e w9 ⟨rfl, hb⟩; replace HB := Lib.hid (HB.out.trans (hb.mono HB.out.size)); replace HA := Lib.hid (HA.out.kept hb); clear hb))
  go_ret
  exact ⟨rfl, HB.out⟩
end Go.Proofs.Ytmkepmjdckdpgaa
/- A point that comes in, opened. -/
namespace Go.Proofs.Ytmkepmjdckdpgaa
open Go.RowKit Go.ChangeShapes Go.WideShapes Go.Joins

theorem cells_point : Try.prog.cellsOf 24 = 2 := by kernel_rfl
def In64 (n : Int) : Prop := -9223372036854775808 ≤ n ∧ n ≤ 9223372036854775807
theorem in64_of_wf {n : Int} (h : (Lit.int .i64 n).wf = true) : In64 n := by
  simp [Lit.wf] at h
  exact h
set_option maxRecDepth 100000 in
theorem open_point {H : Type} {enc : TypeId × Value → H} {w : World} {base : Nat} {v : Value} {d : DataW H} {p : List MemPlace} (hok : Value.okWide Try.prog w .any base 24 v) (h : DataW.Trod enc Try.prog w 0 (fun _ => true) true 24 v d p) :
    ∃ x y : Int, v = .agg #[.int .i64 x, .int .i64 y] ∧ In64 x ∧ In64 y := by
  obtain ⟨c0, c1, y0, y1, m, rfl, _, _, hy0, hy1⟩ := open_agg2 Try.underlying24 (by kernel_rfl) cells_point hok h
  obtain ⟨a, e0, _, wa⟩ := DataW.trod_int Try.underlying3 hy0
  obtain ⟨b, e1, _, wb⟩ := DataW.trod_int Try.underlying3 hy1
  simp at e0 e1
  subst e0 e1
  exact ⟨a, b, rfl, in64_of_wf wa, in64_of_wf wb⟩

theorem cells_int_pt : Try.prog.cellsOf 3 = 1 := by kernel_rfl
end Go.Proofs.Ytmkepmjdckdpgaa
/- Aisles that come in, opened. -/
namespace Go.Proofs.Ytmkepmjdckdpgaa
open Go.RowKit Go.ChangeShapes Go.WideShapes Go.Joins Go.Deep

theorem cells_aisle : Try.prog.cellsOf 45 = 5 := by kernel_rfl
theorem list5 {α : Type} {l : List α} (h : l.length = 5) : ∃ a b c d e, l = [a, b, c, d, e] := by
  match l, h with
  | [a, b, c, d, e], _ => exact ⟨a, b, c, d, e, rfl⟩
def Ais.In (a : Ais) : Prop := In64 a.id ∧ (In64 a.lx ∧ In64 a.ly) ∧ In64 a.hx ∧ In64 a.hy
theorem trod_aisle {H : Type} {enc : TypeId × Value → H} {w : World} {fuel : Nat} {cs : List Value} {x : DataW H × List MemPlace} (hl : cs.length = 5) (h : DataW.trod enc Try.prog w 0 (fun _ => true) true fuel 45 cs = some x) : ∃ a : Ais, cs = a.cs ∧ a.In := by
  obtain ⟨c0, c1, c2, c3, c4, rfl⟩ := list5 hl
  obtain ⟨y0, y1, y2, k, _, _, h0, h1, h2⟩ := trod_struct3 Try.underlying45 h
  obtain ⟨z0, z1, m, _, _, g0, g1⟩ := trod_struct2 Try.underlying24 h1
  obtain ⟨u0, u1, n, _, _, f0, f1⟩ := trod_struct2 Try.underlying24 h2
  simp only [cells_int_pt, cells_point, List.drop_zero, List.take_succ_cons, List.take_zero, List.drop_succ_cons] at h0 g0 g1 f0 f1
  obtain ⟨a, e0, _, wa⟩ := DataW.trod_int Try.underlying3 h0
  obtain ⟨b, e1, _, wb⟩ := DataW.trod_int Try.underlying3 g0
  obtain ⟨c, e2, _, wc⟩ := DataW.trod_int Try.underlying3 g1
  obtain ⟨d, e3, _, wd'⟩ := DataW.trod_int Try.underlying3 f0
  obtain ⟨e, e4, _, we⟩ := DataW.trod_int Try.underlying3 f1
  simp at e0 e1 e2 e3 e4
  subst e0 e1 e2 e3 e4
  exact ⟨⟨a, b, c, d, e⟩, rfl, in64_of_wf wa, ⟨in64_of_wf wb, in64_of_wf wc⟩, in64_of_wf wd', in64_of_wf we⟩
set_option maxRecDepth 100000 in
theorem open_aisle {H : Type} {enc : TypeId × Value → H} {w : World} {base : Nat} {v : Value} {d : DataW H} {p : List MemPlace} (hok : Value.okWide Try.prog w .any base 45 v) (h : DataW.Trod enc Try.prog w 0 (fun _ => true) true 45 v d p) :
    ∃ a : Ais, v = av a.id a.lx a.ly a.hx a.hy ∧ a.In := by
  obtain ⟨cs, rfl, hsz⟩ := okWide_struct Try.underlying45 hok
  obtain ⟨fuel, hf⟩ := h
  have hl : cs.toList.length = 5 := by rw [Array.length_toList]; exact hsz.trans cells_aisle
  obtain ⟨a, e, ha⟩ := trod_aisle hl (by simpa [Value.cells] using hf)
  refine ⟨a, ?_, ha⟩
  have : cs = a.cs.toArray := by rw [← e]
  rw [this]
  rfl
set_option maxRecDepth 100000 in
theorem open_aisles {H : Type} {enc : TypeId × Value → H} {w : World} {base : Nat} {v : Value} {d : DataW H} {p : List MemPlace} (hok : Value.okWide Try.prog w .any base 28 v) (h : DataW.Trod enc Try.prog w 0 (fun _ => true) true 28 v d p) :
    ∃ l, AisAt w v l ∧ l.length ≤ 9223372036854775807 ∧ ∀ x ∈ l, Ais.In x :=
  open_rows Ais.cs Ais.In Try.underlying28 cells_aisle (by decide) (fun _ _ _ hl h => trod_aisle hl h) hok h
end Go.Proofs.Ytmkepmjdckdpgaa
/- Lists of lists of bytes that come in. -/
namespace Go.Proofs.Ytmkepmjdckdpgaa
open Go.RowKit Go.ChangeShapes Go.WideShapes Go.Joins Go.Deep

set_option maxRecDepth 100000 in
/-- a slice that lies in a cell -/
theorem open_rows_good {α : Type} [Inhabited α] {H : Type} {enc : TypeId × Value → H} {w : World} {t e : TypeId} {K n0 : Nat} {xs0 : List Value} {z : DataW H × List MemPlace} (cs : α → List Value) (good : α → Prop)
    (ht : Try.prog.underlying t = some (.slice e)) (ce : Try.prog.cellsOf e = K) (hK : 0 < K)
    (elem : ∀ n xs x, xs.length = K → DataW.trod enc Try.prog w 0 (fun _ => true) true n e xs = some x → ∃ y, xs = cs y ∧ good y)
    (hx0 : DataW.trod enc Try.prog w 0 (fun _ => true) true n0 t xs0 = some z) :
    ∃ a len cap l, xs0 = [.slice a len cap] ∧ RowsAt w K cs (.slice a len cap) l ∧ l.length ≤ 9223372036854775807 ∧ ∀ x ∈ l, good x := by
  obtain ⟨d, p⟩ := z
  rcases open_slice ht hx0 with ⟨hcs, _⟩ | ⟨x, ln, c, m, n, D, Pl, hcs, _, hl, hm, hmm, _, hx⟩
  · exact ⟨none, 0, 0, [], hcs, RowsAt.nil _ _ _, by simp, by simp⟩
  · have hmc : m = c := by simpa using hmm
    subst hmc
    rw [ce] at hx
    have each : ∀ i, i < m → ∃ y : α, (∀ j u, (cs y)[j]? = some u → w.cell? ((x.add (i * K)).add j) = some u) ∧ good y ∧ (cs y).length = K := by
      intro i hi
      obtain ⟨xs, h1, h2⟩ := hx i hi
      obtain ⟨_, hlen, hcell⟩ := World.cells?_some h1
      obtain ⟨y, rfl, hg⟩ := elem n xs _ hlen h2
      refine ⟨y, fun j u hu => ?_, hg, hlen⟩
      have := hcell j (by rw [← hlen]; exact (List.getElem?_eq_some_iff.1 hu).1)
      rw [this, hu]
    obtain ⟨q, hq⟩ := choose_lt each
    have hll : ((List.range ln).map q).length = ln := by simp
    refine ⟨some x, ln, m, (List.range ln).map q, hcs, ⟨some x, m, by rw [hll], by rw [hll]; exact hl, fun h0 => ?_⟩, ?_, fun y hy => ?_⟩
    · rw [hll] at h0
      obtain ⟨h1, _, h3⟩ := hq 0 (by omega)
      obtain ⟨u, hu⟩ : ∃ u, (cs (q 0))[0]? = some u := ⟨_, List.getElem?_eq_getElem (by omega)⟩
      have h4 := h1 0 u hu
      obtain ⟨b, off, spot⟩ := x
      have hspot : spot = none := by simpa [Addr.add] using World.cell?_spot h4
      subst hspot
      rw [add_plain, add_plain] at h4
      refine ⟨b, off, rfl, World.block_lt_of_cell? _ _ h4, fun j y hj i u hu => ?_⟩
      have hjl : j < ln := by rw [← hll]; exact (List.getElem?_eq_some_iff.1 hj).1
      have hyq : q j = y := by simpa [hjl] using hj
      rw [← hyq] at hu
      have := (hq j (by omega)).1 i u hu
      rw [add_plain, add_plain] at this
      exact this
    · rw [hll]
      unfold maxLen at hm
      omega
    · rw [List.mem_map] at hy
      obtain ⟨i, hi, rfl⟩ := hy
      exact (hq i (by have := List.mem_range.1 hi; omega)).2.1
theorem open_rows_in {α : Type} [Inhabited α] {H : Type} {enc : TypeId × Value → H} {w : World} {t e : TypeId} {K n0 : Nat} {xs0 : List Value} {z : DataW H × List MemPlace} (cs : α → List Value)
    (ht : Try.prog.underlying t = some (.slice e)) (ce : Try.prog.cellsOf e = K) (hK : 0 < K)
    (elem : ∀ n xs x, xs.length = K → DataW.trod enc Try.prog w 0 (fun _ => true) true n e xs = some x → ∃ y, xs = cs y)
    (hx0 : DataW.trod enc Try.prog w 0 (fun _ => true) true n0 t xs0 = some z) :
    ∃ a len cap l, xs0 = [.slice a len cap] ∧ RowsAt w K cs (.slice a len cap) l ∧ l.length ≤ 9223372036854775807 := by
  obtain ⟨a, len, cap, l, h1, h2, h3, _⟩ := open_rows_good cs (fun _ => True) ht ce hK (fun n xs x h h' => (elem n xs x h h').imp fun _ e => ⟨e, trivial⟩) hx0
  exact ⟨a, len, cap, l, h1, h2, h3⟩
end Go.Proofs.Ytmkepmjdckdpgaa
