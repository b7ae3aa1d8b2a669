/- Texts of this proof, joined: HpB; HpC; HpD; HpE; HpF; HpG; HpH. -/
import Derived.Test.YtkhnkhkpjgemkaaBun3
import Derived.StillTailTactics
import Derived.Shelf.SlicesG.Cmp
import Derived.Shelf.SlSortCmp.WholeK
import Derived.Deep.DeepCutAuto
import Derived.BigRegion
/- Stage 13's program: the order, up. -/
namespace Go.Proofs.Ytkhnkhkpjgemkaa
open Go.RowKit Go.Shelf

theorem cCmp_any (x y : Int) (w : World) : Calls Try.prog 50 #[.int .i64 x, .int .i64 y] w fun e w' => e = .returned (.int .i64 (Lib.compareInt x y)) ∧ w' = w := by
  have hn : ∀ x w, Calls Try.prog 67 #[.int .i64 x] w fun e w' => e = .returned (.bool false) ∧ w' = w := fun x w => by
    go_enter Try.func67, Try.ntmps67
    go_wp2
    go_ret
    exact ⟨by simp, rfl⟩
  go_enter Try.func50, Try.ntmps50
  go_wp2_with (go_at_call 67; refine (hn _ _).mono ?_; rintro e w' ⟨rfl, rfl⟩)
  all_goals (go_ret; refine ⟨?_, rfl⟩; unfold Lib.compareInt; (repeat' split) <;> first | rfl | (exfalso; omega))

/-- the first that is not zero -/
def orT : List Int → Int
  | [] => 0
  | x :: t => if x ≠ 0 then x else orT t
set_option maxHeartbeats 2000000 in
theorem cOr_any (b : Nat) (x y z : Int) (w : World) (h : Blk w b [.int .i64 x, .int .i64 y, .int .i64 z]) : Calls Try.prog 49 #[.slice (some ⟨b, 0, none⟩) 3 3] w fun e w' => e = .returned (.int .i64 (orT [x, y, z])) ∧ w' = w := by
  have e0 := h.cell 0 rfl
  have e1 := h.cell 1 rfl
  have e2 := h.cell 2 rfl
  obtain ⟨r, hr⟩ : ∃ r, orT [x, y, z] = r := ⟨_, rfl⟩
  rw [hr]
  unfold orT orT orT orT at hr
  clear h
  by_cases hx : x = 0
  · have x0 : (x != 0) = false := by simp [hx]
    rw [if_neg (by simp [hx])] at hr
    by_cases hy : y = 0
    · have y0 : (y != 0) = false := by simp [hy]
      rw [if_neg (by simp [hy])] at hr
      by_cases hz : z = 0
      · have z0 : (z != 0) = false := by simp [hz]
        rw [if_neg (by simp [hz])] at hr
        have HR := Lib.hid hr
        clear hx hy hz hr
        go_enter Try.func49, Try.ntmps49
        go_wp2
        refine wp_loop_rounds 4 ?_
        rw [rounds_succ]; go_wp2; rw [rounds_succ]; go_wp2; rw [rounds_succ]; go_wp2; rw [rounds_succ]; go_wp2
        go_ret
        exact ⟨by rw [← HR.out]; rfl, rfl⟩
      · have z0 : (z != 0) = true := by simp [hz]
        rw [if_pos hz] at hr
        subst hr
        clear hx hy hz
        go_enter Try.func49, Try.ntmps49
        go_wp2
        refine wp_loop_rounds 3 ?_
        rw [rounds_succ]; go_wp2; rw [rounds_succ]; go_wp2; rw [rounds_succ]; go_wp2
        go_ret
        exact ⟨rfl, rfl⟩
    · have y0 : (y != 0) = true := by simp [hy]
      rw [if_pos hy] at hr
      subst hr
      clear hx hy
      go_enter Try.func49, Try.ntmps49
      go_wp2
      refine wp_loop_rounds 2 ?_
      rw [rounds_succ]; go_wp2; rw [rounds_succ]; go_wp2
      go_ret
      exact ⟨rfl, rfl⟩
  · have x0 : (x != 0) = true := by simp [hx]
    rw [if_pos hx] at hr
    subst hr
    clear hx
    go_enter Try.func49, Try.ntmps49
    go_wp2
    refine wp_loop_rounds 1 ?_
    rw [rounds_succ]; go_wp2
    go_ret
    exact ⟨rfl, rfl⟩

/-- below 0: a is ahead of b; above 0: b of a -/
def ordT (a b : Th) : Int := orT [Lib.compareInt b.key a.key, Lib.compareInt a.seq b.seq, Lib.compareInt a.id b.id]
theorem ordT_ahead (a b : Th) : decide (ordT a b < 0) = ahead a b := by
  unfold ordT orT orT orT orT Lib.compareInt ahead
  (repeat' split) <;> simp <;> omega

set_option maxHeartbeats 4000000 in
set_option maxRecDepth 100000 in
theorem hOrder_any (a b : Th) (w : World) : Calls Try.prog 36 #[.agg #[.int .i64 a.id, .int .i64 a.key, .int .i64 a.seq], .agg #[.int .i64 b.id, .int .i64 b.key, .int .i64 b.seq]] w fun e w' => e = .returned (.int .i64 (ordT a b)) ∧ ∃ q os', w' = Sort.grow (w.drewN q) os' := by
  unfold ordT
  generalize hc1 : Lib.compareInt b.key a.key = c1
  generalize hc2 : Lib.compareInt a.seq b.seq = c2
  generalize hc3 : Lib.compareInt a.id b.id = c3
  obtain ⟨r, hr⟩ : ∃ r, orT [c1, c2, c3] = r := ⟨_, rfl⟩
  rw [hr]
  have G1 := fun w => cCmp_any b.key a.key w
  have G2 := fun w => cCmp_any a.seq b.seq w
  have G3 := fun w => cCmp_any a.id b.id w
  have GO := fun bl w (h : Blk w bl _) => cOr_any bl c1 c2 c3 w h
  rw [hc1] at G1
  rw [hc2] at G2
  rw [hc3] at G3
  rw [hr] at GO
  have H1 := Lib.hid G1
  have H2 := Lib.hid G2
  have H3 := Lib.hid G3
  have HO := Lib.hid GO
  obtain ⟨a1, a2, a3⟩ := a
  obtain ⟨b1, b2, b3⟩ := b
  simp only at H1 H2 H3 ⊢
  have hx := (((Blk.new w [.int .i64 a1, .int .i64 a2, .int .i64 a3] 66).kept ((Below.refl _ _).alloc (Nat.le_refl _) (.cells #[.int .i64 b1, .int .i64 b2, .int .i64 b3] 66)))).drew
  have hy := (Blk.new (w.alloc (.cells #[.int .i64 a1, .int .i64 a2, .int .i64 a3] 66)) [.int .i64 b1, .int .i64 b2, .int .i64 b3] 66).drew
  have hg : ∃ q os', ((w.alloc (.cells #[.int .i64 a1, .int .i64 a2, .int .i64 a3] 66)).alloc (.cells #[.int .i64 b1, .int .i64 b2, .int .i64 b3] 66)).drew.alloc (.cells #[.int .i64 c1, .int .i64 c2, .int .i64 c3] 3) = Sort.grow (w.drewN q) os' := ⟨1, _, by rw [Sort.alloc_eq_grow, Sort.alloc_eq_grow, Sort.alloc_eq_grow, Sort.drew_grow, Sort.drew_grow, Sort.grow_grow, Sort.grow_grow]; rfl⟩
  have x0 := hx.cell 0 rfl
  have x1 := hx.cell 1 rfl
  have x2 := hx.cell 2 rfl
  have y0 := hy.cell 0 rfl
  have y1 := hy.cell 1 rfl
  have y2 := hy.cell 2 rfl
  rw [show (w.alloc (.cells #[.int .i64 a1, .int .i64 a2, .int .i64 a3] 66)).heap.size = w.heap.size + 1 by simp] at y0 y1 y2
  clear G1 G2 G3 GO hc1 hc2 hc3 hr hx hy
  go_enter Try.func36, Try.ntmps36
  go_wp2
  refine wp_region_still_tail 15 (by kernel_rfl) (by kernel_rfl) ?_
  change wpStill _ _ (World.drew _) (fun a' => wpList _ _ _ _ a' (World.drew _)) _ _
  generalize World.drew _ = W3 at *
  have HG := Lib.hid hg
  have HB := Lib.hid (Blk.new W3 [.int .i64 c1, .int .i64 c2, .int .i64 c3] 3)
  clear hg
  simp only [List.take_succ_cons, List.take_zero, List.drop_succ_cons, List.drop_zero]
  iterate 4 still_step
  (refine wpStill_step (fun K hK => ?_); go_simp; with_reducible refine ⟨_, H1.out _, hK _ ?_⟩; clear hK K)
  iterate 4 still_step
  (refine wpStill_step (fun K hK => ?_); go_simp; with_reducible refine ⟨_, H2.out _, hK _ ?_⟩; clear hK K)
  iterate 4 still_step
  (refine wpStill_step (fun K hK => ?_); go_simp; with_reducible refine ⟨_, H3.out _, hK _ ?_⟩; clear hK K)
  refine wpStill_nil ?_
  clear H1 H2 H3 x0 x1 x2 y0 y1 y2
  go_wp2_with (go_at_call 49; (with_reducible refine (HO.out _ _ HB.out).mono ?_); rintro e w1 ⟨rfl, rfl⟩)
  go_ret
  exact ⟨rfl, HG.out⟩

theorem grow_below {w : World} {q : Nat} {os : Array Obj} : Below w.heap.size w (Sort.grow (w.drewN q) os) :=
  ⟨rfl, rfl, rfl, by rw [Sort.size_grow]; exact Nat.le_add_right _ _, fun k hk => by
    show (w.heap ++ os)[k]? = _
    exact Array.getElem?_append_left hk⟩
set_option maxHeartbeats 2000000 in
theorem hAhead_any (a b : Th) (w : World) : Calls Try.prog 56 #[.agg #[.int .i64 a.id, .int .i64 a.key, .int .i64 a.seq], .agg #[.int .i64 b.id, .int .i64 b.key, .int .i64 b.seq]] w fun e w' => e = .returned (.bool (ahead a b)) ∧ Below w.heap.size w w' := by
  rw [← ordT_ahead]
  have HO := Lib.hid fun w => hOrder_any a b w
  generalize ordT a b = r at *
  obtain ⟨a1, a2, a3⟩ := a
  obtain ⟨b1, b2, b3⟩ := b
  simp only at HO ⊢
  have HB := Lib.hid (((Below.refl w.heap.size w).alloc (Nat.le_refl _) (.cells #[.int .i64 a1, .int .i64 a2, .int .i64 a3] 66)).alloc (by simp) (.cells #[.int .i64 b1, .int .i64 b2, .int .i64 b3] 66))
  go_enter Try.func56, Try.ntmps56
  go_wp2_with (go_at_call 36; (with_reducible refine (HO.out _).mono ?_); rintro e w1 ⟨rfl, q, os, rfl⟩)
  have HB2 := HB.out.trans ((grow_below (q := q) (os := os)).mono HB.out.size)
  go_ret
  exact ⟨rfl, HB2⟩
end Go.Proofs.Ytkhnkhkpjgemkaa
/- Stage 13's program: a row of things with a gap; up. -/
namespace Go.Proofs.Ytkhnkhkpjgemkaa
open Go.RowKit

/-- the heap, but that x is to be laid at i -/
def GapAt (F : Nat → Prop) (w : World) (p : Nat) (v : Value) (b : Nat) (T : List Th) (g : Int → Option Nat) (i : Nat) (x : Th) : Prop :=
  ∃ m, RawAt F w p v b T m g ∧ (if (g x.id).isSome then m else m + 1) = T.length ∧ i < T.length ∧ Pos (T.set i x) (upd g x.id (some i)) ∧ ∀ y ∈ T.set i x, I64 y.id
section
variable {F : Nat → Prop} {w w' : World} {p : Nat} {v : Value} {b : Nat} {T : List Th} {g : Int → Option Nat} {i : Nat} {x : Th}
theorem GapAt.kept (h : GapAt F w p v b T g i x) (hb : Below w.heap.size w w') : GapAt F w' p v b T g i x := by
  obtain ⟨m, h1, h2⟩ := h
  exact ⟨m, h1.kept hb, h2⟩
theorem GapAt.raw (h : GapAt F w p v b T g i x) : ∃ m, RawAt F w p v b T m g := by
  obtain ⟨m, h1, h2⟩ := h
  exact ⟨m, h1⟩
theorem GapAt.lt (h : GapAt F w p v b T g i x) : i < T.length := by
  obtain ⟨m, h1, h2, h3, h4⟩ := h
  exact h3
theorem tg_in (T : List Th) (i : Nat) (x : Th) (h : i < T.length) : tg (T.set i x) i = x := by rw [tg_set _ _ _ _ h, if_pos rfl]
theorem tg_out (T : List Th) (i j : Nat) (x : Th) (h : i < T.length) (hj : j ≠ i) : tg (T.set i x) j = tg T j := by rw [tg_set _ _ _ _ h, if_neg hj]
/-- what is brought from j to the gap -/
theorem gap_swap {T : List Th} {i j : Nat} {x : Th} (hi : i < T.length) (hji : j ≠ i) : (T.set i (tg T j)).set j x = swapT (T.set i x) i j := by
  unfold swapT
  rw [tg_in _ _ _ hi, tg_out _ _ _ _ hi hji, List.set_set]

set_option maxHeartbeats 1000000 in
theorem hMove_any (j : Nat) (w : World) (h : GapAt F w p v b T g i x) (hj : j < T.length) (hji : j ≠ i) (hn : T.length ≤ 1000000) :
    Calls Try.prog 46 #[ptr13 p, .int .i64 (i : Int), .agg #[.int .i64 (tg T j).id, .int .i64 (tg T j).key, .int .i64 (tg T j).seq]] w fun e w' => e = .returned (.tuple #[]) ∧ GapAt F w' p v b (T.set i (tg T j)) (upd g (tg T j).id (some i)) j x ∧ Only F w w' := by
  obtain ⟨m, h1, h2, hi, h3, h4⟩ := h
  have e1 := tg_in T i x hi
  have e2 := tg_out T i j x hi hji
  have hl : (T.set i x).length = T.length := List.length_set ..
  have hne : (tg T j).id ≠ x.id := fun e => hji (h3.dst.inj (by rw [hl]; exact hj) (by rw [hl]; exact hi) (by rw [e1, e2]; exact e))
  have hg : g (tg T j).id = some j := by
    have := h3.some (show j < (T.set i x).length by rw [hl]; exact hj)
    rw [e2] at this
    unfold upd at this
    rwa [if_neg hne] at this
  have hy : I64 (tg T j).id := by
    rw [← e2, tg_get _ _ (by rw [hl]; exact hj)]
    exact h4 _ (List.getElem_mem _)
  have hm : m ≤ 1000000 := by
    split at h2 <;> omega
  refine (hSet_any i (tg T j) w h1 hi hn hm hy).mono ?_
  rintro e w' ⟨rfl, h5, h6⟩
  rw [hg, Option.isSome_some, if_pos rfl] at h5
  refine ⟨rfl, ⟨m, h5, ?_, by rw [List.length_set]; exact hj, ?_, ?_⟩, h6⟩
  · have e3 : upd g (tg T j).id (some i) x.id = g x.id := by unfold upd; rw [if_neg (Ne.symm hne)]
    rw [e3, List.length_set]
    exact h2
  · rw [gap_swap hi hji]
    have h7 := h3.swap (show i < (T.set i x).length by rw [hl]; exact hi) (show j < (T.set i x).length by rw [hl]; exact hj)
    rw [e1, e2] at h7
    have e4 : upd (upd (upd g x.id (some i)) (tg T j).id (some i)) x.id (some j) = upd (upd g (tg T j).id (some i)) x.id (some j) := by
      funext k
      unfold upd
      by_cases hk : k = x.id
      · rw [if_pos hk, if_pos hk]
      · rw [if_neg hk, if_neg hk, if_neg hk]
    rwa [e4] at h7
  · rw [gap_swap hi hji]
    exact fun y hy => h4 y ((swapT_perm _ i j (by rw [hl]; exact hi) (by rw [hl]; exact hj)).mem_iff.1 hy)
end
theorem par_int {i : Nat} (h : 0 < i) : Int.tdiv ((i : Int) - 1) 2 = (par i : Int) := by
  unfold par
  rw [Int.tdiv_eq_ediv_of_nonneg (by omega)]
  omega

/-- the gap has come to j, and all is in order but what is below it -/
def Moved (D : List Th → Nat → Prop) (F : Nat → Prop) (w w' : World) (p : Nat) (v : Value) (b : Nat) (L : List Th) (x : Th) (j : Nat) : Prop := ∃ T' g', GapAt F w' p v b T' g' j x ∧ D (T'.set j x) j ∧ (T'.set j x).Perm L ∧ T'.length = L.length ∧ Only F w w'

set_option maxHeartbeats 4000000 in
set_option maxRecDepth 100000 in
theorem hUp_any {F : Nat → Prop} {p : Nat} {v : Value} {b : Nat} {T : List Th} {g : Int → Option Nat} (i : Nat) (x : Th) (w : World) (h : GapAt F w p v b T g i x) (hu : fixI (T.set i x) i) (hn : T.length ≤ 1000000) :
    Calls Try.prog 45 #[ptr13 p, .int .i64 (i : Int), .agg #[.int .i64 x.id, .int .i64 x.key, .int .i64 x.seq]] w fun e w' => ∃ j : Nat, e = .returned (.int .i64 (j : Int)) ∧ Moved dnI F w w' p v b (T.set i x) x j := by
  have hal := (Below.refl w.heap.size w).alloc (Nat.le_refl _) (.cells #[.int .i64 x.id, .int .i64 x.key, .int .i64 x.seq] 66)
  have HX := Lib.hid (Blk.new w [.int .i64 x.id, .int .i64 x.key, .int .i64 x.seq] 66)
  have HWA := Lib.hid (Only.of_below (F := F) hal)
  have HF := Lib.hid (show ¬ F w.heap.size from fun hf => by obtain ⟨m, h1⟩ := h.raw; have := h1.lt _ hf; omega)
  have H0 := Lib.hid (h.kept hal)
  have U0 := Lib.hid hu
  have HN := Lib.hid hn
  have HXL : w.heap.size < (w.alloc (.cells #[.int .i64 x.id, .int .i64 x.key, .int .i64 x.seq] 66)).heap.size := by simp
  have HL0 := Lib.hid (show (T.set i x).length = T.length from List.length_set ..)
  clear h hu hal
  go_enter Try.func45, Try.ntmps45
  go_wp2
  refine wp_scope_goto 0 (fun n a' w' => ∃ (X : Int) (T' : List Th) (g' : Int → Option Nat), X = n ∧ T'.length = T.length ∧ GapAt F w' p v b T' g' n x ∧ fixI (T'.set n x) n ∧ (T'.set n x).Perm (T.set i x) ∧ Only F w w' ∧ Blk w' w.heap.size [.int .i64 x.id, .int .i64 x.key, .int .i64 x.seq] ∧ ∃ u2 u3 u4 u6 u7 u8 u9 u10 u11 u12 u13 u14 u15 u16 u17 u18 u19 u20 u21 u22 u23 u24 u25 u26 u27 u28 u29 u30 u31 u32 u33 u34 u35, a' = { tmps := #[ptr13 p, .int .i64 X, u2, u3, u4, .pointer (some ⟨w.heap.size, 0, none⟩), u6, u7, u8, u9, u10, u11, u12, u13, u14, u15, u16, u17, u18, u19, u20, u21, u22, u23, u24, u25, u26, u27, u28, u29, u30, u31, u32, u33, u34, u35], defers := [] }) rfl rfl ?_ ?_
  · rintro n a' w' ⟨X, T', g', hX, hlen, hH, hU, hP, hO, hBx, u2, u3, u4, u6, u7, u8, u9, u10, u11, u12, u13, u14, u15, u16, u17, u18, u19, u20, u21, u22, u23, u24, u25, u26, u27, u28, u29, u30, u31, u32, u33, u34, u35, rfl⟩ K hK
    have HK := Lib.hid hK
    have HH := Lib.hid hH
    have HU := Lib.hid hU
    have HP := Lib.hid hP
    have HO := Lib.hid hO
    have HL := Lib.hid hlen
    have HB := Lib.hid hBx
    have hnl := hH.lt
    clear hK hU hP hO
    by_cases hz : n = 0
    · subst hz
      subst hX
      have HD := Lib.hid (HU.out.dn (.inl rfl))
      clear hH hlen hBx
      go_wp2
      refine wp_region_calm0 (by kernel_rfl) (by kernel_rfl) fun M => ?_
      repeat (go_big_quiet_step (fail))
      refine wpQuiet_nil ?_
      clear M
      intro w1 hb
      have HF2 := Lib.hid (show Moved dnI F w w1 p v b (T.set i x) x 0 from ⟨T', g', HH.out.kept hb, HD.out, HP.out, by rw [HL0.out]; exact HL.out, HO.out.trans (Only.of_below hb)⟩)
      go_wp2
      simp only [Exit.jump]
      exact bodyPost_ret (v := .int .i64 0) (by simp [results, Try.results45, go_sem]) rfl ⟨0, rfl, HF2.out⟩
    · have n0 : 0 < n := by omega
      have hpn : par n < n := by unfold par; omega
      have hpl : par n < T'.length := by omega
      have hpi := par_int n0
      rw [← hX] at hpi
      obtain ⟨m, hraw⟩ := hH.raw
      obtain ⟨gb, o, cap, rfl, hlc, ⟨j0, j1, j2⟩, _⟩ := hraw.own.th (par n) hpl
      have p0 := hraw.blk.cell 0 rfl
      have i0 := hBx.cell 0 rfl
      have i1 := hBx.cell 1 rfl
      have i2 := hBx.cell 2 rfl
      have X0 : decide (0 < X) = true := by simp; omega
      have X4 : decide (0 < n) = true := by simp; omega
      have X5 : (T'.length : Int) ≤ 1000000 := by omega
      have X1 : X < (T'.length : Int) := by omega
      have X2 : (0 : Int) ≤ X := by omega
      have X3 : (0 : Int) < X := by omega
      have Y1 : (par n : Int) < (T'.length : Int) := by omega
      have Y2 : (0 : Int) ≤ (par n : Int) := by omega
      have GA := Lib.hid fun w1 => hAhead_any x (tg T' (par n)) w1
      have SW := Lib.hid fun w1 (h1 : GapAt F w1 p (.slice (some ⟨gb, o, none⟩) T'.length cap) b T' g' n x) => hMove_any (par n) w1 h1 hpl (by omega) (by omega)
      have e1 := tg_in T' n x hnl
      have e2 := tg_out T' n (par n) x hnl (by omega)
      have hsl : (T'.set n x).length = T'.length := List.length_set ..
      have HUP := Lib.hid fun ha => HU.out.up n0 (by rw [e1, e2]; exact ha)
      have ST := Lib.hid fun ha => (HUP.out ha).step n0 (by rw [hsl]; exact hnl) (by rw [e1, e2]; exact ha)
      have HDN := Lib.hid fun ha => HU.out.dn (.inr (by rw [e1, e2]; exact ha))
      have SG := Lib.hid (gap_swap (x := x) hnl (show par n ≠ n by omega))
      have SP := Lib.hid (swapT_perm (T'.set n x) n (par n) (by rw [hsl]; exact hnl) (by rw [hsl]; exact hpl))
      have HPN := Lib.hid hpn
      have HFI := Lib.hid (fun h : upI (swapT (T'.set n x) n (par n)) (par n) => (⟨fun k h0 hk hne _ => h.rest k h0 hk hne, h.kids⟩ : fixI _ _))
      clear hH hlen n0 hz hpn hnl hpl hraw hBx e1 e2 hsl HUP
      cases ha : ahead x (tg T' (par n)) with
      | false =>
        have HD := Lib.hid (HDN.out ha)
        rw [ha] at GA
        subst hX
        generalize tg T' (par n) = tp at *
        generalize par n = q at *
        clear ha HDN ST HFI
        go_wp2
        refine wp_region_calm0 (by kernel_rfl) (by kernel_rfl) fun M => ?_
        have e0 := fun n : In M.w => n.cell (M.cell p0)
        have m0 := fun n : In M.w => n.cell (M.cell i0)
        have m1 := fun n : In M.w => n.cell (M.cell i1)
        have m2 := fun n : In M.w => n.cell (M.cell i2)
        have k0 := fun n : In M.w => n.cell (M.cell j0)
        have k1 := fun n : In M.w => n.cell (M.cell j1)
        have k2 := fun n : In M.w => n.cell (M.cell j2)
        repeat (go_big_quiet_step ((go_at_call 56; with_reducible exact In.call (GA.out _))))
        refine wpQuiet_nil ?_
        clear e0 m0 m1 m2 k0 k1 k2 M
        intro w1 hb
        have HF2 := Lib.hid (show Moved dnI F w w1 p (.slice (some ⟨gb, o, none⟩) T'.length cap) b (T.set i x) x n from ⟨T', g', HH.out.kept hb, HD.out, HP.out, by rw [HL0.out]; exact HL.out, HO.out.trans (Only.of_below hb)⟩)
        go_wp2
        simp only [Exit.jump]
        exact bodyPost_ret (v := .int .i64 (n : Int)) (by simp [results, Try.results45, go_sem]) rfl ⟨n, rfl, HF2.out⟩
      | true =>
        have ST2 := Lib.hid (HFI.out (ST.out ha))
        rw [ha] at GA
        subst hX
        generalize tg T' (par n) = tp at *
        generalize par n = q at *
        clear ha HDN ST HFI
        go_wp2
        refine wp_region_calm0 (by kernel_rfl) (by kernel_rfl) fun M => ?_
        have e0 := fun n : In M.w => n.cell (M.cell p0)
        have m0 := fun n : In M.w => n.cell (M.cell i0)
        have m1 := fun n : In M.w => n.cell (M.cell i1)
        have m2 := fun n : In M.w => n.cell (M.cell i2)
        have k0 := fun n : In M.w => n.cell (M.cell j0)
        have k1 := fun n : In M.w => n.cell (M.cell j1)
        have k2 := fun n : In M.w => n.cell (M.cell j2)
        repeat (go_big_quiet_step ((go_at_call 56; with_reducible exact In.call (GA.out _))))
        refine wpQuiet_nil ?_
        clear e0 m0 m1 m2 k0 k1 k2 M i0 i1 i2
        intro w1 hb
        have HH1 := Lib.hid (HH.out.kept hb)
        have HO1 := Lib.hid (HO.out.trans (Only.of_below hb))
        have HB1 := Lib.hid (HB.out.kept hb)
        have c0 := (World.cell?_of_block (a := ⟨p, 0, none⟩) (hb.block p (World.block_lt_of_cell? _ _ p0))).trans p0
        have d0 := (World.cell?_of_block (a := ⟨gb, o + q * 3, none⟩) (hb.block gb (World.block_lt_of_cell? _ _ j0))).trans j0
        have d1 := (World.cell?_of_block (a := ⟨gb, o + q * 3 + 1, none⟩) (hb.block gb (World.block_lt_of_cell? _ _ j0))).trans j1
        have d2 := (World.cell?_of_block (a := ⟨gb, o + q * 3 + 2, none⟩) (hb.block gb (World.block_lt_of_cell? _ _ j0))).trans j2
        clear hb p0 j0 j1 j2
        go_wp2_with (go_at_call 46; (with_reducible refine (SW.out _ HH1.out).mono ?_); rintro e w2 ⟨rfl, h1, h2⟩; have HH2 := Lib.hid h1; have HB2 := Lib.hid (HB1.out.same (h2.block w.heap.size HB1.out.lt HF.out)); have HO2 := Lib.hid (HO1.out.trans h2); clear h1 h2 c0 d0 d1 d2)
        go_step3
        refine ⟨rfl, HK.out q _ _ HPN.out ⟨_, T'.set n tp, _, rfl, by rw [List.length_set]; exact HL.out, by rw [List.length_set] at *; exact HH2.out, by rw [SG.out]; exact ST2.out, by rw [SG.out]; exact SP.out.trans HP.out, HO2.out, HB2.out, _, _, _, _, _, _, _, _, _, _, _, _, _, _, _, _, _, _, _, _, _, _, _, _, _, _, _, _, _, _, _, _, _,  rfl⟩⟩
  · intro K hpass
    go_wp2
    go_step3
    rename_i hback
    exact hback _ _ (hpass i _ _ ⟨_, T, g, rfl, rfl, H0.out, U0.out, List.Perm.refl _, HWA.out, HX.out, _, _, _, _, _, _, _, _, _, _, _, _, _, _, _, _, _, _, _, _, _, _, _, _, _, _, _, _, _, _, _, _, _,  rfl⟩)
end Go.Proofs.Ytkhnkhkpjgemkaa
/- Stage 13's program: the one below that is ahead; down. -/
namespace Go.Proofs.Ytkhnkhkpjgemkaa
open Go.RowKit

/-- c is the one below i that is ahead; beyond the end, if there is none -/
structure Under (T : List Th) (i c : Nat) : Prop where
  who : c = 2 * i + 1 ∨ c = 2 * i + 2
  all : ∀ k, 0 < k → k < T.length → par k = i → ahead (tg T k) (tg T c) = false
  some : T.length ≤ c → T.length ≤ 2 * i + 1

set_option maxHeartbeats 4000000 in
set_option maxRecDepth 100000 in
theorem hUnder_any {F : Nat → Prop} {p : Nat} {v : Value} {b m : Nat} {T : List Th} {g : Int → Option Nat} (i : Nat) (w : World) (h : RawAt F w p v b T m g) (hi : i < T.length) (hn : T.length ≤ 1000000) :
    Calls Try.prog 55 #[ptr13 p, .int .i64 (i : Int)] w fun e w' => ∃ c : Nat, e = .returned (.int .i64 (c : Int)) ∧ Under T i c ∧ Below w.heap.size w w' := by
  obtain ⟨gb, o, cap, rfl, hlc, _⟩ := h.own.th i hi
  have p0 := h.blk.cell 0 rfl
  have X1 : (i : Int) < (T.length : Int) := by omega
  have X2 : (0 : Int) ≤ (i : Int) := by omega
  have X5 : (T.length : Int) ≤ 1000000 := by omega
  by_cases hc : 2 * i + 2 < T.length
  · have C1 : (2 : Int) * (i : Int) + 2 < (T.length : Int) := by omega
    have C2 : decide ((2 : Int) * (i : Int) + 2 < (T.length : Int)) = true := by simp; omega
    have D1 : (2 : Int) * (i : Int) + 1 < (T.length : Int) := by omega
    have D2 : (0 : Int) ≤ (2 : Int) * (i : Int) + 1 := by omega
    have D3 : (0 : Int) ≤ (2 : Int) * (i : Int) + 2 := by omega
    obtain ⟨_, _, _, e, _, ⟨i0, i1, i2⟩, _⟩ := h.own.th (2 * i + 2) hc
    cases e
    obtain ⟨_, _, _, e, _, ⟨j0, j1, j2⟩, _⟩ := h.own.th (2 * i + 1) (by omega)
    cases e
    have GA := Lib.hid fun w1 => hAhead_any (tg T (2 * i + 2)) (tg T (2 * i + 1)) w1
    have N1 : ((2 : Int) * (i : Int) + 2).toNat = 2 * i + 2 := by omega
    have N2 : ((2 : Int) * (i : Int) + 1).toNat = 2 * i + 1 := by omega
    cases ha : ahead (tg T (2 * i + 2)) (tg T (2 * i + 1)) with
    | true =>
      have HU := Lib.hid (show Under T i (2 * i + 2) from ⟨.inr rfl, fun k k0 hk hp => by
        by_cases e : k = 2 * i + 2
        · rw [e]; exact ahead_irr _
        · have : k = 2 * i + 1 := by unfold par at hp; omega
          rw [this]; exact ahead_asym ha, fun h => by omega⟩)
      rw [ha] at GA
      generalize tg T (2 * i + 1) = t1 at *
      generalize tg T (2 * i + 2) = t2 at *
      clear ha h hc
      go_enter Try.func55, Try.ntmps55
      go_wp2
      refine wp_region_calm0 (by kernel_rfl) (by kernel_rfl) fun M => ?_
      have e0 := fun n : In M.w => n.cell (M.cell p0)
      have m0 := fun n : In M.w => n.cell (M.cell i0)
      have m1 := fun n : In M.w => n.cell (M.cell i1)
      have m2 := fun n : In M.w => n.cell (M.cell i2)
      have k0 := fun n : In M.w => n.cell (M.cell j0)
      have k1 := fun n : In M.w => n.cell (M.cell j1)
      have k2 := fun n : In M.w => n.cell (M.cell j2)
      repeat (go_big_quiet_step ((go_at_call 56; with_reducible exact In.call (GA.out _))))
      refine wpQuiet_nil ?_
      clear e0 m0 m1 m2 k0 k1 k2 M
      intro w1 hb
      go_wp2
      exact bodyPost_ret (v := .int .i64 (2 * (i : Int) + 2)) (by simp [results, Try.results55, go_sem]) rfl ⟨2 * i + 2, by congr 2, HU.out, hb⟩
    | false =>
      have HU := Lib.hid (show Under T i (2 * i + 1) from ⟨.inl rfl, fun k k0 hk hp => by
        by_cases e : k = 2 * i + 1
        · rw [e]; exact ahead_irr _
        · have : k = 2 * i + 2 := by unfold par at hp; omega
          rw [this]; exact ha, fun h => by omega⟩)
      rw [ha] at GA
      generalize tg T (2 * i + 1) = t1 at *
      generalize tg T (2 * i + 2) = t2 at *
      clear ha h hc
      go_enter Try.func55, Try.ntmps55
      go_wp2
      refine wp_region_calm0 (by kernel_rfl) (by kernel_rfl) fun M => ?_
      have e0 := fun n : In M.w => n.cell (M.cell p0)
      have m0 := fun n : In M.w => n.cell (M.cell i0)
      have m1 := fun n : In M.w => n.cell (M.cell i1)
      have m2 := fun n : In M.w => n.cell (M.cell i2)
      have k0 := fun n : In M.w => n.cell (M.cell j0)
      have k1 := fun n : In M.w => n.cell (M.cell j1)
      have k2 := fun n : In M.w => n.cell (M.cell j2)
      repeat (go_big_quiet_step ((go_at_call 56; with_reducible exact In.call (GA.out _))))
      refine wpQuiet_nil ?_
      clear e0 m0 m1 m2 k0 k1 k2 M
      intro w1 hb
      go_wp2
      exact bodyPost_ret (v := .int .i64 (2 * (i : Int) + 1)) (by simp [results, Try.results55, go_sem]) rfl ⟨2 * i + 1, by congr 2, HU.out, hb⟩
  · have C2 : decide ((2 : Int) * (i : Int) + 2 < (T.length : Int)) = false := by simp; omega
    have HU := Lib.hid (show Under T i (2 * i + 1) from ⟨.inl rfl, fun k k0 hk hp => by
        have : k = 2 * i + 1 := by unfold par at hp; omega
        rw [this]; exact ahead_irr _, fun h => h⟩)
    clear h hc
    go_enter Try.func55, Try.ntmps55
    go_wp2
    refine wp_region_calm0 (by kernel_rfl) (by kernel_rfl) fun M => ?_
    have e0 := fun n : In M.w => n.cell (M.cell p0)
    repeat (go_big_quiet_step (fail))
    refine wpQuiet_nil ?_
    clear e0 M
    intro w1 hb
    go_wp2
    exact bodyPost_ret (v := .int .i64 (2 * (i : Int) + 1)) (by simp [results, Try.results55, go_sem]) rfl ⟨2 * i + 1, by congr 2, HU.out, hb⟩
end Go.Proofs.Ytkhnkhkpjgemkaa
/- Stage 13's program: down; what is laid in a gap. -/
namespace Go.Proofs.Ytkhnkhkpjgemkaa
open Go.RowKit

def hpL (L : List Th) (_ : Nat) : Prop := hp L
set_option maxHeartbeats 4000000 in
set_option maxRecDepth 100000 in
theorem hDown_any {F : Nat → Prop} {p : Nat} {v : Value} {b : Nat} {T : List Th} {g : Int → Option Nat} (i : Nat) (x : Th) (w : World) (h : GapAt F w p v b T g i x) (hu : dnI (T.set i x) i) (hn : T.length ≤ 1000000) :
    Calls Try.prog 44 #[ptr13 p, .int .i64 (i : Int), .agg #[.int .i64 x.id, .int .i64 x.key, .int .i64 x.seq]] w fun e w' => ∃ j : Nat, e = .returned (.int .i64 (j : Int)) ∧ Moved hpL F w w' p v b (T.set i x) x j := by
  have hal := (Below.refl w.heap.size w).alloc (Nat.le_refl _) (.cells #[.int .i64 x.id, .int .i64 x.key, .int .i64 x.seq] 66)
  have HX := Lib.hid (Blk.new w [.int .i64 x.id, .int .i64 x.key, .int .i64 x.seq] 66)
  have HWA := Lib.hid (Only.of_below (F := F) hal)
  have HF := Lib.hid (show ¬ F w.heap.size from fun hf => by obtain ⟨m, h1⟩ := h.raw; have := h1.lt _ hf; omega)
  have H0 := Lib.hid (h.kept hal)
  have U0 := Lib.hid hu
  have I0 := Lib.hid h.lt
  have HN := Lib.hid hn
  have HL0 := Lib.hid (show (T.set i x).length = T.length from List.length_set ..)
  clear h hu hal
  go_enter Try.func44, Try.ntmps44
  go_wp2
  refine wp_scope_goto 0 (fun m a' w' => ∃ (n : Nat) (X : Int) (T' : List Th) (g' : Int → Option Nat), X = n ∧ m = T.length - n ∧ T'.length = T.length ∧ GapAt F w' p v b T' g' n x ∧ dnI (T'.set n x) n ∧ (T'.set n x).Perm (T.set i x) ∧ Only F w w' ∧ Blk w' w.heap.size [.int .i64 x.id, .int .i64 x.key, .int .i64 x.seq] ∧ ∃ u2 u3 u4 u6 u7 u8 u9 u10 u11 u12 u13 u14 u15 u16 u17 u18 u19 u20 u21 u22 u23 u24 u25 u26 u27 u28 u29 u30 u31 u32 u33 u34 u35 u36 u37 u38 u39 u40, a' = { tmps := #[ptr13 p, .int .i64 X, u2, u3, u4, .pointer (some ⟨w.heap.size, 0, none⟩), u6, u7, u8, u9, u10, u11, u12, u13, u14, u15, u16, u17, u18, u19, u20, u21, u22, u23, u24, u25, u26, u27, u28, u29, u30, u31, u32, u33, u34, u35, u36, u37, u38, u39, u40], defers := [] }) rfl rfl ?_ ?_
  · rintro m a' w' ⟨n, X, T', g', hX, hm, hlen, hH, hU, hP, hO, hBx, u2, u3, u4, u6, u7, u8, u9, u10, u11, u12, u13, u14, u15, u16, u17, u18, u19, u20, u21, u22, u23, u24, u25, u26, u27, u28, u29, u30, u31, u32, u33, u34, u35, u36, u37, u38, u39, u40, rfl⟩ K hK
    have HK := Lib.hid hK
    have HH := Lib.hid hH
    have HU := Lib.hid hU
    have HP := Lib.hid hP
    have HO := Lib.hid hO
    have HL := Lib.hid hlen
    have HB := Lib.hid hBx
    have HM := Lib.hid hm
    have hnl := hH.lt
    obtain ⟨mm, hraw⟩ := hH.raw
    have HUN := Lib.hid (hUnder_any n w' hraw hnl (by omega))
    obtain ⟨gb, o, cap, rfl, hlc, _⟩ := hraw.own.th n hnl
    have HNL := Lib.hid hnl
    have X5 : (T'.length : Int) ≤ 1000000 := by omega
    clear hK hU hP hO hm hraw hlen
    subst hX
    go_upto_region 2 with (go_at_call 55; (with_reducible refine HUN.out.mono ?_); rintro e w1 ⟨c, rfl, hc, hb⟩; have HC := Lib.hid hc; have HH1 := Lib.hid (HH.out.kept hb); have HO1 := Lib.hid (HO.out.trans (Only.of_below hb)); have HB1 := Lib.hid (HB.out.kept hb); clear hc hb)
    clear HH HO HB HUN hH hBx
    obtain ⟨mm, hraw⟩ := HH1.out.raw
    have p0 := hraw.blk.cell 0 rfl
    by_cases hcl : c < T'.length
    · have hcn : c ≠ n := by have := HC.out.who; omega
      have C1 : decide ((c : Int) < (T'.length : Int)) = true := by simp; omega
      have C3 : decide (c < T'.length) = true := by simp; omega
      have C2 : (c : Int) < (T'.length : Int) := by omega
      have C0 : (0 : Int) ≤ (c : Int) := by omega
      obtain ⟨_, _, _, e, _, ⟨j0, j1, j2⟩, _⟩ := hraw.own.th c hcl
      cases e
      have i0 := HB1.out.cell 0 rfl
      have i1 := HB1.out.cell 1 rfl
      have i2 := HB1.out.cell 2 rfl
      have GA := Lib.hid fun w1 => hAhead_any (tg T' c) x w1
      have SW := Lib.hid fun w1 (h1 : GapAt F w1 p (.slice (some ⟨gb, o, none⟩) T'.length cap) b T' g' n x) => hMove_any c w1 h1 hcl hcn (by omega)
      have e1 := tg_in T' n x HNL.out
      have e2 := tg_out T' n c x HNL.out hcn
      have hsl : (T'.set n x).length = T'.length := List.length_set ..
      have c0 : 0 < c := by have := HC.out.who; omega
      have hpc : par c = n := by have := HC.out.who; unfold par; omega
      have hall : ∀ k, 0 < k → k < (T'.set n x).length → par k = n → ahead (tg (T'.set n x) k) (tg (T'.set n x) c) = false := fun k k0 hk hp => by
        rw [hsl] at hk
        rw [e2, tg_out T' n k x HNL.out (by unfold par at hp; omega)]
        exact HC.out.all k k0 hk hp
      have ST := Lib.hid fun ha => HU.out.step c0 (by rw [hsl]; exact hcl) hpc hall (by rw [e1, e2]; exact ha)
      have HDN := Lib.hid fun (ha : ahead (tg T' c) x = false) => HU.out.done fun k k0 hk hp => by
        have h1 := hall k k0 hk hp
        rw [e1]
        rw [e2] at h1
        exact nah_trans ha h1
      have SG := Lib.hid (gap_swap (x := x) HNL.out hcn)
      have SP := Lib.hid (swapT_perm (T'.set n x) n c (by rw [hsl]; exact HNL.out) (by rw [hsl]; exact hcl))
      have HCN := Lib.hid (show n < c by have := HC.out.who; omega)
      have HCL := Lib.hid hcl
      clear hraw e1 e2 hsl c0 hpc hall hcn hcl
      cases ha : ahead (tg T' c) x with
      | false =>
        have HD := Lib.hid (HDN.out ha)
        rw [ha] at GA
        generalize tg T' c = tp at *
        clear ha HDN ST
        go_wp2
        refine wp_region_calm0 (by kernel_rfl) (by kernel_rfl) fun M => ?_
        have e0 := fun n : In M.w => n.cell (M.cell p0)
        have m0 := fun n : In M.w => n.cell (M.cell i0)
        have m1 := fun n : In M.w => n.cell (M.cell i1)
        have m2 := fun n : In M.w => n.cell (M.cell i2)
        have k0 := fun n : In M.w => n.cell (M.cell j0)
        have k1 := fun n : In M.w => n.cell (M.cell j1)
        have k2 := fun n : In M.w => n.cell (M.cell j2)
        repeat (go_big_quiet_step ((go_at_call 56; with_reducible exact In.call (GA.out _))))
        refine wpQuiet_nil ?_
        clear e0 m0 m1 m2 k0 k1 k2 M
        intro w2 hb
        have HF2 := Lib.hid (show Moved hpL F w w2 p (.slice (some ⟨gb, o, none⟩) T'.length cap) b (T.set i x) x n from ⟨T', g', HH1.out.kept hb, HD.out, HP.out, by rw [HL0.out]; exact HL.out, HO1.out.trans (Only.of_below hb)⟩)
        go_wp2
        simp only [Exit.jump]
        exact bodyPost_ret (v := .int .i64 (n : Int)) (by simp [results, Try.results44, go_sem]) rfl ⟨n, rfl, HF2.out⟩
      | true =>
        have ST2 := Lib.hid (ST.out ha)
        rw [ha] at GA
        generalize tg T' c = tp at *
        clear ha HDN ST
        go_wp2
        refine wp_region_calm0 (by kernel_rfl) (by kernel_rfl) fun M => ?_
        have e0 := fun n : In M.w => n.cell (M.cell p0)
        have m0 := fun n : In M.w => n.cell (M.cell i0)
        have m1 := fun n : In M.w => n.cell (M.cell i1)
        have m2 := fun n : In M.w => n.cell (M.cell i2)
        have k0 := fun n : In M.w => n.cell (M.cell j0)
        have k1 := fun n : In M.w => n.cell (M.cell j1)
        have k2 := fun n : In M.w => n.cell (M.cell j2)
        repeat (go_big_quiet_step ((go_at_call 56; with_reducible exact In.call (GA.out _))))
        refine wpQuiet_nil ?_
        clear e0 m0 m1 m2 k0 k1 k2 M
        clear i0 i1 i2
        intro w2 hb
        have HH2 := Lib.hid (HH1.out.kept hb)
        have HO2 := Lib.hid (HO1.out.trans (Only.of_below hb))
        have HB2 := Lib.hid (HB1.out.kept hb)
        have c0 := (World.cell?_of_block (a := ⟨p, 0, none⟩) (hb.block p (World.block_lt_of_cell? _ _ p0))).trans p0
        have d0 := (World.cell?_of_block (a := ⟨gb, o + c * 3, none⟩) (hb.block gb (World.block_lt_of_cell? _ _ j0))).trans j0
        have d1 := (World.cell?_of_block (a := ⟨gb, o + c * 3 + 1, none⟩) (hb.block gb (World.block_lt_of_cell? _ _ j0))).trans j1
        have d2 := (World.cell?_of_block (a := ⟨gb, o + c * 3 + 2, none⟩) (hb.block gb (World.block_lt_of_cell? _ _ j0))).trans j2
        clear hb p0 j0 j1 j2
        go_wp2_with (go_at_call 46; (with_reducible refine (SW.out _ HH2.out).mono ?_); rintro e w3 ⟨rfl, h1, h2⟩; have HH3 := Lib.hid h1; have HB3 := Lib.hid (HB2.out.same (h2.block w.heap.size HB2.out.lt HF.out)); have HO3 := Lib.hid (HO2.out.trans h2); clear h1 h2 c0 d0 d1 d2)
        go_step3
        refine ⟨rfl, HK.out (T.length - c) _ _ (by have := HM.out; have := HCN.out; have := HCL.out; have := HL.out; omega) ⟨c, _, T'.set n tp, _, rfl, rfl, by rw [List.length_set]; exact HL.out, by rw [List.length_set] at *; exact HH3.out, by rw [SG.out]; exact ST2.out, by rw [SG.out]; exact SP.out.trans HP.out, HO3.out, HB3.out, _, _, _, _, _, _, _, _, _, _, _, _, _, _, _, _, _, _, _, _, _, _, _, _, _, _, _, _, _, _, _, _, _, _, _, _, _, _,  rfl⟩⟩
    · have C1 : decide ((c : Int) < (T'.length : Int)) = false := by simp; omega
      have C3 : decide (c < T'.length) = false := by simp; omega
      have HD := Lib.hid (HU.out.done fun k k0 hk hp => by
        rw [List.length_set] at hk
        have := HC.out.some (by omega)
        unfold par at hp
        omega)
      clear hraw hcl
      go_wp2
      refine wp_region_calm0 (by kernel_rfl) (by kernel_rfl) fun M => ?_
      have e0 := fun n : In M.w => n.cell (M.cell p0)
      repeat (go_big_quiet_step (fail))
      refine wpQuiet_nil ?_
      clear e0 M
      intro w2 hb
      have HF2 := Lib.hid (show Moved hpL F w w2 p (.slice (some ⟨gb, o, none⟩) T'.length cap) b (T.set i x) x n from ⟨T', g', HH1.out.kept hb, HD.out, HP.out, by rw [HL0.out]; exact HL.out, HO1.out.trans (Only.of_below hb)⟩)
      go_wp2
      simp only [Exit.jump]
      exact bodyPost_ret (v := .int .i64 (n : Int)) (by simp [results, Try.results44, go_sem]) rfl ⟨n, rfl, HF2.out⟩
  · intro K hpass
    go_wp2
    go_step3
    rename_i hback
    exact hback _ _ (hpass (T.length - i) _ _ ⟨i, _, T, g, rfl, rfl, rfl, H0.out, U0.out, List.Perm.refl _, HWA.out, HX.out, _, _, _, _, _, _, _, _, _, _, _, _, _, _, _, _, _, _, _, _, _, _, _, _, _, _, _, _, _, _, _, _, _, _, _, _, _, _,  rfl⟩)
end Go.Proofs.Ytkhnkhkpjgemkaa
/- Stage 13's program: what is laid in a gap; New, Put. -/
namespace Go.Proofs.Ytkhnkhkpjgemkaa
open Go.RowKit

/-- the heap's memory, its places and ids -/
def HpAt (F : Nat → Prop) (w : World) (p : Nat) (v : Value) (b : Nat) (T : List Th) (g : Int → Option Nat) : Prop := RawAt F w p v b T T.length g ∧ Pos T g ∧ ∀ y ∈ T, I64 y.id
theorem GapAt.laid {F : Nat → Prop} {w : World} {p : Nat} {v : Value} {b : Nat} {T : List Th} {g : Int → Option Nat} {i : Nat} {x : Th} (h : GapAt F w p v b T g i x) (hn : T.length ≤ 1000000) :
    Calls Try.prog 46 #[ptr13 p, .int .i64 (i : Int), .agg #[.int .i64 x.id, .int .i64 x.key, .int .i64 x.seq]] w fun e w' => e = .returned (.tuple #[]) ∧ HpAt F w' p v b (T.set i x) (upd g x.id (some i)) ∧ Only F w w' := by
  obtain ⟨m, h1, h2, hi, h3, h4⟩ := h
  have hy : I64 x.id := by
    have := h4 ((T.set i x)[i]'(by rw [List.length_set]; exact hi)) (List.getElem_mem _)
    rwa [List.getElem_set_self] at this
  refine (hSet_any i x w h1 hi hn (by split at h2 <;> omega) hy).mono ?_
  rintro e w' ⟨rfl, h5, h6⟩
  rw [h2] at h5
  refine ⟨rfl, ⟨?_, h3, h4⟩, h6⟩
  rw [List.length_set]
  exact h5

set_option maxHeartbeats 4000000 in
set_option maxRecDepth 100000 in
theorem hFill_any {F : Nat → Prop} {p : Nat} {v : Value} {b : Nat} {T : List Th} {g : Int → Option Nat} (i : Nat) (x : Th) (w : World) (h : GapAt F w p v b T g i x) (hu : fixI (T.set i x) i) (hn : T.length ≤ 1000000) :
    Calls Try.prog 31 #[ptr13 p, .int .i64 (i : Int), .agg #[.int .i64 x.id, .int .i64 x.key, .int .i64 x.seq]] w fun e w' => e = .returned (.tuple #[]) ∧ ∃ T' g', HpAt F w' p v b T' g' ∧ hp T' ∧ T'.Perm (T.set i x) ∧ Only F w w' := by
  have hal := ((Below.refl w.heap.size w).alloc (Nat.le_refl _) (.cells #[.int .i64 x.id, .int .i64 x.key, .int .i64 x.seq] 66)).drew
  have hX := (Blk.new w [.int .i64 x.id, .int .i64 x.key, .int .i64 x.seq] 66).drew
  have hwa := Only.of_below (F := F) hal
  have hF : ¬ F w.heap.size := fun hf => by obtain ⟨m, h1⟩ := h.raw; have := h1.lt _ hf; omega
  have H0 := h.kept hal
  have hl0 : (T.set i x).length = T.length := List.length_set ..
  have UP := Lib.hid (hUp_any i x _ H0 hu hn)
  have HF := Lib.hid hF
  have HN := Lib.hid hn
  have HL0 := Lib.hid hl0
  have HWA := Lib.hid hwa
  have HXB := Lib.hid hX
  have x0 := hX.cell 0 rfl
  have x1 := hX.cell 1 rfl
  have x2 := hX.cell 2 rfl
  clear h hu hal hl0 hwa hX H0 hF
  go_enter Try.func31, Try.ntmps31
  go_wp2
  go_region_with (first
    | (go_at_call 45; (with_reducible refine UP.out.mono ?_); rintro e w1 ⟨j, rfl, T1, g1, hG1, hD1, hP1, hl1, hO1⟩; have HX1 := Lib.hid (HXB.out.same (hO1.block _ HXB.out.lt HF.out)); have y0 := HX1.out.cell 0 rfl; have y1 := HX1.out.cell 1 rfl; have y2 := HX1.out.cell 2 rfl; have DN := Lib.hid (hDown_any j x w1 hG1 hD1 (by have := HN.out; have := HL0.out; omega)); have HP1 := Lib.hid hP1; have HL1 := Lib.hid hl1; have HO1 := Lib.hid (HWA.out.trans hO1); clear hG1 hD1 hP1 hl1 hO1)
    | (go_at_call 44; (with_reducible refine DN.out.mono ?_); rintro e w2 ⟨k, rfl, T2, g2, hG2, hD2, hP2, hl2, hO2⟩; have ST := Lib.hid (hG2.laid (by have := HN.out; have := HL0.out; have := HL1.out; rw [List.length_set] at hl2; omega)); have HX2 := HX1.out.same (hO2.block _ HX1.out.lt HF.out); have z0 := HX2.cell 0 rfl; have z1 := HX2.cell 1 rfl; have z2 := HX2.cell 2 rfl; clear HX2; have HD2 := Lib.hid (show hp (T2.set k x) from hD2); have HP2 := Lib.hid (hP2.trans HP1.out); have HO2 := Lib.hid (HO1.out.trans hO2); clear hG2 hD2 hP2 hl2 hO2))
  all_goals (
    go_wp2_with (go_at_call 46; (with_reducible refine ST.out.mono ?_); rintro e w3 ⟨rfl, h3, h4⟩)
    go_end0
    exact ⟨rfl, _, _, h3, HD2.out, HP2.out, HO2.out.trans h4⟩)
end Go.Proofs.Ytkhnkhkpjgemkaa
/- Stage 13's program: New, Put, Drop, First, Pop, Has, Len. -/
namespace Go.Proofs.Ytkhnkhkpjgemkaa
open Go.RowKit

def frsT : List Th → Int × Bool
  | [] => (0, false)
  | x :: _ => (x.id, true)
/-- a heap of these things, in order; all its blocks are of F -/
def HeapAt (F : Nat → Prop) (w : World) (p : Nat) (S : List Th) : Prop := ∃ v b T g, HpAt F w p v b T g ∧ hp T ∧ T.Perm S ∧ srtT S
section
variable {F : Nat → Prop} {w w' : World} {p : Nat} {S : List Th}
theorem RawAt.out {v : Value} {b m : Nat} {T : List Th} {g : Int → Option Nat} (h : RawAt F w p v b T m g) (hz : w.heap.size ≤ w'.heap.size) (he : ∀ k, F k → w'.heap[k]? = w.heap[k]?) : RawAt F w' p v b T m g :=
  ⟨h.blk.same (he p h.fp), h.own.same hz fun k e => he k (h.fv k e).1, h.map.same (he b h.fb), h.fp, h.fb, h.fv, fun k hk => Nat.lt_of_lt_of_le (h.lt k hk) hz⟩
theorem HeapAt.out (h : HeapAt F w p S) (hz : w.heap.size ≤ w'.heap.size) (he : ∀ k, F k → w'.heap[k]? = w.heap[k]?) : HeapAt F w' p S := by
  obtain ⟨v, b, T, g, ⟨h1, h2⟩, h3⟩ := h
  exact ⟨v, b, T, g, ⟨h1.out hz he, h2⟩, h3⟩
theorem HeapAt.lt (h : HeapAt F w p S) : ∀ k, F k → k < w.heap.size := by
  obtain ⟨v, b, T, g, ⟨h1, h2⟩, h3⟩ := h
  exact h1.lt
theorem HeapAt.kept (h : HeapAt F w p S) (hb : Below w.heap.size w w') : HeapAt F w' p S := h.out hb.size fun k hk => hb.block k (h.lt k hk)
theorem HeapAt.away (h : HeapAt F w p S) (a : Addr) (u : Value) (hf : ¬ F a.block) : HeapAt F (w.setCell a u) p S :=
  h.out (by simp [World.setCell]) fun k hk => Below.heap_setCell w a u k fun e => hf (e ▸ hk)
theorem HeapAt.srt (h : HeapAt F w p S) : srtT S := by
  obtain ⟨v, b, T, g, h1, h2, h3, h4⟩ := h
  exact h4
theorem HeapAt.i64 (h : HeapAt F w p S) : ∀ x ∈ S, I64 x.id := by
  obtain ⟨v, b, T, g, ⟨_, _, h1⟩, h2, h3, h4⟩ := h
  exact fun x hx => h1 x (h3.mem_iff.2 hx)
end
theorem upd_self {g : Int → Option Nat} {id : Int} {i : Nat} (h : g id = some i) : upd g id (some i) = g := by
  funext k
  unfold upd
  by_cases hk : k = id
  · rw [if_pos hk, hk, h]
  · rw [if_neg hk]
theorem pos_has {T S : List Th} {g : Int → Option Nat} (h : Pos T g) (hp : T.Perm S) (id : Int) : hasT S id = (g id).isSome := by
  cases hg : g id with
  | none =>
    cases hh : hasT S id with
    | false => rfl
    | true =>
      obtain ⟨y, hy, e⟩ := hasT_iff.1 hh
      exact absurd e (h.no hg y (hp.mem_iff.2 hy))
  | some i =>
    obtain ⟨hi, e⟩ := (h id i).1 hg
    rw [tg_get _ _ hi] at e
    exact hasT_iff.2 ⟨T[i], hp.mem_iff.1 (List.getElem_mem hi), e⟩

set_option maxHeartbeats 2000000 in
theorem hNew_any (w : World) : Calls Try.prog 18 #[] w fun e w' => ∃ p F, e = .returned (ptr13 p) ∧ (∀ k, F k → w.heap.size ≤ k) ∧ HeapAt F w' p [] ∧ Below w.heap.size w w' := by
  have hm := MapN.new w
  have hb := (Below.refl w.heap.size w).alloc (Nat.le_refl _) (.map #[] 0)
  have hr : RawAt (fun k => k = w.heap.size ∨ k = w.heap.size + 1) ((w.alloc (.map #[] 0)).alloc (.cells #[.slice none 0 0, .map (some w.heap.size)] 62)) (w.heap.size + 1) (.slice none 0 0) w.heap.size [] 0 (fun _ => none) := by
    refine ⟨?_, .inl ⟨rfl, rfl⟩, hm.kept ((Below.refl _ _).alloc (Nat.le_refl _) _), .inr rfl, .inl rfl, fun k e => by simp [Value.ownBlock] at e, fun k e => by simp; omega⟩
    have := Blk.new (w.alloc (.map #[] 0)) [.slice none 0 0, .map (some w.heap.size)] 62
    simpa using this
  have HR := Lib.hid hr
  have HB := Lib.hid (hb.alloc (by simp) (.cells #[.slice none 0 0, .map (some w.heap.size)] 62))
  have hmk : (Instr.makeMap 59 none).run Try.prog w = .ok (.map (some w.heap.size)) (w.alloc (.map #[] 0)) := by kernel_rfl
  clear hm hb hr
  go_enter Try.func18, Try.ntmps18
  go_wp2
  go_ret
  exact ⟨_, fun k => k = w.heap.size ∨ k = w.heap.size + 1, rfl, fun k e => by omega, ⟨_, _, [], _, ⟨HR.out, Pos.nil, by simp⟩, fun k h0 hk => by simp at hk, List.Perm.refl _, srtT_nil⟩, HB.out⟩

set_option maxHeartbeats 2000000 in
theorem hFind_any {F : Nat → Prop} {p : Nat} {v : Value} {b m : Nat} {T : List Th} {g : Int → Option Nat} (id : Int) (w : World) (h : RawAt F w p v b T m g) (hi : I64 id) :
    Calls Try.prog 30 #[ptr13 p, .int .i64 id] w fun e w' => e = .returned (.tuple #[.int .i64 (((g id).getD 0 : Nat) : Int), .bool (g id).isSome]) ∧ w' = w := by
  have p0 := h.blk.cell 1 rfl
  have HM := Lib.hid h.map
  have HI := Lib.hid hi
  obtain ⟨n, hn⟩ : ∃ n : Int, (((g id).getD 0 : Nat) : Int) = n := ⟨_, rfl⟩
  obtain ⟨t, ht⟩ : ∃ t, (g id).isSome = t := ⟨_, rfl⟩
  rw [hn, ht]
  have HN := Lib.hid hn
  have HT := Lib.hid ht
  clear h hi hn ht
  go_enter Try.func30, Try.ntmps30
  go_wp2_with (at_lookup; refine wpList_lookN rfl _ _ rfl rfl HM.out id HI.out rfl ?_; rw [HN.out, HT.out])
  exact bodyPost_ret (v := .tuple #[.int .i64 n, .bool t]) (by simp [results, Try.results30, go_sem]) rfl ⟨rfl, rfl⟩
theorem hFind_nil (id : Int) (w : World) : Calls Try.prog 30 #[.pointer none, .int .i64 id] w fun e w' => e = .returned (.tuple #[.int .i64 0, .bool false]) ∧ w' = w := by
  go_enter Try.func30, Try.ntmps30
  go_wp2
  exact bodyPost_ret (v := .tuple #[.int .i64 0, .bool false]) (by simp [results, Try.results30, go_sem]) rfl ⟨rfl, rfl⟩
end Go.Proofs.Ytkhnkhkpjgemkaa
/- Stage 13's program: Put. -/
namespace Go.Proofs.Ytkhnkhkpjgemkaa
open Go.RowKit

abbrev zTh : Th := ⟨0, 0, 0⟩
theorem info_hth : (Try.prog.info? 66).map (fun i => (i.zero, i.size, i.bytes)) = some (some (.agg #[.int .i64 0, .int .i64 0, .int .i64 0]), 3, 24) := by kernel_rfl
theorem oneZ (w : World) : ThAt (w.alloc (.cells #[.int .i64 0, .int .i64 0, .int .i64 0] 66)) (.slice (some ⟨w.heap.size, 0, none⟩) 1 1) [zTh] := by
  refine ⟨_, 1, rfl, Nat.le_refl _, fun _ => ⟨w.heap.size, 0, rfl, by simp, fun j y hj i u hu => ?_⟩⟩
  have h0 : j = 0 ∧ y = zTh := by
    cases j with
    | zero => simp at hj; exact ⟨rfl, hj.symm⟩
    | succ j => simp at hj
  obtain ⟨rfl, rfl⟩ := h0
  rcases i with _ | _ | _ | i
  · simp [csT] at hu; subst hu; go_simp
  · simp [csT] at hu; subst hu; go_simp
  · simp [csT] at hu; subst hu; go_simp
  · simp [csT] at hu

set_option maxHeartbeats 4000000 in
set_option maxRecDepth 100000 in
theorem hPut_any {F : Nat → Prop} {p : Nat} {S : List Th} (x : Th) (w : World) (h : HeapAt F w p S) (hn : S.length ≤ 1000) (hx : I64 x.id) :
    Calls Try.prog 20 #[ptr13 p, .int .i64 x.id, .int .i64 x.key, .int .i64 x.seq] w fun e w' => e = .returned (.bool (!hasT S x.id)) ∧ ∃ F', HeapAt F' w' p (putT S x) ∧ Mv F F' w w' := by
  obtain ⟨v, b, T, g, ⟨hr, hpos, hids⟩, hhp, hP, hS⟩ := h
  have hlen := hP.length_eq
  rw [pos_has hpos hP]
  have HF := Lib.hid (hFind_any x.id w hr hx)
  have HS := Lib.hid (srtT_put hS x)
  cases hg : g x.id with
  | some i =>
    rw [hg] at HF
    simp only [Option.getD_some, Option.isSome_some] at HF ⊢
    obtain ⟨hi, he⟩ := (hpos x.id i).1 hg
    have hl : (T.set i x).length = T.length := List.length_set ..
    have hgap : GapAt F w p v b T g i x := ⟨T.length, hr, by rw [hg]; rfl, hi, by rw [upd_self hg]; exact hpos.set hi he, fun y hy => by
      rcases List.mem_or_eq_of_mem_set hy with h1 | h1
      · exact hids y h1
      · rw [h1]; exact hx⟩
    have HG := Lib.hid (hFill_any i x w hgap (hhp.set hi x) (by omega))
    have HPm := Lib.hid (put_in hpos.dst hP hi he)
    clear hr hpos hids hhp hP hS hlen hg hi he hl hgap
    go_enter Try.func20, Try.ntmps20
    go_wp2_with (first
      | (go_at_call 30; (with_reducible refine HF.out.mono ?_); rintro e w1 ⟨rfl, rfl⟩)
      | (go_at_call 31; (with_reducible refine HG.out.mono ?_); rintro e w2 ⟨rfl, T', g', h1, h2, h3, h4⟩))
    go_ret
    exact ⟨rfl, F, ⟨v, b, T', g', h1, h2, h3.trans HPm.out, HS.out⟩, ⟨h4, fun k hk => .inl hk⟩⟩
  | none =>
    rw [hg] at HF
    simp only [Option.getD_none, Option.isSome_none] at HF ⊢
    obtain ⟨i0, hi, hz0, hz1, hz2⟩ := info_parts info_hth
    have p0 := hr.blk.cell 0 rfl
    have z0 := hr.blk.free 0 rfl
    obtain ⟨a, c, rfl⟩ := hr.own.form
    have hal := (Below.refl w.heap.size w).alloc (Nat.le_refl _) (.cells #[.int .i64 0, .int .i64 0, .int .i64 0] 66)
    have HO := Lib.hid (hr.own.kept hal)
    have HZ := Lib.hid (oneZ w)
    have HGR := Lib.hid fun (w2 : World) (v' : Value) (ho : OwnO w2 3 csT v' (T ++ [zTh])) hg hv => hr.grow (w1 := w.alloc (.cells #[.int .i64 0, .int .i64 0, .int .i64 0] 66)) hal ho hg hv
    have HBK := Lib.hid fun (w2 : World) (hg : (w.alloc (.cells #[.int .i64 0, .int .i64 0, .int .i64 0] 66)).grownBy w2 (Value.slice a T.length c).ownBlock) => (hr.blk.kept hal).grown hg (fun e => (hr.fv p e.symm).2.1 rfl)
    have hset : (T ++ [zTh]).set T.length x = T ++ [x] := by simp
    have hgap : ∀ F' w' v', RawAt F' w' p v' b (T ++ [zTh]) T.length g → GapAt F' w' p v' b (T ++ [zTh]) g T.length x := fun F' w' v' h1 =>
      ⟨T.length, h1, by rw [hg]; simp, by simp, by rw [hset]; exact hpos.snoc hg, fun y hy => by
        rw [hset] at hy
        rcases List.mem_append.1 hy with h2 | h2
        · exact hids y h2
        · rw [List.mem_singleton.1 h2]; exact hx⟩
    have hfix : fixI ((T ++ [zTh]).set T.length x) T.length := by
      rw [hset]
      have := hhp.snoc x
      exact ⟨fun k h0 hk hne _ => this.rest k h0 hk hne, this.kids⟩
    have HFL := Lib.hid fun F' w' v' (h1 : RawAt F' w' p v' b (T ++ [zTh]) T.length g) => hFill_any T.length x w' (hgap F' w' v' h1) hfix (by simp; omega)
    have HPm := Lib.hid (put_new hP (hpos.no hg))
    have HSE := Lib.hid hset
    have hl1 : T.length ≤ 1000 := by omega
    clear hr hpos hids hhp hP hS hlen hgap hfix hset hg hal hn
    go_enter Try.func20, Try.ntmps20
    go_wp2_with (first
      | (go_at_call 30; (with_reducible refine HF.out.mono ?_); rintro e w1 ⟨rfl, rfl⟩)
      | (at_builtin; refine wpList_append_o rfl _ _ _ _ rfl csT_len (by decide) csT_one 66 66 i0 (.agg #[.int .i64 0, .int .i64 0, .int .i64 0]) Try.underlying60 Try.underlying60 hi hz0 hz1 rfl rfl HO.out _ [zTh] rfl HZ.out (by unfold maxLen; simp; omega) (by rw [hz2]; simp; omega) ?_; intro v' w2 h1 h2 h3; have HR := Lib.hid (HGR.out w2 v' h1 h2 h3); have hbk := HBK.out w2 h2; have q0 := hbk.cell 0 rfl; have y0 := hbk.free 0 rfl; obtain ⟨a', c', e'⟩ := h1.form; rw [List.length_append, List.length_singleton] at e'; subst e'; clear h1 h2 h3 hbk)
      | (go_at_call 31; (with_reducible refine (HFL.out _ _ _ HR.out.1).mono ?_); rintro e w2 ⟨rfl, T', g', h1, h2, h3, h4⟩))
    go_ret
    exact ⟨rfl, _, ⟨_, b, T', g', h1, h2, (by rw [HSE.out] at h3; exact h3.trans HPm.out), HS.out⟩, HR.out.2.trans ⟨h4, fun k hk => .inl hk⟩⟩
theorem hPut_nil (x : Th) (w : World) : Calls Try.prog 20 #[.pointer none, .int .i64 x.id, .int .i64 x.key, .int .i64 x.seq] w fun e w' => e = .returned (.bool false) ∧ Below w.heap.size w w' := by
  go_enter Try.func20, Try.ntmps20
  go_wp2
  go_ret
  exact ⟨rfl, Below.refl _ _⟩
end Go.Proofs.Ytkhnkhkpjgemkaa
