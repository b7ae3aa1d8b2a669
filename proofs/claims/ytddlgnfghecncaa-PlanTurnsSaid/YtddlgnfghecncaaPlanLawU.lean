/- The law PlanTurns. -/
import Derived.Test.YtddlgnfghecncaaBun9
import Derived.Test.YtddlgnfghecncaaLoose
namespace Go.Proofs.Ytddlgnfghecncaa
open Go.RowKit

theorem turns_all (n x y p1 p2 q1 q2 : Int) {l : List Ais} (h : RightP l) (hs : smallL l 200) (ht : (-200 ≤ x ∧ x ≤ 200) ∧ -200 ≤ y ∧ y ≤ 200) (hp : (-200 ≤ p1 ∧ p1 ≤ 200) ∧ -200 ≤ p2 ∧ p2 ≤ 200) (hq : (-200 ≤ q1 ∧ q1 ≤ 200) ∧ -200 ≤ q2 ∧ q2 ≤ 200) :
    ∃ r1 r2 s1 s2 : Int, (rot (qr n) (fx p1) (fx p2)).1 + fx x = r1 ∧ (rot (qr n) (fx p1) (fx p2)).2 + fx y = r2 ∧ (rot (qr n) (fx q1) (fx q2)).1 + fx x = s1 ∧ (rot (qr n) (fx q1) (fx q2)).2 + fx y = s2 ∧
      RightP (l.map (mvA n x y)) ∧ atL (l.map (mvA n x y)) r1 r2 = atL l p1 p2 ∧
      ∀ one, one = 0 ∨ one = 1 → crs7 (hitB (rway (wd r1, wd r2) (wd s1, wd s2) (oth (qr n) one))) (l.map (mvA n x y)) = crs7 (hitB (rway (wd p1, wd p2) (wd q1, wd q2) one)) l := by
  have f : ∀ z : Int, -200 ≤ z ∧ z ≤ 200 → fx z = z := fun z hz => by unfold fx; omega
  have hw : ∀ z : Int, -1000 ≤ z ∧ z ≤ 1000 → wd z = z := fun z hz => by unfold wd; omega
  have hq4 := qr_lt n
  have hb1 := rot_abs (qr n) p1 p2 200 (by omega) (by omega)
  have hb2 := rot_abs (qr n) q1 q2 200 (by omega) (by omega)
  have e1 : mov (qr n) (x, y) (p1, p2) = ((rot (qr n) p1 p2).1 + x, (rot (qr n) p1 p2).2 + y) := rfl
  have e2 : mov (qr n) (x, y) (q1, q2) = ((rot (qr n) q1 q2).1 + x, (rot (qr n) q1 q2).2 + y) := rfl
  have hmap : l.map (mvA n x y) = l.map (mvQ (qr n) (x, y)) := by
    refine List.map_congr_left fun a ha => ?_
    obtain ⟨i, hi, rfl⟩ := List.getElem_of_mem ha
    rw [← pa_get l i hi]
    have hsm := (small_iff _ _).1 (hs i hi)
    generalize pa l i = b at *
    unfold mvA mvQ rmv
    simp only
    rw [f x ht.1, f y ht.2, f b.lx (by omega), f b.ly (by omega), f b.hx (by omega), f b.hy (by omega)]
  rw [hmap, f x ht.1, f y ht.2, f p1 hp.1, f p2 hp.2, f q1 hq.1, f q2 hq.2]
  refine ⟨_, _, _, _, rfl, rfl, rfl, rfl, right_mvQ hq4 ht h hs, ?_, fun one h1 => ?_⟩
  · have := at_map hq4 (x, y) (p1, p2) (val_all h)
    rw [e1] at this
    exact this
  · have := cross_mv hq4 (x, y) (p1, p2) (q1, q2) h1 h
    rw [e1, e2] at this
    rw [hw p1 (by omega), hw p2 (by omega), hw q1 (by omega), hw q2 (by omega), hw _ (by omega), hw _ (by omega), hw _ (by omega), hw _ (by omega)]
    exact this

theorem AisAt.away2 {w : World} {v : Value} {L : List Ais} (h : AisAt w v L) {u : Nat} {a b : Value} {t : TypeId} (hu : w.heap[u]? = some (.cells #[a, b] t)) (i : Nat) (x : Value) : AisAt (w.setCell ⟨u, i, none⟩ x) v L := by
  obtain ⟨ad, cap, e, hc, hx⟩ := h
  refine ⟨ad, cap, e, hc, fun h0 => ?_⟩
  obtain ⟨g, o, e1, hg, hcell⟩ := hx h0
  have hne : g ≠ u := by
    rintro rfl
    have h4 := hcell 0 L[0] (List.getElem?_eq_getElem h0) 4 _ rfl
    simp [World.cell?, hu] at h4
  refine ⟨g, o, e1, by simpa using hg, fun j y hj k u' hk => ?_⟩
  have := hcell j y hj k u' hk
  rw [← this]
  exact World.cell?_of_block (w := w) (Below.heap_setCell w ⟨u, i, none⟩ x g hne)

theorem turns_bd {x y m : Int} (h : smallB x y m = true) : (-m ≤ x ∧ x ≤ m) ∧ -m ≤ y ∧ y ≤ m := by
  unfold smallB at h
  simp only [decide_eq_true_eq] at h
  omega
theorem odd_qr (n : Int) : Int.tmod n 2 = 0 ↔ qr n % 2 = 0 := by
  rw [← Int.dvd_iff_tmod_eq_zero, Int.dvd_iff_emod_eq_zero]
  unfold qr
  omega
theorem kp1 {w x : World} (h : Below w.heap.size w x) (o : Obj) : Below w.heap.size w (x.alloc o) := h.alloc h.size o
theorem kp2 {w x : World} (h : Below w.heap.size w x) (o p : Obj) : Below w.heap.size w ((x.alloc o).alloc p) := kp1 (kp1 h o) p

set_option maxHeartbeats 4000000 in
set_option maxRecDepth 100000 in
theorem planTurns_any (va : Value) (l : List Ais) (n x y p1 p2 q1 q2 : Int) (how : Bool) (w : World) (ha : AisAt w va l) (hl : l.length ≤ 9223372036854775807) :
    Calls Try.prog 6 #[va, .agg #[.int .i64 n, .int .i64 x, .int .i64 y], .agg #[.int .i64 p1, .int .i64 p2], .agg #[.int .i64 q1, .int .i64 q2], .bool how] w fun e w' => e = .returned (.bool true) ∧ Below w.heap.size w w' := by
  have HAL := Lib.hid fun w => pAlive_any w
  have HA := Lib.hid ha
  obtain ⟨a, c, rfl⟩ := RowsAt.form ha
  clear ha
  have hB : Below w.heap.size w (((w.alloc (.cells #[.int .i64 n, .int .i64 x, .int .i64 y] 41)).alloc (.cells #[.int .i64 p1, .int .i64 p2] 24)).alloc (.cells #[.int .i64 q1, .int .i64 q2] 24)) := (((Below.refl _ _).alloc (Nat.le_refl _) _).alloc (by simp) _).alloc (by simp; omega) _
  have hz : (((w.alloc (.cells #[.int .i64 n, .int .i64 x, .int .i64 y] 41)).alloc (.cells #[.int .i64 p1, .int .i64 p2] 24)).alloc (.cells #[.int .i64 q1, .int .i64 q2] 24)).heap.size = w.heap.size + 1 + 1 + 1 := by simp
  have CM := ((Cell3.new w (.int .i64 n) (.int .i64 x) (.int .i64 y) 41).alloc (.cells #[.int .i64 p1, .int .i64 p2] 24)).alloc (.cells #[.int .i64 q1, .int .i64 q2] 24)
  have CP := (Cell2.new (w.alloc (.cells #[.int .i64 n, .int .i64 x, .int .i64 y] 41)) (.int .i64 p1) (.int .i64 p2) 24).alloc (.cells #[.int .i64 q1, .int .i64 q2] 24)
  have CQ := Cell2.new ((w.alloc (.cells #[.int .i64 n, .int .i64 x, .int .i64 y] 41)).alloc (.cells #[.int .i64 p1, .int .i64 p2] 24)) (.int .i64 q1) (.int .i64 q2) 24
  simp only [World.size_alloc] at CP CQ
  have gr := fun w ha => pRight_any (.slice a l.length c) l w ha hl
  have gs := fun w ha => refPRight_any (.slice a l.length c) l w ha hl
  have gl := fun w ha => refSmallL_any (.slice a l.length c) l 200 w ha hl (by decide) (by decide)
  have g1 := fun w => refMSmall_any n x y 200 w (by decide) (by decide)
  have g2 := fun w => refSmall_any p1 p2 200 w (by decide) (by decide)
  have g3 := fun w => refSmall_any q1 q2 200 w (by decide) (by decide)
  obtain ⟨r, hr⟩ : ∃ b, rightP l = b := ⟨_, rfl⟩
  obtain ⟨s, hs⟩ : ∃ b, smallLB l 200 l.length = b := ⟨_, rfl⟩
  obtain ⟨t1, ht1⟩ : ∃ b, smallB x y 200 = b := ⟨_, rfl⟩
  obtain ⟨t2, ht2⟩ : ∃ b, smallB p1 p2 200 = b := ⟨_, rfl⟩
  obtain ⟨t3, ht3⟩ : ∃ b, smallB q1 q2 200 = b := ⟨_, rfl⟩
  rw [hr] at gr gs
  rw [hs] at gl
  rw [ht1] at g1
  rw [ht2] at g2
  rw [ht3] at g3
  have GR := Lib.hid gr
  have GS := Lib.hid gs
  have GL := Lib.hid gl
  have G1 := Lib.hid g1
  have G2 := Lib.hid g2
  have G3 := Lib.hid g3
  have HR := Lib.hid hr
  have HS := Lib.hid hs
  have HT1 := Lib.hid ht1
  have HT2 := Lib.hid ht2
  have HT3 := Lib.hid ht3
  have HK := Lib.hid (fun (w1 : World) (h : Below (w.heap.size + 1 + 1 + 1) (((w.alloc (.cells #[.int .i64 n, .int .i64 x, .int .i64 y] 41)).alloc (.cells #[.int .i64 p1, .int .i64 p2] 24)).alloc (.cells #[.int .i64 q1, .int .i64 q2] 24)) w1) => (show Cell3 w1 w.heap.size (.int .i64 n) (.int .i64 x) (.int .i64 y) ∧ Cell2 w1 (w.heap.size + 1) (.int .i64 p1) (.int .i64 p2) ∧ Cell2 w1 (w.heap.size + 1 + 1) (.int .i64 q1) (.int .i64 q2) from ⟨CM.below h (by omega), CP.below h (by omega), CQ.below h (by omega)⟩))
  have HB0 := Below.refl (w.heap.size + 1 + 1 + 1) (((w.alloc (.cells #[.int .i64 n, .int .i64 x, .int .i64 y] 41)).alloc (.cells #[.int .i64 p1, .int .i64 p2] 24)).alloc (.cells #[.int .i64 q1, .int .i64 q2] 24))
  have hzz := Nat.le_of_eq hz.symm
  clear gr gs gl g1 g2 g3 hr hs ht1 ht2 ht3 CM CP CQ hz
  go_enter Try.func6, Try.ntmps6
  have hcase : r = false ∨ (r = true ∧ s = false) ∨ (r = true ∧ s = true ∧ t1 = false) ∨ (r = true ∧ s = true ∧ t1 = true ∧ t2 = false) ∨ (r = true ∧ s = true ∧ t1 = true ∧ t2 = true ∧ t3 = false) ∨ (r = true ∧ s = true ∧ t1 = true ∧ t2 = true ∧ t3 = true) := by
    cases r <;> cases s <;> cases t1 <;> cases t2 <;> cases t3 <;> simp
  rcases hcase with rfl | ⟨rfl, rfl⟩ | ⟨rfl, rfl, rfl⟩ | ⟨rfl, rfl, rfl, rfl⟩ | ⟨rfl, rfl, rfl, rfl, rfl⟩ | ⟨rfl, rfl, rfl, rfl, rfl⟩
  all_goals
    go_wp2_with (first
      | (go_at_call 12; with_reducible refine (GS.out _ (HA.out.kept hB)).mono ?_; rintro e w1 ⟨rfl, hb⟩; replace hB := hB.trans (hb.mono hB.size); replace HB0 := HB0.trans (hb.mono hzz); have hz1 := Nat.le_trans hzz hb.size; clear hb)
      | (go_at_call 11; with_reducible refine (GR.out _ (HA.out.kept hB)).mono ?_; rintro e w2 ⟨rfl, hb⟩; replace hB := hB.trans (hb.mono hB.size); replace HB0 := HB0.trans (hb.mono hz1); replace hz1 := Nat.le_trans hz1 hb.size; clear hb)
      | (go_at_call 24; with_reducible refine (GL.out _ (HA.out.kept hB)).mono ?_; rintro e w3 ⟨rfl, hb⟩; replace hB := hB.trans (hb.mono hB.size); replace HB0 := HB0.trans (hb.mono hz1); replace hz1 := Nat.le_trans hz1 hb.size; obtain ⟨⟨c0, c1, c2, _, _, _⟩, ⟨d0, d1, _, _⟩, ⟨e0, e1, _, _⟩⟩ := HK.out _ HB0; clear hb)
      | (go_at_call 25; with_reducible refine (G1.out _).mono ?_; rintro e w4 ⟨rfl, hb⟩; replace hB := hB.trans (hb.mono hB.size); replace HB0 := HB0.trans (hb.mono hz1); replace hz1 := Nat.le_trans hz1 hb.size; clear c0 c1 c2 d0 d1 e0 e1; obtain ⟨⟨c0, c1, c2, _, _, _⟩, ⟨d0, d1, _, _⟩, ⟨e0, e1, _, _⟩⟩ := HK.out _ HB0; clear hb G1)
      | (go_at_call 26; with_reducible refine (G2.out _).mono ?_; rintro e w5 ⟨rfl, hb⟩; replace hB := hB.trans (hb.mono hB.size); replace HB0 := HB0.trans (hb.mono hz1); replace hz1 := Nat.le_trans hz1 hb.size; clear c0 c1 c2 d0 d1 e0 e1; obtain ⟨⟨c0, c1, c2, _, _, _⟩, ⟨d0, d1, _, _⟩, ⟨e0, e1, _, _⟩⟩ := HK.out _ HB0; clear hb G2)
      | (go_at_call 26; with_reducible refine (G3.out _).mono ?_; rintro e w6 ⟨rfl, hb⟩; replace hB := hB.trans (hb.mono hB.size); replace HB0 := HB0.trans (hb.mono hz1); replace hz1 := Nat.le_trans hz1 hb.size; clear c0 c1 c2 d0 d1 e0 e1; obtain ⟨⟨c0, c1, c2, _, _, _⟩, ⟨d0, d1, _, _⟩, ⟨e0, e1, _, _⟩⟩ := HK.out _ HB0; clear hb G3)
      | (go_at_call 8; refine (HAL.out _).mono ?_; rintro e w9 ⟨rfl, hb⟩; replace hB := hB.trans (hb.mono hB.size); clear hb))
    try (go_ret
         exact ⟨rfl, hB⟩)
  have hRP := (rightP_iff l).1 HR.out
  have hl32 := hRP.1
  obtain ⟨r1, r2, s1, s2, t1, t2, t3, t4, hRR, hAT, hCR⟩ := turns_all n x y p1 p2 q1 q2 hRP ((smallLB_iff _ _ _).1 HS.out) (turns_bd HT1.out) (turns_bd HT2.out) (turns_bd HT3.out)
  have gm := fun w ha => pMoved_any n x y (.slice a l.length c) l w ha (by omega)
  have gd := fun w => mdo_any n x y p1 p2 w
  have ge := fun w => mdo_any n x y q1 q2 w
  rw [t1, t2] at gd
  rw [t3, t4] at ge
  have hll : (l.map (mvA n x y)).length ≤ 32 := by simpa using hl32
  have hR1 := (rightP_iff _).2 hRR
  generalize l.map (mvA n x y) = L' at *
  have GM := Lib.hid gm
  have GD := Lib.hid gd
  have GE := Lib.hid ge
  have HRP := Lib.hid hRP
  have HR1 := Lib.hid hR1
  have HAT := Lib.hid hAT
  have HCR := Lib.hid hCR
  have HA5 := Lib.hid (HA.out.kept hB)
  clear gm gd ge t1 t2 t3 t4 hRP hRR hR1 hAT hCR GL GR GS
  refine wp_region_loose 11 [.calm 2, .ind (.loose (fun v w' => AisAt w' v L')), .calm 6, .ind (.news (.cells #[.int .i64 0, .int .i64 0] 24) (fun b => .pointer (some ⟨b, 0, none⟩))), .ind (.news (.cells #[.int .i64 0, .int .i64 0] 24) (fun b => .pointer (some ⟨b, 0, none⟩)))] (by kernel_rfl) (by simp) (by kernel_rfl) ?_
  simp only [List.take_succ_cons, List.take_zero, List.drop_succ_cons, List.drop_zero]
  refine ⟨by simp, fun M => ?_⟩
  simp only [List.take_succ_cons, List.take_zero, List.drop_succ_cons, List.drop_zero]
  have m0 := fun n : In M.w => n.cell (M.cell c0)
  have m1 := fun n : In M.w => n.cell (M.cell c1)
  have m2 := fun n : In M.w => n.cell (M.cell c2)
  repeat (go_big_quiet_step (fail))
  refine wpQuiet_nil ?_
  clear m0 m1 m2 M
  refine ⟨rfl, rfl, loose_of (f := 22) (args := #[.agg #[.int .i64 n, .int .i64 x, .int .i64 y], .slice a l.length c]) (fun v w1 w2 h1 h2 => RowsAt.kept h1 h2) (fun k => by simp [go_sem]) (fun k => (GM.out k.w (HA5.out.kept k.h)).mono fun e w1 h => h), fun cv _ A hA => ?_⟩
  obtain ⟨_, vx⟩ := cv
  simp [Act.put, Kd.val] at hA
  subst hA
  refine ⟨by simp, fun M => ?_⟩
  simp only [List.take_succ_cons, List.take_zero, List.drop_succ_cons, List.drop_zero]
  have m0 := fun n : In M.w => n.cell (M.cell c0)
  have m1 := fun n : In M.w => n.cell (M.cell c1)
  have m2 := fun n : In M.w => n.cell (M.cell c2)
  have m3 := fun n : In M.w => n.cell (M.cell d0)
  have m4 := fun n : In M.w => n.cell (M.cell d1)
  have m5 := fun n : In M.w => n.cell (M.cell e0)
  have m6 := fun n : In M.w => n.cell (M.cell e1)
  repeat (go_big_quiet_step (first
    | (go_at_call 27; with_reducible exact In.call (GD.out _))
    | (go_at_call 27; with_reducible exact In.call (GE.out _))))
  refine wpQuiet_nil ?_
  clear m0 m1 m2 m3 m4 m5 m6 M
  refine ⟨rfl, rfl, fun k => by simp [go_sem], fun cu hcu A hA => ?_⟩
  obtain ⟨u, cu2⟩ := cu
  simp [Act.put, Kd.val] at hA
  subst hA
  refine ⟨rfl, rfl, fun k => by simp [go_sem], fun cw hcw A hA => ⟨rfl, fun w7 hz => ?_⟩⟩
  obtain ⟨v, cv2⟩ := cw
  simp [Act.put, Kd.val] at hA
  subst hA
  obtain ⟨hu, _⟩ := hcu
  obtain ⟨hv, hvu⟩ := hcw
  simp only [Kd.upd] at hvu hz hu hv ⊢
  obtain ⟨⟨hbl, hown⟩, ⟨_, hax⟩, _⟩ := hz
  change Gh.none.set u (Obj.cells #[.int .i64 0, .int .i64 0] 24) v = none at hvu
  have hne : v ≠ u := fun e => by rw [e, Gh.set_self] at hvu; cases hvu
  have hne' : u ≠ v := Ne.symm hne
  have h1 : w7.heap[u]? = some (.cells #[.int .i64 0, .int .i64 0] 24) := hown u _ (by show Gh.set _ _ _ u = _; rw [Gh.set_ne _ hne']; exact Gh.set_self _ _ _)
  have h2 : w7.heap[v]? = some (.cells #[.int .i64 0, .int .i64 0] 24) := hown v _ (Gh.set_self _ _ _)
  have HU := Lib.hid (hkeep (hkeep (hset1 (hset0 h1 (.int .i64 r1)) (.int .i64 r2)) 0 (.int .i64 s1) hne') 1 (.int .i64 s2) hne')
  have HV := Lib.hid (hset1 (hset0 (hkeep (hkeep h2 0 (.int .i64 r1) hne) 1 (.int .i64 r2) hne) (.int .i64 s1)) (.int .i64 s2))
  have HX := Lib.hid ((((AisAt.away2 hax h1 0 (.int .i64 r1)).away2 (hset0 h1 (.int .i64 r1)) 1 (.int .i64 r2)).away2 (hkeep (hkeep h2 0 (.int .i64 r1) hne) 1 (.int .i64 r2) hne) 0 (.int .i64 s1)).away2 (hset0 (hkeep (hkeep h2 0 (.int .i64 r1) hne) 1 (.int .i64 r2) hne) (.int .i64 s1)) 1 (.int .i64 s2))
  have HB9 := Lib.hid ((((hbl.setCell (p := ⟨u, 0, none⟩) hu (.int .i64 r1)).setCell (p := ⟨u, 1, none⟩) hu (.int .i64 r2)).setCell (p := ⟨v, 0, none⟩) hv (.int .i64 s1)).setCell (p := ⟨v, 1, none⟩) hv (.int .i64 s2))
  obtain ⟨f0, f1, z0, z1⟩ := Cell2.of_heap h1
  obtain ⟨g0, g1, y0, y1⟩ := Cell2.of_heap h2
  have HM0 := Lib.hid c0
  have HK9 : ∀ w', Below w6.heap.size w6 w' → w'.cell? ⟨w.heap.size, 0, none⟩ = some (.int .i64 n) ∧ w'.cell? ⟨w.heap.size, 1, none⟩ = some (.int .i64 x) ∧ w'.cell? ⟨w.heap.size, 2, none⟩ = some (.int .i64 y) ∧ w'.cell? ⟨w.heap.size + 1, 0, none⟩ = some (.int .i64 p1) ∧ w'.cell? ⟨w.heap.size + 1, 1, none⟩ = some (.int .i64 p2) ∧ w'.cell? ⟨w.heap.size + 1 + 1, 0, none⟩ = some (.int .i64 q1) ∧ w'.cell? ⟨w.heap.size + 1 + 1, 1, none⟩ = some (.int .i64 q2) := fun w' h =>
    ⟨(h.cell (World.block_lt_of_cell? _ _ c0)).trans c0, (h.cell (World.block_lt_of_cell? _ _ c1)).trans c1, (h.cell (World.block_lt_of_cell? _ _ c2)).trans c2, (h.cell (World.block_lt_of_cell? _ _ d0)).trans d0, (h.cell (World.block_lt_of_cell? _ _ d1)).trans d1, (h.cell (World.block_lt_of_cell? _ _ e0)).trans e0, (h.cell (World.block_lt_of_cell? _ _ e1)).trans e1⟩
  have HK9' := Lib.hid HK9
  clear HK9 hown hax h1 h2 hbl hvu hu hv c0 c1 c2 d0 d1 e0 e1
  obtain ⟨ax, cx, rfl⟩ : ∃ ax cx, vx = .slice ax L'.length cx := RowsAt.form HX.out
  go_upto_region 4 with fail
  clear f0 f1 z0 z1 g0 g1 y0 y1
  generalize (((w7.setCell ⟨u, 0, none⟩ (.int .i64 r1)).setCell ⟨u, 1, none⟩ (.int .i64 r2)).setCell ⟨v, 0, none⟩ (.int .i64 s1)).setCell ⟨v, 1, none⟩ (.int .i64 s2) = w9 at *
  have HLC := Lib.hid (show ∀ w', Below w9.heap.size w9 w' → (w'.cell? ⟨u, 0, none⟩ = some (.int .i64 r1) ∧ w'.cell? ⟨u, 1, none⟩ = some (.int .i64 r2) ∧ w'.cell? ⟨v, 0, none⟩ = some (.int .i64 s1) ∧ w'.cell? ⟨v, 1, none⟩ = some (.int .i64 s2)) from fun w' h => by
    obtain ⟨f0, f1, _, _⟩ := Cell2.kept (Cell2.of_heap HU.out) h
    obtain ⟨g0, g1, _, _⟩ := Cell2.kept (Cell2.of_heap HV.out) h
    exact ⟨f0, f1, g0, g1⟩)
  have HAll := Lib.hid (show ∀ w', Below w9.heap.size w9 w' → Below w6.heap.size w6 w' from fun w' h => HB9.out.trans (h.mono HB9.out.size))
  have ga := fun w ha => pAt_any (.slice a l.length c) l p1 p2 w ha (by omega)
  have gx := fun w ha => pAt_any (.slice ax L'.length cx) L' r1 r2 w ha (by omega)
  rw [HAT.out] at gx
  obtain ⟨⟨k, t⟩, hkt⟩ : ∃ kt, atL l p1 p2 = kt := ⟨_, rfl⟩
  rw [hkt] at ga gx
  simp only at ga gx
  have GA := Lib.hid ga
  have GX := Lib.hid gx
  obtain ⟨_, _, _, d0, d1, _, _⟩ := HK9'.out w9 HB9.out
  clear ga gx hkt
  go_upto_region 6 with (first
    | (go_at_call 9; with_reducible refine (GA.out _ (HA5.out.kept HB9.out)).mono ?_; rintro e w10 ⟨rfl, hb10⟩; have HX10 := Lib.hid (HX.out.kept hb10); obtain ⟨f0, f1, _, _⟩ := HLC.out _ hb10; clear d0 d1)
    | (go_at_call 9; with_reducible refine (GX.out _ HX10.out).mono ?_; rintro e w11 ⟨rfl, hb11⟩; have HB11 := Lib.hid (hb10.trans (hb11.mono hb10.size)); clear hb11 f0 f1))
  obtain ⟨c0, _⟩ := HK9'.out w11 (HAll.out _ HB11.out)
  obtain ⟨m, hm⟩ : ∃ m, Int.tmod n 2 = m := ⟨_, rfl⟩
  have hodd := odd_qr n
  rw [hm] at hodd
  have hcase : ∃ (one other : Int), (one = 0 ∨ one = 1) ∧ oth (qr n) one = other ∧ ((how = false ∧ one = 0) ∨ (how = true ∧ one = 1)) ∧ ((m = 0 ∧ other = one) ∨ ((m == 0) = false ∧ other + one = 1)) := by
    have ho : ∀ one : Int, oth (qr n) one = if m = 0 then one else 1 - one := fun one => by
      unfold oth
      by_cases hz : m = 0
      · rw [if_pos hz, if_pos (hodd.1 hz)]
      · rw [if_neg hz, if_neg fun h => hz (hodd.2 h)]
    cases how
    · refine ⟨0, _, .inl rfl, rfl, .inl ⟨rfl, rfl⟩, ?_⟩
      rw [ho]
      by_cases hz : m = 0
      · left; rw [if_pos hz]; exact ⟨hz, rfl⟩
      · right; rw [if_neg hz]; exact ⟨beq_no' hz, by omega⟩
    · refine ⟨1, _, .inr rfl, rfl, .inr ⟨rfl, rfl⟩, ?_⟩
      rw [ho]
      by_cases hz : m = 0
      · left; rw [if_pos hz]; exact ⟨hz, rfl⟩
      · right; rw [if_neg hz]; exact ⟨beq_no' hz, by omega⟩
  clear hodd
  obtain ⟨one, other, h01, hoth, hhow, hmm⟩ := hcase
  have gc := fun w ha => pCross_any (.slice a l.length c) l p1 p2 q1 q2 one w ha (by omega)
  have gy := fun w ha => pCross_any (.slice ax L'.length cx) L' r1 r2 s1 s2 other w ha (by omega)
  have hcr := HCR.out one h01
  rw [hoth] at hcr
  rw [hcr] at gy
  have hcl := crs7_len (hitB (rway (wd p1, wd p2) (wd q1, wd q2) one)) l
  generalize crs7 (hitB (rway (wd p1, wd p2) (wd q1, wd q2) one)) l = C at *
  have gi := fun w va vb ha hb => refInts_any va vb C C w ha hb (by omega) (by omega)
  rw [decide_eq_true rfl] at gi
  have gr := fun w ha => pRight_any (.slice ax L'.length cx) L' w ha (by omega)
  rw [HR1.out] at gr
  have GC := Lib.hid gc
  have GY := Lib.hid gy
  have GI := Lib.hid gi
  have GR := Lib.hid gr
  have HX11 := Lib.hid (HX.out.kept HB11.out)
  have HA11 := Lib.hid (HA5.out.kept (HAll.out _ HB11.out))
  have HB12 := Lib.hid (hB.trans ((HAll.out _ HB11.out).mono hB.size))
  have K3 : ∀ w', Below w11.heap.size w11 w' → w'.cell? ⟨w.heap.size + 1, 0, none⟩ = some (.int .i64 p1) := fun w' h => (HK9'.out w' (HAll.out _ (HB11.out.trans (h.mono HB11.out.size)))).2.2.2.1
  have K4 : ∀ w', Below w11.heap.size w11 w' → w'.cell? ⟨w.heap.size + 1, 1, none⟩ = some (.int .i64 p2) := fun w' h => (HK9'.out w' (HAll.out _ (HB11.out.trans (h.mono HB11.out.size)))).2.2.2.2.1
  have K5 : ∀ w', Below w11.heap.size w11 w' → w'.cell? ⟨w.heap.size + 1 + 1, 0, none⟩ = some (.int .i64 q1) := fun w' h => (HK9'.out w' (HAll.out _ (HB11.out.trans (h.mono HB11.out.size)))).2.2.2.2.2.1
  have K6 : ∀ w', Below w11.heap.size w11 w' → w'.cell? ⟨w.heap.size + 1 + 1, 1, none⟩ = some (.int .i64 q2) := fun w' h => (HK9'.out w' (HAll.out _ (HB11.out.trans (h.mono HB11.out.size)))).2.2.2.2.2.2
  have U0 : ∀ w', Below w11.heap.size w11 w' → w'.cell? ⟨u, 0, none⟩ = some (.int .i64 r1) := fun w' h => (HLC.out w' (HB11.out.trans (h.mono HB11.out.size))).1
  have U1 : ∀ w', Below w11.heap.size w11 w' → w'.cell? ⟨u, 1, none⟩ = some (.int .i64 r2) := fun w' h => (HLC.out w' (HB11.out.trans (h.mono HB11.out.size))).2.1
  have V0 : ∀ w', Below w11.heap.size w11 w' → w'.cell? ⟨v, 0, none⟩ = some (.int .i64 s1) := fun w' h => (HLC.out w' (HB11.out.trans (h.mono HB11.out.size))).2.2.1
  have V1 : ∀ w', Below w11.heap.size w11 w' → w'.cell? ⟨v, 1, none⟩ = some (.int .i64 s2) := fun w' h => (HLC.out w' (HB11.out.trans (h.mono HB11.out.size))).2.2.2
  have hS0 : Below w11.heap.size w11 w11.drew := below_drewN (Below.refl _ w11) 1
  clear gc gy gi gr hcr hcl h01 hoth GA GX HX10 HB11 HK9' HLC HAll HX HB9 HU HV hb10 hB HB0 HA HA5 HRP HAT HCR HR1 GM GD GE HK
  have hfour : (how = false ∧ one = 0 ∧ m = 0 ∧ other = 0) ∨ (how = false ∧ one = 0 ∧ (m == 0) = false ∧ other = 1) ∨ (how = true ∧ one = 1 ∧ m = 0 ∧ other = 1) ∨ (how = true ∧ one = 1 ∧ (m == 0) = false ∧ other = 0) := by
    rcases hhow with ⟨k1, k2⟩ | ⟨k1, k2⟩ <;> rcases hmm with ⟨k3, k4⟩ | ⟨k3, k4⟩
    · exact .inl ⟨k1, k2, k3, by omega⟩
    · exact .inr (.inl ⟨k1, k2, k3, by omega⟩)
    · exact .inr (.inr (.inl ⟨k1, k2, k3, by omega⟩))
    · exact .inr (.inr (.inr ⟨k1, k2, k3, by omega⟩))
  clear hhow hmm
  rcases hfour with ⟨rfl, rfl, rfl, rfl⟩ | ⟨rfl, rfl, hm0, rfl⟩ | ⟨rfl, rfl, rfl, rfl⟩ | ⟨rfl, rfl, hm0, rfl⟩
  all_goals
    go_wp2
    clear c0
    go_region_held3 (fun w' => Below w11.heap.size w11 w') (assumption) ((first
      | (go_at_call 11; with_reducible refine (GR.out _ (HX11.out.kept ‹Below w11.heap.size w11 _›)).mono ?_; rintro e x1 ⟨rfl, hb1⟩; have hS1 := keep_call ‹Below w11.heap.size w11 _› hb1; clear hb1)
      | (go_at_call 19; with_reducible refine (GC.out _ (HA11.out.kept ‹Below w11.heap.size w11 _›)).mono ?_; rintro e x2 ⟨r6, rfl, hp6, hb6⟩; have hS6 := keep_call ‹Below w11.heap.size w11 _› hb6; clear hb6)
      | (go_at_call 19; with_reducible refine (GY.out _ (HX11.out.kept ‹Below w11.heap.size w11 _›)).mono ?_; rintro e x3 ⟨r7, rfl, hp7, hb7⟩; have hS7 := keep_call ‹Below w11.heap.size w11 _› hb7; have hp67 := Lib.hid (hp6.below hb7); clear hb7 hp6)
      | (go_at_call 18; with_reducible refine (GI.out _ r6 r7 hp67.out hp7).mono ?_; rintro e x4 ⟨rfl, hb8⟩; have hS8 := keep_call ‹Below w11.heap.size w11 _› hb8; clear hb8 hp67 hp7)
      | (go_at_call 8; refine (HAL.out _).mono ?_; rintro e x5 ⟨rfl, hb9⟩; have hS9 := keep_call ‹Below w11.heap.size w11 _› hb9; clear hb9)))
    all_goals
      have hBF := HB12.out.trans (hS9.mono HB12.out.size)
      clear K3 K4 K5 K6 U0 U1 V0 V1
      go_wp2
      go_ret
      exact ⟨rfl, hBF⟩
end Go.Proofs.Ytddlgnfghecncaa
