/- The law PlanBack. -/
import Derived.Test.YtddlgnfghecncaaBun9
namespace Go.Proofs.Ytddlgnfghecncaa
open Go.RowKit

theorem steps_gap {p1 p2 q1 q2 : Int} (h1 : -200 ≤ p1 ∧ p1 ≤ 200) (h2 : -200 ≤ p2 ∧ p2 ≤ 200) (h3 : -200 ≤ q1 ∧ q1 ≤ 200) (h4 : -200 ≤ q2 ∧ q2 ≤ 200) : sz (q1 - p1) + sz (q2 - p2) = (gap (p1, p2) (q1, q2) : Int) := by
  unfold sz fx gap
  simp only
  omega
theorem smallB_bd {x y m : Int} (h : smallB x y m = true) : (-m ≤ x ∧ x ≤ m) ∧ (-m ≤ y ∧ y ≤ m) := by
  unfold smallB at h
  simp only [decide_eq_true_eq] at h
  omega

theorem any_next (f : Int × Int → Bool) (R : List (Int × Int)) (j : Nat) (h : j < R.length) : (R.take (j + 1)).any f = ((R.take j).any f || f (pat R j)) := by
  rw [List.take_add_one, pat_get R j h]
  simp
theorem any_nextI (f : Int → Bool) (L : List Int) (j : Nat) (h : j < L.length) : (L.take (j + 1)).any f = ((L.take j).any f || f L[j]) := by
  rw [List.take_succ_eq_append_getElem h, List.any_append]
  simp

set_option maxHeartbeats 4000000 in
set_option maxRecDepth 100000 in
theorem planBack_any (va : Value) (l : List Ais) (p1 p2 q1 q2 : Int) (w : World) (ha : AisAt w va l) (hl : l.length ≤ 9223372036854775807) :
    Calls Try.prog 7 #[va, .agg #[.int .i64 p1, .int .i64 p2], .agg #[.int .i64 q1, .int .i64 q2]] w fun e w' => e = .returned (.bool true) ∧ Below w.heap.size w w' := by
  have HAL := Lib.hid fun w => pAlive_any w
  have HA := Lib.hid ha
  obtain ⟨a, c, rfl⟩ := RowsAt.form ha
  clear ha
  have hB : Below w.heap.size w ((w.alloc (.cells #[.int .i64 p1, .int .i64 p2] 24)).alloc (.cells #[.int .i64 q1, .int .i64 q2] 24)) := ((Below.refl _ _).alloc (Nat.le_refl _) _).alloc (by simp) _
  have hz : ((w.alloc (.cells #[.int .i64 p1, .int .i64 p2] 24)).alloc (.cells #[.int .i64 q1, .int .i64 q2] 24)).heap.size = w.heap.size + 1 + 1 := by simp
  have CP := (Cell2.new w (.int .i64 p1) (.int .i64 p2) 24).alloc (.cells #[.int .i64 q1, .int .i64 q2] 24)
  have CQ := Cell2.new (w.alloc (.cells #[.int .i64 p1, .int .i64 p2] 24)) (.int .i64 q1) (.int .i64 q2) 24
  simp only [World.size_alloc] at CQ
  have gs := fun w ha => refPRight_any (.slice a l.length c) l w ha hl
  have g2 := fun w => refSmall_any p1 p2 200 w (by decide) (by decide)
  have g3 := fun w => refSmall_any q1 q2 200 w (by decide) (by decide)
  obtain ⟨r, hr⟩ : ∃ b, rightP l = b := ⟨_, rfl⟩
  obtain ⟨t2, ht2⟩ : ∃ b, smallB p1 p2 200 = b := ⟨_, rfl⟩
  obtain ⟨t3, ht3⟩ : ∃ b, smallB q1 q2 200 = b := ⟨_, rfl⟩
  rw [hr] at gs
  rw [ht2] at g2
  rw [ht3] at g3
  have GS := Lib.hid gs
  have G2 := Lib.hid g2
  have G3 := Lib.hid g3
  have HR := Lib.hid hr
  have HT2 := Lib.hid ht2
  have HT3 := Lib.hid ht3
  have HK := Lib.hid (fun (w1 : World) (h : Below (w.heap.size + 1 + 1) ((w.alloc (.cells #[.int .i64 p1, .int .i64 p2] 24)).alloc (.cells #[.int .i64 q1, .int .i64 q2] 24)) w1) => (show Cell2 w1 w.heap.size (.int .i64 p1) (.int .i64 p2) ∧ Cell2 w1 (w.heap.size + 1) (.int .i64 q1) (.int .i64 q2) from ⟨CP.below h (by omega), CQ.below h (by omega)⟩))
  have HB0 := Below.refl (w.heap.size + 1 + 1) ((w.alloc (.cells #[.int .i64 p1, .int .i64 p2] 24)).alloc (.cells #[.int .i64 q1, .int .i64 q2] 24))
  have hzz := Nat.le_of_eq hz.symm
  clear gs g2 g3 hr ht2 ht3 CP CQ hz
  go_enter Try.func7, Try.ntmps7
  have hcase : r = false ∨ (r = true ∧ t2 = false) ∨ (r = true ∧ t2 = true ∧ t3 = false) ∨ (r = true ∧ t2 = true ∧ t3 = true) := by
    cases r <;> cases t2 <;> cases t3 <;> simp
  rcases hcase with rfl | ⟨rfl, rfl⟩ | ⟨rfl, rfl, rfl⟩ | ⟨rfl, rfl, rfl⟩
  iterate 3
    · go_wp2_with (first
        | (go_at_call 12; with_reducible refine (GS.out _ (HA.out.kept hB)).mono ?_; rintro e w1 ⟨rfl, hb⟩; replace hB := hB.trans (hb.mono hB.size); replace HB0 := HB0.trans (hb.mono hzz); have hz1 := Nat.le_trans hzz hb.size; obtain ⟨⟨d0, d1, _, _⟩, ⟨e0, e1, _, _⟩⟩ := HK.out _ HB0; clear hb)
        | (go_at_call 26; with_reducible refine (G2.out _).mono ?_; rintro e w5 ⟨rfl, hb⟩; replace hB := hB.trans (hb.mono hB.size); replace HB0 := HB0.trans (hb.mono hz1); replace hz1 := Nat.le_trans hz1 hb.size; clear d0 d1 e0 e1; obtain ⟨⟨d0, d1, _, _⟩, ⟨e0, e1, _, _⟩⟩ := HK.out _ HB0; clear hb G2)
        | (go_at_call 26; with_reducible refine (G3.out _).mono ?_; rintro e w6 ⟨rfl, hb⟩; replace hB := hB.trans (hb.mono hB.size); replace HB0 := HB0.trans (hb.mono hz1); replace hz1 := Nat.le_trans hz1 hb.size; clear d0 d1 e0 e1; obtain ⟨⟨d0, d1, _, _⟩, ⟨e0, e1, _, _⟩⟩ := HK.out _ HB0; clear hb G3)
        | (go_at_call 8; refine (HAL.out _).mono ?_; rintro e w9 ⟨rfl, hb⟩; replace hB := hB.trans (hb.mono hB.size); clear hb))
      go_ret
      exact ⟨rfl, hB⟩
  have HRP := Lib.hid ((rightP_iff l).1 HR.out)
  have hl32 := HRP.out.1
  obtain ⟨bp1, bp2⟩ := smallB_bd HT2.out
  obtain ⟨bq1, bq2⟩ := smallB_bd HT3.out
  have hro := fun w => pRoute_any p1 p2 q1 q2 0 w
  have hcr := fun w ha => pCross_any (.slice a l.length c) l p1 p2 q1 q2 0 w ha (by omega)
  have hcb := fun w ha => pCross_any (.slice a l.length c) l q1 q2 p1 p2 1 w ha (by omega)
  rw [wd_in (n := p1) (by omega), wd_in (n := p2) (by omega), wd_in (n := q1) (by omega), wd_in (n := q2) (by omega)] at hro hcr hcb
  rw [← cross_back] at hcb
  have hRl := rway_length (p1, p2) (q1, q2) 0
  have hRf := rway_first (p1, p2) (q1, q2) 0
  have hRe := rway_last (p1, p2) (q1, q2) 0
  have hst := steps_gap bp1 bp2 bq1 bq2
  have hgb : gap (p1, p2) (q1, q2) ≤ 800 := by unfold gap; simp only; omega
  have hLl := crs7_len (hitB (rway (p1, p2) (q1, q2) 0)) l
  have hany : ∀ i, i < l.length → ((rway (p1, p2) (q1, q2) 0).any fun z => (atL l z.1 z.2).2 && decide ((atL l z.1 z.2).1 = (pa l i).id)) = (crs7 (hitB (rway (p1, p2) (q1, q2) 0)) l).any (fun n => decide (n = (pa l i).id)) := fun i hi => by rw [any_is HRP.out hi, told_right HRP.out hi]
  have hss := fun w => refSteps_any (q1 - p1) (q2 - p2) w
  rw [hst] at hss
  generalize rway (p1, p2) (q1, q2) 0 = R at *
  generalize crs7 (hitB R) l = L at *
  generalize gap (p1, p2) (q1, q2) = G at *
  have gi := fun w va vb ha hb => refInts_any va vb L L w ha hb (by omega) (by omega)
  rw [decide_eq_true rfl] at gi
  have GI := Lib.hid gi
  have GRO := Lib.hid hro
  have GCR := Lib.hid hcr
  have GCB := Lib.hid hcb
  have GSS := Lib.hid hss
  have HRF := Lib.hid hRf
  have HRE := Lib.hid hRe
  have HANY := Lib.hid hany
  have GAT := Lib.hid (fun x y w ha => pAt_any (.slice a l.length c) l x y w ha (by omega))
  clear gi hro hcr hcb hss hRf hRe hany hst
  go_upto_region 5 with (first
    | (go_at_call 12; with_reducible refine (GS.out _ (HA.out.kept hB)).mono ?_; rintro e w1 ⟨rfl, hb⟩; replace hB := hB.trans (hb.mono hB.size); replace HB0 := HB0.trans (hb.mono hzz); have hz1 := Nat.le_trans hzz hb.size; obtain ⟨⟨d0, d1, _, _⟩, ⟨e0, e1, _, _⟩⟩ := HK.out _ HB0; clear hb)
    | (go_at_call 26; with_reducible refine (G2.out _).mono ?_; rintro e w5 ⟨rfl, hb⟩; replace hB := hB.trans (hb.mono hB.size); replace HB0 := HB0.trans (hb.mono hz1); replace hz1 := Nat.le_trans hz1 hb.size; clear d0 d1 e0 e1; obtain ⟨⟨d0, d1, _, _⟩, ⟨e0, e1, _, _⟩⟩ := HK.out _ HB0; clear hb G2)
    | (go_at_call 26; with_reducible refine (G3.out _).mono ?_; rintro e w6 ⟨rfl, hb⟩; replace hB := hB.trans (hb.mono hB.size); replace HB0 := HB0.trans (hb.mono hz1); replace hz1 := Nat.le_trans hz1 hb.size; clear d0 d1 e0 e1; obtain ⟨⟨d0, d1, _, _⟩, ⟨e0, e1, _, _⟩⟩ := HK.out _ HB0; clear hb G3)
    | (go_at_call 16; with_reducible refine (GRO.out _).mono ?_; rintro e w7 ⟨vr, rfl, hp, hb⟩; replace hB := hB.trans (hb.mono hB.size); replace HB0 := HB0.trans (hb.mono hz1); replace hz1 := Nat.le_trans hz1 hb.size; have HW := Lib.hid hp; clear d0 d1 e0 e1; obtain ⟨⟨d0, d1, _, _⟩, ⟨e0, e1, _, _⟩⟩ := HK.out _ HB0; clear hb hp)
    | (go_at_call 19; with_reducible refine (GCR.out _ (HA.out.kept hB)).mono ?_; rintro e w8 ⟨vl, rfl, hp, hb⟩; replace hB := hB.trans (hb.mono hB.size); replace HB0 := HB0.trans (hb.mono hz1); replace hz1 := Nat.le_trans hz1 hb.size; have HW8 := Lib.hid (HW.out.kept hb); have HL8 := Lib.hid hp; clear d0 d1 e0 e1; obtain ⟨⟨d0, d1, _, _⟩, ⟨e0, e1, _, _⟩⟩ := HK.out _ HB0; clear hb hp HW))
  obtain ⟨g, o, cw, ew, hcw, hgw, s0, s1⟩ := HW8.out.spot 0 (by omega)
  cases ew
  obtain ⟨g', o', cw', ew, _, _, s2, s3⟩ := HW8.out.spot (R.length - 1) (by omega)
  cases ew
  rw [HRF.out] at s0 s1
  rw [HRE.out] at s2 s3
  rw [show R.length - 1 = G by omega] at s2 s3
  simp only [Nat.zero_mul, Nat.add_zero] at s0 s1 s2 s3
  have HA8 := Lib.hid (HA.out.kept hB)
  obtain ⟨al, cl, evl⟩ := HL8.out.form
  subst evl
  rw [hRl]
  have K0 : ∀ w', Below w8.heap.size w8 w' → w'.cell? ⟨w.heap.size, 0, none⟩ = some (.int .i64 p1) := fun w' h => (h.cell (World.block_lt_of_cell? _ _ d0)).trans d0
  have K1 : ∀ w', Below w8.heap.size w8 w' → w'.cell? ⟨w.heap.size, 1, none⟩ = some (.int .i64 p2) := fun w' h => (h.cell (World.block_lt_of_cell? _ _ d1)).trans d1
  have K2 : ∀ w', Below w8.heap.size w8 w' → w'.cell? ⟨w.heap.size + 1, 0, none⟩ = some (.int .i64 q1) := fun w' h => (h.cell (World.block_lt_of_cell? _ _ e0)).trans e0
  have K3 : ∀ w', Below w8.heap.size w8 w' → w'.cell? ⟨w.heap.size + 1, 1, none⟩ = some (.int .i64 q2) := fun w' h => (h.cell (World.block_lt_of_cell? _ _ e1)).trans e1
  have K4 : ∀ w', Below w8.heap.size w8 w' → w'.cell? ⟨g, o, none⟩ = some (.int .i64 p1) := fun w' h => (h.cell (World.block_lt_of_cell? _ _ s0)).trans s0
  have K5 : ∀ w', Below w8.heap.size w8 w' → w'.cell? ⟨g, o + 1, none⟩ = some (.int .i64 p2) := fun w' h => (h.cell (World.block_lt_of_cell? _ _ s1)).trans s1
  have K6 : ∀ w', Below w8.heap.size w8 w' → w'.cell? ⟨g, o + G * 2, none⟩ = some (.int .i64 q1) := fun w' h => (h.cell (World.block_lt_of_cell? _ _ s2)).trans s2
  have K7 : ∀ w', Below w8.heap.size w8 w' → w'.cell? ⟨g, o + G * 2 + 1, none⟩ = some (.int .i64 q2) := fun w' h => (h.cell (World.block_lt_of_cell? _ _ s3)).trans s3
  have W1 : IntKind.i64.wrap (q1 - p1) = q1 - p1 := IntWalk.i64_in _ ⟨by omega, by omega⟩
  have W2 : IntKind.i64.wrap (q2 - p2) = q2 - p2 := IntWalk.i64_in _ ⟨by omega, by omega⟩
  have W3 : IntKind.i64.wrap (1 + (G : Int)) = (G : Int) + 1 := by rw [IntWalk.i64_in _ ⟨by omega, by omega⟩]; omega
  have W4 : IntKind.i64.wrap ((G : Int) + 1 - 1) = (G : Int) := by rw [IntWalk.i64_in _ ⟨by omega, by omega⟩]; omega
  have W5 : IntKind.i64.wrap (G : Int) = (G : Int) := IntWalk.i64_in _ ⟨by omega, by omega⟩
  have W6 : IntKind.i64.wrap (((G + 1 : Nat) : Int) - 1) = (G : Int) := by rw [IntWalk.i64_in _ ⟨by omega, by omega⟩]; omega
  have n0 : (0 : Int) ≤ (G : Int) := by omega
  have n1 : (G : Int) < (G : Int) + 1 := by omega
  have n2 : G < G + 1 := by omega
  have n3 : (G : Int) < ((G + 1 : Nat) : Int) := by omega
  have n4 : (0 : Int) < (G : Int) + 1 := by omega
  clear d0 d1 e0 e1 s0 s1 s2 s3 GS GRO GCR hgw
  have hS0 : Below w8.heap.size w8 w8.drew := below_drewN (Below.refl _ w8) 1
  go_region_held3 (fun w' => Below w8.heap.size w8 w') (assumption) ((first
    | (go_at_call 19; with_reducible refine (GCB.out _ (HA8.out.kept ‹Below w8.heap.size w8 _›)).mono ?_; rintro e u1 ⟨r1, rfl, hp1, hb1⟩; have hS1 := keep_call ‹Below w8.heap.size w8 _› hb1; have HP1 := Lib.hid hp1; clear hb1 hp1)
    | (go_at_call 18; with_reducible refine (GI.out _ _ r1 (HL8.out.below ‹Below w8.heap.size w8 _›) HP1.out).mono ?_; rintro e u2 ⟨rfl, hb2⟩; have hS2 := keep_call ‹Below w8.heap.size w8 _› hb2; clear hb2)
    | (go_at_call 28; with_reducible refine (GSS.out _).mono ?_; rintro e u3 ⟨rfl, hb3⟩; have hS3 := keep_call ‹Below w8.heap.size w8 _› hb3; clear hb3)))
  have hB9 := hB.trans (hS3.mono hB.size)
  have HW9 := Lib.hid (HW8.out.kept hS3)
  have HL9 := Lib.hid (HL8.out.below hS3)
  clear K0 K1 K2 K3 K4 K5 K6 K7 W1 W2 W3 W4 W5 W6 n0 n1 n2 n3 n4 hB hS0 hS1 hS2 hS3 HB0 hz1 HK HP1 HW8 HL8 HA8 GCB GSS GI hzz
  have n0 : (0 : Int) ≤ (G : Int) := by omega
  go_wp2
  go_loopw [84] (fun i wr => ∃ k : Nat, k ≤ l.length ∧ i = .int .i64 k ∧ Below u3.heap.size u3 wr) (fun i _ => l.length - (intOf i).toNat)
  case atStart => exact ⟨0, Nat.zero_le _, rfl, Below.refl _ _⟩
  case round =>
    obtain ⟨k, hk, rfl, hBr⟩ := hrel
    obtain ⟨wo, rfl⟩ : ∃ x, x = wr := ⟨wr, rfl⟩
    have hBw := hB9.trans (hBr.mono hB9.size)
    by_cases hlt : k < l.length
    · obtain ⟨ga, oa, ca, i, a1, a2, b1, b2, hlk, ev, hc, hg, z0, z1, z2, z3, z4⟩ := AisAt.at (HA.out.kept hBw) k hlt
      cases ev
      have hany := HANY.out k hlt
      rw [hlk] at hany
      simp only at hany
      have HAN := Lib.hid hany
      have j0 : (0 : Int) ≤ (k : Int) := by omega
      have j1 : (k : Int) < (l.length : Int) := by omega
      have hBo := hBr.alloc hBr.size (.cells #[.int .i64 i, .int .i64 a1, .int .i64 a2, .int .i64 b1, .int .i64 b2] 26)
      have hBx := hBw.alloc hBw.size (.cells #[.int .i64 i, .int .i64 a1, .int .i64 a2, .int .i64 b1, .int .i64 b2] 26)
      have hid : (wo.alloc (.cells #[.int .i64 i, .int .i64 a1, .int .i64 a2, .int .i64 b1, .int .i64 b2] 26)).cell? ⟨wo.heap.size, 0, none⟩ = some (.int .i64 i) := by go_simp
      have HID := Lib.hid hid
      have hzo : wo.heap.size < (wo.alloc (.cells #[.int .i64 i, .int .i64 a1, .int .i64 a2, .int .i64 b1, .int .i64 b2] 26)).heap.size := by simp
      clear hany hlk hid
      go_wp2
      generalize (wo.alloc (.cells #[.int .i64 i, .int .i64 a1, .int .i64 a2, .int .i64 b1, .int .i64 b2] 26)) = wp at *
      generalize wo.heap.size = bo at *
      go_loopw [11, 90] (fun s m wq => ∃ (j : Nat) (b : Bool), j ≤ G + 1 ∧ m = .int .i64 j ∧ s = .bool b ∧ b = ((R.take j).any fun z => (atL l z.1 z.2).2 && decide ((atL l z.1 z.2).1 = i)) ∧ Below wp.heap.size wp wq) (fun _ m _ => G + 1 - (intOf m).toNat)
      case atStart => exact ⟨0, false, Nat.zero_le _, rfl, rfl, by simp, Below.refl _ _⟩
      case round =>
        obtain ⟨j, b, hj, rfl, rfl, hb, hBq⟩ := hrel
        have HBT := Lib.hid hb
        clear hb
        have hBz := hBo.trans (hBq.mono hBo.size)
        have hBy := hBx.trans (hBq.mono hBx.size)
        have hid := (hBq.cell (p := ⟨bo, 0, none⟩) hzo).trans HID.out
        obtain ⟨wi, rfl⟩ : ∃ x, x = wr := ⟨wr, rfl⟩
        by_cases hjl : j < G + 1
        · obtain ⟨g', o', c', ev, _, _, y0, y1⟩ := (HW9.out.kept hBz).spot j (by omega)
          cases ev
          have hnx := any_next (fun z => (atL l z.1 z.2).2 && decide ((atL l z.1 z.2).1 = i)) R j (by omega)
          rw [← HBT.out] at hnx
          obtain ⟨⟨x, y⟩, hxy⟩ : ∃ p, pat R j = p := ⟨_, rfl⟩
          rw [hxy] at hnx y0 y1
          simp only at hnx y0 y1
          have hat := fun w ha => GAT.out x y w ha
          obtain ⟨⟨n, has⟩, hn⟩ : ∃ p, atL l x y = p := ⟨_, rfl⟩
          rw [hn] at hnx hat
          simp only at hnx hat
          have HAT := Lib.hid hat
          have HNX := Lib.hid hnx
          have m0 : (0 : Int) ≤ (j : Int) := by omega
          have m1 : (j : Int) < (G : Int) + 1 := by omega
          have hB1 := hBq.alloc hBq.size (.cells #[.int .i64 x, .int .i64 y] 24)
          have hB2 := hBy.alloc hBy.size (.cells #[.int .i64 x, .int .i64 y] 24)
          clear hxy hn hat hnx
          by_cases hni : n = i
          · subst hni
            cases b <;> cases has
            all_goals
              go_wp2_with (go_at_call 9; (with_reducible refine (HAT.out _ (HA.out.kept hB2)).mono ?_); rintro e w12 ⟨rfl, hb⟩; have hB3 := hB1.trans (hb.mono hB1.size); have hid3 := (hB3.cell (p := ⟨bo, 0, none⟩) hzo).trans HID.out; clear hb y0 y1 hid)
              go_roundw
              case rel => exact ⟨j + 1, _, by omega, by go_num, rfl, by rw [HNX.out]; simp, hB3⟩
              case measure => simp [intOf]; omega
          · have hne := beq_no' hni
            cases b <;> cases has
            all_goals
              go_wp2_with (go_at_call 9; (with_reducible refine (HAT.out _ (HA.out.kept hB2)).mono ?_); rintro e w12 ⟨rfl, hb⟩; have hB3 := hB1.trans (hb.mono hB1.size); have hid3 := (hB3.cell (p := ⟨bo, 0, none⟩) hzo).trans HID.out; clear hb y0 y1 hid)
              go_roundw
              case rel => exact ⟨j + 1, _, by omega, by go_num, rfl, by rw [HNX.out]; simp [hni], hB3⟩
              case measure => simp [intOf]; omega
        · have hjG : j = G + 1 := by omega
          have hb1 : b = L.any (fun n => decide (n = i)) := by
            rw [← HAN.out, HBT.out, hjG, List.take_of_length_le (by omega)]
          have HB1 := Lib.hid hb1
          clear hb1 hjl
          subst hjG
          go_wp2
          go_loopw [16, 113] (fun s m wq => ∃ (j : Nat) (b : Bool), j ≤ L.length ∧ m = .int .i64 j ∧ s = .bool b ∧ b = ((L.take j).any fun n => decide (n = i)) ∧ Below wi.heap.size wi wq) (fun _ m _ => L.length - (intOf m).toNat)
          case atStart => exact ⟨0, false, Nat.zero_le _, rfl, rfl, by simp, Below.refl _ _⟩
          case round =>
            obtain ⟨j2, b2, hj2, rfl, rfl, hb2, hBs⟩ := hrel
            have HB2 := Lib.hid hb2
            clear hb2
            have hBzz := hBz.trans (hBs.mono hBz.size)
            have hid4 := (hBs.cell (p := ⟨bo, 0, none⟩) (World.block_lt_of_cell? _ _ hid)).trans hid
            by_cases hjl : j2 < L.length
            · obtain ⟨g', o', c', ev, _, _, y0⟩ := (HL9.out.below hBzz).spot j2 hjl
              cases ev
              have hnx := any_nextI (fun n => decide (n = i)) L j2 hjl
              rw [← HB2.out] at hnx
              obtain ⟨n, hn⟩ : ∃ n, L[j2] = n := ⟨_, rfl⟩
              rw [hn] at hnx y0
              have HNX := Lib.hid hnx
              have m0 : (0 : Int) ≤ (j2 : Int) := by omega
              have m1 : (j2 : Int) < (L.length : Int) := by omega
              clear hn hnx hid
              by_cases hni : n = i
              · subst hni
                cases b2
                all_goals
                  go_wp2
                  go_roundw
                  case rel => exact ⟨j2 + 1, _, by omega, by go_num, rfl, by rw [HNX.out]; simp, hBs⟩
                  case measure => simp [intOf]; omega
              · have hne := beq_no' hni
                cases b2
                all_goals
                  go_wp2
                  go_roundw
                  case rel => exact ⟨j2 + 1, _, by omega, by go_num, rfl, by rw [HNX.out]; simp [hni], hBs⟩
                  case measure => simp [intOf]; omega
            · have hb2 : b2 = b := by
                rw [HB2.out, List.take_of_length_le (by omega)]
                exact HB1.out.symm
              subst hb2
              clear hid
              cases b2
              all_goals
                go_wp2
                go_roundw
                case rel => exact ⟨k + 1, by omega, by go_num, hBzz⟩
                case measure => simp [intOf]; omega
    · have hk2 : k = l.length := by omega
      rw [hk2]
      clear hk hk2 hlt
      have hBf := hBw
      go_wp2_with (go_at_call 8; refine (HAL.out _).mono ?_; rintro e w9 ⟨rfl, hb⟩; replace hBf := hBf.trans (hb.mono hBf.size); clear hb)
      go_ret
      exact ⟨rfl, hBf⟩
end Go.Proofs.Ytddlgnfghecncaa
