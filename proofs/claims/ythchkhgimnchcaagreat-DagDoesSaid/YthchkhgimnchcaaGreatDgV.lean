/- Stage 24's law DagDoes: the walk. (wip/gen/gen24V.py writes this text.) -/
import Derived.Test.YthchkhgimnchcaaGreatBun28
namespace Go.Proofs.YthchkhgimnchcaaGreat
open Go.RowKit

theorem keep_c24 {w3 q w1 : World} (h : Below w3.heap.size w3 q) (hb : Below q.heap.size q w1) : Below w3.heap.size w3 w1 := h.trans (hb.mono h.size)
theorem end_same (T : List Tk) (id how : Int) : (endDg T id how).1.length = T.length := by
  unfold endDg
  split
  · split
    · rfl
    · split
      · exact (setsT_len _ _ _).trans (setsT_len _ _ _)
      · split
        · exact (setsT_len _ _ _).trans (setsT_len _ _ _)
        · exact setsT_len _ _ _
  · rfl
theorem refClip24_any (n : Int) (w : World) : Calls Tryz.prog 7 #[.int .i64 n, .int .i64 0, .int .i64 64] w fun e w' => e = .returned (.int .i64 (clipD n)) ∧ w = w' := by
  unfold clipD
  by_cases h : n < 0
  · go_enter Tryz.func7, Tryz.ntmps7
    go_wp2
    go_ret
    exact ⟨ret_i (by omega), rfl⟩
  · by_cases h1 : 64 < n
    all_goals
      go_enter Tryz.func7, Tryz.ntmps7
      go_wp2
      go_ret
      exact ⟨ret_i (by omega), rfl⟩
set_option maxHeartbeats 64000000 in
set_option maxRecDepth 100000 in
theorem dagDoes_any (n : Int) (vl : Value) (l : List Da) (w : World) (hl : DasAt w vl l) (hI : ∀ x ∈ l, I64 x.id ∧ ∀ y ∈ x.batch, y.In) :
    Calls Tryz.prog 3 #[.int .i64 n, vl] w fun e w' => e = .returned (.bool true) ∧ Below w.heap.size w w' := by
  have GAL := Lib.hid fun w' => dAlive_any w'
  have GF0 := refFew24_any vl l 40 w hl (by omega)
  obtain ⟨la, lc, rfl⟩ := RowsAt.form hl.rows
  by_cases hf : fewDa l 40 = true
  · rw [hf] at GF0
    have GF := Lib.hid GF0
    have GN := Lib.hid fun w' => dNew_any n w'
    have GC := Lib.hid fun w' => refClip24_any n w'
    have hlen : l.length ≤ 40 := by
      unfold fewDa at hf
      simp only [Bool.and_eq_true, decide_eq_true_eq] at hf
      omega
    have hb12 : ∀ x ∈ l, x.batch.length ≤ 12 := fun x hx => by
      unfold fewDa at hf
      simp only [Bool.and_eq_true, decide_eq_true_eq] at hf
      have h1 := List.all_eq_true.1 hf.2 x hx
      unfold fewS at h1
      simp only [Bool.and_eq_true, decide_eq_true_eq] at h1
      omega
    generalize clipD n = room at *
    have HL := Lib.hid hl
    have HI := Lib.hid hI
    have HB12 := Lib.hid hb12
    have l0 : (0 : Int) ≤ (l.length : Int) := by omega
    have l2 : (l.length : Int) ≤ 40 := by omega
    clear hl hI GF0 hf hb12 hlen
    go_enter Tryz.func3, Tryz.ntmps3
    go_wp2_with (first
      | (go_at_call 4; (with_reducible refine GF.out.mono ?_); rintro e w1 ⟨rfl, hb⟩; have HB1 := Lib.hid hb; clear hb)
      | (go_at_call 6; (with_reducible refine (GN.out _).mono ?_); rintro e w2 ⟨p, mb, F0, nx0, g0, Fm0, rfl, q1, q2, q3⟩; have HD0 := Lib.hid q1; have HF0 := Lib.hid (fun k hk => Nat.le_trans HB1.out.size (q2 k hk)); have HB2 := Lib.hid (HB1.out.trans (q3.mono HB1.out.size)); clear q1 q2 q3)
      | (go_at_call 7; (with_reducible refine (GC.out _).mono ?_); rintro e w3 ⟨rfl, rfl⟩))
    go_loopg [7, 25] l.length (fun kx av iv ws => ∃ (k : Nat) (T : List Tk) (F : Nat → Prop) (nx : Int → List Int) (g : Int → Option Nat) (Fm : Int → Nat → Prop), k ≤ l.length ∧ l.length - k ≤ kx ∧ iv = .int .i64 k ∧ Hid (DagP F ws p mb room T nx g Fm) ∧ Hid (RowsAt ws 14 csTk av T) ∧ Hid (OffV F av T.length) ∧ Hid (∀ t ∈ T, IntsAt w t.sp.v t.sp.aft) ∧ Hid (∀ j, F j → w.heap.size ≤ j) ∧ Hid (Below w.heap.size w ws))
    case atStart => exact ⟨0, [], F0, nx0, g0, Fm0, Nat.zero_le _, Nat.le_refl _, rfl, HD0.out, RowsAt.nil _ _ _, OffV.nil, (show ∀ t ∈ ([] : List Tk), IntsAt w t.sp.v t.sp.aft from fun t ht => by simp at ht), HF0.out, HB2.out⟩
    case round =>
      clear HD0 HF0 HB1 HB2
      obtain ⟨k, T, F, nx, g, Fm, hk, hkx, rfl, HD, HR, HO, HIT, HF, HB⟩ := hrel
      by_cases hlt : k < l.length
      · obtain ⟨g0', o0, cc, kind, aid, aa, ac, b, he, e, hc, p0, p1, p2, hs⟩ := (HL.out.kept HB.out).spot k hlt
        cases e
        have hxm := List.getElem_mem hlt
        have hx := HI.out _ hxm
        have hx12 := HB12.out _ hxm
        have hxs := HL.out.each _ hxm
        rw [he] at hx hx12 hxs
        dsimp only [Da.v] at hx hx12 hxs
        obtain ⟨ra, rc, e⟩ := RowsAt.form HR.out
        subst e
        have k0 : (0 : Int) ≤ (k : Int) := by omega
        have k1 : (k : Int) < (l.length : Int) := by omega
        have hal := (Below.refl wr.heap.size wr).alloc (Nat.le_refl _) (.cells #[.int .i64 kind, .int .i64 aid, .slice aa b.length ac] 31)
        have hX := Blk.new wr [.int .i64 kind, .int .i64 aid, .slice aa b.length ac] 31
        have x0 := hX.cell 0 rfl
        have x1 := hX.cell 1 rfl
        have x2 := hX.cell 2 rfl
        have GD0 := dDo_any (wr.alloc (.cells #[.int .i64 kind, .int .i64 aid, .slice aa b.length ac] 31)) (HD.out.kept hal) ⟨kind, aid, aa, ac, b⟩ hx.1 (fun w' ho => hxs.kept ((HB.out.trans (hal.mono HB.out.size)).trans (ho.below HF.out (Nat.le_trans HB.out.size hal.size)))) (by show b.length ≤ 30; omega) (fun y hy => ⟨(hx.2 y hy).id, fun n hn => (hx.2 y hy).aft n hn⟩) (fun y hy => (hx.2 y hy).len)
        dsimp only at GD0
        have HXS := Lib.hid hxs
        have HX2 := Lib.hid hx.2
        have HAI := Lib.hid hx.1
        have HBL := Lib.hid hx12
        have HT0 := Lib.hid (show T.length ≤ 64 by have h1 := HD.out.fit; have h2 := HD.out.room64; omega)
        have HA8 := Lib.hid (fun t (ht : t ∈ T) => HD.out.wf.aft8 ht)
        have HR1 := Lib.hid (RowsAt.kept HR.out hal)
        have HBX := Lib.hid hX
        have HBF := Lib.hid (fun e => by have := HD.out.lt _ e; omega : ¬ F wr.heap.size)
        have HBa := Lib.hid (HB.out.trans (hal.mono HB.out.size))
        have HLT := Lib.hid (And.intro hlt hkx)
        have H3k := Lib.hid (fun (h : kind = 1 ∨ kind = 2 ∨ kind = 3) => show actDg room T ⟨kind, aid, aa, ac, b⟩ = endDg T aid kind from by
          unfold actDg
          rcases h with rfl | rfl | rfl <;> simp)
        have H4k := Lib.hid (fun (h : ¬ (kind = 1 ∨ kind = 2 ∨ kind = 3)) => show actDg room T ⟨kind, aid, aa, ac, b⟩ = admDg room T b from by
          unfold actDg
          rw [if_neg (fun e => h (.inl e)), if_neg (fun e => h (.inr (.inl e))), if_neg (fun e => h (.inr (.inr e)))])
        clear hxm hx hx12 hxs hX hal he hs hc hlt hkx hk
        by_cases hk3 : kind = 1 ∨ kind = 2 ∨ kind = 3
        · have j1 : 1 ≤ kind := by omega
          have j3 : kind ≤ 3 := by omega
          have hr := H3k.out hk3
          rw [hr] at GD0
          have hlen := end_len T aid kind
          have hlq := end_same T aid kind
          have hP := fun (P : Sp → Prop) (h : ∀ t ∈ T, P t.sp) => end_P h aid kind
          have GE0 := fun w' va (h1 : RowsAt w' 14 csTk va T) (h2 : ∀ t ∈ T, IntsAt w' t.sp.v t.sp.aft) => refEnd24_any va T aid w' kind hk3 h1 h2 (by have := HT0.out; omega) HA8.out
          generalize endDg T aid kind = r at *
          obtain ⟨T', l', q⟩ := r
          dsimp only at hlen hP hlq
          have HLQ := Lib.hid hlq
          clear hlq
          have HIT' := Lib.hid (hP (fun x => IntsAt w x.v x.aft) HIT.out)
          have HLL := Lib.hid (show l'.length ≤ 1000 by have := HT0.out; have := HBL.out; omega)
          have GD := Lib.hid GD0
          have GE := Lib.hid GE0
          clear hr hlen hP GD0 GE0 H3k H4k
          go_upto_region 9 with (go_at_call 8; (with_reducible refine GD.out.mono ?_); rintro e w4 ⟨v, F', nx', g', Fm', rfl, q1, q2, q3, q4⟩; have HD4 := Lib.hid (show DagP F' w4 p mb room T' nx' g' Fm' from q3); have HX4 := Lib.hid (show IntsAt w4 v l' from q1); have HR4 := Lib.hid (RowsAt.only HR1.out q4.only HO.out); have HO4 := Lib.hid (OffV.mv HO.out HR1.out q4); have HF4 := Lib.hid (q4.from_ HF.out HBa.out.size); have HBX4 := Lib.hid (HBX.out.same (q4.only.block wr.heap.size HBX.out.lt HBF.out)); have HB4 := Lib.hid (HBa.out.trans (q4.only.below HF.out HBa.out.size)); clear q1 q2 q3 q4)
          clear x0 x1 x2 p0 p1 p2
          have x0 := HBX4.out.cell 0 rfl
          have x1 := HBX4.out.cell 1 rfl
          have x2 := HBX4.out.cell 2 rfl
          go_upto_region 14 with (go_at_call 9; (with_reducible refine (GE.out _ _ HR4.out (fun t ht => (HIT.out t ht).below HB4.out)).mono ?_); rintro e w5 ⟨v5, u5, rfl, h1, h2, h3, h4⟩; have K1 := Lib.hid h1; have K2 := Lib.hid h2; have K3 := Lib.hid h3; have K4 := Lib.hid h4; clear h1 h2 h3 h4)
          have HR5 := Lib.hid (show RowsAt w5 14 csTk v5 T' from K1.out)
          have HU5 := Lib.hid (show IntsAt w5 u5 l' from K2.out)
          have HXV := Lib.hid (HX4.out.below K3.out)
          have HD5 := Lib.hid (HD4.out.kept K3.out)
          have HBX5 := Lib.hid (HBX4.out.kept K3.out)
          have HB5 := Lib.hid (HB4.out.trans (K3.out.mono HB4.out.size))
          have hk4 : ∀ j, v5.ownBlock = some j → ((Value.slice ra T.length rc).ownBlock = some j ∧ T'.length = T.length) ∨ w4.heap.size ≤ j := fun j hj => (K4.out j hj).imp (fun h5 => ⟨h5, HLQ.out⟩) id
          have ho5 : OffV F' v5 T'.length := fun h0 j hj hF => by
            rcases hk4 j hj with h5 | h5
            · exact HO4.out (by have := h5.2; omega) j h5.1 hF
            · have := HD4.out.lt j hF
              omega
          have HO5 := Lib.hid ho5
          clear hk4 ho5
          clear x0 x1 x2

          have HT64 := Lib.hid (show T'.length ≤ 64 by have h1 := HD4.out.fit; have h2 := HD4.out.room64; omega)
          have HAF8 := Lib.hid (fun t (ht : t ∈ T') => HD4.out.wf.aft8 ht)
          obtain ⟨va, vc, e⟩ := RowsAt.form HR5.out
          subst e
          obtain ⟨W0, hW0⟩ : ∃ W0, w5 = W0 := ⟨_, rfl⟩
          have HX0 := Lib.hid (fun w' (hb : Below w5.heap.size w5 w') => HXV.out.below hb)
          have HU0 := Lib.hid (fun w' (hb : Below w5.heap.size w5 w') => HU5.out.below hb)
          have HR0 := Lib.hid (fun w' (hb : Below w5.heap.size w5 w') => RowsAt.kept HR5.out hb)
          have HIT0 := Lib.hid (fun w' (hb : Below w5.heap.size w5 w') t (ht : t ∈ T') => (HIT'.out t ht).below (HB5.out.trans (hb.mono HB5.out.size)))
          have HD0' := Lib.hid (fun w' (hb : Below w5.heap.size w5 w') => HD5.out.kept hb)
          have Kx1 := fun (w' : World) (h : Below w5.heap.size w5 w') => (HBX5.out.kept h).cell 1 rfl
          have hS0 := (Below.refl w5.heap.size w5).drew
          have H1 := Lib.hid (show ∀ w', Below w5.heap.size w5 w' → Calls Tryz.prog 11 #[v, u5] w' fun e w'' => e = .returned (.bool true) ∧ Below w'.heap.size w' w'' from fun w' hb => by
            have h1 := refInts_any v u5 l' l' w' (HX0.out w' hb) (HU0.out w' hb) (by have := HLL.out; omega) (by have := HLL.out; omega)
            rwa [decide_eq_true rfl] at h1)
          have H2 := Lib.hid fun w' (hb : Below w5.heap.size w5 w') => dView_any w' (HD0'.out w' hb)
          have H3 := Lib.hid fun w' v9 V (hb : Below w5.heap.size w5 w') (hV : RowsAt w' 14 csTk v9 V) (hVI : ∀ t ∈ V, IntsAt w' t.sp.v t.sp.aft) (hp : V.map plK = T'.map plK) => refSame24_any v9 (.slice va T'.length vc) V T' w' hV (HR0.out w' hb) hVI (HIT0.out w' hb) hp (by have := HT64.out; omega) HAF8.out
          have H4 := Lib.hid fun w' (hb : Below w5.heap.size w5 w') => dLen_any w' (HD0'.out w' hb)
          have H5 := Lib.hid fun w' (hb : Below w5.heap.size w5 w') => dWaits_any w' (HD0'.out w' hb) aid HAI.out
          have H6 := Lib.hid fun w' (hb : Below w5.heap.size w5 w') => refWaits24_any (.slice va T'.length vc) T' aid w' (HR0.out w' hb) (HIT0.out w' hb) (by have := HT64.out; omega) HAF8.out
          have t64 : (T'.length : Int) ≤ 64 := by have := HT64.out; omega
          have t0 : (0 : Int) ≤ (T'.length : Int) := by omega
          generalize waitsT T' aid = wt at *
          clear hW0 W0
          go_upto_region 14 with fail
          go_region_held3 (fun w' => Below w5.heap.size w5 w') (assumption) ((first
            | (go_at_call 11; with_reducible refine (H1.out _ ‹Below w5.heap.size w5 _›).mono ?_; rintro e u1 ⟨rfl, hb1⟩; have hS1 := keep_c24 ‹Below w5.heap.size w5 _› hb1; clear hb1)
            | (go_at_call 13; with_reducible refine (H2.out _ ‹Below w5.heap.size w5 _›).mono ?_; rintro e u2 ⟨vk, V, rfl, o1, o2, hp, hb2⟩; obtain ⟨ka, kc, e⟩ := RowsAt.form (OwnR.rows csTk_len o1); subst e; have hS2 := keep_c24 ‹Below w5.heap.size w5 _› hb2; have HV2 := Lib.hid (OwnR.rows csTk_len o1); have HVI2 := Lib.hid (fun t (ht : t ∈ V) => OwnI.ints (o2 t ht)); have HVP := Lib.hid hp; clear hb2 o1 o2 hp)
            | (go_at_call 12; with_reducible refine (H3.out _ _ _ ‹Below w5.heap.size w5 _› HV2.out HVI2.out HVP.out).mono ?_; rintro e u3 ⟨rfl, hb3⟩; have hS3 := keep_c24 ‹Below w5.heap.size w5 _› hb3; clear hb3)
            | (go_at_call 14; with_reducible refine (H4.out _ ‹Below w5.heap.size w5 _›).mono ?_; rintro e u4 ⟨rfl, rfl⟩)
            | (go_at_call 15; with_reducible refine (H5.out _ ‹Below w5.heap.size w5 _›).mono ?_; rintro e u5' ⟨rfl, rfl⟩)
            | (go_at_call 16; with_reducible refine (H6.out _ ‹Below w5.heap.size w5 _›).mono ?_; rintro e u6 ⟨rfl, rfl⟩)))
          all_goals (
            have HS3 := Lib.hid hS3
            have HD9 := Lib.hid (HD0'.out _ hS3)
            have HR9 := Lib.hid (HR0.out _ hS3)
            have HB9 := Lib.hid (HB5.out.trans (hS3.mono HB5.out.size))
            have x1 := Kx1 _ hS3
            have GF9 := refFind23_any (.slice va T'.length vc) T' aid _ HR9.out (by have := HT64.out; omega)
            have GS9 := fun (w' : World) (hb : Below _ _ w') => dStatus_any w' (HD9.out.kept hb) aid HAI.out
            clear hS0 hS1 hS2 hS3 Kx1 H1 H2 H3 H4 H5 H6 HD0' HR0 HIT0 HX0 HU0 HV2 HVI2 HVP HS3
            by_cases haid : aid ∈ idsK T'
            · obtain ⟨q', hqT, hq, hsg⟩ := sg_plc haid
              rw [hq] at GF9
              obtain ⟨ga, oa, ca, e, -, -, hx⟩ := RowsAt.spot HR9.out q' hqT
              simp only [Value.slice.injEq] at e
              obtain ⟨rfl, -, rfl⟩ := e
              have s9 : World.cell? _ ⟨ga, oa + q' * 14 + 9, none⟩ = some (.int .i64 (T'[q']'hqT).st) := hx 9 _ rfl
              rw [← hsg] at s9
              have HGF := Lib.hid GF9
              have HGS := Lib.hid GS9
              generalize sgT T' aid = sg at *
              have z1 : (q' : Int) < (T'.length : Int) := by omega
              have z2 : (0 : Int) ≤ (q' : Int) := by omega
              clear haid hqT hq hsg hx GF9 GS9
              go_upto_region 17 with (go_at_call 17; (with_reducible refine HGF.out.mono ?_); rintro e w1 ⟨rfl, rfl⟩)
              refine wp_region_calm0 (by kernel_rfl) (by kernel_rfl) fun M => ?_
              have m0 := fun n : In M.w => n.cell (M.cell x1)
              have m1 := fun n : In M.w => n.cell (M.cell s9)
              have mS := fun n : In M.w => HGS.out n.w (M.h.trans (n.h.mono M.h.size))
              have d1 : decide ((q' : Int) ≥ 0) = true := by simp
              have d2 : decide ((q' : Int) < 0) = false := by simp
              repeat (go_big_quiet_step ((go_at_call 18; with_reducible exact In.call_same (mS _))))
              refine wpQuiet_nil ?_
              intro w10 hb10
              have HD10 := Lib.hid (HD9.out.kept hb10)
              have HR10 := Lib.hid (RowsAt.kept HR9.out hb10)
              have HB10 := Lib.hid (HB9.out.trans (hb10.mono HB9.out.size))
              clear m0 m1 mS d1 d2 M hb10 x1 s9
              go_wp2
              go_roundg (l.length - (k + 1))
              case measure => have := HLT.out; omega
              case rel => exact ⟨k + 1, T', F', nx', g', Fm', by have := HLT.out; omega, Nat.le_refl _, by go_num, HD10.out, HR10.out, HO5.out, HIT'.out, HF4.out, HB10.out⟩
            · have hu : plcL (idsK T') aid < 0 := by
                have h1 : ¬ 0 ≤ plcL (idsK T') aid := fun h => haid (plc_ge.1 h)
                omega
              rw [sg_none haid] at GS9
              have HGF := Lib.hid GF9
              have HGS := Lib.hid GS9
              generalize plcL (idsK T') aid = u at *
              clear haid GF9 GS9
              go_upto_region 17 with (go_at_call 17; (with_reducible refine HGF.out.mono ?_); rintro e w1 ⟨rfl, rfl⟩)
              refine wp_region_calm0 (by kernel_rfl) (by kernel_rfl) fun M => ?_
              have m0 := fun n : In M.w => n.cell (M.cell x1)
              have mS := fun n : In M.w => HGS.out n.w (M.h.trans (n.h.mono M.h.size))
              have d1 : decide (u ≥ 0) = false := by simp; omega
              have d2 : decide (u < 0) = true := by simp; omega
              repeat (go_big_quiet_step ((go_at_call 18; with_reducible exact In.call_same (mS _))))
              refine wpQuiet_nil ?_
              intro w10 hb10
              have HD10 := Lib.hid (HD9.out.kept hb10)
              have HR10 := Lib.hid (RowsAt.kept HR9.out hb10)
              have HB10 := Lib.hid (HB9.out.trans (hb10.mono HB9.out.size))
              clear m0 mS d1 d2 M hb10 x1
              go_wp2
              go_roundg (l.length - (k + 1))
              case measure => have := HLT.out; omega
              case rel => exact ⟨k + 1, T', F', nx', g', Fm', by have := HLT.out; omega, Nat.le_refl _, by go_num, HD10.out, HR10.out, HO5.out, HIT'.out, HF4.out, HB10.out⟩)
        · by_cases j1 : 1 ≤ kind
          · have j3 : ¬ kind ≤ 3 := by omega
            have hr := H4k.out hk3
            rw [hr] at GD0
            have hlen := adm_len room T b
            have hP := fun (P : Sp → Prop) (h : ∀ t ∈ T, P t.sp) (h2 : ∀ x ∈ b, P x) => adm_P h room h2
            have GE0 := fun w' va vb (h1 : RowsAt w' 14 csTk va T) (h2 : SpsAt w' vb b) => refAdmit24_any va vb T room b w' h1 h2 (by have := HT0.out; omega) (by have := HBL.out; omega) (fun y hy => (HX2.out y hy).len)
            generalize admDg room T b = r at *
            obtain ⟨T', l', q⟩ := r
            dsimp only at hlen hP
            have HIT' := Lib.hid (hP (fun x => IntsAt w x.v x.aft) HIT.out (fun x hx => HXS.out.2 x hx))
            have HLL := Lib.hid (show l'.length ≤ 1000 by have := HT0.out; have := HBL.out; omega)
            have GD := Lib.hid GD0
            have GE := Lib.hid GE0
            clear hr hlen hP GD0 GE0 H3k H4k
            go_upto_region 9 with (go_at_call 8; (with_reducible refine GD.out.mono ?_); rintro e w4 ⟨v, F', nx', g', Fm', rfl, q1, q2, q3, q4⟩; have HD4 := Lib.hid (show DagP F' w4 p mb room T' nx' g' Fm' from q3); have HX4 := Lib.hid (show IntsAt w4 v l' from q1); have HR4 := Lib.hid (RowsAt.only HR1.out q4.only HO.out); have HO4 := Lib.hid (OffV.mv HO.out HR1.out q4); have HF4 := Lib.hid (q4.from_ HF.out HBa.out.size); have HBX4 := Lib.hid (HBX.out.same (q4.only.block wr.heap.size HBX.out.lt HBF.out)); have HB4 := Lib.hid (HBa.out.trans (q4.only.below HF.out HBa.out.size)); clear q1 q2 q3 q4)
            clear x0 x1 x2 p0 p1 p2
            have x0 := HBX4.out.cell 0 rfl
            have x1 := HBX4.out.cell 1 rfl
            have x2 := HBX4.out.cell 2 rfl
            go_upto_region 14 with (go_at_call 10; (with_reducible refine (GE.out _ _ _ HR4.out (HXS.out.kept HB4.out)).mono ?_); rintro e w5 ⟨v5, u5, rfl, h1, h2, h3, h4⟩; have K1 := Lib.hid h1; have K2 := Lib.hid h2; have K3 := Lib.hid h3; have K4 := Lib.hid h4; clear h1 h2 h3 h4)
            have HR5 := Lib.hid (show RowsAt w5 14 csTk v5 T' from K1.out)
            have HU5 := Lib.hid (show IntsAt w5 u5 l' from K2.out)
            have HXV := Lib.hid (HX4.out.below K3.out)
            have HD5 := Lib.hid (HD4.out.kept K3.out)
            have HBX5 := Lib.hid (HBX4.out.kept K3.out)
            have HB5 := Lib.hid (HB4.out.trans (K3.out.mono HB4.out.size))
            have hk4 : ∀ j, v5.ownBlock = some j → ((Value.slice ra T.length rc).ownBlock = some j ∧ T'.length = T.length) ∨ w4.heap.size ≤ j := fun j hj => (K4.out j hj).imp (fun h5 => ⟨h5.1, congrArg List.length h5.2⟩) id
            have ho5 : OffV F' v5 T'.length := fun h0 j hj hF => by
              rcases hk4 j hj with h5 | h5
              · exact HO4.out (by have := h5.2; omega) j h5.1 hF
              · have := HD4.out.lt j hF
                omega
            have HO5 := Lib.hid ho5
            clear hk4 ho5
            clear x0 x1 x2

            have HT64 := Lib.hid (show T'.length ≤ 64 by have h1 := HD4.out.fit; have h2 := HD4.out.room64; omega)
            have HAF8 := Lib.hid (fun t (ht : t ∈ T') => HD4.out.wf.aft8 ht)
            obtain ⟨va, vc, e⟩ := RowsAt.form HR5.out
            subst e
            obtain ⟨W0, hW0⟩ : ∃ W0, w5 = W0 := ⟨_, rfl⟩
            have HX0 := Lib.hid (fun w' (hb : Below w5.heap.size w5 w') => HXV.out.below hb)
            have HU0 := Lib.hid (fun w' (hb : Below w5.heap.size w5 w') => HU5.out.below hb)
            have HR0 := Lib.hid (fun w' (hb : Below w5.heap.size w5 w') => RowsAt.kept HR5.out hb)
            have HIT0 := Lib.hid (fun w' (hb : Below w5.heap.size w5 w') t (ht : t ∈ T') => (HIT'.out t ht).below (HB5.out.trans (hb.mono HB5.out.size)))
            have HD0' := Lib.hid (fun w' (hb : Below w5.heap.size w5 w') => HD5.out.kept hb)
            have Kx1 := fun (w' : World) (h : Below w5.heap.size w5 w') => (HBX5.out.kept h).cell 1 rfl
            have hS0 := (Below.refl w5.heap.size w5).drew
            have H1 := Lib.hid (show ∀ w', Below w5.heap.size w5 w' → Calls Tryz.prog 11 #[v, u5] w' fun e w'' => e = .returned (.bool true) ∧ Below w'.heap.size w' w'' from fun w' hb => by
              have h1 := refInts_any v u5 l' l' w' (HX0.out w' hb) (HU0.out w' hb) (by have := HLL.out; omega) (by have := HLL.out; omega)
              rwa [decide_eq_true rfl] at h1)
            have H2 := Lib.hid fun w' (hb : Below w5.heap.size w5 w') => dView_any w' (HD0'.out w' hb)
            have H3 := Lib.hid fun w' v9 V (hb : Below w5.heap.size w5 w') (hV : RowsAt w' 14 csTk v9 V) (hVI : ∀ t ∈ V, IntsAt w' t.sp.v t.sp.aft) (hp : V.map plK = T'.map plK) => refSame24_any v9 (.slice va T'.length vc) V T' w' hV (HR0.out w' hb) hVI (HIT0.out w' hb) hp (by have := HT64.out; omega) HAF8.out
            have H4 := Lib.hid fun w' (hb : Below w5.heap.size w5 w') => dLen_any w' (HD0'.out w' hb)
            have H5 := Lib.hid fun w' (hb : Below w5.heap.size w5 w') => dWaits_any w' (HD0'.out w' hb) aid HAI.out
            have H6 := Lib.hid fun w' (hb : Below w5.heap.size w5 w') => refWaits24_any (.slice va T'.length vc) T' aid w' (HR0.out w' hb) (HIT0.out w' hb) (by have := HT64.out; omega) HAF8.out
            have t64 : (T'.length : Int) ≤ 64 := by have := HT64.out; omega
            have t0 : (0 : Int) ≤ (T'.length : Int) := by omega
            generalize waitsT T' aid = wt at *
            clear hW0 W0
            go_upto_region 14 with fail
            go_region_held3 (fun w' => Below w5.heap.size w5 w') (assumption) ((first
              | (go_at_call 11; with_reducible refine (H1.out _ ‹Below w5.heap.size w5 _›).mono ?_; rintro e u1 ⟨rfl, hb1⟩; have hS1 := keep_c24 ‹Below w5.heap.size w5 _› hb1; clear hb1)
              | (go_at_call 13; with_reducible refine (H2.out _ ‹Below w5.heap.size w5 _›).mono ?_; rintro e u2 ⟨vk, V, rfl, o1, o2, hp, hb2⟩; obtain ⟨ka, kc, e⟩ := RowsAt.form (OwnR.rows csTk_len o1); subst e; have hS2 := keep_c24 ‹Below w5.heap.size w5 _› hb2; have HV2 := Lib.hid (OwnR.rows csTk_len o1); have HVI2 := Lib.hid (fun t (ht : t ∈ V) => OwnI.ints (o2 t ht)); have HVP := Lib.hid hp; clear hb2 o1 o2 hp)
              | (go_at_call 12; with_reducible refine (H3.out _ _ _ ‹Below w5.heap.size w5 _› HV2.out HVI2.out HVP.out).mono ?_; rintro e u3 ⟨rfl, hb3⟩; have hS3 := keep_c24 ‹Below w5.heap.size w5 _› hb3; clear hb3)
              | (go_at_call 14; with_reducible refine (H4.out _ ‹Below w5.heap.size w5 _›).mono ?_; rintro e u4 ⟨rfl, rfl⟩)
              | (go_at_call 15; with_reducible refine (H5.out _ ‹Below w5.heap.size w5 _›).mono ?_; rintro e u5' ⟨rfl, rfl⟩)
              | (go_at_call 16; with_reducible refine (H6.out _ ‹Below w5.heap.size w5 _›).mono ?_; rintro e u6 ⟨rfl, rfl⟩)))
            all_goals (
              have HS3 := Lib.hid hS3
              have HD9 := Lib.hid (HD0'.out _ hS3)
              have HR9 := Lib.hid (HR0.out _ hS3)
              have HB9 := Lib.hid (HB5.out.trans (hS3.mono HB5.out.size))
              have x1 := Kx1 _ hS3
              have GF9 := refFind23_any (.slice va T'.length vc) T' aid _ HR9.out (by have := HT64.out; omega)
              have GS9 := fun (w' : World) (hb : Below _ _ w') => dStatus_any w' (HD9.out.kept hb) aid HAI.out
              clear hS0 hS1 hS2 hS3 Kx1 H1 H2 H3 H4 H5 H6 HD0' HR0 HIT0 HX0 HU0 HV2 HVI2 HVP HS3
              by_cases haid : aid ∈ idsK T'
              · obtain ⟨q', hqT, hq, hsg⟩ := sg_plc haid
                rw [hq] at GF9
                obtain ⟨ga, oa, ca, e, -, -, hx⟩ := RowsAt.spot HR9.out q' hqT
                simp only [Value.slice.injEq] at e
                obtain ⟨rfl, -, rfl⟩ := e
                have s9 : World.cell? _ ⟨ga, oa + q' * 14 + 9, none⟩ = some (.int .i64 (T'[q']'hqT).st) := hx 9 _ rfl
                rw [← hsg] at s9
                have HGF := Lib.hid GF9
                have HGS := Lib.hid GS9
                generalize sgT T' aid = sg at *
                have z1 : (q' : Int) < (T'.length : Int) := by omega
                have z2 : (0 : Int) ≤ (q' : Int) := by omega
                clear haid hqT hq hsg hx GF9 GS9
                go_upto_region 17 with (go_at_call 17; (with_reducible refine HGF.out.mono ?_); rintro e w1 ⟨rfl, rfl⟩)
                refine wp_region_calm0 (by kernel_rfl) (by kernel_rfl) fun M => ?_
                have m0 := fun n : In M.w => n.cell (M.cell x1)
                have m1 := fun n : In M.w => n.cell (M.cell s9)
                have mS := fun n : In M.w => HGS.out n.w (M.h.trans (n.h.mono M.h.size))
                have d1 : decide ((q' : Int) ≥ 0) = true := by simp
                have d2 : decide ((q' : Int) < 0) = false := by simp
                repeat (go_big_quiet_step ((go_at_call 18; with_reducible exact In.call_same (mS _))))
                refine wpQuiet_nil ?_
                intro w10 hb10
                have HD10 := Lib.hid (HD9.out.kept hb10)
                have HR10 := Lib.hid (RowsAt.kept HR9.out hb10)
                have HB10 := Lib.hid (HB9.out.trans (hb10.mono HB9.out.size))
                clear m0 m1 mS d1 d2 M hb10 x1 s9
                go_wp2
                go_roundg (l.length - (k + 1))
                case measure => have := HLT.out; omega
                case rel => exact ⟨k + 1, T', F', nx', g', Fm', by have := HLT.out; omega, Nat.le_refl _, by go_num, HD10.out, HR10.out, HO5.out, HIT'.out, HF4.out, HB10.out⟩
              · have hu : plcL (idsK T') aid < 0 := by
                  have h1 : ¬ 0 ≤ plcL (idsK T') aid := fun h => haid (plc_ge.1 h)
                  omega
                rw [sg_none haid] at GS9
                have HGF := Lib.hid GF9
                have HGS := Lib.hid GS9
                generalize plcL (idsK T') aid = u at *
                clear haid GF9 GS9
                go_upto_region 17 with (go_at_call 17; (with_reducible refine HGF.out.mono ?_); rintro e w1 ⟨rfl, rfl⟩)
                refine wp_region_calm0 (by kernel_rfl) (by kernel_rfl) fun M => ?_
                have m0 := fun n : In M.w => n.cell (M.cell x1)
                have mS := fun n : In M.w => HGS.out n.w (M.h.trans (n.h.mono M.h.size))
                have d1 : decide (u ≥ 0) = false := by simp; omega
                have d2 : decide (u < 0) = true := by simp; omega
                repeat (go_big_quiet_step ((go_at_call 18; with_reducible exact In.call_same (mS _))))
                refine wpQuiet_nil ?_
                intro w10 hb10
                have HD10 := Lib.hid (HD9.out.kept hb10)
                have HR10 := Lib.hid (RowsAt.kept HR9.out hb10)
                have HB10 := Lib.hid (HB9.out.trans (hb10.mono HB9.out.size))
                clear m0 mS d1 d2 M hb10 x1
                go_wp2
                go_roundg (l.length - (k + 1))
                case measure => have := HLT.out; omega
                case rel => exact ⟨k + 1, T', F', nx', g', Fm', by have := HLT.out; omega, Nat.le_refl _, by go_num, HD10.out, HR10.out, HO5.out, HIT'.out, HF4.out, HB10.out⟩)
          · skip
            have hr := H4k.out hk3
            rw [hr] at GD0
            have hlen := adm_len room T b
            have hP := fun (P : Sp → Prop) (h : ∀ t ∈ T, P t.sp) (h2 : ∀ x ∈ b, P x) => adm_P h room h2
            have GE0 := fun w' va vb (h1 : RowsAt w' 14 csTk va T) (h2 : SpsAt w' vb b) => refAdmit24_any va vb T room b w' h1 h2 (by have := HT0.out; omega) (by have := HBL.out; omega) (fun y hy => (HX2.out y hy).len)
            generalize admDg room T b = r at *
            obtain ⟨T', l', q⟩ := r
            dsimp only at hlen hP
            have HIT' := Lib.hid (hP (fun x => IntsAt w x.v x.aft) HIT.out (fun x hx => HXS.out.2 x hx))
            have HLL := Lib.hid (show l'.length ≤ 1000 by have := HT0.out; have := HBL.out; omega)
            have GD := Lib.hid GD0
            have GE := Lib.hid GE0
            clear hr hlen hP GD0 GE0 H3k H4k
            go_upto_region 9 with (go_at_call 8; (with_reducible refine GD.out.mono ?_); rintro e w4 ⟨v, F', nx', g', Fm', rfl, q1, q2, q3, q4⟩; have HD4 := Lib.hid (show DagP F' w4 p mb room T' nx' g' Fm' from q3); have HX4 := Lib.hid (show IntsAt w4 v l' from q1); have HR4 := Lib.hid (RowsAt.only HR1.out q4.only HO.out); have HO4 := Lib.hid (OffV.mv HO.out HR1.out q4); have HF4 := Lib.hid (q4.from_ HF.out HBa.out.size); have HBX4 := Lib.hid (HBX.out.same (q4.only.block wr.heap.size HBX.out.lt HBF.out)); have HB4 := Lib.hid (HBa.out.trans (q4.only.below HF.out HBa.out.size)); clear q1 q2 q3 q4)
            clear x0 x1 x2 p0 p1 p2
            have x0 := HBX4.out.cell 0 rfl
            have x1 := HBX4.out.cell 1 rfl
            have x2 := HBX4.out.cell 2 rfl
            go_upto_region 14 with (go_at_call 10; (with_reducible refine (GE.out _ _ _ HR4.out (HXS.out.kept HB4.out)).mono ?_); rintro e w5 ⟨v5, u5, rfl, h1, h2, h3, h4⟩; have K1 := Lib.hid h1; have K2 := Lib.hid h2; have K3 := Lib.hid h3; have K4 := Lib.hid h4; clear h1 h2 h3 h4)
            have HR5 := Lib.hid (show RowsAt w5 14 csTk v5 T' from K1.out)
            have HU5 := Lib.hid (show IntsAt w5 u5 l' from K2.out)
            have HXV := Lib.hid (HX4.out.below K3.out)
            have HD5 := Lib.hid (HD4.out.kept K3.out)
            have HBX5 := Lib.hid (HBX4.out.kept K3.out)
            have HB5 := Lib.hid (HB4.out.trans (K3.out.mono HB4.out.size))
            have hk4 : ∀ j, v5.ownBlock = some j → ((Value.slice ra T.length rc).ownBlock = some j ∧ T'.length = T.length) ∨ w4.heap.size ≤ j := fun j hj => (K4.out j hj).imp (fun h5 => ⟨h5.1, congrArg List.length h5.2⟩) id
            have ho5 : OffV F' v5 T'.length := fun h0 j hj hF => by
              rcases hk4 j hj with h5 | h5
              · exact HO4.out (by have := h5.2; omega) j h5.1 hF
              · have := HD4.out.lt j hF
                omega
            have HO5 := Lib.hid ho5
            clear hk4 ho5
            clear x0 x1 x2

            have HT64 := Lib.hid (show T'.length ≤ 64 by have h1 := HD4.out.fit; have h2 := HD4.out.room64; omega)
            have HAF8 := Lib.hid (fun t (ht : t ∈ T') => HD4.out.wf.aft8 ht)
            obtain ⟨va, vc, e⟩ := RowsAt.form HR5.out
            subst e
            obtain ⟨W0, hW0⟩ : ∃ W0, w5 = W0 := ⟨_, rfl⟩
            have HX0 := Lib.hid (fun w' (hb : Below w5.heap.size w5 w') => HXV.out.below hb)
            have HU0 := Lib.hid (fun w' (hb : Below w5.heap.size w5 w') => HU5.out.below hb)
            have HR0 := Lib.hid (fun w' (hb : Below w5.heap.size w5 w') => RowsAt.kept HR5.out hb)
            have HIT0 := Lib.hid (fun w' (hb : Below w5.heap.size w5 w') t (ht : t ∈ T') => (HIT'.out t ht).below (HB5.out.trans (hb.mono HB5.out.size)))
            have HD0' := Lib.hid (fun w' (hb : Below w5.heap.size w5 w') => HD5.out.kept hb)
            have Kx1 := fun (w' : World) (h : Below w5.heap.size w5 w') => (HBX5.out.kept h).cell 1 rfl
            have hS0 := (Below.refl w5.heap.size w5).drew
            have H1 := Lib.hid (show ∀ w', Below w5.heap.size w5 w' → Calls Tryz.prog 11 #[v, u5] w' fun e w'' => e = .returned (.bool true) ∧ Below w'.heap.size w' w'' from fun w' hb => by
              have h1 := refInts_any v u5 l' l' w' (HX0.out w' hb) (HU0.out w' hb) (by have := HLL.out; omega) (by have := HLL.out; omega)
              rwa [decide_eq_true rfl] at h1)
            have H2 := Lib.hid fun w' (hb : Below w5.heap.size w5 w') => dView_any w' (HD0'.out w' hb)
            have H3 := Lib.hid fun w' v9 V (hb : Below w5.heap.size w5 w') (hV : RowsAt w' 14 csTk v9 V) (hVI : ∀ t ∈ V, IntsAt w' t.sp.v t.sp.aft) (hp : V.map plK = T'.map plK) => refSame24_any v9 (.slice va T'.length vc) V T' w' hV (HR0.out w' hb) hVI (HIT0.out w' hb) hp (by have := HT64.out; omega) HAF8.out
            have H4 := Lib.hid fun w' (hb : Below w5.heap.size w5 w') => dLen_any w' (HD0'.out w' hb)
            have H5 := Lib.hid fun w' (hb : Below w5.heap.size w5 w') => dWaits_any w' (HD0'.out w' hb) aid HAI.out
            have H6 := Lib.hid fun w' (hb : Below w5.heap.size w5 w') => refWaits24_any (.slice va T'.length vc) T' aid w' (HR0.out w' hb) (HIT0.out w' hb) (by have := HT64.out; omega) HAF8.out
            have t64 : (T'.length : Int) ≤ 64 := by have := HT64.out; omega
            have t0 : (0 : Int) ≤ (T'.length : Int) := by omega
            generalize waitsT T' aid = wt at *
            clear hW0 W0
            go_upto_region 14 with fail
            go_region_held3 (fun w' => Below w5.heap.size w5 w') (assumption) ((first
              | (go_at_call 11; with_reducible refine (H1.out _ ‹Below w5.heap.size w5 _›).mono ?_; rintro e u1 ⟨rfl, hb1⟩; have hS1 := keep_c24 ‹Below w5.heap.size w5 _› hb1; clear hb1)
              | (go_at_call 13; with_reducible refine (H2.out _ ‹Below w5.heap.size w5 _›).mono ?_; rintro e u2 ⟨vk, V, rfl, o1, o2, hp, hb2⟩; obtain ⟨ka, kc, e⟩ := RowsAt.form (OwnR.rows csTk_len o1); subst e; have hS2 := keep_c24 ‹Below w5.heap.size w5 _› hb2; have HV2 := Lib.hid (OwnR.rows csTk_len o1); have HVI2 := Lib.hid (fun t (ht : t ∈ V) => OwnI.ints (o2 t ht)); have HVP := Lib.hid hp; clear hb2 o1 o2 hp)
              | (go_at_call 12; with_reducible refine (H3.out _ _ _ ‹Below w5.heap.size w5 _› HV2.out HVI2.out HVP.out).mono ?_; rintro e u3 ⟨rfl, hb3⟩; have hS3 := keep_c24 ‹Below w5.heap.size w5 _› hb3; clear hb3)
              | (go_at_call 14; with_reducible refine (H4.out _ ‹Below w5.heap.size w5 _›).mono ?_; rintro e u4 ⟨rfl, rfl⟩)
              | (go_at_call 15; with_reducible refine (H5.out _ ‹Below w5.heap.size w5 _›).mono ?_; rintro e u5' ⟨rfl, rfl⟩)
              | (go_at_call 16; with_reducible refine (H6.out _ ‹Below w5.heap.size w5 _›).mono ?_; rintro e u6 ⟨rfl, rfl⟩)))
            all_goals (
              have HS3 := Lib.hid hS3
              have HD9 := Lib.hid (HD0'.out _ hS3)
              have HR9 := Lib.hid (HR0.out _ hS3)
              have HB9 := Lib.hid (HB5.out.trans (hS3.mono HB5.out.size))
              have x1 := Kx1 _ hS3
              have GF9 := refFind23_any (.slice va T'.length vc) T' aid _ HR9.out (by have := HT64.out; omega)
              have GS9 := fun (w' : World) (hb : Below _ _ w') => dStatus_any w' (HD9.out.kept hb) aid HAI.out
              clear hS0 hS1 hS2 hS3 Kx1 H1 H2 H3 H4 H5 H6 HD0' HR0 HIT0 HX0 HU0 HV2 HVI2 HVP HS3
              by_cases haid : aid ∈ idsK T'
              · obtain ⟨q', hqT, hq, hsg⟩ := sg_plc haid
                rw [hq] at GF9
                obtain ⟨ga, oa, ca, e, -, -, hx⟩ := RowsAt.spot HR9.out q' hqT
                simp only [Value.slice.injEq] at e
                obtain ⟨rfl, -, rfl⟩ := e
                have s9 : World.cell? _ ⟨ga, oa + q' * 14 + 9, none⟩ = some (.int .i64 (T'[q']'hqT).st) := hx 9 _ rfl
                rw [← hsg] at s9
                have HGF := Lib.hid GF9
                have HGS := Lib.hid GS9
                generalize sgT T' aid = sg at *
                have z1 : (q' : Int) < (T'.length : Int) := by omega
                have z2 : (0 : Int) ≤ (q' : Int) := by omega
                clear haid hqT hq hsg hx GF9 GS9
                go_upto_region 17 with (go_at_call 17; (with_reducible refine HGF.out.mono ?_); rintro e w1 ⟨rfl, rfl⟩)
                refine wp_region_calm0 (by kernel_rfl) (by kernel_rfl) fun M => ?_
                have m0 := fun n : In M.w => n.cell (M.cell x1)
                have m1 := fun n : In M.w => n.cell (M.cell s9)
                have mS := fun n : In M.w => HGS.out n.w (M.h.trans (n.h.mono M.h.size))
                have d1 : decide ((q' : Int) ≥ 0) = true := by simp
                have d2 : decide ((q' : Int) < 0) = false := by simp
                repeat (go_big_quiet_step ((go_at_call 18; with_reducible exact In.call_same (mS _))))
                refine wpQuiet_nil ?_
                intro w10 hb10
                have HD10 := Lib.hid (HD9.out.kept hb10)
                have HR10 := Lib.hid (RowsAt.kept HR9.out hb10)
                have HB10 := Lib.hid (HB9.out.trans (hb10.mono HB9.out.size))
                clear m0 m1 mS d1 d2 M hb10 x1 s9
                go_wp2
                go_roundg (l.length - (k + 1))
                case measure => have := HLT.out; omega
                case rel => exact ⟨k + 1, T', F', nx', g', Fm', by have := HLT.out; omega, Nat.le_refl _, by go_num, HD10.out, HR10.out, HO5.out, HIT'.out, HF4.out, HB10.out⟩
              · have hu : plcL (idsK T') aid < 0 := by
                  have h1 : ¬ 0 ≤ plcL (idsK T') aid := fun h => haid (plc_ge.1 h)
                  omega
                rw [sg_none haid] at GS9
                have HGF := Lib.hid GF9
                have HGS := Lib.hid GS9
                generalize plcL (idsK T') aid = u at *
                clear haid GF9 GS9
                go_upto_region 17 with (go_at_call 17; (with_reducible refine HGF.out.mono ?_); rintro e w1 ⟨rfl, rfl⟩)
                refine wp_region_calm0 (by kernel_rfl) (by kernel_rfl) fun M => ?_
                have m0 := fun n : In M.w => n.cell (M.cell x1)
                have mS := fun n : In M.w => HGS.out n.w (M.h.trans (n.h.mono M.h.size))
                have d1 : decide (u ≥ 0) = false := by simp; omega
                have d2 : decide (u < 0) = true := by simp; omega
                repeat (go_big_quiet_step ((go_at_call 18; with_reducible exact In.call_same (mS _))))
                refine wpQuiet_nil ?_
                intro w10 hb10
                have HD10 := Lib.hid (HD9.out.kept hb10)
                have HR10 := Lib.hid (RowsAt.kept HR9.out hb10)
                have HB10 := Lib.hid (HB9.out.trans (hb10.mono HB9.out.size))
                clear m0 mS d1 d2 M hb10 x1
                go_wp2
                go_roundg (l.length - (k + 1))
                case measure => have := HLT.out; omega
                case rel => exact ⟨k + 1, T', F', nx', g', Fm', by have := HLT.out; omega, Nat.le_refl _, by go_num, HD10.out, HR10.out, HO5.out, HIT'.out, HF4.out, HB10.out⟩)
      · have hke : k = l.length := by omega
        subst hke
        clear hlt hk hkx
        go_wp2_with (go_at_call 5; (with_reducible refine (GAL.out _).mono ?_); rintro e w4 ⟨rfl, hb⟩; have HB4 := Lib.hid (HB.out.trans (hb.mono HB.out.size)); clear hb)
        go_ret
        exact ⟨rfl, HB4.out⟩
  · have hf2 : fewDa l 40 = false := by simpa using hf
    rw [hf2] at GF0
    have GF := Lib.hid GF0
    clear hf hf2 hl hI GF0
    go_enter Tryz.func3, Tryz.ntmps3
    go_wp2_with (first
      | (go_at_call 4; (with_reducible refine GF.out.mono ?_); rintro e w1 ⟨rfl, hb⟩; have HB1 := Lib.hid hb; clear hb)
      | (go_at_call 5; (with_reducible refine (GAL.out _).mono ?_); rintro e w4 ⟨rfl, hb⟩; have HB4 := Lib.hid (HB1.out.trans (hb.mono HB1.out.size)); clear hb))
    go_ret
    exact ⟨rfl, HB4.out⟩
end Go.Proofs.YthchkhgimnchcaaGreat
