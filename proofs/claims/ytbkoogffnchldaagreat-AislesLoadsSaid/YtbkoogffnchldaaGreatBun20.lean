/- Texts of this proof, joined: TbP; TbK; TbQ. -/
import Derived.Test.YtbkoogffnchldaaGreatBun19
import Derived.Deep.DeepCutAuto
/- Stage 20's program: Load takes the locks. -/
namespace Go.Proofs.YtbkoogffnchldaaGreat
open Go.RowKit Go.Maps

set_option maxHeartbeats 16000000 in
set_option maxRecDepth 100000 in
theorem tLoadLocks_any {b ml mc : Nat} {pt : Int → Nat} {Gf : Int → Nat → Prop} {cl : Int → Cl} {F : Nat → Prop} {w0 w : World} {B : Tb} (h : TbR b ml mc pt Gf cl F w (lkT B [])) (hk : Bk B) (hB0 : Below w0.heap.size w0 w) (hF0 : ∀ k, F k → w0.heap.size ≤ k) (vb : Value) (Ls : List Lr) (hx : LocksAt w0 vb Ls) (hids : idsL Ls = B.ids) (h64 : ∀ x ∈ Ls, I64 x.id ∧ I64 x.holder ∧ ∀ t ∈ x.wait, I64 t) (hwl : ∀ x ∈ Ls, x.wait.length ≤ 1000) :
    Calls Tryz.prog 21 #[ptr18 b, vb] w fun e w' => e = .returned (.bool (Ls.all fun l => lockB B l)) ∧ ∃ Gf' F', ((Ls.all fun l => lockB B l) = true → TbR b ml mc pt Gf' cl F' w' (lkT B Ls)) ∧ Mv F F' w w' := by
  obtain ⟨r, hr⟩ : ∃ r, (Ls.all fun l => lockB B l) = r := ⟨_, rfl⟩
  rw [hr]
  have HR := Lib.hid hr
  obtain ⟨a, c, rfl⟩ := RowsAt.form hx.rows
  have hlen : Ls.length ≤ 32 := by have := may_len hk.may; rw [← hids] at this; simpa [idsL] using this
  have hnd : (idsL Ls).Nodup := by rw [hids]; exact ris_nodup (may_ris hk.may)
  have HX := Lib.hid hx
  have H := Lib.hid h
  have HK := Lib.hid hk
  have HB0 := Lib.hid hB0
  have HF0 := Lib.hid hF0
  have HIDS := Lib.hid hids
  have H64 := Lib.hid h64
  have HWL := Lib.hid hwl
  have HLEN := Lib.hid hlen
  have HND := Lib.hid hnd
  obtain ⟨lk0, hlk0⟩ : ∃ T, lkT B [] = T := ⟨_, rfl⟩
  clear hr h hk hB0 hF0 hx hids h64 hwl hlen hnd
  go_enter Tryz.func21, Tryz.ntmps21
  go_wp2
  go_loopg [11] Ls.length (fun kx kv wr => ∃ (k : Nat) (Gf' : Int → Nat → Prop) (F' : Nat → Prop), k ≤ Ls.length ∧ Ls.length - k ≤ kx ∧ kv = .int .i64 k ∧ Hid ((Ls.take k).all (fun l => lockB B l) = true) ∧ Hid (TbR b ml mc pt Gf' cl F' wr (lkT B (Ls.take k))) ∧ Hid (Mv F F' w wr))
  case atStart => exact ⟨0, Gf, F, Nat.zero_le _, Nat.le_refl _, rfl, rfl, H.out, Mv.refl _ _⟩
  case round =>
    obtain ⟨k, Gf1, F1, hk, hkx, rfl, HRK, HT, HM⟩ := hrel
    by_cases hlt : k < Ls.length
    · have HLT := Lib.hid (And.intro hlt hkx)
      have HBW := Lib.hid (HB0.out.trans (HM.out.only.below HF0.out HB0.out.size))
      have k0 : (0 : Int) ≤ (k : Int) := by omega
      have k1 : (k : Int) < (Ls.length : Int) := by omega
      have k2 : (k : Int) ≤ 32 := by have := HLEN.out; omega
      obtain ⟨g, o, cc, e, _, _, p0, p1, p2⟩ := RowsAt.atL (RowsAt.kept HX.out.rows HBW.out) k hlt
      cases e
      have hxi := HX.out.each _ (List.getElem_mem hlt)
      have hx64 := H64.out _ (List.getElem_mem hlt)
      have hxw := HWL.out _ (List.getElem_mem hlt)
      have hsn : Ls.take (k + 1) = Ls.take k ++ [Ls[k]] := List.take_succ_eq_append_getElem hlt
      have hxid : Ls[k].id ∈ B.ids := by rw [← HIDS.out]; exact List.mem_map_of_mem (List.getElem_mem hlt)
      have hxno : Ls[k].id ∉ idsL (Ls.take k) := by
        have := not_take HND.out k (by simpa [idsL] using hlt)
        simpa [idsL, List.map_take] using this
      have hrt : lockB B Ls[k] = false → false = r := fun h => by
        rw [← HR.out]
        exact (List.all_eq_false.2 ⟨_, List.getElem_mem hlt, by rw [h]; simp⟩).symm
      have hrt2 : lockB B Ls[k] = true → (Ls.take (k + 1)).all (fun l => lockB B l) = true := fun h => by
        rw [hsn, List.all_append, HRK.out]
        simp [h]
      obtain ⟨⟨id, hh, xa, xc, L⟩, hx⟩ : ∃ x, Ls[k]'hlt = x := ⟨_, rfl⟩
      rw [hx] at p0 p1 p2 hxi hx64 hxw hsn hxid hxno hrt hrt2
      simp only at p0 p1 hx64 hxw hxid hxno
      change _ = some (Value.slice xa L.length xc) at p2
      replace hxi : IntsAt w0 (.slice xa L.length xc) L := hxi
      obtain ⟨n, hn⟩ : ∃ n, L.length = n := ⟨_, rfl⟩
      rw [hn] at p2 hxi hxw
      have HN := Lib.hid hn
      obtain ⟨i64, h64, t64⟩ := hx64
      have hal := (Below.refl wr.heap.size wr).alloc (Nat.le_refl _) (.cells #[.int .i64 id, .int .i64 hh, .slice xa n xc] 31)
      have hX := Blk.new wr [.int .i64 id, .int .i64 hh, .slice xa n xc] 31
      have HSN := Lib.hid hsn
      have HXID := Lib.hid hxid
      have HXNO := Lib.hid hxno
      have HRT := Lib.hid hrt
      have HRT2 := Lib.hid hrt2
      have HI64 := Lib.hid i64
      have HT64 := Lib.hid t64
      have HXI := Lib.hid hxi
      have HXW := Lib.hid hxw
      have HAL := Lib.hid hal
      obtain ⟨e0, e1⟩ := hd_no hxno
      have HLH := Lib.hid (tLoadHolder_any (HT.out.kept hal) (T := lkT B (Ls.take k)) HK.out.gl HK.out.pos (id := id) (hh := hh) hxid i64 h64 e0 e1 xa n xc)
      clear hk hkx hlt hn hx hxi hsn hxid hxno hrt hrt2 i64 h64 t64 e0 e1
      go_upto_region 4 with fail
      clear p0 p1 p2
      generalize hw1 : wr.alloc (.cells #[.int .i64 id, .int .i64 hh, .slice xa n xc] 31) = w1 at *
      replace hX : Blk w1 wr.heap.size [.int .i64 id, .int .i64 hh, .slice xa n xc] := hX
      have HXB := Lib.hid hX
      have x0 := hX.cell 0 rfl
      have x1 := hX.cell 1 rfl
      have x2 := hX.cell 2 rfl
      clear hal hX hw1
      obtain ⟨q, hq⟩ : ∃ q, holdB B id hh = q := ⟨_, rfl⟩
      have HQ := Lib.hid hq
      go_cut [23] (fun c wx => c = .bool (!q) ∧ Hid (∃ Gf2 F2, (q = true → TbR b ml mc pt Gf2 cl F2 wx (lkT B (Ls.take k ++ [cutR ⟨id, hh, xa, xc, L⟩ 0]))) ∧ Mv F1 F2 w1 wx))
      case first =>
        clear hq
        by_cases hz : hh = 0
        · have hq1 : q = true := by rw [← HQ.out, hz]; rfl
          subst hz hq1
          go_wp2
          go_meet
          exact ⟨rfl, Gf1, F1, fun _ => by rw [← lkT_put0 (x := ⟨id, 0, xa, xc, L⟩) HXNO.out rfl]; exact HT.out.kept HAL.out, Mv.refl _ _⟩
        · have hz2 : (hh == 0) = false := beq_noI hz
          have hq1 : (inL B.toks hh && inL ((B.want hh).take (B.got hh)) id) = q := by
            rw [← HQ.out]; unfold holdB; rw [hz2, Bool.false_or]
          have HL2 : Hid (Calls Tryz.prog 53 #[ptr18 b, .agg #[.int .i64 id, .int .i64 hh, .slice xa n xc]] w1 fun e w' => e = .returned (.bool q) ∧ ∃ Gf' F', TbR b ml mc pt Gf' cl F' w' (if q = true then { lkT B (Ls.take k) with hd := upF (hdL (Ls.take k)) id hh } else lkT B (Ls.take k)) ∧ Mv F1 F' w1 w') := by
            rw [← hq1]
            exact HLH.out
          clear hq1
          go_wp2_with (go_at_call 53; (with_reducible refine HL2.out.mono ?_); rintro e w2 ⟨rfl, Gf2, F2, q1, q2⟩; have HQ1 := Lib.hid q1; have HQ2 := Lib.hid q2; clear q1 q2)
          go_meet
          refine ⟨by rw [show (hh != 0) = true by simp [hz], Bool.true_and], Gf2, F2, fun hqt => ?_, HQ2.out⟩
          have := HQ1.out
          rw [if_pos hqt] at this
          rw [← lkT_put (x := ⟨id, hh, xa, xc, L⟩) HXNO.out]
          exact this
      case rest =>
        obtain ⟨rfl, hc⟩ := hcut
        obtain ⟨Gf2, F2, c1, c2⟩ := hc.out
        have hXc : Blk wc wr.heap.size [.int .i64 id, .int .i64 hh, .slice xa n xc] := HXB.out.same (c2.only.block _ (Blk.lt HXB.out) fun hf => by have := HT.out.lt _ hf; omega)
        have HMC := Lib.hid (HM.out.trans ((Mv.of_below HAL.out).trans c2))
        cases q with
        | false =>
          have HF := Lib.hid (HRT.out (by unfold lockB; simp only; rw [HQ.out, Bool.false_and]))
          clear hq c1 c2 hXc x0 x1 x2
          go_wp2
          go_ret
          exact ⟨ret_b HF.out, Gf2, F2, fun h => (by rw [← HF.out] at h; cases h), HMC.out⟩
        | true =>
          have HTC := Lib.hid (c1 rfl)
          have HXC := Lib.hid hXc
          have y2 := hXc.cell 2 rfl
          have HNF := Lib.hid (show ¬ F2 wr.heap.size from fun hf => (c2.sub _ hf).elim (fun h => by have := HT.out.lt _ h; omega) fun h => by have := Blk.lt HXB.out; omega)
          clear hq c1 c2 hXc x0 x1 x2
          go_wp2
          clear y2
          generalize hbx : wr.heap.size = bx at *
          have HBX := Lib.hid hbx
          clear hbx
          go_loopg [27] n (fun jx jv ws => ∃ (j : Nat) (Gf3 : Int → Nat → Prop) (F3 : Nat → Prop), j ≤ n ∧ n - j ≤ jx ∧ jv = .int .i64 j ∧ Hid (waitB B id [] (L.take j) = true) ∧ Hid (TbR b ml mc pt Gf3 cl F3 ws (lkT B (Ls.take k ++ [cutR ⟨id, hh, xa, xc, L⟩ j]))) ∧ Hid (Mv F2 F3 wc ws))
          case atStart => exact ⟨0, Gf2, F2, Nat.zero_le _, Nat.le_refl _, rfl, rfl, HTC.out, Mv.refl _ _⟩
          case round =>
            obtain ⟨j, Gf3, F3, hj, hjx, rfl, HWB, HT3, HM3⟩ := hrel
            by_cases hjt : j < n
            · have HJT := Lib.hid (And.intro hjt hjx)
              have j0 : (0 : Int) ≤ (j : Int) := by omega
              have j1 : (j : Int) < (n : Int) := by omega
              have j2 : (j : Int) ≤ 1000 := by have := HXW.out; omega
              have hjl : j < L.length := by rw [HN.out]; omega
              have HMJ := Lib.hid (HMC.out.trans HM3.out)
              have hbws := HB0.out.trans (HMJ.out.only.below HF0.out HB0.out.size)
              obtain ⟨g2, o2, c2, e2, _, _, m0⟩ := (HXI.out.below hbws).spot j hjl
              rw [HN.out] at e2
              cases e2
              have hxs : Blk wr bx [.int .i64 id, .int .i64 hh, .slice (some ⟨g2, o2, none⟩) n xc] := HXC.out.same (HM3.out.only.block _ (Blk.lt HXC.out) HNF.out)
              have HXS := Lib.hid hxs
              have x0 := hxs.cell 0 rfl
              have t64 := HT64.out _ (List.getElem_mem hjl)
              have hnext := lkT_next (B := B) (x := ⟨id, hh, some ⟨g2, o2, none⟩, xc, L⟩) HXNO.out hjl
              have hwsn : waitB B id [] (L.take (j + 1)) = (waitB B id [] (L.take j) && (inL B.toks (L[j]'hjl) && (!inL (L.take j) (L[j]'hjl) && decide (B.nx (L[j]'hjl) = some id)))) := by
                rw [List.take_succ_eq_append_getElem hjl, waitB_snoc]
                rfl
              rw [HWB.out, Bool.true_and] at hwsn
              have hbad : waitB B id [] (L.take (j + 1)) = false → false = r := fun h => HRT.out (by
                unfold lockB
                simp only
                rw [show waitB B id [] L = false by rw [← List.take_append_drop (j + 1) L]; exact waitB_more _ _ _ h, Bool.and_false])
              have hask := fun (ht : (L[j]'hjl) ∈ B.toks) (hn : B.nx (L[j]'hjl) = some id) => ask_load HK.out HQ.out HWB.out ht hn
              obtain ⟨t, ht⟩ : ∃ t, L[j]'hjl = t := ⟨_, rfl⟩
              rw [ht] at m0 t64 hwsn hask
              simp only [ht] at hnext
              have HNX := Lib.hid hnext
              have HBAD := Lib.hid hbad
              have HTT := Lib.hid t64
              have hll : (lkT B (Ls.take k ++ [cutR ⟨id, hh, some ⟨g2, o2, none⟩, xc, L⟩ j])).hd id = hh ∧ (lkT B (Ls.take k ++ [cutR ⟨id, hh, some ⟨g2, o2, none⟩, xc, L⟩ j])).wt id = L.take j := hd_last (x := cutR ⟨id, hh, some ⟨g2, o2, none⟩, xc, L⟩ j) HXNO.out
              have hlk := HT3.out.lk id HXID.out
              rw [hll.1, hll.2] at hlk
              have HASK := Lib.hid fun (w' : World) (hb : Below wr.heap.size wr w') => lkAsk_any t (hlk.same hb.size fun k hk => hb.block k (hlk.lt k hk)) t64
              have HLI := Lib.hid fun (w' : World) (hb : Below wr.heap.size wr w') => (show (Instr.lookup 77 (.map (some ml)) (.int .i64 id) false).run Tryz.prog w' = .ok (ptr18 (pt id)) w' from by
                have := MapL.look1 (HT3.out.kept hb).lm HI64.out
                rwa [lkG_at (T := lkT B (Ls.take k ++ [cutR ⟨id, hh, some ⟨g2, o2, none⟩, xc, L⟩ j])) pt HXID.out] at this)
              have HLC := Lib.hid fun (w' : World) (hb : Below wr.heap.size wr w') => MapC.look1 (HT3.out.kept hb).cm HTT.out
              have HGW := Lib.hid (tWaitsAt_any HT3.out HK.out.gl t id)
              have HC0 := Lib.hid (HT3.out.blk.cell 0 rfl)
              have HC1 := Lib.hid (HT3.out.blk.cell 1 rfl)
              have hbs := Below.refl wr.heap.size wr
              obtain ⟨y, hy⟩ : ∃ y, (clG (lkT B (Ls.take k ++ [cutR ⟨id, hh, some ⟨g2, o2, none⟩, xc, L⟩ j])) cl t).getD cl0 = y := ⟨_, rfl⟩
              obtain ⟨q1, hq1⟩ : ∃ q1, (inL B.toks t && decide (B.nx t = some id)) = q1 := ⟨_, rfl⟩
              simp only [hy] at HLC
              replace HGW : Hid (∀ w', Below wr.heap.size wr w' → Calls Tryz.prog 54 #[clv y, .int .i64 id] w' fun e w'' => e = .returned (.bool q1) ∧ Below w'.heap.size w' w'') := by
                rw [← hy, ← hq1]
                exact HGW.out
              obtain ⟨yg, yn, yc, yd⟩ := y
              replace HGW : Hid (∀ w', Below wr.heap.size wr w' → Calls Tryz.prog 54 #[.agg #[.slice (yg.map fun b => ⟨b, 0, none⟩) yn yc, .int .i64 yd], .int .i64 id] w' fun e w'' => e = .returned (.bool q1) ∧ Below w'.heap.size w' w'') := HGW
              replace HLC : Hid (∀ w', Below wr.heap.size wr w' → (Instr.lookup 78 (.map (some mc)) (.int .i64 t) false).run Tryz.prog w' = .ok (.agg #[.slice (yg.map fun b => ⟨b, 0, none⟩) yn yc, .int .i64 yd]) w') := HLC
              generalize yg.map (fun b => (⟨b, 0, none⟩ : Addr)) = ya at *
              have c0 := HC0.out
              have c1 := HC1.out
              cases q1 with
              | false =>
                have HF := Lib.hid (hbad (by
                  rw [hwsn]
                  cases h1 : inL B.toks t
                  · rfl
                  · rw [h1, Bool.true_and] at hq1
                    rw [hq1]; simp))
                clear hj hjx hjt hjl hbws hxs t64 hnext hwsn hbad hask ht hll hlk hy hq1
                go_upto_region 9 with fail
                refine wp_region_calm0 (by kernel_rfl) (by kernel_rfl) fun M => ?_
                have e0 := fun n : In M.w => n.cell (M.cell c0)
                have e1 := fun n : In M.w => n.cell (M.cell c1)
                have e2 := fun n : In M.w => n.cell (M.cell x0)
                have e3 := fun n : In M.w => HLC.out n.w (M.h.trans (n.h.mono M.h.size))
                have e4 := fun n : In M.w => HGW.out n.w (M.h.trans (n.h.mono M.h.size))
                repeat (go_big_quiet_step ((go_at_call 54; with_reducible exact In.call (e4 _))))
                refine wpQuiet_nil ?_
                clear e0 e1 e2 e3 e4 M c0 c1 x0 m0
                intro w3 hb3
                have HB3 := Lib.hid hb3
                clear hb3 hbs
                go_wp2
                go_ret
                exact ⟨ret_b HF.out, Gf3, F3, fun h => (by rw [← HF.out] at h; cases h), HMJ.out.trans (Mv.of_below HB3.out)⟩
              | true =>
                rw [Bool.and_eq_true] at hq1
                have ht1 : t ∈ B.toks := of_decide_eq_true hq1.1
                have ht2 : B.nx t = some id := of_decide_eq_true hq1.2
                rw [hq1.1, hq1.2, Bool.true_and, Bool.and_true] at hwsn
                obtain ⟨ha1, ha2⟩ := hask ht1 ht2
                have HWSN := Lib.hid hwsn
                have HA1 := Lib.hid ha1
                have HA2 := Lib.hid ha2
                clear hj hjx hjt hjl hbws hxs t64 hnext hwsn hbad hask ht hll hlk hy hq1 ht1 ht2 ha1 ha2
                go_upto_region 9 with fail
                refine wp_region_calmT 19 (by kernel_rfl) (by simp) (by kernel_rfl) fun M => ?_
                simp only [List.take_succ_cons, List.take_zero, List.drop_succ_cons, List.drop_zero]
                have e0 := fun n : In M.w => n.cell (M.cell c0)
                have e1 := fun n : In M.w => n.cell (M.cell c1)
                have e2 := fun n : In M.w => n.cell (M.cell x0)
                have e3 := fun n : In M.w => HLC.out n.w (M.h.trans (n.h.mono M.h.size))
                have e4 := fun n : In M.w => HGW.out n.w (M.h.trans (n.h.mono M.h.size))
                have e5 := fun n : In M.w => HLI.out n.w (M.h.trans (n.h.mono M.h.size))
                repeat (go_big_quiet_step ((go_at_call 54; with_reducible exact In.call (e4 _))))
                refine wpQuiet_nil ?_
                clear e0 e1 e2 e3 e4 e5 M c0 c1 x0 m0
                intro w3 hb3
                have HB3 := Lib.hid hb3
                clear hb3 hbs
                by_cases hin : t ∈ L.take j
                · have HA := Lib.hid (HASK.out w3 HB3.out)
                  simp only [HA1.out hin] at HA
                  have HF := Lib.hid (HBAD.out (by rw [HWSN.out]; rw [show inL (L.take j) t = true from decide_eq_true hin]; rfl))
                  clear hin
                  go_wp2_with (go_at_call 55; (with_reducible refine HA.out.mono ?_); rintro e w4 ⟨rfl, G', q1, q2⟩; have HQ1 := Lib.hid q1; have HQ2 := Lib.hid q2; clear q1 q2)
                  go_ret
                  exact ⟨ret_b HF.out, Gf3, fun k => F3 k ∨ G' k, fun h => (by rw [← HF.out] at h; cases h), HMJ.out.trans ((Mv.of_below HB3.out).trans (by
                    have hl2 := HQ1.out
                    exact ((HT3.out.kept HB3.out).lock HXID.out hl2 HQ2.out).2))⟩
                · have HA := Lib.hid (HASK.out w3 HB3.out)
                  simp only [HA2.out hin] at HA
                  have HW2 := Lib.hid (show waitB B id [] (L.take (j + 1)) = true by rw [HWSN.out]; rw [show inL (L.take j) t = false from decide_eq_false hin]; rfl)
                  clear hin
                  go_wp2_with (go_at_call 55; (with_reducible refine HA.out.mono ?_); rintro e w4 ⟨rfl, G', q1, q2⟩; have HQ1 := Lib.hid q1; have HQ2 := Lib.hid q2; clear q1 q2)
                  obtain ⟨s1, s2⟩ := (HT3.out.kept HB3.out).lock HXID.out HQ1.out HQ2.out
                  have s3 : TbR b ml mc pt (upF Gf3 id G') cl (fun k => F3 k ∨ G' k) w4 (lkT B (Ls.take k ++ [cutR ⟨id, hh, some ⟨g2, o2, none⟩, xc, L⟩ (j + 1)])) := by
                    rw [← HNX.out]
                    exact s1
                  have S2 := Lib.hid s2
                  have S3 := Lib.hid s3
                  clear s1 s2 s3
                  go_roundg (n - (j + 1))
                  case measure => have := HJT.out; omega
                  case rel => exact ⟨j + 1, _, _, by have := HJT.out; omega, Nat.le_refl _, by go_num, HW2.out, S3.out, HM3.out.trans ((Mv.of_below HB3.out).trans S2.out)⟩
            · have j1 : ¬ (j : Int) < (n : Int) := by omega
              have hje : j = L.length := by rw [HN.out]; omega
              have hwb := HWB.out
              have ht3 := HT3.out
              rw [hje, List.take_length] at hwb
              rw [hje, show cutR ⟨id, hh, xa, xc, L⟩ L.length = ⟨id, hh, xa, xc, L⟩ from cutR_all ⟨id, hh, xa, xc, L⟩, ← HSN.out] at ht3
              have HRN := Lib.hid (HRT2.out (by unfold lockB; simp only; rw [HQ.out, hwb]; rfl))
              have HTN := Lib.hid ht3
              clear hj hjx hjt hje hwb ht3
              go_wp2
              go_roundg (Ls.length - (k + 1))
              case measure => have := HLT.out; omega
              case rel => exact ⟨k + 1, Gf3, F3, by have := HLT.out; omega, Nat.le_refl _, by go_num, HRN.out, HTN.out, HMC.out.trans HM3.out⟩
    · have k1 : ¬ (k : Int) < (Ls.length : Int) := by omega
      have hke : k = Ls.length := by omega
      have HF := Lib.hid (show true = r by
        rw [← HR.out, ← HRK.out, hke, List.take_length])
      have hT := HT.out
      rw [hke, List.take_length] at hT
      have HTE := Lib.hid hT
      clear hk hkx hlt hke hT
      go_wp2
      go_ret
      exact ⟨ret_b HF.out, Gf1, F1, fun _ => HTE.out, HM.out⟩
end Go.Proofs.YtbkoogffnchldaaGreat
/- Stage 20's program: the aisles of a list of locks. -/
namespace Go.Proofs.YtbkoogffnchldaaGreat
open Go.RowKit

theorem ids_next (Ls : List Lr) (k : Nat) (hk : k < Ls.length) : idsL (Ls.take (k + 1)) = idsL (Ls.take k) ++ [Ls[k].id] := by
  unfold idsL
  rw [List.take_succ_eq_append_getElem hk, List.map_append, List.map_singleton]
set_option maxHeartbeats 4000000 in
set_option maxRecDepth 100000 in
theorem tIdsOf_any (va : Value) (Ls : List Lr) (w : World) (ha : RowsAt w 3 csL va Ls) (hl : Ls.length ≤ 1000) :
    Calls Tryz.prog 19 #[va] w fun e w' => ∃ v, e = .returned v ∧ IntsAt w' v (idsL Ls) ∧ (∀ k, v.ownBlock = some k → w.heap.size ≤ k) ∧ Below w.heap.size w w' := by
  obtain ⟨a, c, rfl⟩ := RowsAt.form ha
  have HA := Lib.hid ha
  have HL := Lib.hid hl
  have hB := Below.refl w.heap.size w
  clear ha hl
  go_enter Tryz.func19, Tryz.ntmps19
  go_wp2
  go_loopg [3, 8] Ls.length (fun kx s3 iv wr => ∃ (k : Nat) (av : Option Addr) (cv : Nat), k ≤ Ls.length ∧ Ls.length - k ≤ kx ∧ s3 = .slice av k cv ∧ iv = .int .i64 k ∧ Hid (OwnI wr w.heap.size (.slice av k cv) (idsL (Ls.take k))) ∧ Below w.heap.size w wr)
  case atStart => exact ⟨0, none, 0, Nat.zero_le _, Nat.le_refl _, rfl, rfl, OwnR.nil _ _ _ _ _, hB⟩
  case round =>
    obtain ⟨k, av, cv, hk, hkx, rfl, rfl, HO, hbr⟩ := hrel
    have HBR := Lib.hid hbr
    by_cases hlt : k < Ls.length
    · have HLT := Lib.hid (And.intro hlt hkx)
      have k0 : (0 : Int) ≤ (k : Int) := by omega
      have k1 : (k : Int) < (Ls.length : Int) := by omega
      have k2 : (k : Int) ≤ 1000 := by have := HL.out; omega
      obtain ⟨g, o, cc, e, _, _, p0, p1, p2⟩ := RowsAt.atL (HA.out.kept hbr) k hlt
      cases e
      have HNX := Lib.hid (ids_next Ls k hlt)
      have hb1 := hbr.alloc hbr.size (.cells (csL Ls[k]).toArray 31)
      have ho1 := OwnR.alloc HO.out (.cells (csL Ls[k]).toArray 31)
      obtain ⟨⟨xi, xh, xa, xc, xw⟩, hx⟩ : ∃ x, Ls[k]'hlt = x := ⟨_, rfl⟩
      rw [hx] at p0 p1 p2 HNX hb1 ho1
      simp only at p0 p1 p2 HNX
      obtain ⟨xn, hxn⟩ : ∃ n, xw.length = n := ⟨_, rfl⟩
      change _ = some (Value.slice xa xw.length xc) at p2
      replace hb1 : Below w.heap.size w (wr.alloc (.cells #[.int .i64 xi, .int .i64 xh, .slice xa xw.length xc] 31)) := hb1
      replace ho1 : OwnI (wr.alloc (.cells #[.int .i64 xi, .int .i64 xh, .slice xa xw.length xc] 31)) w.heap.size (.slice av k cv) (idsL (Ls.take k)) := ho1
      rw [hxn] at p2 hb1 ho1
      have hlen : (idsL (Ls.take k)).length = k := by unfold idsL; rw [List.length_map, List.length_take]; omega
      generalize idsL (Ls.take k) = D at *
      have HSZ := Lib.hid (show (wr.alloc (.cells #[.int .i64 xi, .int .i64 xh, .slice xa xn xc] 31)).heap.size = wr.heap.size + 1 by simp)
      have HB1 := Lib.hid hb1
      have HO1 := Lib.hid ho1
      have HLE := Lib.hid hlen
      clear hk hkx hlt hx hxn hb1 ho1 hbr hlen
      go_wp2_with (at_builtin; refine app1 HO1.out HB1.out.size (by have := HLE.out; have := HLT.out.1; have := HL.out; omega) rfl _ _ rfl rfl (by rw [HSZ.out]; rfl) ?_; intro v6 w6 o6 b6; obtain ⟨a6, c6, e6⟩ := (OwnI.ints o6).form; rw [List.length_append, List.length_singleton, HLE.out] at e6; subst e6; have HO6 := Lib.hid o6; have HB6 := Lib.hid (HB1.out.trans b6); clear o6 b6)
      go_roundg (Ls.length - (k + 1))
      case measure => have := HLT.out; omega
      case rel => exact ⟨k + 1, a6, c6, by have := HLT.out; omega, Nat.le_refl _, rfl, by go_num, (by rw [HNX.out]; exact HO6.out), HB6.out⟩
    · have hkl : k = Ls.length := by omega
      have k1 : ¬ (k : Int) < (Ls.length : Int) := by omega
      have hO := HO.out
      rw [show Ls.take k = Ls by rw [hkl, List.take_length]] at hO
      have HO2 := Lib.hid hO
      clear hk hkx hlt hkl hbr hO
      go_wp2
      go_ret
      exact ⟨_, rfl, OwnI.ints HO2.out, fun j hj => (World.ownsRow.lt HO2.out j hj).1, HBR.out⟩
end Go.Proofs.YtbkoogffnchldaaGreat
/- Stage 20's program: Load. -/
namespace Go.Proofs.YtbkoogffnchldaaGreat
open Go.RowKit Go.Maps

theorem waitB_congr {T T' : Tb} (h1 : T.toks = T'.toks) (h2 : T.nx = T'.nx) {id : Int} : ∀ (L pre : List Int), waitB T id pre L = waitB T' id pre L
  | [], _ => rfl
  | t :: r, pre => by
    show (inL T.toks t && (!inL pre t && (decide (T.nx t = some id) && waitB T id (pre ++ [t]) r))) = (inL T'.toks t && (!inL pre t && (decide (T'.nx t = some id) && waitB T' id (pre ++ [t]) r)))
    rw [waitB_congr h1 h2 r, h1, h2]
theorem lockB_mk (Ls : List Lr) (Xs : List Le) (l : Lr) : lockB (mkT Ls Xs) l = lockB (loadT (Tb.new (idsL Ls)) Xs) l := by
  unfold lockB
  rw [waitB_congr (T := mkT Ls Xs) (T' := loadT (Tb.new (idsL Ls)) Xs) rfl rfl]
  rfl
/-- what is known of leases that have been taken -/
theorem bk_of {ids : List Int} (hm : mayB ids = true) {Xs : List Le} (h : (decide (Xs.length ≤ 64) && lesB ids 0 Xs) = true) (hwl : ∀ x ∈ Xs, x.want.length ≤ 1000) : Bk (loadT (Tb.new ids) Xs) := by
  rw [Bool.and_eq_true, decide_eq_true_eq] at h
  obtain ⟨h64, hle⟩ := h
  obtain ⟨hlt, hris⟩ := lesB_ris Xs 0 hle
  have hn := ris_nodup hris
  have heach := lesB_each Xs 0 hle
  refine ⟨hm, fun t ht => by have := hlt t ht; omega, hris, by show (Xs.map Le.token).length ≤ 64; rw [List.length_map]; exact h64, fun t ht => ?_, fun t ht => ?_⟩
  · obtain ⟨x, hx, rfl⟩ := List.mem_map.1 ht
    have h2 := (mk_seat (Ls := []) hn hx).2
    have h2 : waL Xs x.token = x.want := h2
    show risL (waL Xs x.token)
    rw [h2]
    exact of_decide_eq_true (heach x hx).1
  · obtain ⟨x, hx, rfl⟩ := List.mem_map.1 ht
    have h1 : goL Xs x.token = x.got.toNat := (mk_seat (Ls := []) hn hx).1
    have h2 : waL Xs x.token = x.want := (mk_seat (Ls := []) hn hx).2
    show goL Xs x.token ≤ (waL Xs x.token).length ∧ (waL Xs x.token).length ≤ 1000
    rw [h1, h2]
    have := (heach x hx).2.2.1
    have := hwl x hx
    omega
theorem win_of {ids : List Int} {Xs : List Le} (hle : lesB ids 0 Xs = true) : ∀ t ∈ Xs.map Le.token, ∀ a ∈ waL Xs t, a ∈ ids := fun t ht a ha => by
  obtain ⟨_, hris⟩ := lesB_ris Xs 0 hle
  have hn := ris_nodup hris
  obtain ⟨x, hx, rfl⟩ := List.mem_map.1 ht
  have h2 : waL Xs x.token = x.want := (mk_seat (Ls := []) hn hx).2
  rw [h2] at ha
  exact (lesB_each Xs 0 hle x hx).2.2.2 a ha
theorem wtL_len {Ls : List Lr} {n : Nat} (h : ∀ x ∈ Ls, x.wait.length ≤ n) (id : Int) : (wtL Ls id).length ≤ n := by
  unfold wtL
  cases hf : Ls.find? (fun x => x.id == id) with
  | none => simp
  | some x => exact h x (List.mem_of_find?_eq_some hf)
set_option maxHeartbeats 16000000 in
set_option maxRecDepth 100000 in
theorem tLoad_any (va vb : Value) (Ls : List Lr) (Xs : List Le) (w : World) (hl : LocksAt w va Ls) (hx : LeasesAt w vb Xs) (hll : Ls.length ≤ 1000) (hxl : Xs.length ≤ 1000) (hl64 : ∀ x ∈ Ls, I64 x.id ∧ I64 x.holder ∧ ∀ t ∈ x.wait, I64 t) (hx64 : ∀ x ∈ Xs, I64 x.token) (hlw : ∀ x ∈ Ls, x.wait.length ≤ 1000) (hxw : ∀ x ∈ Xs, x.want.length ≤ 1000) :
    Calls Tryz.prog 6 #[va, vb] w fun e w' => (loadB Ls Xs = false → e = .returned (.tuple #[.pointer none, .int .i64 1])) ∧ (loadB Ls Xs = true → ∃ p, e = .returned (.tuple #[p, .int .i64 0]) ∧ ∃ F, TbAt F w' p (mkT Ls Xs) ∧ ∀ k, F k → w.heap.size ≤ k) ∧ Below w.heap.size w w' := by
  obtain ⟨r, hr⟩ : ∃ r, loadB Ls Xs = r := ⟨_, rfl⟩
  rw [hr]
  have HR := Lib.hid hr
  have hrr : r = ((mayB (idsL Ls) && decide (Xs.length ≤ 64)) && (lesB (idsL Ls) 0 Xs && (((Xs.map Le.token).all fun t => seatB (mkT Ls Xs) t) && Ls.all fun l => lockB (mkT Ls Xs) l))) := by rw [← hr]; rfl
  have HID := Lib.hid (tIdsOf_any va Ls w hl.rows hll)
  have hil : (idsL Ls).length ≤ 1000 := by simpa [idsL] using hll
  have HL := Lib.hid hl
  have HX := Lib.hid hx
  have HL64 := Lib.hid hl64
  have HX64 := Lib.hid hx64
  have HLW := Lib.hid hlw
  have HXW := Lib.hid hxw
  have HXL := Lib.hid hxl
  cases hm : mayB (idsL Ls) with
  | false =>
    have HF := Lib.hid (show r = false by rw [hrr, hm]; rfl)
    have HNO := Lib.hid fun (w1 : World) (v : Value) (h : IntsAt w1 v (idsL Ls)) => tNewNo_any v (idsL Ls) w1 h hil hm
    clear hr hrr hl hx hll hxl hl64 hx64 hlw hxw hil hm
    go_enter Tryz.func6, Tryz.ntmps6
    go_wp2_with (first
      | (go_at_call 19; (with_reducible refine HID.out.mono ?_); rintro e w1 ⟨v1, rfl, h1, _, b1⟩; have H1 := Lib.hid h1; have HB1 := Lib.hid b1; clear h1 b1)
      | (go_at_call 15; (with_reducible refine (HNO.out _ _ H1.out).mono ?_); rintro e w2 ⟨rfl, b2⟩; have HB2 := Lib.hid (HB1.out.trans (b2.mono HB1.out.size)); clear b2))
    exact bodyPost_ret (v := .tuple #[.pointer none, .int .i64 1]) (by simp [results, Tryz.results6, go_sem]) rfl ⟨fun _ => rfl, fun h => (by rw [HF.out] at h; cases h), HB2.out⟩
  | true =>
    have HNE := Lib.hid fun (w1 : World) (v : Value) (h : IntsAt w1 v (idsL Ls)) => tNew_any v (idsL Ls) w1 h hm
    obtain ⟨q1, hq1⟩ : ∃ q, (decide (Xs.length ≤ 64) && lesB (idsL Ls) 0 Xs) = q := ⟨_, rfl⟩
    have hrr2 : r = (q1 && (((Xs.map Le.token).all fun t => seatB (mkT Ls Xs) t) && Ls.all fun l => lockB (mkT Ls Xs) l)) := by
      rw [hrr, hm, ← hq1, Bool.true_and, Bool.and_assoc]
    have HQ1 := Lib.hid hq1
    have HM := Lib.hid hm
    have HRR := Lib.hid hrr2
    clear hr hrr hrr2 hl hx hll hxl hl64 hx64 hlw hxw hil hm
    go_enter Tryz.func6, Tryz.ntmps6
    go_upto_region 2 with (first
      | (go_at_call 19; (with_reducible refine HID.out.mono ?_); rintro e w1 ⟨v1, rfl, h1, _, b1⟩; have H1 := Lib.hid h1; have HB1 := Lib.hid b1; clear h1 b1)
      | (go_at_call 15; (with_reducible refine (HNE.out _ _ H1.out).mono ?_); rintro e w2 ⟨p, rfl, F, htb, hFn, b2⟩; have HTB := Lib.hid htb; have HB2 := Lib.hid (HB1.out.trans (b2.mono HB1.out.size)); have HFN := Lib.hid (fun k hk => Nat.le_trans HB1.out.size (hFn k hk)); clear b2 htb hFn))
    obtain ⟨hok, b, ml, mc, pt, Gf, cl, rfl, hT⟩ := HTB.out
    have hT0 : TbR b ml mc pt Gf cl F w2 (loadT (Tb.new (idsL Ls)) []) := hT
    have HLC := Lib.hid (tLoadClaims_any hT0 hok HB2.out HFN.out vb Xs HX.out HXL.out HX64.out HXW.out)
    have HLC2 : Hid (Calls Tryz.prog 20 #[ptr18 b, vb] w2 fun e w' => e = .returned (.bool q1) ∧ ∃ k, (q1 = true → k = Xs.length) ∧ ∃ cl' F', TbR b ml mc pt Gf cl' F' w' (loadT (Tb.new (idsL Ls)) (Xs.take k)) ∧ Mv F F' w2 w') := by
      rw [← hq1]
      exact HLC.out
    clear hok hT hT0 hq1 HLC
    cases q1 with
    | false =>
      have HF := Lib.hid (show r = false by rw [HRR.out]; rfl)
      go_wp2_with (go_at_call 20; (with_reducible refine HLC2.out.mono ?_); rintro e w3 ⟨rfl, k3, _, cl3, F3, _, m3⟩; have HB3 := Lib.hid (HB2.out.trans (m3.only.below HFN.out HB2.out.size)); clear m3)
      exact bodyPost_ret (v := .tuple #[.pointer none, .int .i64 1]) (by simp [results, Tryz.results6, go_sem]) rfl ⟨fun _ => rfl, fun h => (by rw [HF.out] at h; cases h), HB3.out⟩
    | true =>
      obtain ⟨q2, hq2⟩ : ∃ q, (Ls.all fun l => lockB (mkT Ls Xs) l) = q := ⟨_, rfl⟩
      have HQ2 := Lib.hid hq2
      have hBk := bk_of HM.out HQ1.out HXW.out
      have HBK := Lib.hid hBk
      have HLL : Hid (∀ cl3 F3 w3, TbR b ml mc pt Gf cl3 F3 w3 (loadT (Tb.new (idsL Ls)) Xs) → Below w.heap.size w w3 → (∀ k, F3 k → w.heap.size ≤ k) → Calls Tryz.prog 21 #[ptr18 b, va] w3 fun e w' => e = .returned (.bool q2) ∧ ∃ Gf' F', (q2 = true → TbR b ml mc pt Gf' cl3 F' w' (mkT Ls Xs)) ∧ Mv F3 F' w3 w') := Lib.hid fun cl3 F3 w3 h3 hb hf => by
        rw [← hq2, show (fun l => lockB (mkT Ls Xs) l) = (fun l => lockB (loadT (Tb.new (idsL Ls)) Xs) l) from funext fun l => lockB_mk Ls Xs l]
        exact tLoadLocks_any (B := loadT (Tb.new (idsL Ls)) Xs) h3 hBk hb hf va Ls HL.out rfl HL64.out HLW.out
      clear hq2 hBk
      cases q2 with
      | false =>
        have HF := Lib.hid (show r = false by rw [HRR.out, HQ2.out]; simp)
        go_wp2_with (first
          | (go_at_call 20; (with_reducible refine HLC2.out.mono ?_); rintro e w3 ⟨rfl, k3, k3e, cl3, F3, t3, m3⟩; rw [k3e rfl, List.take_length] at t3; have HT3 := Lib.hid t3; have HF3 := Lib.hid (m3.from_ HFN.out HB2.out.size); have HB3 := Lib.hid (HB2.out.trans (m3.only.below HFN.out HB2.out.size)); clear m3 t3 k3e)
          | (go_at_call 21; (with_reducible refine (HLL.out _ _ _ HT3.out HB3.out HF3.out).mono ?_); rintro e w4 ⟨rfl, Gf4, F4, _, m4⟩; have HB4 := Lib.hid (HB3.out.trans (m4.only.below HF3.out HB3.out.size)); clear m4))
        exact bodyPost_ret (v := .tuple #[.pointer none, .int .i64 1]) (by simp [results, Tryz.results6, go_sem]) rfl ⟨fun _ => rfl, fun h => (by rw [HF.out] at h; cases h), HB4.out⟩
      | true =>
        have HR2 := Lib.hid (show r = ((Xs.map Le.token).all fun t => seatB (mkT Ls Xs) t) by rw [HRR.out, HQ2.out]; simp)
        go_upto_region 4 with (first
          | (go_at_call 20; (with_reducible refine HLC2.out.mono ?_); rintro e w3 ⟨rfl, k3, k3e, cl3, F3, t3, m3⟩; rw [k3e rfl, List.take_length] at t3; have HT3 := Lib.hid t3; have HF3 := Lib.hid (m3.from_ HFN.out HB2.out.size); have HB3 := Lib.hid (HB2.out.trans (m3.only.below HFN.out HB2.out.size)); clear m3 t3 k3e)
          | (go_at_call 21; (with_reducible refine (HLL.out _ _ _ HT3.out HB3.out HF3.out).mono ?_); rintro e w4 ⟨rfl, Gf4, F4, t4, m4⟩; have HT4 := Lib.hid (t4 (by trivial)); have HF4 := Lib.hid (m4.from_ HF3.out HB3.out.size); have HB4 := Lib.hid (HB3.out.trans (m4.only.below HF3.out HB3.out.size)); clear m4 t4))
        have htk3 : (∀ x, x ∈ (mkT Ls Xs).toks → I64 x) ∧ risL (mkT Ls Xs).toks ∧ (mkT Ls Xs).toks.length ≤ 64 := ⟨fun x hx => by
          obtain ⟨y, hy, rfl⟩ := List.mem_map.1 hx
          exact HX64.out y hy, HBK.out.ris, HBK.out.few⟩
        have HTK := Lib.hid (tTokensW_any HT4.out htk3)
        have HTK3 := Lib.hid htk3
        clear htk3
        go_upto_region 5 with (go_at_call 22; (with_reducible refine HTK.out.mono ?_); rintro e w5 ⟨v5, rfl, h5, b5⟩; have H5 := Lib.hid h5; have HB5 := Lib.hid b5; obtain ⟨ta, tc, te⟩ := h5.form; obtain ⟨tn, htn⟩ : ∃ n, (mkT Ls Xs).toks.length = n := ⟨_, rfl⟩; rw [htn] at te; subst te; have HTN := Lib.hid htn; clear h5 b5 htn)
        have HB45 := Lib.hid (HB4.out.trans (HB5.out.mono HB4.out.size))
        have hb0 := Below.refl w5.heap.size w5
        go_loopg [33] tn (fun kx kv ws => ∃ k : Nat, k ≤ tn ∧ tn - k ≤ kx ∧ kv = .int .i64 k ∧ Hid (((mkT Ls Xs).toks.take k).all (fun t => seatB (mkT Ls Xs) t) = true) ∧ Below w5.heap.size w5 ws)
        case atStart => exact ⟨0, Nat.zero_le _, Nat.le_refl _, rfl, rfl, hb0⟩
        case round =>
          clear hb0
          obtain ⟨k, hk, hkx, rfl, hall, hbr⟩ := hrel
          have HBR := Lib.hid (HB5.out.trans (hbr.mono HB5.out.size))
          by_cases hlt : k < tn
          · have k0 : (0 : Int) ≤ (k : Int) := by omega
            have k1 : (k : Int) < (tn : Int) := by omega
            have hkl : k < (mkT Ls Xs).toks.length := by rw [HTN.out]; omega
            have k2 : (k : Int) ≤ 64 := by have := HTK3.out.2.2; omega
            obtain ⟨g3, o3, c3, e3, _, _, m0⟩ := (H5.out.below hbr).spot k hkl
            rw [HTN.out] at e3
            cases e3
            have htm : (mkT Ls Xs).toks[k]'hkl ∈ (mkT Ls Xs).toks := List.getElem_mem hkl
            have hsn : (mkT Ls Xs).toks.take (k + 1) = (mkT Ls Xs).toks.take k ++ [(mkT Ls Xs).toks[k]'hkl] := List.take_succ_eq_append_getElem hkl
            have hle := HQ1.out
            rw [Bool.and_eq_true] at hle
            have hids : ∀ a ∈ (mkT Ls Xs).ids, I64 a := fun a ha => by
              have := may_pos HM.out a ha
              unfold I64
              omega
            have hpl := tIsPlaced_any (HT4.out.kept HBR.out) htm (HTK3.out.1 _ htm) (HBK.out.gl _ htm) (fun a ha => win_of hle.2 _ htm a ha) hids fun a _ => Nat.le_trans (wtL_len HLW.out a) (by omega)
            obtain ⟨t, ht⟩ : ∃ t, (mkT Ls Xs).toks[k]'hkl = t := ⟨_, rfl⟩
            rw [ht] at m0 hpl htm hsn
            obtain ⟨q, hq⟩ : ∃ q, seatB (mkT Ls Xs) t = q := ⟨_, rfl⟩
            rw [hq] at hpl
            have HPL := Lib.hid hpl
            have HKT := Lib.hid (And.intro hlt hkx)
            have HAL := hall
            have HBW := Lib.hid hbr
            have HSN := Lib.hid hsn
            have HQ := Lib.hid hq
            have HTM := Lib.hid htm
            clear hk hkx hlt hkl hpl ht htm hsn hle hids hall hbr hq
            cases q with
            | false =>
              have HF := Lib.hid (show r = false by
                rw [HR2.out]
                exact List.all_eq_false.2 ⟨t, HTM.out, by rw [HQ.out]; simp⟩)
              go_wp2_with (go_at_call 23; (with_reducible refine HPL.out.mono ?_); rintro e w6 ⟨rfl, b6⟩; have HB6 := Lib.hid (HB4.out.trans ((HBR.out.trans (b6.mono HBR.out.size)).mono HB4.out.size)); clear b6)
              exact bodyPost_ret (v := .tuple #[.pointer none, .int .i64 1]) (by simp [results, Tryz.results6, go_sem]) rfl ⟨fun _ => rfl, fun h => (by rw [HF.out] at h; cases h), HB6.out⟩
            | true =>
              have HAN := Lib.hid (show ((mkT Ls Xs).toks.take (k + 1)).all (fun t => seatB (mkT Ls Xs) t) = true by
                rw [HSN.out, List.all_append, HAL.out]
                simp [HQ.out])
              go_wp2_with (go_at_call 23; (with_reducible refine HPL.out.mono ?_); rintro e w6 ⟨rfl, b6⟩; have HB6 := Lib.hid (HBW.out.trans (b6.mono HBW.out.size)); clear b6)
              go_roundg (tn - (k + 1))
              case measure => have := HKT.out; omega
              case rel => exact ⟨k + 1, by have := HKT.out; omega, Nat.le_refl _, by go_num, HAN.out, HB6.out⟩
          · have k1 : ¬ (k : Int) < (tn : Int) := by omega
            have HT := Lib.hid (show r = true by
              rw [HR2.out, ← hall.out, List.take_of_length_le (by rw [HTN.out]; omega)]
              rfl)
            have hOK := load_ok (by rw [HR.out]; exact HT.out) fun x hx => HX64.out x hx
            have HOK := Lib.hid hOK
            clear hk hkx hlt hall hbr hOK
            go_wp2
            exact bodyPost_ret (v := .tuple #[ptr18 b, .int .i64 0]) (by simp [results, Tryz.results6, go_sem]) rfl ⟨fun h => (by rw [HT.out] at h; cases h), fun _ => ⟨_, rfl, F4, ⟨HOK.out, b, ml, mc, pt, Gf4, cl3, rfl, HT4.out.kept HBR.out⟩, HF4.out⟩, HB4.out.trans (HBR.out.mono HB4.out.size)⟩
end Go.Proofs.YtbkoogffnchldaaGreat
