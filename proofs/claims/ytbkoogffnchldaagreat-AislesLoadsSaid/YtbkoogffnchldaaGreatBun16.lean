/- Texts of this proof, joined: AisRefD; AisLawA; AisLawB; AisLawC. -/
import Derived.Test.YtbkoogffnchldaaGreatBun15
import Derived.BigRegion
import Derived.Deep.AppendLies
import Derived.Deep.RegionLaw
import Derived.Deep.RegionHeld3
/- Stage 20: the document's Scan. -/
namespace Go.Proofs.YtbkoogffnchldaaGreat
open Go.RowKit

set_option maxHeartbeats 16000000 in
set_option maxRecDepth 100000 in
theorem refScan20_any {G : Nat → Prop} {W : World} {vl vs : Value} {T : Tb} (h : DocAt G W vl vs T) (hok : T.Ok) :
    Calls Tryz.prog 14 #[tbv vl vs] W fun e w' => ∃ v1 v2 vg, e = .returned (.tuple #[tbv v1 v2, vg]) ∧ RowsAt w' 2 csG vg T.scan.2 ∧ (∀ k, vg.ownBlock = some k → W.heap.size ≤ k) ∧ ∃ G', DocAt G' w' v1 v2 T.scan.1 ∧ (∀ k, G' k → G k ∨ W.heap.size ≤ k) ∧ Below W.heap.size W w' := by
  obtain ⟨Ls, Ss, hD⟩ := h
  obtain ⟨T', hT'⟩ : ∃ T', T.scan = T' := ⟨_, rfl⟩
  rw [hT']
  have hL1 : Ls.length ≤ 1000 := by rw [lks_len hD.le]; have := may_len hok.may; omega
  have hS1 : Ss.length ≤ 1000 := by rw [sts_len hD.se]; have := hok.few; omega
  have HT' := Lib.hid hT'
  have HOK := Lib.hid hok
  have HD := Lib.hid hD
  have HL1 := Lib.hid hL1
  have HS1 := Lib.hid hS1
  obtain ⟨al, cl, evl⟩ := RowsAt.form hD.locks.rows
  obtain ⟨a2, cs, evs⟩ := RowsAt.form hD.seats.rows
  subst evl evs
  have hTw := two20_new W (.slice al Ls.length cl) (.slice a2 Ss.length cs)
  have hsz : ((W.alloc (.cells #[.slice al Ls.length cl, .slice a2 Ss.length cs] 38)).alloc (.cells #[.slice none 0 0, .slice none 0 0] 38)).heap.size = W.heap.size + 2 := by simp
  clear hT' hok hD hL1 hS1
  go_enter Tryz.func14, Tryz.ntmps14
  go_upto_region 1 with fail
  generalize (W.alloc (.cells #[.slice al Ls.length cl, .slice a2 Ss.length cs] 38)).alloc (.cells #[.slice none 0 0, .slice none 0 0] 38) = w2 at *
  have HTW := Lib.hid hTw
  have HSZ := Lib.hid hsz
  have c0 := hTw.box.cell 0 rfl
  have c1 := hTw.box.cell 1 rfl
  have z0 := hTw.box.free 0 rfl
  have z1 := hTw.box.free 1 rfl
  have CP := Lib.hid (refCopied20_any _ _ Ls Ss w2 (HD.out.kept hTw.below).locks (HD.out.kept hTw.below).seats HL1.out HS1.out)
  clear hTw hsz
  go_upto_region 2 with (go_at_call 39; (with_reducible refine CP.out.mono ?_); rintro e w4 ⟨v1, v2, rfl, f1, f2, b4⟩; have F1 := Lib.hid f1; have F2 := Lib.hid f2; have B4 := Lib.hid b4; obtain ⟨x1, y1, e1⟩ := f1.form csL_len; obtain ⟨x2, y2, e2⟩ := f2.form csSt_len; subst e1 e2; have T4 := HTW.out.kept b4; have d0 := T4.box.cell 0 rfl; have d1 := T4.box.cell 1 rfl; have d2 := T4.box.free 0 rfl; have d3 := T4.box.free 1 rfl; have HT4 := Lib.hid T4; clear f1 f2 b4 T4 c0 c1 z0 z1)
  have hDW := (HD.out.kept HTW.out.below)
  have hk4 : WkAt w4 (W.heap.size + 2) G (.slice x1 Ls.length y1) (.slice x2 Ss.length y2) Ls Ss := WkAt.of (F1.out.base (by rw [HSZ.out]; exact Nat.le_refl _)) (fun h0 => (F2.out.resolve_left fun h => h0 h.1).2 |> fun h => OwnR.base13 h (by rw [HSZ.out]; exact Nat.le_refl _)) (F2.out.rows csSt_len)
    (fun x hx => ⟨((hDW.locks.each x hx).below B4.out), fun h0 k hk => ⟨HD.out.el x hx h0 k hk, by have := HD.out.lt k (HD.out.el x hx h0 k hk); omega⟩⟩)
    (fun x hx => ⟨((hDW.seats.each x hx).below B4.out), .inl fun h0 k hk => ⟨HD.out.es x hx h0 k hk, by have := HD.out.lt k (HD.out.es x hx h0 k hk); omega⟩⟩)
  have hGb : ∀ k, W.heap.size ≤ k → ¬ G k := fun k hk hg => by have := HD.out.lt k hg; omega
  have hk7 := Lib.hid ((hk4.away ⟨W.heap.size, 0, none⟩ (.slice x1 Ls.length y1) ⟨hGb _ (Nat.le_refl _), by simp⟩).away ⟨W.heap.size, 1, none⟩ (.slice x2 Ss.length y2) ⟨hGb _ (Nat.le_refl _), by simp⟩)
  have HT7 := Lib.hid (HT4.out.turn (.slice x1 Ls.length y1) (.slice x2 Ss.length y2))
  have HZ7 := Lib.hid (show W.heap.size + 2 ≤ ((w4.setCell ⟨W.heap.size, 0, none⟩ (.slice x1 Ls.length y1)).setCell ⟨W.heap.size, 1, none⟩ (.slice x2 Ss.length y2)).heap.size by rw [size_setCell, size_setCell]; have := B4.out.size; rw [HSZ.out] at this; exact this)
  clear hk4 hGb F1 F2 HT4 hDW B4
  generalize (w4.setCell ⟨W.heap.size, 0, none⟩ (.slice x1 Ls.length y1)).setCell ⟨W.heap.size, 1, none⟩ (.slice x2 Ss.length y2) = w7 at *
  clear d0 d1 d2 d3
  go_wp2
  go_loopw [4, 5] (fun gv iv wr => ∃ (i : Nat) (Ls' : List Lr) (Ss' : List Sr), i ≤ Ls.length ∧ iv = .int .i64 i ∧ Ls'.length = Ls.length ∧ Ss'.length = Ss.length ∧ Ls'.map lkp = (T.scanL (T.ids.take i)).1.lks ∧ Ss'.map stp = (T.scanL (T.ids.take i)).1.sts ∧ WkG wr (W.heap.size + 2) G (.slice x1 Ls.length y1) (.slice x2 Ss.length y2) Ls' Ss' gv (T.scanL (T.ids.take i)).2 ∧ (T.scanL (T.ids.take i)).2.length ≤ i ∧ Two20 W (.slice x1 Ls.length y1) (.slice x2 Ss.length y2) wr ∧ W.heap.size + 2 ≤ wr.heap.size) (fun _ iv _ => Ls.length - (intOf iv).toNat)
  case atStart => exact ⟨0, Ls, Ss, by omega, rfl, rfl, rfl, HD.out.le, HD.out.se, ⟨hk7.out, OwnR.nil _ _ _ _ _, fun k hk => by simp [Value.ownBlock] at hk, fun k hk => by simp [Value.ownBlock] at hk⟩, Nat.zero_le _, HT7.out, HZ7.out⟩
  case round =>
    clear hk7 HT7 HZ7
    obtain ⟨i, Ls', Ss', hi, rfl, hln, hsn, hlk, hst, hwk, hgl, htw, hz⟩ := hrel
    have HLN := Lib.hid hln
    have HSN := Lib.hid hsn
    have HLK := Lib.hid hlk
    have HST := Lib.hid hst
    have HWK := Lib.hid hwk
    have HGL := Lib.hid hgl
    have HTQ := Lib.hid htw
    have HZQ := Lib.hid hz
    have c0 := htw.box.cell 0 rfl
    have c1 := htw.box.cell 1 rfl
    by_cases hlt : i < Ls.length
    · have hi1 : i < Ls'.length := by omega
      have hi2 : i < T.ids.length := by rw [← lks_len HD.out.le]; exact hlt
      have hne : Ls' ≠ [] := List.ne_nil_of_length_pos (by omega)
      have hTi := (scanL_ids T (T.ids.take i))
      have hnx := scanL_next T T.ids i hi2
      have hok2 := scanL_ok HOK.out (T.ids.take i) fun x hx => List.mem_of_mem_take hx
      obtain ⟨P, gs, hP⟩ : ∃ P gs, T.scanL (T.ids.take i) = (P, gs) := ⟨_, _, rfl⟩
      rw [hP] at hlk hst hwk hgl hnx hok2 hTi HLK HST HWK HGL
      simp only at hlk hst hwk hgl hnx hok2 hTi HLK HST HWK HGL
      have hi3 : i < P.ids.length := by rw [hTi.1]; exact hi2
      have hat := lks_at (T := P) hlk i hi1 hi3
      obtain ⟨id, hid⟩ : ∃ id, T.ids[i] = id := ⟨_, rfl⟩
      have hid2 : P.ids[i] = id := by simp only [hTi.1]; exact hid
      have hidm : id ∈ P.ids := by rw [← hid2]; exact List.getElem_mem hi3
      rw [hid] at hnx
      rw [hid2] at hat
      obtain ⟨X, hX⟩ : ∃ X, Ls'[i] = X := ⟨_, rfl⟩
      have HXE := Lib.hid hX
      rw [hX] at hat
      obtain ⟨g, o, cc, e, _, _, hsp⟩ := OwnO.spot csL_len (hwk.wk.lo hne).1 i hi1
      rw [hln] at e
      cases e
      rw [hX] at hsp
      have hiw := (hwk.wk.el Ls'[i] (List.getElem_mem hi1)).1
      rw [hX] at hiw
      obtain ⟨xi, xh, xa, xc, xw⟩ := X
      have q0 := (hsp 0 _ rfl).1
      have q1 := (hsp 1 _ rfl).1
      have q2 := (hsp 2 _ rfl).1
      dsimp only [Lr.v] at q0 q1 q2 hiw
      rw [Nat.add_zero] at q0
      have e3 : xi = id ∧ xh = P.hd id ∧ xw = P.wt id := by
        have hat2 : (xi, xh, xw) = (id, P.hd id, P.wt id) := hat
        simp only [Prod.mk.injEq] at hat2
        exact hat2
      obtain ⟨e3, e4, e5⟩ := e3
      subst e3 e4 e5
      have GRN := Lib.hid (refGrant19_any xi (P.hd xi) (.slice xa (P.wt xi).length xc) (P.wt xi) wr hiw)
      have HI1 := Lib.hid hi1
      have HLT := Lib.hid hlt
      have HOK2 := Lib.hid hok2
      have HTI := Lib.hid hTi
      have HNX := Lib.hid hnx
      have HIDM := Lib.hid hidm
      have HID2 := Lib.hid hid2
      have k2 : (0 : Int) ≤ (i : Int) := by omega
      have k3 : (i : Int) < (Ls.length : Int) := by omega
      have k4 : (i : Int) ≤ 1000 := by have := HL1.out; omega
      obtain ⟨ga, gc, eg⟩ := RowsAt.form (OwnR.rows csG_len hwk.own)
      subst eg
      rcases step_cases P xi with hno | ⟨t, r, h0, hw⟩
      · rw [step_none hno] at HNX
        simp only [List.append_nil] at HNX
        have hgr : grantL (P.hd xi) (P.wt xi) = (P.hd xi, P.wt xi, 0, false) := by
          unfold grantL
          rcases hno with h | h
          · rw [if_neg h]
          · rw [h]; split <;> rfl
        rw [hgr] at GRN
        simp only at GRN
        clear hgr hno hln hsn hlk hst hwk hgl htw hz hnx hok2 hTi hP hat hid hid2 hidm hX hsp hiw hi
        go_wp2_with (go_at_call 48; (with_reducible refine GRN.out.mono ?_); rintro e w5 ⟨v5, rfl, h5, h6, b5⟩; obtain ⟨y5, y6, e5⟩ := h5.form; subst e5; have HB5 := Lib.hid b5; clear h5 h6 b5)
        go_roundw
        case rel => exact ⟨i + 1, Ls', Ss', by have := HLT.out; omega, by go_num, HLN.out, HSN.out, by rw [HNX.out]; exact HLK.out, by rw [HNX.out]; exact HST.out, by rw [HNX.out]; exact HWK.out.kept (HB5.out.alloc HB5.out.size _), by rw [HNX.out]; have := HGL.out; simp only; omega, HTQ.out.kept (HB5.out.alloc HB5.out.size _), Nat.le_trans HZQ.out (HB5.out.alloc HB5.out.size _).size⟩
        case measure => have := HLT.out; simp [intOf] <;> omega
      · have hm : t ∈ P.wt xi := by rw [hw]; simp
        obtain ⟨htk, hnt⟩ := hok2.wait xi hidm t hm
        have hgo := give_ok hok2 hidm h0 hw
        have hgr : grantL (P.hd xi) (P.wt xi) = (t, r, t, true) := by
          unfold grantL
          rw [if_pos h0, hw]
        rw [hgr] at GRN
        simp only at GRN
        rw [step_some h0 hw] at HNX
        obtain ⟨q, hq, hqe⟩ : ∃ (q : Nat) (hq : q < P.toks.length), P.toks[q] = t := by
          obtain ⟨q, hq, e⟩ := List.getElem_of_mem htk
          exact ⟨q, hq, e⟩
        have hqs : q < Ss'.length := by rw [sts_len hst]; exact hq
        have hse := sts_at hst q hqs hq
        rw [hqe] at hse
        have hpl : plcL (toksS Ss') t = (q : Int) := by
          rw [sts_toks hst]
          refine plc_found hq hqe fun hmem => ?_
          have := not_take (ris_nodup hok2.ris) q hq
          rw [hqe] at this
          exact this hmem
        have HSEAT := Lib.hid fun (w' : World) (hb : RowsAt w' 3 csSt (.slice x2 Ss.length y2) Ss') => refSeated20_any (some ⟨g, o, none⟩) Ls.length y1 (.slice x2 Ss.length y2) Ss' t w' hb (by have := HS1.out; omega)
        rw [hpl] at HSEAT
        have HGO := Lib.hid hgo
        have HTK := Lib.hid htk
        have HQ := Lib.hid hq
        have HQE := Lib.hid hqe
        have HQS := Lib.hid hqs
        have HSE := Lib.hid hse
        obtain ⟨m, hm2⟩ : ∃ m, r.length = m := ⟨_, rfl⟩
        have HM := Lib.hid hm2
        have HZD := Lib.hid fun (w5 : World) (hb5 : Below wr.heap.size wr w5) => (show w5.frozen? ⟨g, o + i * 3, none⟩ = false ∧ w5.frozen? ⟨g, o + i * 3 + 1, none⟩ = false ∧ w5.frozen? ⟨g, o + i * 3 + 2, none⟩ = false ∧ w5.cell? ⟨g, o + i * 3, none⟩ = some (.int .i64 xi) ∧ w5.cell? ⟨g, o + i * 3 + 1, none⟩ = some (.int .i64 (P.hd xi)) ∧ w5.cell? ⟨g, o + i * 3 + 2, none⟩ = some (.slice xa (P.wt xi).length xc) from by
          have k5 := HWK.out.wk.kept hb5
          obtain ⟨g', o', cc', e, _, _, hsp5⟩ := OwnO.spot csL_len (k5.lo hne).1 i HI1.out
          rw [HLN.out] at e
          cases e
          rw [HXE.out] at hsp5
          exact ⟨(hsp5 0 _ rfl).2, (hsp5 1 _ rfl).2, (hsp5 2 _ rfl).2, (hsp5 0 _ rfl).1, (hsp5 1 _ rfl).1, (hsp5 2 _ rfl).1⟩)
        have HH0 := Lib.hid h0
        have HHW := Lib.hid hw
        clear hgr hln hsn hlk hst hwk hgl htw hz hnx hok2 hTi hP hat hid hid2 hidm hX hsp hiw hi hm hgo hse hpl hm2 h0 hw htk hnt hqe
        go_upto_region 8 with (go_at_call 48; (with_reducible refine GRN.out.mono ?_); rintro e w5 ⟨v5, rfl, h5, h6, b5⟩; obtain ⟨y5, y6, e5⟩ := h5.form; rw [HM.out] at e5 h6; subst e5; have HB5 := Lib.hid b5; have H5 := Lib.hid h5; have H6 := Lib.hid h6; clear h5 h6 b5)
        have hB6 := HB5.out.trans (((Below.refl w5.heap.size w5).alloc (Nat.le_refl _) (.cells #[.int .i64 xi, .int .i64 t, .slice y5 m y6] 31)).mono HB5.out.size)
        have hbx := Blk.new w5 [.int .i64 xi, .int .i64 t, .slice y5 m y6] 31
        have h5a := H5.out.below ((Below.refl w5.heap.size w5).alloc (Nat.le_refl _) (.cells #[.int .i64 xi, .int .i64 t, .slice y5 m y6] 31))
        have hsz6 : (w5.alloc (.cells #[.int .i64 xi, .int .i64 t, .slice y5 m y6] 31)).heap.size = w5.heap.size + 1 := by simp
        have HS5 := Lib.hid HB5.out.size
        generalize hbq : w5.heap.size = b6 at *
        generalize w5.alloc (.cells #[.int .i64 xi, .int .i64 t, .slice y5 m y6] 31) = w6 at *
        have hX6 := HTQ.out.kept hB6
        have hWP := HWK.out.wk.put hB6 HZQ.out i HI1.out ⟨xi, t, y5, y6, r⟩ (by dsimp only [Lr.v]; rw [HM.out]; exact h5a) (by rw [HXE.out]; dsimp only [Lr.v]; rw [HM.out]; exact H6.out) rfl
        have hW7 := HWK.out.next i HI1.out ⟨xi, t, y5, y6, r⟩ (by rw [HXE.out]; dsimp only [Lr.v]; rw [HM.out]; exact H6.out) hWP.1 hWP.2
        have hgz : g < wr.heap.size := (HWK.out.wk.lo hne).1.lt g rfl
        have hgb : b6 ≠ g := by have := HS5.out; omega
        have hbx7 := ((hbx.away ⟨g, o + i * 3, none⟩ (.int .i64 xi) hgb).away ⟨g, o + i * 3 + 1, none⟩ (.int .i64 t) hgb).away ⟨g, o + i * 3 + 2, none⟩ (.slice y5 m y6) hgb
        have hT7 := HTQ.out.only hWP.2 fun k hk => (HWK.out.wk.lo hne).2 k hk
        dsimp only [Lr.v] at hW7 hWP hT7
        rw [HM.out] at hW7 hWP hT7
        have HW7 := Lib.hid hW7
        have HB7 := Lib.hid hbx7
        have HT7 := Lib.hid hT7
        have HZ7 := Lib.hid (show W.heap.size + 2 ≤ _ from Nat.le_trans HZQ.out hWP.2.size)
        have c0' := hX6.box.cell 0 rfl
        have b0 := hbx.cell 0 rfl
        have b1 := hbx.cell 1 rfl
        have b2 := hbx.cell 2 rfl
        obtain ⟨z0, z1, z2, d0, d1, d2⟩ := HZD.out w6 hB6
        clear hX6 hWP hW7 hbx7 hT7 hbx h5a c0 c1 q0 q1 q2
        go_upto_region 9 with fail
        generalize ((w6.setCell ⟨g, o + i * 3, none⟩ (.int .i64 xi)).setCell ⟨g, o + i * 3 + 1, none⟩ (.int .i64 t)).setCell ⟨g, o + i * 3 + 2, none⟩ (.slice y5 m y6) = w7 at *
        clear z0 z1 z2 d0 d1 d2 b0 b1 b2 c0' hB6
        have u0 := HB7.out.cell 0 rfl
        go_upto_region 10 with (at_builtin; refine appG t xi HW7.out.own HZ7.out (by have := HGL.out; omega) rfl _ _ rfl rfl rfl ?_; intro v8 w8 o8 b8 m8 n8; have HW8 := Lib.hid (HW7.out.more o8 m8 n8); have HT8 := Lib.hid (HT7.out.only m8 fun k hk => (HW7.out.own.lt k hk).1); have HZ8 := Lib.hid (Nat.le_trans HZ7.out m8.size); clear o8 b8 m8 n8 u0)
        have c0 := HT8.out.box.cell 0 rfl
        have c1 := HT8.out.box.cell 1 rfl
        go_upto_region 11 with (go_at_call 38; (with_reducible refine (HSEAT.out _ HW8.out.wk.sr).mono ?_); rintro e w9 ⟨rfl, b9⟩; have HB9 := Lib.hid b9; clear b9 c0 c1)
        have hW9 := HW8.out.kept HB9.out
        have hT9 := HT8.out.kept HB9.out
        have hne2 : Ss' ≠ [] := List.ne_nil_of_length_pos (by omega)
        obtain ⟨Y, hY⟩ : ∃ Y, Ss'[q]'hqs = Y := ⟨_, rfl⟩
        have hse : stp (Ss'[q]'hqs) = (t, (P.got t : Int), P.want t) := HSE.out
        rw [hY] at hse
        obtain ⟨gq, oq, cq, e, _, _, hsp⟩ := OwnO.spot csSt_len (hW9.wk.so hne2).1 q hqs
        rw [HSN.out] at e
        cases e
        rw [hY] at hsp
        have hiw := (hW9.wk.es (Ss'[q]'hqs) (List.getElem_mem hqs)).1
        rw [hY] at hiw
        obtain ⟨yt, yg, ya, yc, yw⟩ := Y
        have hse : (yt, yg, yw) = (t, (P.got t : Int), P.want t) := hse
        simp only [Prod.mk.injEq] at hse
        obtain ⟨rfl, rfl, rfl⟩ := hse
        have p0 := (hsp 0 _ rfl).1
        have p1 := (hsp 1 _ rfl).1
        have p2 := (hsp 2 _ rfl).1
        have f1 := (hsp 1 _ rfl).2
        dsimp only [Sr.v] at p0 p1 p2 hiw
        rw [Nat.add_zero] at p0
        have hin := hW9.inc q hqs ((P.got yt : Int) + 1) rfl
        rw [hY] at hin
        dsimp only at hin
        have hT10 := hT9.only hin.2 fun k hk => (hW9.wk.so hne2).2 k hk
        have hgl : (P.want yt).length ≤ 32 := by
          have h1 := len_of_sub (P.want yt) P.ids (ris_nodup (HOK2.out.wr _ HTK.out)) (HOK2.out.win _ HTK.out)
          have h2 := may_len HOK2.out.may
          omega
        have hgg := HOK2.out.gl _ HTK.out
        have k5 : (0 : Int) ≤ (q : Int) := by omega
        have k6 : (q : Int) < (Ss.length : Int) := by have := HSN.out; omega
        have k7 : (P.got yt : Int) ≤ 32 := by omega
        have k8 : (0 : Int) ≤ (P.got yt : Int) := by omega
        have HW10 := Lib.hid hin.1
        have HT10 := Lib.hid hT10
        have HZ10 := Lib.hid (Nat.le_trans (Nat.le_trans HZ8.out HB9.out.size) hin.2.size)
        have HYE := Lib.hid hY
        have HGL2 := Lib.hid hgl
        have e0 := hT9.box.cell 1 rfl
        have HWR := Lib.hid (show IntKind.i64.wrap ((P.got yt : Int) + 1) = (P.got yt : Int) + 1 by rw [IntKind.wrap_i64]; omega)
        clear hin hT10 hW9 hT9 hsp hY hgl hgg
        have hwr := HWR.out
        go_upto_region 12 with fail
        generalize w9.setCell ⟨gq, oq + q * 3 + 1, none⟩ (.int .i64 ((P.got yt : Int) + 1)) = w10 at *
        have hw10 := HW10.out
        have HL11 := Lib.hid (lks_set HLK.out (ris_nodup (may_ris HOK2.out.may)) i hi3 ⟨xi, yt, y5, y6, r⟩ (P.give xi yt r) rfl (by rw [HID2.out]; show (xi, yt, r) = (xi, upF P.hd xi yt xi, upF P.wt xi r xi); rw [upF_same, upF_same]) (fun a ha => by rw [HID2.out] at ha; exact ⟨upF_ne _ _ ha, upF_ne _ _ ha⟩))
        have HS11 := Lib.hid (sts_set HST.out (ris_nodup HOK2.out.ris) q HQ.out ⟨yt, (P.got yt : Int) + 1, ya, yc, P.want yt⟩ (P.give xi yt r) rfl (by rw [HQE.out]; show (yt, (P.got yt : Int) + 1, P.want yt) = (yt, ((upF P.got yt (P.got yt + 1) yt : Nat) : Int), P.want yt); rw [upF_same]; simp) (fun a ha => by rw [HQE.out] at ha; exact ⟨upF_ne _ _ ha, rfl⟩))
        have hso : (Ss'.set q ⟨yt, (P.got yt : Int) + 1, ya, yc, P.want yt⟩) ≠ [] := List.ne_nil_of_length_pos (by rw [List.length_set]; omega)
        obtain ⟨gq', oq', cq', e, _, _, hsp⟩ := OwnO.spot csSt_len (hw10.wk.so hso).1 q (by rw [List.length_set]; exact hqs)
        rw [List.length_set, HSN.out] at e
        cases e
        rw [List.getElem_set_self] at hsp
        have r0 := (hsp 0 _ rfl).1
        have r1 := (hsp 1 _ rfl).1
        have r2 := (hsp 2 _ rfl).1
        rw [Nat.add_zero] at r0
        dsimp only [Sr.v] at r0 r1 r2
        have c0 := HT10.out.box.cell 0 rfl
        have c1 := HT10.out.box.cell 1 rfl
        have HASK := Lib.hid fun (w' : World) (hb : Below w10.heap.size w10 w') => refAsk20_any (HW10.out.kept hb).wk (Nat.le_trans HZ10.out hb.size) HL11.out HGO.out ⟨yt, (P.got yt : Int) + 1, ya, yc, P.want yt⟩ (by show (yt, (P.got yt : Int) + 1, P.want yt) = (yt, ((upF P.got yt (P.got yt + 1) yt : Nat) : Int), P.want yt); rw [upF_same]; simp) ((HW10.out.kept hb).wk.es _ (List.mem_set hqs _)).1
        clear hw10 hsp hiw hse p0 p1 p2 f1 e0 hwr
        refine wp_region_calmT 6 (by kernel_rfl) (by simp) (by kernel_rfl) fun M => ?_
        simp only [List.take_succ_cons, List.take_zero, List.drop_succ_cons, List.drop_zero]
        have e0 := fun n : In M.w => n.cell (M.cell c0)
        have e1 := fun n : In M.w => n.cell (M.cell c1)
        have e2 := fun n : In M.w => n.cell (M.cell r0)
        have e3 := fun n : In M.w => n.cell (M.cell r1)
        have e4 := fun n : In M.w => n.cell (M.cell r2)
        repeat (go_big_quiet_step (fail))
        refine wpQuiet_nil ?_
        clear e0 e1 e2 e3 e4 M
        intro w11 hb11
        have HB11 := Lib.hid hb11
        clear hb11 c0 c1 r0 r1 r2
        go_wp2_with (go_at_call 40; (with_reducible refine (HASK.out _ HB11.out).mono ?_); rintro e w12 ⟨rfl, Ls2, g1, g2, g3, g4, g5⟩; have G1 := Lib.hid g1; have G2 := Lib.hid g2; have G4 := Lib.hid g4; have G5 := Lib.hid (g5 _ _ (HW10.out.kept HB11.out)); clear g1 g2 g3 g4 g5)
        go_roundw
        case rel =>
          refine ⟨i + 1, Ls2, Ss'.set q ⟨yt, (P.got yt : Int) + 1, ya, yc, P.want yt⟩, by have := HLT.out; omega, by go_num, by rw [G1.out, List.length_set]; exact HLN.out, by rw [List.length_set]; exact HSN.out, by rw [HNX.out]; exact G2.out, by rw [HNX.out]; have := HS11.out; unfold Tb.sts at this ⊢; rw [(ask_ids (P.give xi yt r) yt).2.1, (ask_ids (P.give xi yt r) yt).2.2.1, (ask_ids (P.give xi yt r) yt).2.2.2.1]; exact this, by rw [HNX.out]; exact G5.out, by rw [HNX.out]; have := HGL.out; simp only [List.length_append, List.length_singleton]; omega, (HT10.out.kept HB11.out).only G4.out fun k hk => ?_, Nat.le_trans (Nat.le_trans HZ10.out HB11.out.size) G4.out.size⟩
          exact ((HW10.out.kept HB11.out).wk.lo hk.1).2 k hk.2
        case measure => have := HLT.out; simp [intOf] <;> omega
    · have hie : i = Ls.length := by omega
      have hit : T.scanL (T.ids.take i) = T' := by rw [hie, lks_len HD.out.le, List.take_length, ← HT'.out]; rfl
      have z0 := htw.ans.free 0 rfl
      have z1 := htw.ans.free 1 rfl
      have n0 := htw.ans.cell 0 rfl
      have n1 := htw.ans.cell 1 rfl
      obtain ⟨U, hBF⟩ := htw.put (.slice x1 Ls.length y1) (.slice x2 Ss.length y2)
      have r0 := U.cell 0 rfl
      have r1 := U.cell 1 rfl
      have hGb : ∀ k, G k → k < W.heap.size := HD.out.lt
      have hus : ∀ p : Addr, p.block = W.heap.size + 1 → ¬ G p.block ∧ p.block < W.heap.size + 2 := fun p hp => ⟨fun hg => by have := hGb _ hg; omega, by omega⟩
      have hWF := (HWK.out.wk.away ⟨W.heap.size + 1, 0, none⟩ (.slice x1 Ls.length y1) (hus _ rfl)).away ⟨W.heap.size + 1, 1, none⟩ (.slice x2 Ss.length y2) (hus _ rfl)
      rw [hit] at hlk hst hwk
      have HDF := Lib.hid (hWF.doc (T := T'.1) (fun k hk => by have := hGb k hk; rw [size_setCell, size_setCell]; have := HZQ.out; omega) hlk hst)
      have hgn : ∀ k, u4.ownBlock = some k → W.heap.size + 2 ≤ k ∧ k < wr.heap.size := fun k hk => hwk.own.lt k hk
      have HGR := Lib.hid (OwnR.rows csG_len ((OwnR.away hwk.own ⟨W.heap.size + 1, 0, none⟩ (.slice x1 Ls.length y1) (fun e => by have := (hgn _ e).1; simp at this)).away ⟨W.heap.size + 1, 1, none⟩ (.slice x2 Ss.length y2) (fun e => by have := (hgn _ e).1; simp at this)))
      have HGN := Lib.hid fun k hk => Nat.le_trans (Nat.le_add_right W.heap.size 2) (hgn k hk).1
      have HBF := Lib.hid hBF
      have g2 : ¬ (i : Int) < (Ls.length : Int) := by omega
      clear hln hsn hlk hst hwk hgl htw hz hlt hie hit U hBF hGb hus hWF hi hgn
      go_wp2
      refine bodyPost_ret (v := .tuple #[tbv (.slice x1 Ls.length y1) (.slice x2 Ss.length y2), u4]) ?_ rfl ⟨_, _, _, rfl, HGR.out, HGN.out, _, HDF.out, fun k hk => hk.imp (fun h => h) (fun h => by omega), HBF.out⟩
      simp [results, Tryz.results14, go_sem, r0, r1]
end Go.Proofs.YtbkoogffnchldaaGreat
/- Stage 20: what the laws lean on: the table as an object with state, the document's table beside it; are two lists of locks alike; same. -/
namespace Go.Proofs.YtbkoogffnchldaaGreat
open Go.RowKit

def tbObj : ObjK Tb := ⟨TbAt, TbAt.same, TbAt.lt⟩
def Bes.doc (G : Nat → Prop) (vl vs : Value) (T : Tb) : Bes := ⟨fun w => DocAt G w vl vs T, G, fun h hz he => h.same hz he, fun h => by obtain ⟨_, _, h⟩ := h; exact h.lt⟩

set_option maxHeartbeats 4000000 in
set_option maxRecDepth 100000 in
theorem refAll19_any (va vb : Value) (La Lb : List Lr) (W : World) (ha : LocksAt W va La) (hb : LocksAt W vb Lb) (he : La.map lkp = Lb.map lkp) (hl : La.length ≤ 1000) (hw : ∀ x ∈ La, x.wait.length ≤ 2000) :
    Calls Tryz.prog 29 #[va, vb] W fun e w' => e = .returned (.bool true) ∧ Below W.heap.size W w' := by
  have HA := Lib.hid ha
  have HB := Lib.hid hb
  have HE := Lib.hid he
  have HL := Lib.hid hl
  have HW := Lib.hid hw
  have hlen : Lb.length = La.length := by have := congrArg List.length he; simpa using this.symm
  obtain ⟨a, c, rfl⟩ := RowsAt.form ha.rows
  obtain ⟨b, d, rfl⟩ := RowsAt.form hb.rows
  obtain ⟨n, hn⟩ : ∃ n, La.length = n := ⟨_, rfl⟩
  rw [hn] at hlen HL
  rw [hn, hlen]
  have HN := Lib.hid hn
  have HN2 := Lib.hid hlen
  have hB := Below.refl W.heap.size W
  clear ha hb he hl hw hn hlen
  go_enter Tryz.func29, Tryz.ntmps29
  go_wp2
  go_loopg [5] n (fun kx iv wr => ∃ k : Nat, k ≤ n ∧ n - k ≤ kx ∧ iv = .int .i64 k ∧ Below W.heap.size W wr)
  case atStart => exact ⟨0, Nat.zero_le _, Nat.le_refl _, rfl, hB⟩
  case round =>
    obtain ⟨k, hk, hkx, rfl, hbr⟩ := hrel
    have HBR := Lib.hid hbr
    by_cases hlt : k < n
    · have l1 : k < La.length := by rw [HN.out]; exact hlt
      have l2 : k < Lb.length := by rw [HN2.out]; exact hlt
      obtain ⟨g, o, cc, e, _, _, p0, p1, p2⟩ := RowsAt.atL (HA.out.below hbr).rows k l1
      obtain ⟨g', o', cc', e', _, _, q0, q1, q2⟩ := RowsAt.atL (HB.out.below hbr).rows k l2
      rw [HN.out] at e
      rw [HN2.out] at e'
      cases e
      cases e'
      have he : lkp La[k] = lkp Lb[k] := by
        have h1 : (La.map lkp)[k]? = (Lb.map lkp)[k]? := by rw [HE.out]
        rw [List.getElem?_map, List.getElem?_map, List.getElem?_eq_getElem l1, List.getElem?_eq_getElem l2] at h1
        exact Option.some.inj h1
      have i1 := (HA.out.each La[k] (List.getElem_mem l1)).below hbr
      have i2 := (HB.out.each Lb[k] (List.getElem_mem l2)).below hbr
      have w1' := HW.out La[k] (List.getElem_mem l1)
      generalize La[k] = x at *
      generalize Lb[k] = y at *
      obtain ⟨xi, xh, xa, xc, xw⟩ := x
      obtain ⟨yi, yh, ya, yc, yw⟩ := y
      simp only [lkp, Prod.mk.injEq] at he
      obtain ⟨rfl, rfl, rfl⟩ := he
      have HS := Lib.hid fun (w1 : World) (hb1 : Below wr.heap.size wr w1) => refSame19_any xi xh xi xh (.slice xa xw.length xc) (.slice ya xw.length yc) xw xw w1 (i1.below hb1) (i2.below hb1) w1' w1'
      simp only [and_self, decide_true] at HS
      have j1 : (k : Int) < (n : Int) := by omega
      have j0 : (0 : Int) ≤ (k : Int) := by omega
      have j2 : (k : Int) ≤ 1000 := by have := HL.out; omega
      have HK := Lib.hid (And.intro hk (And.intro hkx hlt))
      clear i1 i2 w1' hk hkx hbr l1 l2
      go_upto_region 6 with (fail)
      refine wp_region_calm0 (by kernel_rfl) (by kernel_rfl) fun M => ?_
      have m0 := fun n : In M.w => n.cell (M.cell p0)
      have m1 := fun n : In M.w => n.cell (M.cell p1)
      have m2 := fun n : In M.w => n.cell (M.cell p2)
      have n0 := fun n : In M.w => n.cell (M.cell q0)
      have n1 := fun n : In M.w => n.cell (M.cell q1)
      have n2 := fun n : In M.w => n.cell (M.cell q2)
      repeat (go_big_quiet_step ((go_at_call 61; exact In.call (HS.out _ (M.within _).h))))
      refine wpQuiet_nil ?_
      intro w3 hb3
      have HB3 := Lib.hid (HBR.out.trans (hb3.mono HBR.out.size))
      clear m0 m1 m2 n0 n1 n2 M hb3 p0 p1 p2 q0 q1 q2
      go_wp2
      go_roundg (n - (k + 1))
      case measure => have := HK.out; omega
      case rel => exact ⟨k + 1, by have := HK.out; omega, Nat.le_refl _, by go_num, HB3.out⟩
    · have j1 : ¬ (k : Int) < (n : Int) := by omega
      clear hlt hk hkx hbr
      go_wp2
      go_ret
      exact ⟨rfl, HBR.out⟩

theorem keep_call20 {w3 q w1 : World} (h : Below w3.heap.size w3 q) (hb : Below q.heap.size q w1) : Below w3.heap.size w3 w1 := h.trans (hb.mono h.size)
theorem lks_small {La : List Lr} {T : Tb} (h : La.map lkp = T.lks) (hok : T.Ok) : La.length ≤ 1000 ∧ ∀ x ∈ La, x.wait.length ≤ 2000 := by
  refine ⟨by have := lks_len h; have := may_len hok.may; omega, fun x hx => ?_⟩
  have h1 : lkp x ∈ T.lks := by rw [← h]; exact List.mem_map_of_mem hx
  obtain ⟨id, hid, e⟩ := List.mem_map.1 h1
  simp only [lkp, Prod.mk.injEq] at e
  have := hok.wlen hid
  rw [← e.2.2]
  omega
set_option maxHeartbeats 8000000 in
set_option maxRecDepth 100000 in
theorem same20_any {F G : Nat → Prop} {p vl vs : Value} {T : Tb} {w : World} (h : TbAt F w p T) (hd : DocAt G w vl vs T) :
    Calls Tryz.prog 8 #[p, tbv vl vs] w fun e w' => e = .returned (.bool true) ∧ Below w.heap.size w w' := by
  obtain ⟨hok, b, ml, mc, pt, Gf, cl, rfl, hR⟩ := h
  obtain ⟨Ls, Ss, hd⟩ := hd
  obtain ⟨al, cl', hvl⟩ := RowsAt.form hd.locks.rows
  obtain ⟨as', cs', hvs⟩ := RowsAt.form hd.seats.rows
  obtain ⟨lq, hlq⟩ : ∃ n, Ls.length = n := ⟨_, rfl⟩
  obtain ⟨sq, hsq⟩ : ∃ n, Ss.length = n := ⟨_, rfl⟩
  rw [hlq] at hvl
  rw [hsq] at hvs
  have hl1 := lks_small hd.le hok
  have hl2 : Ss.length ≤ 1000 := by have := sts_len hd.se; have := hok.few; omega
  have hl3 : T.toks.length ≤ 1000000 := by have := hok.few; omega
  have hl4 : T.fullL.length ≤ 1000000 := by
    have := List.length_filter_le (fun t => T.isFull t) T.toks
    have : T.fullL.length ≤ T.toks.length := this
    omega
  have hb0 := (Below.refl w.heap.size w).alloc (Nat.le_refl _) (.cells #[vl, vs] 38)
  have hX := Blk.new w [vl, vs] 38
  obtain ⟨w0, hw0⟩ : ∃ w0, w.alloc (.cells #[vl, vs] 38) = w0 := ⟨_, rfl⟩
  have c0 := hX.cell 0 rfl
  have c1 := hX.cell 1 rfl
  rw [hw0] at c0 c1 hb0
  have HR := Lib.hid (hR.kept hb0)
  have HD := Lib.hid (hd.kept hb0)
  have HV := Lib.hid fun w1 (hb : Below w0.heap.size w0 w1) => tView_any (HR.out.kept hb) hok
  have HT := Lib.hid fun w1 (hb : Below w0.heap.size w0 w1) => tTokens_any (HR.out.kept hb) hok
  have HF := Lib.hid fun w1 (hb : Below w0.heap.size w0 w1) => tFull_any (HR.out.kept hb) hok
  have HA := Lib.hid fun w1 v Vs (hb : Below w0.heap.size w0 w1) (h1 : LocksAt w1 v Vs) (h2 : Vs.map lkp = T.lks) => refAll19_any v vl Vs Ls w1 h1 (HD.out.kept hb).locks (h2.trans HD.out.le.symm) (lks_small h2 hok).1 (lks_small h2 hok).2
  have HU := Lib.hid fun f w1 (hb : Below w0.heap.size w0 w1) => refTokens20_any al lq cl' vs Ss f w1 (HD.out.kept hb).seats hl2
  have HI1 := Lib.hid fun w1 v v' (h1 : IntsAt w1 v T.toks) (h2 : IntsAt w1 v' (tokensL Ss false)) => refInts_any v v' T.toks (tokensL Ss false) w1 h1 h2 hl3 (by rw [tokens_all hd.se]; exact hl3)
  have HI2 := Lib.hid fun w1 v v' (h1 : IntsAt w1 v T.fullL) (h2 : IntsAt w1 v' (tokensL Ss true)) => refInts_any v v' T.fullL (tokensL Ss true) w1 h1 h2 hl4 (by rw [tokens_full hd.se]; exact hl4)
  rw [← hvl] at HU
  have HUA := HU.out false
  have HUB := HU.out true
  rw [tokens_all hd.se] at HUA
  rw [tokens_full hd.se] at HUB
  replace HUA := Lib.hid HUA
  replace HUB := Lib.hid HUB
  clear HU
  simp only [tokens_all hd.se, tokens_full hd.se, decide_true] at HI1 HI2
  have HB0 := Lib.hid hb0
  clear hX hb0 hR hd hl1 hl2 hl3 hl4 hlq hsq hvl hvs
  go_enter Tryz.func8, Tryz.ntmps8
  go_upto_region 1 with (fail)
  have hS0 : Below w0.heap.size w0 w0.drew := below_drewN (Below.refl _ w0) 1
  have K0 : ∀ w', Below w0.heap.size w0 w' → w'.cell? ⟨w.heap.size, 0, none⟩ = some vl := fun w' h => (h.cell (World.block_lt_of_cell? _ _ c0)).trans c0
  have K1 : ∀ w', Below w0.heap.size w0 w' → w'.cell? ⟨w.heap.size, 1, none⟩ = some vs := fun w' h => (h.cell (World.block_lt_of_cell? _ _ c1)).trans c1
  go_region_held3 (fun w' => Below w0.heap.size w0 w') (assumption) ((first
    | (go_at_call 30; with_reducible refine (HV.out _ ‹Below w0.heap.size w0 _›).mono ?_; rintro e u1 ⟨v1, Vs, rfl, hv1, hw1, hb1⟩; have hS1 := keep_call20 ‹Below w0.heap.size w0 _› hb1; clear hb1)
    | (go_at_call 29; with_reducible refine (HA.out _ v1 Vs ‹Below w0.heap.size w0 _› hv1 hw1).mono ?_; rintro e u2 ⟨rfl, hb2⟩; have hS2 := keep_call20 ‹Below w0.heap.size w0 _› hb2; clear hb2 hv1)
    | (go_at_call 22; with_reducible refine (HT.out _ ‹Below w0.heap.size w0 _›).mono ?_; rintro e u3 ⟨v3, rfl, hv3, hb3⟩; have hS3 := keep_call20 ‹Below w0.heap.size w0 _› hb3; clear hb3)
    | (go_at_call 31; with_reducible refine (HUA.out _ ‹Below w0.heap.size w0 _›).mono ?_; rintro e u4 ⟨v4, rfl, hv4, hb4⟩; replace hv3 := hv3.below hb4; have hS4 := keep_call20 ‹Below w0.heap.size w0 _› hb4; clear hb4)
    | (go_at_call 17; with_reducible refine (HI1.out _ v3 v4 hv3 hv4.ints).mono ?_; rintro e u5 ⟨rfl, hb5⟩; have hS5 := keep_call20 ‹Below w0.heap.size w0 _› hb5; clear hb5 hv3 hv4)
    | (go_at_call 18; with_reducible refine (HF.out _ ‹Below w0.heap.size w0 _›).mono ?_; rintro e u6 ⟨v6, rfl, hv6, hb6⟩; have hS6 := keep_call20 ‹Below w0.heap.size w0 _› hb6; clear hb6)
    | (go_at_call 31; with_reducible refine (HUB.out _ ‹Below w0.heap.size w0 _›).mono ?_; rintro e u7 ⟨v7, rfl, hv7, hb7⟩; replace hv6 := hv6.below hb7; have hS7 := keep_call20 ‹Below w0.heap.size w0 _› hb7; clear hb7)
    | (go_at_call 17; with_reducible refine (HI2.out _ v6 v7 hv6 hv7.ints).mono ?_; rintro e u8 ⟨rfl, hb8⟩; have hS8 := keep_call20 ‹Below w0.heap.size w0 _› hb8; clear hb8 hv6 hv7)))
  have HB1 := Lib.hid (HB0.out.trans (hS8.mono HB0.out.size))
  clear hS0 hS1 hS2 hS3 hS4 hS5 hS6 hS7 hS8 K0 K1 hw1
  go_wp2
  go_ret
  exact ⟨rfl, HB1.out⟩
end Go.Proofs.YtbkoogffnchldaaGreat
/- Stage 20: the program's calls beside what is kept; alive. -/
namespace Go.Proofs.YtbkoogffnchldaaGreat
open Go.RowKit

section
variable {w w1 : World} {p : Value} {T : Tb} {bs : List Bes}
theorem sNew (hb : Below w.heap.size w w1) (va : Value) (l : List Int) (ha : IntsAt w1 va l) (hm : mayB l = true) : Calls Tryz.prog 15 #[va] w1 fun e w' => ∃ b, e = .returned (.tuple #[ptr18 b, .int .i64 0]) ∧ SideG tbObj w w' (ptr18 b) (Tb.new l) [] := by
  refine (tNew_any va l w1 ha hm).mono ?_
  rintro e w' ⟨p, rfl, F, h1, h2, h3⟩
  have h1' := h1
  obtain ⟨_, b, _, _, _, _, _, rfl, _⟩ := h1'
  exact ⟨b, rfl, SideG.start h1 (fun k hk => Nat.le_trans hb.size (h2 k hk)) (hb.trans (h3.mono hb.size))⟩
theorem sEnter (h : SideG tbObj w w1 p T bs) (t : Int) (ht : In18 t) (va : Value) (l : List Int) (hi : IntsAt w1 va l) (hl : l.length ≤ 1000) : Calls Tryz.prog 9 #[p, .int .i64 t, va] w1 fun e w' => e = .returned (.int .i64 (T.enterE t l)) ∧ SideG tbObj w w' p (T.enter t l) bs :=
  h.step fun _ h0 => tEnter_any h0 t ht va l hi hl
theorem sLeave (h : SideG tbObj w w1 p T bs) (t : Int) (ht : In18 t) : Calls Tryz.prog 11 #[p, .int .i64 t] w1 fun e w' => e = .returned (.bool (decide (t ∈ T.toks))) ∧ SideG tbObj w w' p (T.leave t) bs :=
  h.step fun _ h0 => tLeave_any h0 t ht
theorem sScan (h : SideG tbObj w w1 p T bs) : Calls Tryz.prog 13 #[p] w1 fun e w' => ∃ v, e = .returned v ∧ RowsAt w' 2 csG v T.scan.2 ∧ (∀ k, v.ownBlock = some k → w1.heap.size ≤ k) ∧ SideG tbObj w w' p T.scan.1 bs := by
  obtain ⟨F, h0, h1, h2, h3⟩ := h
  obtain ⟨hok, b, _, _, _, _, _, rfl, hR⟩ := h0
  refine (tScan_any hR hok).mono ?_
  rintro e w' ⟨v, rfl, hv, hn, F', h4, h5⟩
  exact ⟨v, rfl, hv, hn, SideG.mv h1 h2 h3 h4 h5⟩
/-- what Got tells -/
def gotR (T : Tb) (t : Int) : Int × Int := if t ∈ T.toks then ((T.got t : Int), ((T.want t).length : Int)) else (0, 0)
theorem sGot (h : SideG tbObj w w1 p T bs) (t : Int) (ht : I64 t) : Calls Tryz.prog 16 #[p, .int .i64 t] w1 fun e w' => e = .returned (.tuple #[.int .i64 (gotR T t).1, .int .i64 (gotR T t).2, .bool (decide (t ∈ T.toks))]) ∧ Below w1.heap.size w1 w' := by
  obtain ⟨F, h0, h1, h2, h3⟩ := h
  obtain ⟨hok, b, ml, mc, pt, Gf, cl, rfl, hR⟩ := h0
  have := tGotC_any (ptr18 b) t ((clG T cl t).getD cl0) (clG T cl t).isSome w1 (tFind_any hR t ht)
  unfold clG gotR at *
  by_cases hm : t ∈ T.toks
  · have hc := hR.ch t hm
    simp only [hm, if_true, decide_true, Option.getD_some, Option.isSome_some] at this ⊢
    rw [hc.1, hc.2.1] at this
    exact this
  · simp only [hm, if_false, decide_false, Option.getD_none, Option.isSome_none] at this ⊢
    exact this
theorem sFull (h : SideG tbObj w w1 p T bs) : Calls Tryz.prog 18 #[p] w1 fun e w' => ∃ v, e = .returned v ∧ IntsAt w' v T.fullL ∧ Below w1.heap.size w1 w' := by
  obtain ⟨F, h0, h1, h2, h3⟩ := h
  obtain ⟨hok, b, ml, mc, pt, Gf, cl, rfl, hR⟩ := h0
  exact tFull_any hR hok
theorem sFullN (h : SideG tbObj w w1 p T bs) : Calls Tryz.prog 18 #[p] w1 fun e w' => ∃ v, e = .returned v ∧ IntsAt w' v T.fullL ∧ (∀ k, v.ownBlock = some k → w1.heap.size ≤ k) ∧ Below w1.heap.size w1 w' := by
  obtain ⟨F, h0, h1, h2, h3⟩ := h
  obtain ⟨hok, b, ml, mc, pt, Gf, cl, rfl, hR⟩ := h0
  exact tFullN_any hR hok
theorem sTokens (h : SideG tbObj w w1 p T bs) : Calls Tryz.prog 22 #[p] w1 fun e w' => ∃ v, e = .returned v ∧ IntsAt w' v T.toks ∧ Below w1.heap.size w1 w' := by
  obtain ⟨F, h0, h1, h2, h3⟩ := h
  obtain ⟨hok, b, ml, mc, pt, Gf, cl, rfl, hR⟩ := h0
  exact tTokens_any hR hok
theorem sView (h : SideG tbObj w w1 p T bs) : Calls Tryz.prog 30 #[p] w1 fun e w' => ∃ v Vs, e = .returned v ∧ LocksAt w' v Vs ∧ Vs.map lkp = T.lks ∧ Below w1.heap.size w1 w' := by
  obtain ⟨F, h0, h1, h2, h3⟩ := h
  obtain ⟨hok, b, ml, mc, pt, Gf, cl, rfl, hR⟩ := h0
  exact tView_any hR hok
theorem SideG.ok (h : SideG tbObj w w1 p T bs) : T.Ok := by
  obtain ⟨F, h0, _⟩ := h
  exact h0.1
theorem SideG.ptr (h : SideG tbObj w w1 p T bs) : ∃ b, p = ptr18 b := by
  obtain ⟨F, ⟨_, b, _, _, _, _, _, e, _⟩, _⟩ := h
  exact ⟨b, e⟩
end

def tA0 : Tb := Tb.new [1, 2]
def tA1 : Tb := tA0.enter 5 [1, 2]
def tA2 : Tb := tA1.enter 6 [2]
def tA3 : Tb := tA2.scan.1
def tA4 : Tb := tA3.leave 6
def tA5 : Tb := tA4.scan.1
set_option maxRecDepth 100000 in
theorem tA_all : mayB [1, 2] = true ∧ tA0.enterE 5 [1, 2] = 0 ∧ tA1.enterE 6 [2] = 0 ∧ tA2.scan.2 = [(5, 1), (6, 2)] ∧ gotR tA3 5 = (1, 2) ∧ 5 ∈ tA3.toks ∧ tA3.fullL = [6] ∧ 6 ∈ tA3.toks ∧ tA4.scan.2 = [(5, 2)] := by
  refine ⟨by decide +kernel, by decide +kernel, by decide +kernel, by decide +kernel, by decide +kernel, by decide +kernel, by decide +kernel, by decide +kernel, by decide +kernel⟩
set_option maxHeartbeats 8000000 in
set_option maxRecDepth 100000 in
theorem alive20_any (w : World) : Calls Tryz.prog 5 #[] w fun e w' => e = .returned (.bool true) ∧ Below w.heap.size w w' := by
  obtain ⟨f1, f2, f3, f4, f5, f6, f7, f8, f9⟩ := tA_all
  have i5 : In18 5 := by simp [In18]
  have i6 : In18 6 := by simp [In18]
  have i5' : I64 5 := by simp [I64]
  obtain ⟨T0, hT0⟩ : ∃ T, tA0 = T := ⟨_, rfl⟩
  obtain ⟨T1, hT1⟩ : ∃ T, tA1 = T := ⟨_, rfl⟩
  obtain ⟨T2, hT2⟩ : ∃ T, tA2 = T := ⟨_, rfl⟩
  obtain ⟨T3, hT3⟩ : ∃ T, tA3 = T := ⟨_, rfl⟩
  obtain ⟨T4, hT4⟩ : ∃ T, tA4 = T := ⟨_, rfl⟩
  obtain ⟨T5, hT5⟩ : ∃ T, tA5 = T := ⟨_, rfl⟩
  have C0 := Lib.hid (show ∀ w1 va, Below w.heap.size w w1 → IntsAt w1 va [1, 2] → Calls Tryz.prog 15 #[va] w1 fun e w' => ∃ b, e = .returned (.tuple #[ptr18 b, .int .i64 0]) ∧ SideG tbObj w w' (ptr18 b) T0 [] from fun w1 va hb ha => by
    rw [← hT0]; exact sNew hb va [1, 2] ha f1)
  have C1 := Lib.hid (show ∀ w1 p va, SideG tbObj w w1 p T0 [] → IntsAt w1 va [1, 2] → Calls Tryz.prog 9 #[p, .int .i64 5, va] w1 fun e w' => e = .returned (.int .i64 0) ∧ SideG tbObj w w' p T1 [] from fun w1 p va h ha => by
    have := sEnter h 5 i5 va [1, 2] ha (by simp)
    rw [← hT0, f2] at this
    rw [← hT1]; exact this)
  have C2 := Lib.hid (show ∀ w1 p va, SideG tbObj w w1 p T1 [] → IntsAt w1 va [2] → Calls Tryz.prog 9 #[p, .int .i64 6, va] w1 fun e w' => e = .returned (.int .i64 0) ∧ SideG tbObj w w' p T2 [] from fun w1 p va h ha => by
    have := sEnter h 6 i6 va [2] ha (by simp)
    rw [← hT1, f3] at this
    rw [← hT2]; exact this)
  have C3 := Lib.hid (show ∀ w1 p, SideG tbObj w w1 p T2 [] → Calls Tryz.prog 13 #[p] w1 fun e w' => ∃ v, e = .returned v ∧ RowsAt w' 2 csG v [(5, 1), (6, 2)] ∧ SideG tbObj w w' p T3 [] from fun w1 p h => by
    have := sScan h
    rw [← hT2, f4] at this
    rw [← hT3]; exact this.mono fun _ _ ⟨v, h1, h2, _, h3⟩ => ⟨v, h1, h2, h3⟩)
  have C4 := Lib.hid (show ∀ w1 p, SideG tbObj w w1 p T3 [] → Calls Tryz.prog 16 #[p, .int .i64 5] w1 fun e w' => e = .returned (.tuple #[.int .i64 1, .int .i64 2, .bool true]) ∧ Below w1.heap.size w1 w' from fun w1 p h => by
    have := sGot h 5 i5'
    rw [← hT3, f5, decide_eq_true f6] at this
    exact this)
  have C5 := Lib.hid (show ∀ w1 p, SideG tbObj w w1 p T3 [] → Calls Tryz.prog 18 #[p] w1 fun e w' => ∃ v, e = .returned v ∧ IntsAt w' v [6] ∧ Below w1.heap.size w1 w' from fun w1 p h => by
    have := sFull h
    rw [← hT3, f7] at this
    exact this)
  have C6 := Lib.hid (show ∀ w1 p, SideG tbObj w w1 p T3 [] → Calls Tryz.prog 11 #[p, .int .i64 6] w1 fun e w' => e = .returned (.bool true) ∧ SideG tbObj w w' p T4 [] from fun w1 p h => by
    have := sLeave h 6 i6
    rw [← hT3, decide_eq_true f8] at this
    rw [← hT4]; exact this)
  have C7 := Lib.hid (show ∀ w1 p, SideG tbObj w w1 p T4 [] → Calls Tryz.prog 13 #[p] w1 fun e w' => ∃ v, e = .returned v ∧ RowsAt w' 2 csG v [(5, 2)] ∧ SideG tbObj w w' p T5 [] from fun w1 p h => by
    have := sScan h
    rw [← hT4, f9] at this
    rw [← hT5]; exact this.mono fun _ _ ⟨v, h1, h2, _, h3⟩ => ⟨v, h1, h2, h3⟩)
  have CI := Lib.hid (show ∀ va vb w1, IntsAt w1 va [6] → IntsAt w1 vb [6] → Calls Tryz.prog 17 #[va, vb] w1 fun e w' => e = .returned (.bool true) ∧ Below w1.heap.size w1 w' from fun va vb w1 ha hb => by
    have := refInts_any va vb [6] [6] w1 ha hb (by simp) (by simp)
    rwa [decide_eq_true rfl] at this)
  have L2 := Lib.hid (show ∀ (w : World) (a b : Int), IntsAt (w.alloc (.cells #[.int .i64 a, .int .i64 b] 3)) (.slice (some ⟨w.heap.size, 0, none⟩) 2 2) [a, b] from fun w a b => IntsAt.lit w [a, b] 3)
  have L1 := Lib.hid (show ∀ (w : World) (a : Int), IntsAt (w.alloc (.cells #[.int .i64 a] 3)) (.slice (some ⟨w.heap.size, 0, none⟩) 1 1) [a] from fun w a => IntsAt.lit w [a] 3)
  have hB0 := Lib.hid (Below.refl w.heap.size w)
  clear f1 f2 f3 f4 f5 f6 f7 f8 f9 i5 i6 i5' hT0 hT1 hT2 hT3 hT4 hT5
  go_enter Tryz.func5, Tryz.ntmps5
  go_wp2_with (first
    | (go_at_call 15; (with_reducible refine (C0.out _ _ (hB0.out.alloc (Nat.le_refl _) _) (L2.out _ 1 2)).mono ?_); rintro e w1 ⟨b, rfl, h⟩; have S0 := Lib.hid h; clear h)
    | (go_at_call 9; (with_reducible refine (C2.out _ _ _ (S1.out.kept ((Below.refl _ _).alloc (Nat.le_refl _) _)) (L1.out _ 2)).mono ?_); rintro e w1 ⟨rfl, h⟩; have S2 := Lib.hid h; clear h)
    | (go_at_call 9; (with_reducible refine (C1.out _ _ _ (S0.out.kept ((Below.refl _ _).alloc (Nat.le_refl _) _)) (L2.out _ 1 2)).mono ?_); rintro e w1 ⟨rfl, h⟩; have S1 := Lib.hid h; clear h)
    | (go_at_call 13; (with_reducible refine (C7.out _ _ S4.out).mono ?_); rintro e w1 ⟨v2, rfl, hv2, h⟩; obtain ⟨a2, c2, e2⟩ := RowsAt.form hv2; rw [show ([(5, 2)] : List (Int × Int)).length = 1 from rfl] at e2; subst e2; have S5 := Lib.hid h; clear h hv2)
    | (go_at_call 13; (with_reducible refine (C3.out _ _ S2.out).mono ?_); rintro e w1 ⟨v1, rfl, hv1, h⟩; have V1 := Lib.hid hv1; have S3 := Lib.hid h; clear h hv1)
    | (go_at_call 16; (with_reducible refine (C4.out _ _ S3.out).mono ?_); rintro e w1 ⟨rfl, hb⟩; replace S3 := Lib.hid (S3.out.kept hb); obtain ⟨ga, oa, ca, ea, _, _, xa⟩ := (V1.out.kept hb).spot 0 (by simp); obtain ⟨gb, ob, cb, eb, _, _, xb⟩ := (V1.out.kept hb).spot 1 (by simp); rw [show ([(5, 1), (6, 2)] : List (Int × Int)).length = 2 from rfl] at ea eb; subst ea; cases eb; have xa0 := xa 0 (.int .i64 5) rfl; have xa1 := xa 1 (.int .i64 1) rfl; have xb0 := xb 0 (.int .i64 6) rfl; have xb1 := xb 1 (.int .i64 2) rfl; simp only [Nat.zero_mul, Nat.add_zero, Nat.one_mul, Nat.add_assoc, Nat.reduceAdd] at xa0 xa1 xb0 xb1; clear hb xa xb)
    | (go_at_call 18; (with_reducible refine (C5.out _ _ S3.out).mono ?_); rintro e w1 ⟨v, rfl, h, hb⟩; replace S3 := Lib.hid (S3.out.kept hb); have X := Lib.hid h; clear h hb)
    | (go_at_call 17; (with_reducible refine (CI.out _ _ _ (X.out.below ((Below.refl _ _).alloc (Nat.le_refl _) _)) (L1.out _ 6)).mono ?_); rintro e w1 ⟨rfl, hb⟩; replace S3 := Lib.hid ((S3.out.kept ((Below.refl _ _).alloc (Nat.le_refl _) _)).kept hb); clear hb)
    | (go_at_call 11; (with_reducible refine (C6.out _ _ S3.out).mono ?_); rintro e w1 ⟨rfl, h⟩; have S4 := Lib.hid h; clear h))
  go_ret
  exact ⟨rfl, S5.out.below⟩
end Go.Proofs.YtbkoogffnchldaaGreat
/- Stage 20: the document's table beside the program's: its calls, its box, its seats. -/
namespace Go.Proofs.YtbkoogffnchldaaGreat
open Go.RowKit

section
variable {w w1 w2 : World} {p : Value} {T Td : Tb} {bs : List Bes} {G G' : Nat → Prop} {vl vs v1 v2 : Value}
theorem SideG.doc {T' : Tb} (h : SideG tbObj w w1 p T (Bes.doc G vl vs Td :: bs)) (hb : Below w1.heap.size w1 w2) (h2 : DocAt G' w2 v1 v2 T') (hv : ∀ k, G' k → G k ∨ w1.heap.size ≤ k) : SideG tbObj w w2 p T (Bes.doc G' v1 v2 T' :: bs) := by
  obtain ⟨F, h0, h1, h2', h3⟩ := h
  refine ⟨F, tbObj.same h0 hb.size fun k hk => hb.block k (tbObj.lt h0 k hk), h1, fun x hx => ?_, h3.trans (hb.mono h3.size)⟩
  rcases List.mem_cons.1 hx with rfl | hx
  · refine ⟨h2, fun k hk hf => ?_⟩
    rcases hv k hk with hk2 | hk2
    · exact (h2' _ List.mem_cons_self).2 k hk2 hf
    · have := tbObj.lt h0 k hf
      omega
  · obtain ⟨k1, k2⟩ := h2' x (List.mem_cons_of_mem _ hx)
    exact ⟨x.same k1 hb.size fun k hk => hb.block k (x.lt k1 k hk), k2⟩
theorem SideG.sub20 {bs' : List Bes} (h : SideG tbObj w w1 p T bs) (hs : ∀ b ∈ bs', b ∈ bs) : SideG tbObj w w1 p T bs' := by
  obtain ⟨F, h0, h1, h2, h3⟩ := h
  exact ⟨F, h0, h1, fun b hb => h2 b (hs b hb), h3⟩
theorem SideG.at {σ : Type} {C : ObjK σ} {q : σ} (h : SideG C w w1 p q bs) {b : Bes} (hb : b ∈ bs) : b.holds w1 := by
  obtain ⟨F, _, _, h2, _⟩ := h
  exact (h2 b hb).1
theorem dEnter (h : SideG tbObj w w1 p T (Bes.doc G vl vs Td :: bs)) (hok : Td.Ok) (t : Int) (ht : In18 t) (va : Value) (l : List Int) (hi : IntsAt w1 va l) (hl : l.length ≤ 1000) : Calls Tryz.prog 10 #[tbv vl vs, .int .i64 t, va] w1 fun e w' => ∃ x1 n1 c1 x2 n2 c2, e = .returned (.tuple #[tbv (.slice x1 n1 c1) (.slice x2 n2 c2), .int .i64 (Td.enterE t l)]) ∧ ∃ G', SideG tbObj w w' p T (Bes.doc G' (.slice x1 n1 c1) (.slice x2 n2 c2) (Td.enter t l) :: bs) ∧ (∀ k, G' k → G k ∨ w1.heap.size ≤ k) := by
  refine (refEnter20_any t va l h.head hok hi hl ht).mono ?_
  rintro e w' ⟨v1, v2, rfl, G', h1, h2, h3⟩
  obtain ⟨a1, c1, a2, c2, rfl, rfl⟩ := h1.form
  exact ⟨_, _, _, _, _, _, rfl, G', h.doc h3 h1 h2, h2⟩
theorem dLeave (h : SideG tbObj w w1 p T (Bes.doc G vl vs Td :: bs)) (hok : Td.Ok) (t : Int) : Calls Tryz.prog 12 #[tbv vl vs, .int .i64 t] w1 fun e w' => ∃ x1 n1 c1 x2 n2 c2, e = .returned (.tuple #[tbv (.slice x1 n1 c1) (.slice x2 n2 c2), .bool (decide (t ∈ Td.toks))]) ∧ ∃ G', SideG tbObj w w' p T (Bes.doc G' (.slice x1 n1 c1) (.slice x2 n2 c2) (Td.leave t) :: bs) ∧ (∀ k, G' k → G k ∨ w1.heap.size ≤ k) := by
  refine (refLeave20_any t h.head hok).mono ?_
  rintro e w' ⟨v1, v2, rfl, G', h1, h2, h3⟩
  obtain ⟨a1, c1, a2, c2, rfl, rfl⟩ := h1.form
  exact ⟨_, _, _, _, _, _, rfl, G', h.doc h3 h1 h2, h2⟩
theorem dScan (h : SideG tbObj w w1 p T (Bes.doc G vl vs Td :: bs)) (hok : Td.Ok) : Calls Tryz.prog 14 #[tbv vl vs] w1 fun e w' => ∃ x1 n1 c1 x2 n2 c2 vg, e = .returned (.tuple #[tbv (.slice x1 n1 c1) (.slice x2 n2 c2), vg]) ∧ RowsAt w' 2 csG vg Td.scan.2 ∧ (∀ k, vg.ownBlock = some k → w1.heap.size ≤ k) ∧ Below w1.heap.size w1 w' ∧ ∃ G', SideG tbObj w w' p T (Bes.doc G' (.slice x1 n1 c1) (.slice x2 n2 c2) Td.scan.1 :: bs) ∧ (∀ k, G' k → G k ∨ w1.heap.size ≤ k) := by
  refine (refScan20_any h.head hok).mono ?_
  rintro e w' ⟨v1, v2, vg, rfl, h4, h5, G', h1, h2, h3⟩
  obtain ⟨a1, c1, a2, c2, rfl, rfl⟩ := h1.form
  exact ⟨_, _, _, _, _, _, vg, rfl, h4, h5, h3, G', h.doc h3 h1 h2, h2⟩
theorem dWrite {b : Nat} {x y : Value} (h : SideG tbObj w w1 p T (Bes.doc G v1 v2 Td :: Bes.blk b x [y] :: bs)) (hb : w.heap.size ≤ b) (hG : ¬ G b) (ho : ∀ s ∈ bs, ¬ s.foot b) (a c : Value) : SideG tbObj w ((w1.setCell ⟨b, 0, none⟩ a).setCell ⟨b, 1, none⟩ c) p T (Bes.doc G v1 v2 Td :: Bes.blk b a [c] :: bs) := by
  have hoff : ∀ s ∈ Bes.doc G v1 v2 Td :: bs, ¬ s.foot b := fun s hm => by
    rcases List.mem_cons.1 hm with rfl | hm
    · exact hG
    · exact ho s hm
  exact ((h.swap.write hb hoff 0 a a [y] rfl).write hb hoff 1 c a [c] rfl).swap
theorem SideG.lt {b : Bes} (h : SideG tbObj w w1 p T bs) (hm : b ∈ bs) : ∀ k, b.foot k → k < w1.heap.size := fun k hk => b.lt (h.at hm) k hk
theorem sSame (h : SideG tbObj w w1 p T (Bes.doc G vl vs T :: bs)) : Calls Tryz.prog 8 #[p, tbv vl vs] w1 fun e w' => e = .returned (.bool true) ∧ Below w1.heap.size w1 w' := by
  have hd := h.head
  obtain ⟨F, h0, _⟩ := h
  exact same20_any h0 hd
theorem sSeated {x1 : Option Addr} {n1 c1 : Nat} (h : SideG tbObj w w1 p T (Bes.doc G (.slice x1 n1 c1) vs Td :: bs)) (hok : Td.Ok) (t : Int) : Calls Tryz.prog 38 #[tbv (.slice x1 n1 c1) vs, .int .i64 t] w1 fun e w' => e = .returned (.int .i64 (plcL Td.toks t)) ∧ Below w1.heap.size w1 w' := by
  obtain ⟨Ls, Ss, hd⟩ := h.head
  rw [← sts_toks hd.se]
  exact refSeated20_any x1 n1 c1 vs Ss t w1 hd.seats.rows (by have := sts_len hd.se; have := hok.few; omega)
theorem doc_form {x : Option Addr} {n c : Nat} {t : Int} (h : DocAt G w vl (.slice x n c) T) (ht : t ∈ T.toks) : (∃ g o, x = some ⟨g, o, none⟩) ∧ T.toks.idxOf t < n := by
  obtain ⟨Ls, Ss, hd⟩ := h
  have hi := List.idxOf_lt_length_iff.2 ht
  have hl := sts_len hd.se
  obtain ⟨g, o, cc, e, _⟩ := hd.seats.rows.atS (T.toks.idxOf t) (by omega)
  cases e
  exact ⟨⟨g, o, rfl⟩, by omega⟩
theorem doc_cells {g o n c : Nat} {t : Int} (h : DocAt G w vl (.slice (some ⟨g, o, none⟩) n c) T) (ht : t ∈ T.toks) : w.cell? ⟨g, o + T.toks.idxOf t * 3 + 1, none⟩ = some (.int .i64 (T.got t : Int)) ∧ ∃ a cc, w.cell? ⟨g, o + T.toks.idxOf t * 3 + 2, none⟩ = some (.slice a (T.want t).length cc) := by
  obtain ⟨Ls, Ss, hd⟩ := h
  have hi := List.idxOf_lt_length_iff.2 ht
  have hl := sts_len hd.se
  obtain ⟨g', o', cc, e, _, _, q0, q1, q2⟩ := hd.seats.rows.atS (T.toks.idxOf t) (by omega)
  cases e
  have hs := sts_at hd.se (T.toks.idxOf t) (by omega) hi
  rw [List.getElem_idxOf hi] at hs
  simp only [stp, Prod.mk.injEq] at hs
  rw [hs.2.1] at q1
  refine ⟨q1, Ss[T.toks.idxOf t].a, Ss[T.toks.idxOf t].c, ?_⟩
  rw [← hs.2.2]
  exact q2
theorem rows_write {α : Type} {K : Nat} {cs : α → List Value} {v : Value} {l : List α} {b : Nat} (h : RowsAt w K cs v l) (hn : ∀ k, v.ownBlock = some k → k ≠ b) (a c : Value) : RowsAt ((w.setCell ⟨b, 0, none⟩ a).setCell ⟨b, 1, none⟩ c) K cs v l :=
  h.same (by simp [World.setCell]) fun _ k hk => (Below.heap_setCell _ _ _ _ (fun e => hn k hk e)).trans (Below.heap_setCell _ _ _ _ (fun e => hn k hk e))
end
theorem size_alloc20 (w : World) (o : Obj) : (w.alloc o).heap.size = w.heap.size + 1 := by simp
theorem step_len (T : Tb) (id : Int) : (T.step id).2.length ≤ 1 := by
  rcases step_cases T id with h | ⟨t, r, h0, hw⟩
  · rw [step_none h]; simp
  · rw [step_some h0 hw]; simp
theorem scanL_len (T : Tb) : ∀ l : List Int, (T.scanL l).2.length ≤ l.length := by
  refine snoc_ind (by simp [Tb.scanL]) fun l x ih => ?_
  rw [scanL_snoc]
  have := step_len (T.scanL l).1 x
  simp only [List.length_append, List.length_singleton]
  omega
theorem scan_len {T : Tb} (h : T.Ok) : T.scan.2.length ≤ 64 := by
  have h1 := scanL_len T T.ids
  have h2 := may_len h.may
  show (T.scanL T.ids).2.length ≤ 64
  omega
theorem few_all {l : List Ac} {m : Int} (h : fewB l m = true) : (l.length : Int) ≤ m ∧ ∀ x ∈ l, x.want.length ≤ 40 := by
  unfold fewB at h
  simp only [Bool.and_eq_true, decide_eq_true_eq, List.all_eq_true] at h
  exact h
end Go.Proofs.YtbkoogffnchldaaGreat
